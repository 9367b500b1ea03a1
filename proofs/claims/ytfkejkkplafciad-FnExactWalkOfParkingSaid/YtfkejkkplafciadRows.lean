/-
  No cell of these rows narrows 'for every input' (looked for: loops, veiled, ifaces, maps, wideKeys, modest, calm, conditions, laid).
  DERIVED. THE GIVEN ROWS OF THIS SEAT. 4 by the template 'for every input the law returns true; each argument reads behind the call as it read before'; 0 by the template 'total and deterministic' (their statements: YtfkejkkplafciadTotals.lean).
  GIVEN WITH THE SEED: the statements are not yours to turn. If you find one false, say at which input.
  Laid BY PROGRAM, IN A SANDBOX (cutbox-rows.mjs): the forced cells as the released guide's own fill.sh prints them over the translation 16fb27ce396d6f45… (all of the seat's roots in one cut). By AI agents, Wed Nov 11 2026. No macro, syntax, notation, axiom, sorry.
-/
import Derived.Test.YtfkejkkplafciadChecked
import GoSem.Claim
import GoSem.ClaimJoined
import GoSem.ClaimMapViews
import Derived.JoinedTies
import Derived.KernelRfl
namespace Go.Proofs.Ytfkejkkplafciad
/- THE CELL 'sum', in the pinned program and in every row, IS THE sha256 OF THE DUMP (.gsa) THAT YtfkejkkplafciadProg.lean LOADS. Nothing in Lean hashes anything: it is a label: what it is worth is what the hold of that sum in a sandbox is worth. -/
noncomputable def Try.pinned : Pinned := { name := "ytfkejkkplafciad", sum := "16fb27ce396d6f45e02c50c1618c829f3f9f4f560c4be587e83748cc515b5b58", checked := Try.checked }
namespace Rows
def none {H : Type} : Left H := { results := [], args := [] }

/-- 'laws.FnSlopesCounted': WHATEVER THE INPUT: true; the input reads as it did. -/
def fnSlopesCountedSpec : ChangeSpec := { name := "fnSlopesCounted", fn := fun _ => fun
  | [d1, d2] => { results := [.lit (.bool true)], args := [d1, d2] }
  | _ => none }
def fnSlopesCountedRow : OpenClaim := { program := "ytfkejkkplafciad", sum := "16fb27ce396d6f45e02c50c1618c829f3f9f4f560c4be587e83748cc515b5b58", func := "loop.example/g01115/laws.FnSlopesCounted", spec := "fnSlopesCounted", unfollowed := true, recurses := true, apart := false }
def FnSlopesCountedSaid : Prop := fnSlopesCountedRow.holds Try.pinned (OpenSpec.ofChange fnSlopesCountedSpec)

/-- ITS FALSE NEIGHBOUR: 'it returns false'. Refute it at one input. -/
def fnSlopesCountedWrong : ChangeSpec := { name := "fnSlopesCounted", fn := fun _ => fun
  | [d1, d2] => { results := [.lit (.bool false)], args := [d1, d2] }
  | _ => none }
def FnSlopesCountedWrongFalsely : Prop := fnSlopesCountedRow.holds Try.pinned (OpenSpec.ofChange fnSlopesCountedWrong)

/-- 'laws.FnOneOfEachClass': WHATEVER THE INPUT: true; the input reads as it did. -/
def fnOneOfEachClassSpec : ChangeSpec := { name := "fnOneOfEachClass", fn := fun _ => fun
  | [d1, d2] => { results := [.lit (.bool true)], args := [d1, d2] }
  | _ => none }
def fnOneOfEachClassRow : OpenClaim := { program := "ytfkejkkplafciad", sum := "16fb27ce396d6f45e02c50c1618c829f3f9f4f560c4be587e83748cc515b5b58", func := "loop.example/g01115/laws.FnOneOfEachClass", spec := "fnOneOfEachClass", unfollowed := true, recurses := true, apart := false }
def FnOneOfEachClassSaid : Prop := fnOneOfEachClassRow.holds Try.pinned (OpenSpec.ofChange fnOneOfEachClassSpec)

/-- ITS FALSE NEIGHBOUR: 'it returns false'. Refute it at one input. -/
def fnOneOfEachClassWrong : ChangeSpec := { name := "fnOneOfEachClass", fn := fun _ => fun
  | [d1, d2] => { results := [.lit (.bool false)], args := [d1, d2] }
  | _ => none }
def FnOneOfEachClassWrongFalsely : Prop := fnOneOfEachClassRow.holds Try.pinned (OpenSpec.ofChange fnOneOfEachClassWrong)

/-- 'laws.FnSlopeWalks': WHATEVER THE INPUT: true; the input reads as it did. -/
def fnSlopeWalksSpec : ChangeSpec := { name := "fnSlopeWalks", fn := fun _ => fun
  | [d1, d2] => { results := [.lit (.bool true)], args := [d1, d2] }
  | _ => none }
def fnSlopeWalksRow : OpenClaim := { program := "ytfkejkkplafciad", sum := "16fb27ce396d6f45e02c50c1618c829f3f9f4f560c4be587e83748cc515b5b58", func := "loop.example/g01115/laws.FnSlopeWalks", spec := "fnSlopeWalks", unfollowed := true, recurses := true, apart := false }
def FnSlopeWalksSaid : Prop := fnSlopeWalksRow.holds Try.pinned (OpenSpec.ofChange fnSlopeWalksSpec)

/-- ITS FALSE NEIGHBOUR: 'it returns false'. Refute it at one input. -/
def fnSlopeWalksWrong : ChangeSpec := { name := "fnSlopeWalks", fn := fun _ => fun
  | [d1, d2] => { results := [.lit (.bool false)], args := [d1, d2] }
  | _ => none }
def FnSlopeWalksWrongFalsely : Prop := fnSlopeWalksRow.holds Try.pinned (OpenSpec.ofChange fnSlopeWalksWrong)

/-- 'laws.FnExactWalkOfParking': WHATEVER THE INPUT: true; the input reads as it did. -/
def fnExactWalkOfParkingSpec : ChangeSpec := { name := "fnExactWalkOfParking", fn := fun _ => fun
  | [d] => { results := [.lit (.bool true)], args := [d] }
  | _ => none }
def fnExactWalkOfParkingRow : OpenClaim := { program := "ytfkejkkplafciad", sum := "16fb27ce396d6f45e02c50c1618c829f3f9f4f560c4be587e83748cc515b5b58", func := "loop.example/g01115/laws.FnExactWalkOfParking", spec := "fnExactWalkOfParking", unfollowed := true, recurses := true, apart := false }
def FnExactWalkOfParkingSaid : Prop := fnExactWalkOfParkingRow.holds Try.pinned (OpenSpec.ofChange fnExactWalkOfParkingSpec)

/-- ITS FALSE NEIGHBOUR: 'it returns false'. Refute it at one input. -/
def fnExactWalkOfParkingWrong : ChangeSpec := { name := "fnExactWalkOfParking", fn := fun _ => fun
  | [d] => { results := [.lit (.bool false)], args := [d] }
  | _ => none }
def FnExactWalkOfParkingWrongFalsely : Prop := fnExactWalkOfParkingRow.holds Try.pinned (OpenSpec.ofChange fnExactWalkOfParkingWrong)

/- THE SECOND FORM. 'bulk': how many values and letters a reading holds, each counted each time it is reached (what is shared counts as often as it is met; a slice's spare places count too). A statement '..UptoSaid' is the law's where the arguments, and the package variables that the reading takes, are together of bulk at most 1048576: NARROWER than '..Said'. Prove '..Said' where nothing that the law and all that it calls make is longer than what came in: it says more and counts as full. Else prove '..UptoSaid'. A law counts once. -/
mutual
def uptoBulk {H : Type} : DataW H → Nat
  | .lit (.string bytes) => bytes.length + 1
  | .lit _ => 1
  | .nil => 1
  | .ptr d => uptoBulk d + 1
  | .slice elems spare => uptoBulkAll elems + uptoBulkAll spare + 1
  | .agg parts => uptoBulkAll parts + 1
  | .iface _ d => uptoBulk d + 1
  | .map entries => uptoBulkEntries entries + 1
  | .held _ => 1
def uptoBulkAll {H : Type} : List (DataW H) → Nat
  | [] => 0
  | d :: r => uptoBulk d + uptoBulkAll r
def uptoBulkEntries {H : Type} : List (Lit × DataW H) → Nat
  | [] => 0
  | x :: r => uptoBulkEntry x + uptoBulkEntries r
def uptoBulkEntry {H : Type} : Lit × DataW H → Nat
  | (.string bytes, d) => bytes.length + uptoBulk d + 1
  | (_, d) => uptoBulk d + 1
 end
def uptoSmall : (H : Type) → List (DataW H) → Bool := fun _ ds => decide (uptoBulkAll ds ≤ 1048576)
def OpenSpec.upto (s : _root_.Go.ChangeSpec) : _root_.Go.OpenSpec := { _root_.Go.OpenSpec.ofChange s with cond := some uptoSmall }

/-- 'laws.FnSlopesCounted', WHERE WHAT IT READS IS OF BULK AT MOST 1048576: true; the input reads as it did. -/
def fnSlopesCountedUptoRow : OpenClaim := { program := "ytfkejkkplafciad", sum := "16fb27ce396d6f45e02c50c1618c829f3f9f4f560c4be587e83748cc515b5b58", func := "loop.example/g01115/laws.FnSlopesCounted", spec := "fnSlopesCounted", unfollowed := true, recurses := true, apart := false, narrowed := true }
def FnSlopesCountedUptoSaid : Prop := fnSlopesCountedUptoRow.holds Try.pinned (OpenSpec.upto fnSlopesCountedSpec)

/-- 'laws.FnOneOfEachClass', WHERE WHAT IT READS IS OF BULK AT MOST 1048576: true; the input reads as it did. -/
def fnOneOfEachClassUptoRow : OpenClaim := { program := "ytfkejkkplafciad", sum := "16fb27ce396d6f45e02c50c1618c829f3f9f4f560c4be587e83748cc515b5b58", func := "loop.example/g01115/laws.FnOneOfEachClass", spec := "fnOneOfEachClass", unfollowed := true, recurses := true, apart := false, narrowed := true }
def FnOneOfEachClassUptoSaid : Prop := fnOneOfEachClassUptoRow.holds Try.pinned (OpenSpec.upto fnOneOfEachClassSpec)

/-- 'laws.FnSlopeWalks', WHERE WHAT IT READS IS OF BULK AT MOST 1048576: true; the input reads as it did. -/
def fnSlopeWalksUptoRow : OpenClaim := { program := "ytfkejkkplafciad", sum := "16fb27ce396d6f45e02c50c1618c829f3f9f4f560c4be587e83748cc515b5b58", func := "loop.example/g01115/laws.FnSlopeWalks", spec := "fnSlopeWalks", unfollowed := true, recurses := true, apart := false, narrowed := true }
def FnSlopeWalksUptoSaid : Prop := fnSlopeWalksUptoRow.holds Try.pinned (OpenSpec.upto fnSlopeWalksSpec)

/-- 'laws.FnExactWalkOfParking', WHERE WHAT IT READS IS OF BULK AT MOST 1048576: true; the input reads as it did. -/
def fnExactWalkOfParkingUptoRow : OpenClaim := { program := "ytfkejkkplafciad", sum := "16fb27ce396d6f45e02c50c1618c829f3f9f4f560c4be587e83748cc515b5b58", func := "loop.example/g01115/laws.FnExactWalkOfParking", spec := "fnExactWalkOfParking", unfollowed := true, recurses := true, apart := false, narrowed := true }
def FnExactWalkOfParkingUptoSaid : Prop := fnExactWalkOfParkingUptoRow.holds Try.pinned (OpenSpec.upto fnExactWalkOfParkingSpec)

end Rows
end Go.Proofs.Ytfkejkkplafciad
