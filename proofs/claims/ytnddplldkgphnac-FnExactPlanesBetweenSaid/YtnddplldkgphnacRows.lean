/-
  No cell of these rows narrows 'for every input' (looked for: loops, veiled, ifaces, maps, wideKeys, modest, calm, conditions, laid).
  DERIVED. THE GIVEN ROWS OF THIS SEAT. 5 by the template 'for every input the law returns true; each argument reads behind the call as it read before'; 0 by the template 'total and deterministic' (their statements: YtnddplldkgphnacTotals.lean).
  GIVEN WITH THE SEED: the statements are not yours to turn. If you find one false, say at which input.
  Laid BY PROGRAM, IN A SANDBOX (cutbox-rows.mjs): the forced cells as the released guide's own fill.sh prints them over the translation 28ae6b0871781cb7… (all of the seat's roots in one cut). By AI agents, Wed Nov 11 2026. No macro, syntax, notation, axiom, sorry.
-/
import Derived.Test.YtnddplldkgphnacChecked
import GoSem.Claim
import GoSem.ClaimJoined
import GoSem.ClaimMapViews
import Derived.JoinedTies
import Derived.KernelRfl
namespace Go.Proofs.Ytnddplldkgphnac
/- THE CELL 'sum', in the pinned program and in every row, IS THE sha256 OF THE DUMP (.gsa) THAT YtnddplldkgphnacProg.lean LOADS. Nothing in Lean hashes anything: it is a label: what it is worth is what the hold of that sum in a sandbox is worth. -/
noncomputable def Try.pinned : Pinned := { name := "ytnddplldkgphnac", sum := "28ae6b0871781cb7143e1325dac0a0005003990bea72bbab3334463e230b832b", checked := Try.checked }
namespace Rows
def none {H : Type} : Left H := { results := [], args := [] }

/-- 'laws.FnExactPlanesBetween': WHATEVER THE INPUT: true; the input reads as it did. -/
def fnExactPlanesBetweenSpec : ChangeSpec := { name := "fnExactPlanesBetween", fn := fun _ => fun
  | [d1, d2] => { results := [.lit (.bool true)], args := [d1, d2] }
  | _ => none }
def fnExactPlanesBetweenRow : OpenClaim := { program := "ytnddplldkgphnac", sum := "28ae6b0871781cb7143e1325dac0a0005003990bea72bbab3334463e230b832b", func := "loop.example/g01115/laws.FnExactPlanesBetween", spec := "fnExactPlanesBetween", unfollowed := true, recurses := true, apart := false }
def FnExactPlanesBetweenSaid : Prop := fnExactPlanesBetweenRow.holds Try.pinned (OpenSpec.ofChange fnExactPlanesBetweenSpec)

/-- ITS FALSE NEIGHBOUR: 'it returns false'. Refute it at one input. -/
def fnExactPlanesBetweenWrong : ChangeSpec := { name := "fnExactPlanesBetween", fn := fun _ => fun
  | [d1, d2] => { results := [.lit (.bool false)], args := [d1, d2] }
  | _ => none }
def FnExactPlanesBetweenWrongFalsely : Prop := fnExactPlanesBetweenRow.holds Try.pinned (OpenSpec.ofChange fnExactPlanesBetweenWrong)

/-- 'laws.FnLongCars': WHATEVER THE INPUT: true; the input reads as it did. -/
def fnLongCarsSpec : ChangeSpec := { name := "fnLongCars", fn := fun _ => fun
  | [d1, d2] => { results := [.lit (.bool true)], args := [d1, d2] }
  | _ => none }
def fnLongCarsRow : OpenClaim := { program := "ytnddplldkgphnac", sum := "28ae6b0871781cb7143e1325dac0a0005003990bea72bbab3334463e230b832b", func := "loop.example/g01115/laws.FnLongCars", spec := "fnLongCars", unfollowed := true, recurses := true, apart := false }
def FnLongCarsSaid : Prop := fnLongCarsRow.holds Try.pinned (OpenSpec.ofChange fnLongCarsSpec)

/-- ITS FALSE NEIGHBOUR: 'it returns false'. Refute it at one input. -/
def fnLongCarsWrong : ChangeSpec := { name := "fnLongCars", fn := fun _ => fun
  | [d1, d2] => { results := [.lit (.bool false)], args := [d1, d2] }
  | _ => none }
def FnLongCarsWrongFalsely : Prop := fnLongCarsRow.holds Try.pinned (OpenSpec.ofChange fnLongCarsWrong)

/-- 'laws.FnLongCounts': WHATEVER THE INPUT: true; the input reads as it did. -/
def fnLongCountsSpec : ChangeSpec := { name := "fnLongCounts", fn := fun _ => fun
  | [d1, d2] => { results := [.lit (.bool true)], args := [d1, d2] }
  | _ => none }
def fnLongCountsRow : OpenClaim := { program := "ytnddplldkgphnac", sum := "28ae6b0871781cb7143e1325dac0a0005003990bea72bbab3334463e230b832b", func := "loop.example/g01115/laws.FnLongCounts", spec := "fnLongCounts", unfollowed := true, recurses := true, apart := false }
def FnLongCountsSaid : Prop := fnLongCountsRow.holds Try.pinned (OpenSpec.ofChange fnLongCountsSpec)

/-- ITS FALSE NEIGHBOUR: 'it returns false'. Refute it at one input. -/
def fnLongCountsWrong : ChangeSpec := { name := "fnLongCounts", fn := fun _ => fun
  | [d1, d2] => { results := [.lit (.bool false)], args := [d1, d2] }
  | _ => none }
def FnLongCountsWrongFalsely : Prop := fnLongCountsRow.holds Try.pinned (OpenSpec.ofChange fnLongCountsWrong)

/-- 'laws.FnCarsThatLookBack': WHATEVER THE INPUT: true; the input reads as it did. -/
def fnCarsThatLookBackSpec : ChangeSpec := { name := "fnCarsThatLookBack", fn := fun _ => fun
  | [d1, d2] => { results := [.lit (.bool true)], args := [d1, d2] }
  | _ => none }
def fnCarsThatLookBackRow : OpenClaim := { program := "ytnddplldkgphnac", sum := "28ae6b0871781cb7143e1325dac0a0005003990bea72bbab3334463e230b832b", func := "loop.example/g01115/laws.FnCarsThatLookBack", spec := "fnCarsThatLookBack", unfollowed := true, recurses := true, apart := false }
def FnCarsThatLookBackSaid : Prop := fnCarsThatLookBackRow.holds Try.pinned (OpenSpec.ofChange fnCarsThatLookBackSpec)

/-- ITS FALSE NEIGHBOUR: 'it returns false'. Refute it at one input. -/
def fnCarsThatLookBackWrong : ChangeSpec := { name := "fnCarsThatLookBack", fn := fun _ => fun
  | [d1, d2] => { results := [.lit (.bool false)], args := [d1, d2] }
  | _ => none }
def FnCarsThatLookBackWrongFalsely : Prop := fnCarsThatLookBackRow.holds Try.pinned (OpenSpec.ofChange fnCarsThatLookBackWrong)

/-- 'laws.FnExactSpreadOfWalks': WHATEVER THE INPUT: true; the input reads as it did. -/
def fnExactSpreadOfWalksSpec : ChangeSpec := { name := "fnExactSpreadOfWalks", fn := fun _ => fun
  | [d] => { results := [.lit (.bool true)], args := [d] }
  | _ => none }
def fnExactSpreadOfWalksRow : OpenClaim := { program := "ytnddplldkgphnac", sum := "28ae6b0871781cb7143e1325dac0a0005003990bea72bbab3334463e230b832b", func := "loop.example/g01115/laws.FnExactSpreadOfWalks", spec := "fnExactSpreadOfWalks", unfollowed := true, recurses := true, apart := false }
def FnExactSpreadOfWalksSaid : Prop := fnExactSpreadOfWalksRow.holds Try.pinned (OpenSpec.ofChange fnExactSpreadOfWalksSpec)

/-- ITS FALSE NEIGHBOUR: 'it returns false'. Refute it at one input. -/
def fnExactSpreadOfWalksWrong : ChangeSpec := { name := "fnExactSpreadOfWalks", fn := fun _ => fun
  | [d] => { results := [.lit (.bool false)], args := [d] }
  | _ => none }
def FnExactSpreadOfWalksWrongFalsely : Prop := fnExactSpreadOfWalksRow.holds Try.pinned (OpenSpec.ofChange fnExactSpreadOfWalksWrong)

/- THE SECOND FORM. 'bulk': how many values and letters a reading holds, each counted each time it is reached (what is shared counts as often as it is met; a slice's spare places count too). A statement '..UptoSaid' is the law's where the arguments, and the package variables that the reading takes, are together of bulk at most 1048576: NARROWER than '..Said'. Prove '..Said' where nothing that the law and all that it calls make is longer than what came in: it says more and counts as full. Else prove '..UptoSaid'. A law counts once. -/
mutual
def uptoBulk {H : Type} : DataW H → Nat
  | .lit (.string bytes) => bytes.length + 1
  | .lit _ => 1
  | .nil => 1
  | .ptr d => uptoBulk d + 1
  | .slice elems spare => uptoBulkAll elems + uptoBulkAll spare + 1
  | .agg parts => uptoBulkAll parts + 1
  | .iface _ d => uptoBulk d + 1
  | .map entries => uptoBulkEntries entries + 1
  | .held _ => 1
def uptoBulkAll {H : Type} : List (DataW H) → Nat
  | [] => 0
  | d :: r => uptoBulk d + uptoBulkAll r
def uptoBulkEntries {H : Type} : List (Lit × DataW H) → Nat
  | [] => 0
  | x :: r => uptoBulkEntry x + uptoBulkEntries r
def uptoBulkEntry {H : Type} : Lit × DataW H → Nat
  | (.string bytes, d) => bytes.length + uptoBulk d + 1
  | (_, d) => uptoBulk d + 1
 end
def uptoSmall : (H : Type) → List (DataW H) → Bool := fun _ ds => decide (uptoBulkAll ds ≤ 1048576)
def OpenSpec.upto (s : _root_.Go.ChangeSpec) : _root_.Go.OpenSpec := { _root_.Go.OpenSpec.ofChange s with cond := some uptoSmall }

/-- 'laws.FnExactPlanesBetween', WHERE WHAT IT READS IS OF BULK AT MOST 1048576: true; the input reads as it did. -/
def fnExactPlanesBetweenUptoRow : OpenClaim := { program := "ytnddplldkgphnac", sum := "28ae6b0871781cb7143e1325dac0a0005003990bea72bbab3334463e230b832b", func := "loop.example/g01115/laws.FnExactPlanesBetween", spec := "fnExactPlanesBetween", unfollowed := true, recurses := true, apart := false, narrowed := true }
def FnExactPlanesBetweenUptoSaid : Prop := fnExactPlanesBetweenUptoRow.holds Try.pinned (OpenSpec.upto fnExactPlanesBetweenSpec)

/-- 'laws.FnLongCars', WHERE WHAT IT READS IS OF BULK AT MOST 1048576: true; the input reads as it did. -/
def fnLongCarsUptoRow : OpenClaim := { program := "ytnddplldkgphnac", sum := "28ae6b0871781cb7143e1325dac0a0005003990bea72bbab3334463e230b832b", func := "loop.example/g01115/laws.FnLongCars", spec := "fnLongCars", unfollowed := true, recurses := true, apart := false, narrowed := true }
def FnLongCarsUptoSaid : Prop := fnLongCarsUptoRow.holds Try.pinned (OpenSpec.upto fnLongCarsSpec)

/-- 'laws.FnLongCounts', WHERE WHAT IT READS IS OF BULK AT MOST 1048576: true; the input reads as it did. -/
def fnLongCountsUptoRow : OpenClaim := { program := "ytnddplldkgphnac", sum := "28ae6b0871781cb7143e1325dac0a0005003990bea72bbab3334463e230b832b", func := "loop.example/g01115/laws.FnLongCounts", spec := "fnLongCounts", unfollowed := true, recurses := true, apart := false, narrowed := true }
def FnLongCountsUptoSaid : Prop := fnLongCountsUptoRow.holds Try.pinned (OpenSpec.upto fnLongCountsSpec)

/-- 'laws.FnCarsThatLookBack', WHERE WHAT IT READS IS OF BULK AT MOST 1048576: true; the input reads as it did. -/
def fnCarsThatLookBackUptoRow : OpenClaim := { program := "ytnddplldkgphnac", sum := "28ae6b0871781cb7143e1325dac0a0005003990bea72bbab3334463e230b832b", func := "loop.example/g01115/laws.FnCarsThatLookBack", spec := "fnCarsThatLookBack", unfollowed := true, recurses := true, apart := false, narrowed := true }
def FnCarsThatLookBackUptoSaid : Prop := fnCarsThatLookBackUptoRow.holds Try.pinned (OpenSpec.upto fnCarsThatLookBackSpec)

/-- 'laws.FnExactSpreadOfWalks', WHERE WHAT IT READS IS OF BULK AT MOST 1048576: true; the input reads as it did. -/
def fnExactSpreadOfWalksUptoRow : OpenClaim := { program := "ytnddplldkgphnac", sum := "28ae6b0871781cb7143e1325dac0a0005003990bea72bbab3334463e230b832b", func := "loop.example/g01115/laws.FnExactSpreadOfWalks", spec := "fnExactSpreadOfWalks", unfollowed := true, recurses := true, apart := false, narrowed := true }
def FnExactSpreadOfWalksUptoSaid : Prop := fnExactSpreadOfWalksUptoRow.holds Try.pinned (OpenSpec.upto fnExactSpreadOfWalksSpec)

end Rows
end Go.Proofs.Ytnddplldkgphnac
