/-
  No cell of these rows narrows 'for every input' (looked for: loops, veiled, ifaces, maps, wideKeys, modest, calm, conditions, laid).
  DERIVED. THE GIVEN ROWS OF THIS SEAT. 5 by the template 'for every input the law returns true; each argument reads behind the call as it read before'; 0 by the template 'total and deterministic' (their statements: YtehdccfkkfkciacTotals.lean).
  GIVEN WITH THE SEED: the statements are not yours to turn. If you find one false, say at which input.
  Laid BY PROGRAM, IN A SANDBOX (cutbox-rows.mjs): the forced cells as the released guide's own fill.sh prints them over the translation 4b26ad8129db5cff… (all of the seat's roots in one cut). By AI agents, Wed Nov 11 2026. No macro, syntax, notation, axiom, sorry.
-/
import Derived.Test.YtehdccfkkfkciacChecked
import GoSem.Claim
import GoSem.ClaimJoined
import GoSem.ClaimMapViews
import Derived.JoinedTies
import Derived.KernelRfl
namespace Go.Proofs.Ytehdccfkkfkciac
/- THE CELL 'sum', in the pinned program and in every row, IS THE sha256 OF THE DUMP (.gsa) THAT YtehdccfkkfkciacProg.lean LOADS. Nothing in Lean hashes anything: it is a label: what it is worth is what the hold of that sum in a sandbox is worth. -/
noncomputable def Try.pinned : Pinned := { name := "ytehdccfkkfkciac", sum := "4b26ad8129db5cff2f6bb8b4764563e67d507cba1fb0c876f66efe35d9069bb9", checked := Try.checked }
namespace Rows
def none {H : Type} : Left H := { results := [], args := [] }

/-- 'laws.FnExactFairOrder': WHATEVER THE INPUT: true; the input reads as it did. -/
def fnExactFairOrderSpec : ChangeSpec := { name := "fnExactFairOrder", fn := fun _ => fun
  | [d1, d2] => { results := [.lit (.bool true)], args := [d1, d2] }
  | _ => none }
def fnExactFairOrderRow : OpenClaim := { program := "ytehdccfkkfkciac", sum := "4b26ad8129db5cff2f6bb8b4764563e67d507cba1fb0c876f66efe35d9069bb9", func := "loop.example/g01115/laws.FnExactFairOrder", spec := "fnExactFairOrder", unfollowed := true, recurses := true, apart := false }
def FnExactFairOrderSaid : Prop := fnExactFairOrderRow.holds Try.pinned (OpenSpec.ofChange fnExactFairOrderSpec)

/-- ITS FALSE NEIGHBOUR: 'it returns false'. Refute it at one input. -/
def fnExactFairOrderWrong : ChangeSpec := { name := "fnExactFairOrder", fn := fun _ => fun
  | [d1, d2] => { results := [.lit (.bool false)], args := [d1, d2] }
  | _ => none }
def FnExactFairOrderWrongFalsely : Prop := fnExactFairOrderRow.holds Try.pinned (OpenSpec.ofChange fnExactFairOrderWrong)

/-- 'laws.FnExactMostLucky': WHATEVER THE INPUT: true; the input reads as it did. -/
def fnExactMostLuckySpec : ChangeSpec := { name := "fnExactMostLucky", fn := fun _ => fun
  | [d1, d2] => { results := [.lit (.bool true)], args := [d1, d2] }
  | _ => none }
def fnExactMostLuckyRow : OpenClaim := { program := "ytehdccfkkfkciac", sum := "4b26ad8129db5cff2f6bb8b4764563e67d507cba1fb0c876f66efe35d9069bb9", func := "loop.example/g01115/laws.FnExactMostLucky", spec := "fnExactMostLucky", unfollowed := true, recurses := true, apart := false }
def FnExactMostLuckySaid : Prop := fnExactMostLuckyRow.holds Try.pinned (OpenSpec.ofChange fnExactMostLuckySpec)

/-- ITS FALSE NEIGHBOUR: 'it returns false'. Refute it at one input. -/
def fnExactMostLuckyWrong : ChangeSpec := { name := "fnExactMostLucky", fn := fun _ => fun
  | [d1, d2] => { results := [.lit (.bool false)], args := [d1, d2] }
  | _ => none }
def FnExactMostLuckyWrongFalsely : Prop := fnExactMostLuckyRow.holds Try.pinned (OpenSpec.ofChange fnExactMostLuckyWrong)

/-- 'laws.FnExactLeastGreatest': WHATEVER THE INPUT: true; the input reads as it did. -/
def fnExactLeastGreatestSpec : ChangeSpec := { name := "fnExactLeastGreatest", fn := fun _ => fun
  | [d1, d2] => { results := [.lit (.bool true)], args := [d1, d2] }
  | _ => none }
def fnExactLeastGreatestRow : OpenClaim := { program := "ytehdccfkkfkciac", sum := "4b26ad8129db5cff2f6bb8b4764563e67d507cba1fb0c876f66efe35d9069bb9", func := "loop.example/g01115/laws.FnExactLeastGreatest", spec := "fnExactLeastGreatest", unfollowed := true, recurses := true, apart := false }
def FnExactLeastGreatestSaid : Prop := fnExactLeastGreatestRow.holds Try.pinned (OpenSpec.ofChange fnExactLeastGreatestSpec)

/-- ITS FALSE NEIGHBOUR: 'it returns false'. Refute it at one input. -/
def fnExactLeastGreatestWrong : ChangeSpec := { name := "fnExactLeastGreatest", fn := fun _ => fun
  | [d1, d2] => { results := [.lit (.bool false)], args := [d1, d2] }
  | _ => none }
def FnExactLeastGreatestWrongFalsely : Prop := fnExactLeastGreatestRow.holds Try.pinned (OpenSpec.ofChange fnExactLeastGreatestWrong)

/-- 'laws.FnExactGreatestGreatest': WHATEVER THE INPUT: true; the input reads as it did. -/
def fnExactGreatestGreatestSpec : ChangeSpec := { name := "fnExactGreatestGreatest", fn := fun _ => fun
  | [d1, d2] => { results := [.lit (.bool true)], args := [d1, d2] }
  | _ => none }
def fnExactGreatestGreatestRow : OpenClaim := { program := "ytehdccfkkfkciac", sum := "4b26ad8129db5cff2f6bb8b4764563e67d507cba1fb0c876f66efe35d9069bb9", func := "loop.example/g01115/laws.FnExactGreatestGreatest", spec := "fnExactGreatestGreatest", unfollowed := true, recurses := true, apart := false }
def FnExactGreatestGreatestSaid : Prop := fnExactGreatestGreatestRow.holds Try.pinned (OpenSpec.ofChange fnExactGreatestGreatestSpec)

/-- ITS FALSE NEIGHBOUR: 'it returns false'. Refute it at one input. -/
def fnExactGreatestGreatestWrong : ChangeSpec := { name := "fnExactGreatestGreatest", fn := fun _ => fun
  | [d1, d2] => { results := [.lit (.bool false)], args := [d1, d2] }
  | _ => none }
def FnExactGreatestGreatestWrongFalsely : Prop := fnExactGreatestGreatestRow.holds Try.pinned (OpenSpec.ofChange fnExactGreatestGreatestWrong)

/-- 'laws.FnValets': WHATEVER THE INPUT: true; the input reads as it did. -/
def fnValetsSpec : ChangeSpec := { name := "fnValets", fn := fun _ => fun
  | [d1, d2] => { results := [.lit (.bool true)], args := [d1, d2] }
  | _ => none }
def fnValetsRow : OpenClaim := { program := "ytehdccfkkfkciac", sum := "4b26ad8129db5cff2f6bb8b4764563e67d507cba1fb0c876f66efe35d9069bb9", func := "loop.example/g01115/laws.FnValets", spec := "fnValets", unfollowed := true, recurses := true, apart := false }
def FnValetsSaid : Prop := fnValetsRow.holds Try.pinned (OpenSpec.ofChange fnValetsSpec)

/-- ITS FALSE NEIGHBOUR: 'it returns false'. Refute it at one input. -/
def fnValetsWrong : ChangeSpec := { name := "fnValets", fn := fun _ => fun
  | [d1, d2] => { results := [.lit (.bool false)], args := [d1, d2] }
  | _ => none }
def FnValetsWrongFalsely : Prop := fnValetsRow.holds Try.pinned (OpenSpec.ofChange fnValetsWrong)

/- THE SECOND FORM. 'bulk': how many values and letters a reading holds, each counted each time it is reached (what is shared counts as often as it is met; a slice's spare places count too). A statement '..UptoSaid' is the law's where the arguments, and the package variables that the reading takes, are together of bulk at most 1048576: NARROWER than '..Said'. Prove '..Said' where nothing that the law and all that it calls make is longer than what came in: it says more and counts as full. Else prove '..UptoSaid'. A law counts once. -/
mutual
def uptoBulk {H : Type} : DataW H → Nat
  | .lit (.string bytes) => bytes.length + 1
  | .lit _ => 1
  | .nil => 1
  | .ptr d => uptoBulk d + 1
  | .slice elems spare => uptoBulkAll elems + uptoBulkAll spare + 1
  | .agg parts => uptoBulkAll parts + 1
  | .iface _ d => uptoBulk d + 1
  | .map entries => uptoBulkEntries entries + 1
  | .held _ => 1
def uptoBulkAll {H : Type} : List (DataW H) → Nat
  | [] => 0
  | d :: r => uptoBulk d + uptoBulkAll r
def uptoBulkEntries {H : Type} : List (Lit × DataW H) → Nat
  | [] => 0
  | x :: r => uptoBulkEntry x + uptoBulkEntries r
def uptoBulkEntry {H : Type} : Lit × DataW H → Nat
  | (.string bytes, d) => bytes.length + uptoBulk d + 1
  | (_, d) => uptoBulk d + 1
 end
def uptoSmall : (H : Type) → List (DataW H) → Bool := fun _ ds => decide (uptoBulkAll ds ≤ 1048576)
def OpenSpec.upto (s : _root_.Go.ChangeSpec) : _root_.Go.OpenSpec := { _root_.Go.OpenSpec.ofChange s with cond := some uptoSmall }

/-- 'laws.FnExactFairOrder', WHERE WHAT IT READS IS OF BULK AT MOST 1048576: true; the input reads as it did. -/
def fnExactFairOrderUptoRow : OpenClaim := { program := "ytehdccfkkfkciac", sum := "4b26ad8129db5cff2f6bb8b4764563e67d507cba1fb0c876f66efe35d9069bb9", func := "loop.example/g01115/laws.FnExactFairOrder", spec := "fnExactFairOrder", unfollowed := true, recurses := true, apart := false, narrowed := true }
def FnExactFairOrderUptoSaid : Prop := fnExactFairOrderUptoRow.holds Try.pinned (OpenSpec.upto fnExactFairOrderSpec)

/-- 'laws.FnExactMostLucky', WHERE WHAT IT READS IS OF BULK AT MOST 1048576: true; the input reads as it did. -/
def fnExactMostLuckyUptoRow : OpenClaim := { program := "ytehdccfkkfkciac", sum := "4b26ad8129db5cff2f6bb8b4764563e67d507cba1fb0c876f66efe35d9069bb9", func := "loop.example/g01115/laws.FnExactMostLucky", spec := "fnExactMostLucky", unfollowed := true, recurses := true, apart := false, narrowed := true }
def FnExactMostLuckyUptoSaid : Prop := fnExactMostLuckyUptoRow.holds Try.pinned (OpenSpec.upto fnExactMostLuckySpec)

/-- 'laws.FnExactLeastGreatest', WHERE WHAT IT READS IS OF BULK AT MOST 1048576: true; the input reads as it did. -/
def fnExactLeastGreatestUptoRow : OpenClaim := { program := "ytehdccfkkfkciac", sum := "4b26ad8129db5cff2f6bb8b4764563e67d507cba1fb0c876f66efe35d9069bb9", func := "loop.example/g01115/laws.FnExactLeastGreatest", spec := "fnExactLeastGreatest", unfollowed := true, recurses := true, apart := false, narrowed := true }
def FnExactLeastGreatestUptoSaid : Prop := fnExactLeastGreatestUptoRow.holds Try.pinned (OpenSpec.upto fnExactLeastGreatestSpec)

/-- 'laws.FnExactGreatestGreatest', WHERE WHAT IT READS IS OF BULK AT MOST 1048576: true; the input reads as it did. -/
def fnExactGreatestGreatestUptoRow : OpenClaim := { program := "ytehdccfkkfkciac", sum := "4b26ad8129db5cff2f6bb8b4764563e67d507cba1fb0c876f66efe35d9069bb9", func := "loop.example/g01115/laws.FnExactGreatestGreatest", spec := "fnExactGreatestGreatest", unfollowed := true, recurses := true, apart := false, narrowed := true }
def FnExactGreatestGreatestUptoSaid : Prop := fnExactGreatestGreatestUptoRow.holds Try.pinned (OpenSpec.upto fnExactGreatestGreatestSpec)

/-- 'laws.FnValets', WHERE WHAT IT READS IS OF BULK AT MOST 1048576: true; the input reads as it did. -/
def fnValetsUptoRow : OpenClaim := { program := "ytehdccfkkfkciac", sum := "4b26ad8129db5cff2f6bb8b4764563e67d507cba1fb0c876f66efe35d9069bb9", func := "loop.example/g01115/laws.FnValets", spec := "fnValets", unfollowed := true, recurses := true, apart := false, narrowed := true }
def FnValetsUptoSaid : Prop := fnValetsUptoRow.holds Try.pinned (OpenSpec.upto fnValetsSpec)

end Rows
end Go.Proofs.Ytehdccfkkfkciac
