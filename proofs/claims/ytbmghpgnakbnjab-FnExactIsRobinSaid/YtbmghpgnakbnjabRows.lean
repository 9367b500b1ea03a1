/-
  No cell of these rows narrows 'for every input' (looked for: loops, veiled, ifaces, maps, wideKeys, modest, calm, conditions, laid).
  DERIVED. THE GIVEN ROWS OF THIS SEAT. 8 by the template 'for every input the law returns true; each argument reads behind the call as it read before'; 0 by the template 'total and deterministic' (their statements: YtbmghpgnakbnjabTotals.lean).
  GIVEN WITH THE SEED: the statements are not yours to turn. If you find one false, say at which input.
  Laid BY PROGRAM, IN A SANDBOX (cutbox-rows.mjs): the forced cells as the released guide's own fill.sh prints them over the translation f07433e2f2c4753b… (all of the seat's roots in one cut). By AI agents, Wed Nov 11 2026. No macro, syntax, notation, axiom, sorry.
-/
import Derived.Test.YtbmghpgnakbnjabChecked
import GoSem.Claim
import GoSem.ClaimJoined
import GoSem.ClaimMapViews
import Derived.JoinedTies
import Derived.KernelRfl
namespace Go.Proofs.Ytbmghpgnakbnjab
/- THE CELL 'sum', in the pinned program and in every row, IS THE sha256 OF THE DUMP (.gsa) THAT YtbmghpgnakbnjabProg.lean LOADS. Nothing in Lean hashes anything: it is a label: what it is worth is what the hold of that sum in a sandbox is worth. -/
noncomputable def Try.pinned : Pinned := { name := "ytbmghpgnakbnjab", sum := "f07433e2f2c4753b30201292f0691bd75d459139f01403bd4212b5222f7b0386", checked := Try.checked }
namespace Rows
def none {H : Type} : Left H := { results := [], args := [] }

/-- 'laws.FnExactCostOf': WHATEVER THE INPUT: true; the input reads as it did. -/
def fnExactCostOfSpec : ChangeSpec := { name := "fnExactCostOf", fn := fun _ => fun
  | [d] => { results := [.lit (.bool true)], args := [d] }
  | _ => none }
def fnExactCostOfRow : OpenClaim := { program := "ytbmghpgnakbnjab", sum := "f07433e2f2c4753b30201292f0691bd75d459139f01403bd4212b5222f7b0386", func := "loop.example/g01115/laws.FnExactCostOf", spec := "fnExactCostOf", apart := false }
def FnExactCostOfSaid : Prop := fnExactCostOfRow.holds Try.pinned (OpenSpec.ofChange fnExactCostOfSpec)

/-- ITS FALSE NEIGHBOUR: 'it returns false'. Refute it at one input. -/
def fnExactCostOfWrong : ChangeSpec := { name := "fnExactCostOf", fn := fun _ => fun
  | [d] => { results := [.lit (.bool false)], args := [d] }
  | _ => none }
def FnExactCostOfWrongFalsely : Prop := fnExactCostOfRow.holds Try.pinned (OpenSpec.ofChange fnExactCostOfWrong)

/-- 'laws.FnExactGreatestCost': WHATEVER THE INPUT: true; the input reads as it did. -/
def fnExactGreatestCostSpec : ChangeSpec := { name := "fnExactGreatestCost", fn := fun _ => fun
  | [d] => { results := [.lit (.bool true)], args := [d] }
  | _ => none }
def fnExactGreatestCostRow : OpenClaim := { program := "ytbmghpgnakbnjab", sum := "f07433e2f2c4753b30201292f0691bd75d459139f01403bd4212b5222f7b0386", func := "loop.example/g01115/laws.FnExactGreatestCost", spec := "fnExactGreatestCost", apart := false }
def FnExactGreatestCostSaid : Prop := fnExactGreatestCostRow.holds Try.pinned (OpenSpec.ofChange fnExactGreatestCostSpec)

/-- ITS FALSE NEIGHBOUR: 'it returns false'. Refute it at one input. -/
def fnExactGreatestCostWrong : ChangeSpec := { name := "fnExactGreatestCost", fn := fun _ => fun
  | [d] => { results := [.lit (.bool false)], args := [d] }
  | _ => none }
def FnExactGreatestCostWrongFalsely : Prop := fnExactGreatestCostRow.holds Try.pinned (OpenSpec.ofChange fnExactGreatestCostWrong)

/-- 'laws.FnExactClustersOf': WHATEVER THE INPUT: true; the input reads as it did. -/
def fnExactClustersOfSpec : ChangeSpec := { name := "fnExactClustersOf", fn := fun _ => fun
  | [d] => { results := [.lit (.bool true)], args := [d] }
  | _ => none }
def fnExactClustersOfRow : OpenClaim := { program := "ytbmghpgnakbnjab", sum := "f07433e2f2c4753b30201292f0691bd75d459139f01403bd4212b5222f7b0386", func := "loop.example/g01115/laws.FnExactClustersOf", spec := "fnExactClustersOf", apart := false }
def FnExactClustersOfSaid : Prop := fnExactClustersOfRow.holds Try.pinned (OpenSpec.ofChange fnExactClustersOfSpec)

/-- ITS FALSE NEIGHBOUR: 'it returns false'. Refute it at one input. -/
def fnExactClustersOfWrong : ChangeSpec := { name := "fnExactClustersOf", fn := fun _ => fun
  | [d] => { results := [.lit (.bool false)], args := [d] }
  | _ => none }
def FnExactClustersOfWrongFalsely : Prop := fnExactClustersOfRow.holds Try.pinned (OpenSpec.ofChange fnExactClustersOfWrong)

/-- 'laws.FnExactFirstInsertion': WHATEVER THE INPUT: true; the input reads as it did. -/
def fnExactFirstInsertionSpec : ChangeSpec := { name := "fnExactFirstInsertion", fn := fun _ => fun
  | [d] => { results := [.lit (.bool true)], args := [d] }
  | _ => none }
def fnExactFirstInsertionRow : OpenClaim := { program := "ytbmghpgnakbnjab", sum := "f07433e2f2c4753b30201292f0691bd75d459139f01403bd4212b5222f7b0386", func := "loop.example/g01115/laws.FnExactFirstInsertion", spec := "fnExactFirstInsertion", recurses := true, apart := false }
def FnExactFirstInsertionSaid : Prop := fnExactFirstInsertionRow.holds Try.pinned (OpenSpec.ofChange fnExactFirstInsertionSpec)

/-- ITS FALSE NEIGHBOUR: 'it returns false'. Refute it at one input. -/
def fnExactFirstInsertionWrong : ChangeSpec := { name := "fnExactFirstInsertion", fn := fun _ => fun
  | [d] => { results := [.lit (.bool false)], args := [d] }
  | _ => none }
def FnExactFirstInsertionWrongFalsely : Prop := fnExactFirstInsertionRow.holds Try.pinned (OpenSpec.ofChange fnExactFirstInsertionWrong)

/-- 'laws.FnExactCountInsertions': WHATEVER THE INPUT: true; the input reads as it did. -/
def fnExactCountInsertionsSpec : ChangeSpec := { name := "fnExactCountInsertions", fn := fun _ => fun
  | [d] => { results := [.lit (.bool true)], args := [d] }
  | _ => none }
def fnExactCountInsertionsRow : OpenClaim := { program := "ytbmghpgnakbnjab", sum := "f07433e2f2c4753b30201292f0691bd75d459139f01403bd4212b5222f7b0386", func := "loop.example/g01115/laws.FnExactCountInsertions", spec := "fnExactCountInsertions", recurses := true, apart := false }
def FnExactCountInsertionsSaid : Prop := fnExactCountInsertionsRow.holds Try.pinned (OpenSpec.ofChange fnExactCountInsertionsSpec)

/-- ITS FALSE NEIGHBOUR: 'it returns false'. Refute it at one input. -/
def fnExactCountInsertionsWrong : ChangeSpec := { name := "fnExactCountInsertions", fn := fun _ => fun
  | [d] => { results := [.lit (.bool false)], args := [d] }
  | _ => none }
def FnExactCountInsertionsWrongFalsely : Prop := fnExactCountInsertionsRow.holds Try.pinned (OpenSpec.ofChange fnExactCountInsertionsWrong)

/-- 'laws.FnExactRobinTable': WHATEVER THE INPUT: true; the input reads as it did. -/
def fnExactRobinTableSpec : ChangeSpec := { name := "fnExactRobinTable", fn := fun _ => fun
  | [d1, d2] => { results := [.lit (.bool true)], args := [d1, d2] }
  | _ => none }
def fnExactRobinTableRow : OpenClaim := { program := "ytbmghpgnakbnjab", sum := "f07433e2f2c4753b30201292f0691bd75d459139f01403bd4212b5222f7b0386", func := "loop.example/g01115/laws.FnExactRobinTable", spec := "fnExactRobinTable", unfollowed := true, recurses := true, apart := false }
def FnExactRobinTableSaid : Prop := fnExactRobinTableRow.holds Try.pinned (OpenSpec.ofChange fnExactRobinTableSpec)

/-- ITS FALSE NEIGHBOUR: 'it returns false'. Refute it at one input. -/
def fnExactRobinTableWrong : ChangeSpec := { name := "fnExactRobinTable", fn := fun _ => fun
  | [d1, d2] => { results := [.lit (.bool false)], args := [d1, d2] }
  | _ => none }
def FnExactRobinTableWrongFalsely : Prop := fnExactRobinTableRow.holds Try.pinned (OpenSpec.ofChange fnExactRobinTableWrong)

/-- 'laws.FnExactIsRobin': WHATEVER THE INPUT: true; the input reads as it did. -/
def fnExactIsRobinSpec : ChangeSpec := { name := "fnExactIsRobin", fn := fun _ => fun
  | [d] => { results := [.lit (.bool true)], args := [d] }
  | _ => none }
def fnExactIsRobinRow : OpenClaim := { program := "ytbmghpgnakbnjab", sum := "f07433e2f2c4753b30201292f0691bd75d459139f01403bd4212b5222f7b0386", func := "loop.example/g01115/laws.FnExactIsRobin", spec := "fnExactIsRobin", unfollowed := true, recurses := true, apart := false }
def FnExactIsRobinSaid : Prop := fnExactIsRobinRow.holds Try.pinned (OpenSpec.ofChange fnExactIsRobinSpec)

/-- ITS FALSE NEIGHBOUR: 'it returns false'. Refute it at one input. -/
def fnExactIsRobinWrong : ChangeSpec := { name := "fnExactIsRobin", fn := fun _ => fun
  | [d] => { results := [.lit (.bool false)], args := [d] }
  | _ => none }
def FnExactIsRobinWrongFalsely : Prop := fnExactIsRobinRow.holds Try.pinned (OpenSpec.ofChange fnExactIsRobinWrong)

/-- 'laws.FnExactStreetOf': WHATEVER THE INPUT: true; the input reads as it did. -/
def fnExactStreetOfSpec : ChangeSpec := { name := "fnExactStreetOf", fn := fun _ => fun
  | [d] => { results := [.lit (.bool true)], args := [d] }
  | _ => none }
def fnExactStreetOfRow : OpenClaim := { program := "ytbmghpgnakbnjab", sum := "f07433e2f2c4753b30201292f0691bd75d459139f01403bd4212b5222f7b0386", func := "loop.example/g01115/laws.FnExactStreetOf", spec := "fnExactStreetOf", recurses := true, apart := false }
def FnExactStreetOfSaid : Prop := fnExactStreetOfRow.holds Try.pinned (OpenSpec.ofChange fnExactStreetOfSpec)

/-- ITS FALSE NEIGHBOUR: 'it returns false'. Refute it at one input. -/
def fnExactStreetOfWrong : ChangeSpec := { name := "fnExactStreetOf", fn := fun _ => fun
  | [d] => { results := [.lit (.bool false)], args := [d] }
  | _ => none }
def FnExactStreetOfWrongFalsely : Prop := fnExactStreetOfRow.holds Try.pinned (OpenSpec.ofChange fnExactStreetOfWrong)

/- THE SECOND FORM. 'bulk': how many values and letters a reading holds, each counted each time it is reached (what is shared counts as often as it is met; a slice's spare places count too). A statement '..UptoSaid' is the law's where the arguments, and the package variables that the reading takes, are together of bulk at most 1048576: NARROWER than '..Said'. Prove '..Said' where nothing that the law and all that it calls make is longer than what came in: it says more and counts as full. Else prove '..UptoSaid'. A law counts once. -/
mutual
def uptoBulk {H : Type} : DataW H → Nat
  | .lit (.string bytes) => bytes.length + 1
  | .lit _ => 1
  | .nil => 1
  | .ptr d => uptoBulk d + 1
  | .slice elems spare => uptoBulkAll elems + uptoBulkAll spare + 1
  | .agg parts => uptoBulkAll parts + 1
  | .iface _ d => uptoBulk d + 1
  | .map entries => uptoBulkEntries entries + 1
  | .held _ => 1
def uptoBulkAll {H : Type} : List (DataW H) → Nat
  | [] => 0
  | d :: r => uptoBulk d + uptoBulkAll r
def uptoBulkEntries {H : Type} : List (Lit × DataW H) → Nat
  | [] => 0
  | x :: r => uptoBulkEntry x + uptoBulkEntries r
def uptoBulkEntry {H : Type} : Lit × DataW H → Nat
  | (.string bytes, d) => bytes.length + uptoBulk d + 1
  | (_, d) => uptoBulk d + 1
 end
def uptoSmall : (H : Type) → List (DataW H) → Bool := fun _ ds => decide (uptoBulkAll ds ≤ 1048576)
def OpenSpec.upto (s : _root_.Go.ChangeSpec) : _root_.Go.OpenSpec := { _root_.Go.OpenSpec.ofChange s with cond := some uptoSmall }

/-- 'laws.FnExactCostOf', WHERE WHAT IT READS IS OF BULK AT MOST 1048576: true; the input reads as it did. -/
def fnExactCostOfUptoRow : OpenClaim := { program := "ytbmghpgnakbnjab", sum := "f07433e2f2c4753b30201292f0691bd75d459139f01403bd4212b5222f7b0386", func := "loop.example/g01115/laws.FnExactCostOf", spec := "fnExactCostOf", apart := false, narrowed := true }
def FnExactCostOfUptoSaid : Prop := fnExactCostOfUptoRow.holds Try.pinned (OpenSpec.upto fnExactCostOfSpec)

/-- 'laws.FnExactGreatestCost', WHERE WHAT IT READS IS OF BULK AT MOST 1048576: true; the input reads as it did. -/
def fnExactGreatestCostUptoRow : OpenClaim := { program := "ytbmghpgnakbnjab", sum := "f07433e2f2c4753b30201292f0691bd75d459139f01403bd4212b5222f7b0386", func := "loop.example/g01115/laws.FnExactGreatestCost", spec := "fnExactGreatestCost", apart := false, narrowed := true }
def FnExactGreatestCostUptoSaid : Prop := fnExactGreatestCostUptoRow.holds Try.pinned (OpenSpec.upto fnExactGreatestCostSpec)

/-- 'laws.FnExactClustersOf', WHERE WHAT IT READS IS OF BULK AT MOST 1048576: true; the input reads as it did. -/
def fnExactClustersOfUptoRow : OpenClaim := { program := "ytbmghpgnakbnjab", sum := "f07433e2f2c4753b30201292f0691bd75d459139f01403bd4212b5222f7b0386", func := "loop.example/g01115/laws.FnExactClustersOf", spec := "fnExactClustersOf", apart := false, narrowed := true }
def FnExactClustersOfUptoSaid : Prop := fnExactClustersOfUptoRow.holds Try.pinned (OpenSpec.upto fnExactClustersOfSpec)

/-- 'laws.FnExactFirstInsertion', WHERE WHAT IT READS IS OF BULK AT MOST 1048576: true; the input reads as it did. -/
def fnExactFirstInsertionUptoRow : OpenClaim := { program := "ytbmghpgnakbnjab", sum := "f07433e2f2c4753b30201292f0691bd75d459139f01403bd4212b5222f7b0386", func := "loop.example/g01115/laws.FnExactFirstInsertion", spec := "fnExactFirstInsertion", recurses := true, apart := false, narrowed := true }
def FnExactFirstInsertionUptoSaid : Prop := fnExactFirstInsertionUptoRow.holds Try.pinned (OpenSpec.upto fnExactFirstInsertionSpec)

/-- 'laws.FnExactCountInsertions', WHERE WHAT IT READS IS OF BULK AT MOST 1048576: true; the input reads as it did. -/
def fnExactCountInsertionsUptoRow : OpenClaim := { program := "ytbmghpgnakbnjab", sum := "f07433e2f2c4753b30201292f0691bd75d459139f01403bd4212b5222f7b0386", func := "loop.example/g01115/laws.FnExactCountInsertions", spec := "fnExactCountInsertions", recurses := true, apart := false, narrowed := true }
def FnExactCountInsertionsUptoSaid : Prop := fnExactCountInsertionsUptoRow.holds Try.pinned (OpenSpec.upto fnExactCountInsertionsSpec)

/-- 'laws.FnExactRobinTable', WHERE WHAT IT READS IS OF BULK AT MOST 1048576: true; the input reads as it did. -/
def fnExactRobinTableUptoRow : OpenClaim := { program := "ytbmghpgnakbnjab", sum := "f07433e2f2c4753b30201292f0691bd75d459139f01403bd4212b5222f7b0386", func := "loop.example/g01115/laws.FnExactRobinTable", spec := "fnExactRobinTable", unfollowed := true, recurses := true, apart := false, narrowed := true }
def FnExactRobinTableUptoSaid : Prop := fnExactRobinTableUptoRow.holds Try.pinned (OpenSpec.upto fnExactRobinTableSpec)

/-- 'laws.FnExactIsRobin', WHERE WHAT IT READS IS OF BULK AT MOST 1048576: true; the input reads as it did. -/
def fnExactIsRobinUptoRow : OpenClaim := { program := "ytbmghpgnakbnjab", sum := "f07433e2f2c4753b30201292f0691bd75d459139f01403bd4212b5222f7b0386", func := "loop.example/g01115/laws.FnExactIsRobin", spec := "fnExactIsRobin", unfollowed := true, recurses := true, apart := false, narrowed := true }
def FnExactIsRobinUptoSaid : Prop := fnExactIsRobinUptoRow.holds Try.pinned (OpenSpec.upto fnExactIsRobinSpec)

/-- 'laws.FnExactStreetOf', WHERE WHAT IT READS IS OF BULK AT MOST 1048576: true; the input reads as it did. -/
def fnExactStreetOfUptoRow : OpenClaim := { program := "ytbmghpgnakbnjab", sum := "f07433e2f2c4753b30201292f0691bd75d459139f01403bd4212b5222f7b0386", func := "loop.example/g01115/laws.FnExactStreetOf", spec := "fnExactStreetOf", recurses := true, apart := false, narrowed := true }
def FnExactStreetOfUptoSaid : Prop := fnExactStreetOfUptoRow.holds Try.pinned (OpenSpec.upto fnExactStreetOfSpec)

end Rows
end Go.Proofs.Ytbmghpgnakbnjab
