/-
  No cell of these rows narrows 'for every input' (looked for: loops, veiled, ifaces, maps, wideKeys, modest, calm, conditions, laid).
  DERIVED. THE GIVEN ROWS OF THIS SEAT. 12 by the template 'for every input the law returns true; each argument reads behind the call as it read before'; 0 by the template 'total and deterministic' (their statements: YtochmifhhigfhaaTotals.lean).
  GIVEN WITH THE SEED: the statements are not yours to turn. If you find one false, say at which input.
  Laid BY PROGRAM, IN A SANDBOX (cutbox-rows.mjs): the forced cells as the released guide's own fill.sh prints them over the translation 2399f0a2bd1c1efa… (all of the seat's roots in one cut). By AI agents, Wed Nov 11 2026. No macro, syntax, notation, axiom, sorry.
-/
import Derived.Test.YtochmifhhigfhaaChecked
import GoSem.Claim
import GoSem.ClaimJoined
import GoSem.ClaimMapViews
import Derived.JoinedTies
import Derived.KernelRfl
namespace Go.Proofs.Ytochmifhhigfhaa
/- THE CELL 'sum', in the pinned program and in every row, IS THE sha256 OF THE DUMP (.gsa) THAT YtochmifhhigfhaaProg.lean LOADS. Nothing in Lean hashes anything: it is a label: what it is worth is what the hold of that sum in a sandbox is worth. -/
noncomputable def Try.pinned : Pinned := { name := "ytochmifhhigfhaa", sum := "2399f0a2bd1c1efad3b288e90625b23af95a58900646e47f296581244bb22645", checked := Try.checked }
namespace Rows
def none {H : Type} : Left H := { results := [], args := [] }

/-- 'laws.FnExactIsTree': WHATEVER THE INPUT: true; the input reads as it did. -/
def fnExactIsTreeSpec : ChangeSpec := { name := "fnExactIsTree", fn := fun _ => fun
  | [d] => { results := [.lit (.bool true)], args := [d] }
  | _ => none }
def fnExactIsTreeRow : OpenClaim := { program := "ytochmifhhigfhaa", sum := "2399f0a2bd1c1efad3b288e90625b23af95a58900646e47f296581244bb22645", func := "loop.example/g01115/laws.FnExactIsTree", spec := "fnExactIsTree", unfollowed := true, recurses := true, apart := false }
def FnExactIsTreeSaid : Prop := fnExactIsTreeRow.holds Try.pinned (OpenSpec.ofChange fnExactIsTreeSpec)

/-- ITS FALSE NEIGHBOUR: 'it returns false'. Refute it at one input. -/
def fnExactIsTreeWrong : ChangeSpec := { name := "fnExactIsTree", fn := fun _ => fun
  | [d] => { results := [.lit (.bool false)], args := [d] }
  | _ => none }
def FnExactIsTreeWrongFalsely : Prop := fnExactIsTreeRow.holds Try.pinned (OpenSpec.ofChange fnExactIsTreeWrong)

/-- 'laws.FnExactPruferOf': WHATEVER THE INPUT: true; the input reads as it did. -/
def fnExactPruferOfSpec : ChangeSpec := { name := "fnExactPruferOf", fn := fun _ => fun
  | [d] => { results := [.lit (.bool true)], args := [d] }
  | _ => none }
def fnExactPruferOfRow : OpenClaim := { program := "ytochmifhhigfhaa", sum := "2399f0a2bd1c1efad3b288e90625b23af95a58900646e47f296581244bb22645", func := "loop.example/g01115/laws.FnExactPruferOf", spec := "fnExactPruferOf", unfollowed := true, recurses := true, apart := false }
def FnExactPruferOfSaid : Prop := fnExactPruferOfRow.holds Try.pinned (OpenSpec.ofChange fnExactPruferOfSpec)

/-- ITS FALSE NEIGHBOUR: 'it returns false'. Refute it at one input. -/
def fnExactPruferOfWrong : ChangeSpec := { name := "fnExactPruferOf", fn := fun _ => fun
  | [d] => { results := [.lit (.bool false)], args := [d] }
  | _ => none }
def FnExactPruferOfWrongFalsely : Prop := fnExactPruferOfRow.holds Try.pinned (OpenSpec.ofChange fnExactPruferOfWrong)

/-- 'laws.FnExactTreeOfPrufer': WHATEVER THE INPUT: true; the input reads as it did. -/
def fnExactTreeOfPruferSpec : ChangeSpec := { name := "fnExactTreeOfPrufer", fn := fun _ => fun
  | [d] => { results := [.lit (.bool true)], args := [d] }
  | _ => none }
def fnExactTreeOfPruferRow : OpenClaim := { program := "ytochmifhhigfhaa", sum := "2399f0a2bd1c1efad3b288e90625b23af95a58900646e47f296581244bb22645", func := "loop.example/g01115/laws.FnExactTreeOfPrufer", spec := "fnExactTreeOfPrufer", apart := false }
def FnExactTreeOfPruferSaid : Prop := fnExactTreeOfPruferRow.holds Try.pinned (OpenSpec.ofChange fnExactTreeOfPruferSpec)

/-- ITS FALSE NEIGHBOUR: 'it returns false'. Refute it at one input. -/
def fnExactTreeOfPruferWrong : ChangeSpec := { name := "fnExactTreeOfPrufer", fn := fun _ => fun
  | [d] => { results := [.lit (.bool false)], args := [d] }
  | _ => none }
def FnExactTreeOfPruferWrongFalsely : Prop := fnExactTreeOfPruferRow.holds Try.pinned (OpenSpec.ofChange fnExactTreeOfPruferWrong)

/-- 'laws.FnExactCountTrees': WHATEVER THE INPUT: true; the input reads as it did. -/
def fnExactCountTreesSpec : ChangeSpec := { name := "fnExactCountTrees", fn := fun _ => fun
  | [d] => { results := [.lit (.bool true)], args := [d] }
  | _ => none }
def fnExactCountTreesRow : OpenClaim := { program := "ytochmifhhigfhaa", sum := "2399f0a2bd1c1efad3b288e90625b23af95a58900646e47f296581244bb22645", func := "loop.example/g01115/laws.FnExactCountTrees", spec := "fnExactCountTrees", apart := false }
def FnExactCountTreesSaid : Prop := fnExactCountTreesRow.holds Try.pinned (OpenSpec.ofChange fnExactCountTreesSpec)

/-- ITS FALSE NEIGHBOUR: 'it returns false'. Refute it at one input. -/
def fnExactCountTreesWrong : ChangeSpec := { name := "fnExactCountTrees", fn := fun _ => fun
  | [d] => { results := [.lit (.bool false)], args := [d] }
  | _ => none }
def FnExactCountTreesWrongFalsely : Prop := fnExactCountTreesRow.holds Try.pinned (OpenSpec.ofChange fnExactCountTreesWrong)

/-- 'laws.FnExactAllTrees': WHATEVER THE INPUT: true; the input reads as it did. -/
def fnExactAllTreesSpec : ChangeSpec := { name := "fnExactAllTrees", fn := fun _ => fun
  | [d] => { results := [.lit (.bool true)], args := [d] }
  | _ => none }
def fnExactAllTreesRow : OpenClaim := { program := "ytochmifhhigfhaa", sum := "2399f0a2bd1c1efad3b288e90625b23af95a58900646e47f296581244bb22645", func := "loop.example/g01115/laws.FnExactAllTrees", spec := "fnExactAllTrees", apart := false }
def FnExactAllTreesSaid : Prop := fnExactAllTreesRow.holds Try.pinned (OpenSpec.ofChange fnExactAllTreesSpec)

/-- ITS FALSE NEIGHBOUR: 'it returns false'. Refute it at one input. -/
def fnExactAllTreesWrong : ChangeSpec := { name := "fnExactAllTrees", fn := fun _ => fun
  | [d] => { results := [.lit (.bool false)], args := [d] }
  | _ => none }
def FnExactAllTreesWrongFalsely : Prop := fnExactAllTreesRow.holds Try.pinned (OpenSpec.ofChange fnExactAllTreesWrong)

/-- 'laws.FnExactBreadthOrder': WHATEVER THE INPUT: true; the input reads as it did. -/
def fnExactBreadthOrderSpec : ChangeSpec := { name := "fnExactBreadthOrder", fn := fun _ => fun
  | [d] => { results := [.lit (.bool true)], args := [d] }
  | _ => none }
def fnExactBreadthOrderRow : OpenClaim := { program := "ytochmifhhigfhaa", sum := "2399f0a2bd1c1efad3b288e90625b23af95a58900646e47f296581244bb22645", func := "loop.example/g01115/laws.FnExactBreadthOrder", spec := "fnExactBreadthOrder", unfollowed := true, recurses := true, apart := false }
def FnExactBreadthOrderSaid : Prop := fnExactBreadthOrderRow.holds Try.pinned (OpenSpec.ofChange fnExactBreadthOrderSpec)

/-- ITS FALSE NEIGHBOUR: 'it returns false'. Refute it at one input. -/
def fnExactBreadthOrderWrong : ChangeSpec := { name := "fnExactBreadthOrder", fn := fun _ => fun
  | [d] => { results := [.lit (.bool false)], args := [d] }
  | _ => none }
def FnExactBreadthOrderWrongFalsely : Prop := fnExactBreadthOrderRow.holds Try.pinned (OpenSpec.ofChange fnExactBreadthOrderWrong)

/-- 'laws.FnExactTreeOfParking': WHATEVER THE INPUT: true; the input reads as it did. -/
def fnExactTreeOfParkingSpec : ChangeSpec := { name := "fnExactTreeOfParking", fn := fun _ => fun
  | [d] => { results := [.lit (.bool true)], args := [d] }
  | _ => none }
def fnExactTreeOfParkingRow : OpenClaim := { program := "ytochmifhhigfhaa", sum := "2399f0a2bd1c1efad3b288e90625b23af95a58900646e47f296581244bb22645", func := "loop.example/g01115/laws.FnExactTreeOfParking", spec := "fnExactTreeOfParking", unfollowed := true, recurses := true, apart := false }
def FnExactTreeOfParkingSaid : Prop := fnExactTreeOfParkingRow.holds Try.pinned (OpenSpec.ofChange fnExactTreeOfParkingSpec)

/-- ITS FALSE NEIGHBOUR: 'it returns false'. Refute it at one input. -/
def fnExactTreeOfParkingWrong : ChangeSpec := { name := "fnExactTreeOfParking", fn := fun _ => fun
  | [d] => { results := [.lit (.bool false)], args := [d] }
  | _ => none }
def FnExactTreeOfParkingWrongFalsely : Prop := fnExactTreeOfParkingRow.holds Try.pinned (OpenSpec.ofChange fnExactTreeOfParkingWrong)

/-- 'laws.FnExactParkingOfTree': WHATEVER THE INPUT: true; the input reads as it did. -/
def fnExactParkingOfTreeSpec : ChangeSpec := { name := "fnExactParkingOfTree", fn := fun _ => fun
  | [d] => { results := [.lit (.bool true)], args := [d] }
  | _ => none }
def fnExactParkingOfTreeRow : OpenClaim := { program := "ytochmifhhigfhaa", sum := "2399f0a2bd1c1efad3b288e90625b23af95a58900646e47f296581244bb22645", func := "loop.example/g01115/laws.FnExactParkingOfTree", spec := "fnExactParkingOfTree", unfollowed := true, recurses := true, apart := false }
def FnExactParkingOfTreeSaid : Prop := fnExactParkingOfTreeRow.holds Try.pinned (OpenSpec.ofChange fnExactParkingOfTreeSpec)

/-- ITS FALSE NEIGHBOUR: 'it returns false'. Refute it at one input. -/
def fnExactParkingOfTreeWrong : ChangeSpec := { name := "fnExactParkingOfTree", fn := fun _ => fun
  | [d] => { results := [.lit (.bool false)], args := [d] }
  | _ => none }
def FnExactParkingOfTreeWrongFalsely : Prop := fnExactParkingOfTreeRow.holds Try.pinned (OpenSpec.ofChange fnExactParkingOfTreeWrong)

/-- 'laws.FnExactDegreesOf': WHATEVER THE INPUT: true; the input reads as it did. -/
def fnExactDegreesOfSpec : ChangeSpec := { name := "fnExactDegreesOf", fn := fun _ => fun
  | [d] => { results := [.lit (.bool true)], args := [d] }
  | _ => none }
def fnExactDegreesOfRow : OpenClaim := { program := "ytochmifhhigfhaa", sum := "2399f0a2bd1c1efad3b288e90625b23af95a58900646e47f296581244bb22645", func := "loop.example/g01115/laws.FnExactDegreesOf", spec := "fnExactDegreesOf", unfollowed := true, recurses := true, apart := false }
def FnExactDegreesOfSaid : Prop := fnExactDegreesOfRow.holds Try.pinned (OpenSpec.ofChange fnExactDegreesOfSpec)

/-- ITS FALSE NEIGHBOUR: 'it returns false'. Refute it at one input. -/
def fnExactDegreesOfWrong : ChangeSpec := { name := "fnExactDegreesOf", fn := fun _ => fun
  | [d] => { results := [.lit (.bool false)], args := [d] }
  | _ => none }
def FnExactDegreesOfWrongFalsely : Prop := fnExactDegreesOfRow.holds Try.pinned (OpenSpec.ofChange fnExactDegreesOfWrong)

/-- 'laws.FnExactDepthsOf': WHATEVER THE INPUT: true; the input reads as it did. -/
def fnExactDepthsOfSpec : ChangeSpec := { name := "fnExactDepthsOf", fn := fun _ => fun
  | [d] => { results := [.lit (.bool true)], args := [d] }
  | _ => none }
def fnExactDepthsOfRow : OpenClaim := { program := "ytochmifhhigfhaa", sum := "2399f0a2bd1c1efad3b288e90625b23af95a58900646e47f296581244bb22645", func := "loop.example/g01115/laws.FnExactDepthsOf", spec := "fnExactDepthsOf", unfollowed := true, recurses := true, apart := false }
def FnExactDepthsOfSaid : Prop := fnExactDepthsOfRow.holds Try.pinned (OpenSpec.ofChange fnExactDepthsOfSpec)

/-- ITS FALSE NEIGHBOUR: 'it returns false'. Refute it at one input. -/
def fnExactDepthsOfWrong : ChangeSpec := { name := "fnExactDepthsOf", fn := fun _ => fun
  | [d] => { results := [.lit (.bool false)], args := [d] }
  | _ => none }
def FnExactDepthsOfWrongFalsely : Prop := fnExactDepthsOfRow.holds Try.pinned (OpenSpec.ofChange fnExactDepthsOfWrong)

/-- 'laws.FnExactBelowCounts': WHATEVER THE INPUT: true; the input reads as it did. -/
def fnExactBelowCountsSpec : ChangeSpec := { name := "fnExactBelowCounts", fn := fun _ => fun
  | [d] => { results := [.lit (.bool true)], args := [d] }
  | _ => none }
def fnExactBelowCountsRow : OpenClaim := { program := "ytochmifhhigfhaa", sum := "2399f0a2bd1c1efad3b288e90625b23af95a58900646e47f296581244bb22645", func := "loop.example/g01115/laws.FnExactBelowCounts", spec := "fnExactBelowCounts", unfollowed := true, recurses := true, apart := false }
def FnExactBelowCountsSaid : Prop := fnExactBelowCountsRow.holds Try.pinned (OpenSpec.ofChange fnExactBelowCountsSpec)

/-- ITS FALSE NEIGHBOUR: 'it returns false'. Refute it at one input. -/
def fnExactBelowCountsWrong : ChangeSpec := { name := "fnExactBelowCounts", fn := fun _ => fun
  | [d] => { results := [.lit (.bool false)], args := [d] }
  | _ => none }
def FnExactBelowCountsWrongFalsely : Prop := fnExactBelowCountsRow.holds Try.pinned (OpenSpec.ofChange fnExactBelowCountsWrong)

/-- 'laws.FnExactLeavesOf': WHATEVER THE INPUT: true; the input reads as it did. -/
def fnExactLeavesOfSpec : ChangeSpec := { name := "fnExactLeavesOf", fn := fun _ => fun
  | [d] => { results := [.lit (.bool true)], args := [d] }
  | _ => none }
def fnExactLeavesOfRow : OpenClaim := { program := "ytochmifhhigfhaa", sum := "2399f0a2bd1c1efad3b288e90625b23af95a58900646e47f296581244bb22645", func := "loop.example/g01115/laws.FnExactLeavesOf", spec := "fnExactLeavesOf", unfollowed := true, recurses := true, apart := false }
def FnExactLeavesOfSaid : Prop := fnExactLeavesOfRow.holds Try.pinned (OpenSpec.ofChange fnExactLeavesOfSpec)

/-- ITS FALSE NEIGHBOUR: 'it returns false'. Refute it at one input. -/
def fnExactLeavesOfWrong : ChangeSpec := { name := "fnExactLeavesOf", fn := fun _ => fun
  | [d] => { results := [.lit (.bool false)], args := [d] }
  | _ => none }
def FnExactLeavesOfWrongFalsely : Prop := fnExactLeavesOfRow.holds Try.pinned (OpenSpec.ofChange fnExactLeavesOfWrong)

/- THE SECOND FORM. 'bulk': how many values and letters a reading holds, each counted each time it is reached (what is shared counts as often as it is met; a slice's spare places count too). A statement '..UptoSaid' is the law's where the arguments, and the package variables that the reading takes, are together of bulk at most 1048576: NARROWER than '..Said'. Prove '..Said' where nothing that the law and all that it calls make is longer than what came in: it says more and counts as full. Else prove '..UptoSaid'. A law counts once. -/
mutual
def uptoBulk {H : Type} : DataW H → Nat
  | .lit (.string bytes) => bytes.length + 1
  | .lit _ => 1
  | .nil => 1
  | .ptr d => uptoBulk d + 1
  | .slice elems spare => uptoBulkAll elems + uptoBulkAll spare + 1
  | .agg parts => uptoBulkAll parts + 1
  | .iface _ d => uptoBulk d + 1
  | .map entries => uptoBulkEntries entries + 1
  | .held _ => 1
def uptoBulkAll {H : Type} : List (DataW H) → Nat
  | [] => 0
  | d :: r => uptoBulk d + uptoBulkAll r
def uptoBulkEntries {H : Type} : List (Lit × DataW H) → Nat
  | [] => 0
  | x :: r => uptoBulkEntry x + uptoBulkEntries r
def uptoBulkEntry {H : Type} : Lit × DataW H → Nat
  | (.string bytes, d) => bytes.length + uptoBulk d + 1
  | (_, d) => uptoBulk d + 1
 end
def uptoSmall : (H : Type) → List (DataW H) → Bool := fun _ ds => decide (uptoBulkAll ds ≤ 1048576)
def OpenSpec.upto (s : _root_.Go.ChangeSpec) : _root_.Go.OpenSpec := { _root_.Go.OpenSpec.ofChange s with cond := some uptoSmall }

/-- 'laws.FnExactIsTree', WHERE WHAT IT READS IS OF BULK AT MOST 1048576: true; the input reads as it did. -/
def fnExactIsTreeUptoRow : OpenClaim := { program := "ytochmifhhigfhaa", sum := "2399f0a2bd1c1efad3b288e90625b23af95a58900646e47f296581244bb22645", func := "loop.example/g01115/laws.FnExactIsTree", spec := "fnExactIsTree", unfollowed := true, recurses := true, apart := false, narrowed := true }
def FnExactIsTreeUptoSaid : Prop := fnExactIsTreeUptoRow.holds Try.pinned (OpenSpec.upto fnExactIsTreeSpec)

/-- 'laws.FnExactPruferOf', WHERE WHAT IT READS IS OF BULK AT MOST 1048576: true; the input reads as it did. -/
def fnExactPruferOfUptoRow : OpenClaim := { program := "ytochmifhhigfhaa", sum := "2399f0a2bd1c1efad3b288e90625b23af95a58900646e47f296581244bb22645", func := "loop.example/g01115/laws.FnExactPruferOf", spec := "fnExactPruferOf", unfollowed := true, recurses := true, apart := false, narrowed := true }
def FnExactPruferOfUptoSaid : Prop := fnExactPruferOfUptoRow.holds Try.pinned (OpenSpec.upto fnExactPruferOfSpec)

/-- 'laws.FnExactTreeOfPrufer', WHERE WHAT IT READS IS OF BULK AT MOST 1048576: true; the input reads as it did. -/
def fnExactTreeOfPruferUptoRow : OpenClaim := { program := "ytochmifhhigfhaa", sum := "2399f0a2bd1c1efad3b288e90625b23af95a58900646e47f296581244bb22645", func := "loop.example/g01115/laws.FnExactTreeOfPrufer", spec := "fnExactTreeOfPrufer", apart := false, narrowed := true }
def FnExactTreeOfPruferUptoSaid : Prop := fnExactTreeOfPruferUptoRow.holds Try.pinned (OpenSpec.upto fnExactTreeOfPruferSpec)

/-- 'laws.FnExactCountTrees', WHERE WHAT IT READS IS OF BULK AT MOST 1048576: true; the input reads as it did. -/
def fnExactCountTreesUptoRow : OpenClaim := { program := "ytochmifhhigfhaa", sum := "2399f0a2bd1c1efad3b288e90625b23af95a58900646e47f296581244bb22645", func := "loop.example/g01115/laws.FnExactCountTrees", spec := "fnExactCountTrees", apart := false, narrowed := true }
def FnExactCountTreesUptoSaid : Prop := fnExactCountTreesUptoRow.holds Try.pinned (OpenSpec.upto fnExactCountTreesSpec)

/-- 'laws.FnExactAllTrees', WHERE WHAT IT READS IS OF BULK AT MOST 1048576: true; the input reads as it did. -/
def fnExactAllTreesUptoRow : OpenClaim := { program := "ytochmifhhigfhaa", sum := "2399f0a2bd1c1efad3b288e90625b23af95a58900646e47f296581244bb22645", func := "loop.example/g01115/laws.FnExactAllTrees", spec := "fnExactAllTrees", apart := false, narrowed := true }
def FnExactAllTreesUptoSaid : Prop := fnExactAllTreesUptoRow.holds Try.pinned (OpenSpec.upto fnExactAllTreesSpec)

/-- 'laws.FnExactBreadthOrder', WHERE WHAT IT READS IS OF BULK AT MOST 1048576: true; the input reads as it did. -/
def fnExactBreadthOrderUptoRow : OpenClaim := { program := "ytochmifhhigfhaa", sum := "2399f0a2bd1c1efad3b288e90625b23af95a58900646e47f296581244bb22645", func := "loop.example/g01115/laws.FnExactBreadthOrder", spec := "fnExactBreadthOrder", unfollowed := true, recurses := true, apart := false, narrowed := true }
def FnExactBreadthOrderUptoSaid : Prop := fnExactBreadthOrderUptoRow.holds Try.pinned (OpenSpec.upto fnExactBreadthOrderSpec)

/-- 'laws.FnExactTreeOfParking', WHERE WHAT IT READS IS OF BULK AT MOST 1048576: true; the input reads as it did. -/
def fnExactTreeOfParkingUptoRow : OpenClaim := { program := "ytochmifhhigfhaa", sum := "2399f0a2bd1c1efad3b288e90625b23af95a58900646e47f296581244bb22645", func := "loop.example/g01115/laws.FnExactTreeOfParking", spec := "fnExactTreeOfParking", unfollowed := true, recurses := true, apart := false, narrowed := true }
def FnExactTreeOfParkingUptoSaid : Prop := fnExactTreeOfParkingUptoRow.holds Try.pinned (OpenSpec.upto fnExactTreeOfParkingSpec)

/-- 'laws.FnExactParkingOfTree', WHERE WHAT IT READS IS OF BULK AT MOST 1048576: true; the input reads as it did. -/
def fnExactParkingOfTreeUptoRow : OpenClaim := { program := "ytochmifhhigfhaa", sum := "2399f0a2bd1c1efad3b288e90625b23af95a58900646e47f296581244bb22645", func := "loop.example/g01115/laws.FnExactParkingOfTree", spec := "fnExactParkingOfTree", unfollowed := true, recurses := true, apart := false, narrowed := true }
def FnExactParkingOfTreeUptoSaid : Prop := fnExactParkingOfTreeUptoRow.holds Try.pinned (OpenSpec.upto fnExactParkingOfTreeSpec)

/-- 'laws.FnExactDegreesOf', WHERE WHAT IT READS IS OF BULK AT MOST 1048576: true; the input reads as it did. -/
def fnExactDegreesOfUptoRow : OpenClaim := { program := "ytochmifhhigfhaa", sum := "2399f0a2bd1c1efad3b288e90625b23af95a58900646e47f296581244bb22645", func := "loop.example/g01115/laws.FnExactDegreesOf", spec := "fnExactDegreesOf", unfollowed := true, recurses := true, apart := false, narrowed := true }
def FnExactDegreesOfUptoSaid : Prop := fnExactDegreesOfUptoRow.holds Try.pinned (OpenSpec.upto fnExactDegreesOfSpec)

/-- 'laws.FnExactDepthsOf', WHERE WHAT IT READS IS OF BULK AT MOST 1048576: true; the input reads as it did. -/
def fnExactDepthsOfUptoRow : OpenClaim := { program := "ytochmifhhigfhaa", sum := "2399f0a2bd1c1efad3b288e90625b23af95a58900646e47f296581244bb22645", func := "loop.example/g01115/laws.FnExactDepthsOf", spec := "fnExactDepthsOf", unfollowed := true, recurses := true, apart := false, narrowed := true }
def FnExactDepthsOfUptoSaid : Prop := fnExactDepthsOfUptoRow.holds Try.pinned (OpenSpec.upto fnExactDepthsOfSpec)

/-- 'laws.FnExactBelowCounts', WHERE WHAT IT READS IS OF BULK AT MOST 1048576: true; the input reads as it did. -/
def fnExactBelowCountsUptoRow : OpenClaim := { program := "ytochmifhhigfhaa", sum := "2399f0a2bd1c1efad3b288e90625b23af95a58900646e47f296581244bb22645", func := "loop.example/g01115/laws.FnExactBelowCounts", spec := "fnExactBelowCounts", unfollowed := true, recurses := true, apart := false, narrowed := true }
def FnExactBelowCountsUptoSaid : Prop := fnExactBelowCountsUptoRow.holds Try.pinned (OpenSpec.upto fnExactBelowCountsSpec)

/-- 'laws.FnExactLeavesOf', WHERE WHAT IT READS IS OF BULK AT MOST 1048576: true; the input reads as it did. -/
def fnExactLeavesOfUptoRow : OpenClaim := { program := "ytochmifhhigfhaa", sum := "2399f0a2bd1c1efad3b288e90625b23af95a58900646e47f296581244bb22645", func := "loop.example/g01115/laws.FnExactLeavesOf", spec := "fnExactLeavesOf", unfollowed := true, recurses := true, apart := false, narrowed := true }
def FnExactLeavesOfUptoSaid : Prop := fnExactLeavesOfUptoRow.holds Try.pinned (OpenSpec.upto fnExactLeavesOfSpec)

end Rows
end Go.Proofs.Ytochmifhhigfhaa
