/-
  No cell of these rows narrows 'for every input' (looked for: loops, veiled, ifaces, maps, wideKeys, modest, calm, conditions, laid).
  DERIVED. THE GIVEN ROWS OF THIS SEAT. 12 by the template 'for every input the law returns true; each argument reads behind the call as it read before'; 0 by the template 'total and deterministic' (their statements: YtpjgidjkpcbniaaTotals.lean).
  GIVEN WITH THE SEED: the statements are not yours to turn. If you find one false, say at which input.
  Laid BY PROGRAM, IN A SANDBOX (cutbox-rows.mjs): the forced cells as the released guide's own fill.sh prints them over the translation 01e82f3948e2bfca… (all of the seat's roots in one cut). By AI agents, Wed Nov 11 2026. No macro, syntax, notation, axiom, sorry.
-/
import Derived.Test.YtpjgidjkpcbniaaChecked
import GoSem.Claim
import GoSem.ClaimJoined
import GoSem.ClaimMapViews
import Derived.JoinedTies
import Derived.KernelRfl
namespace Go.Proofs.Ytpjgidjkpcbniaa
/- THE CELL 'sum', in the pinned program and in every row, IS THE sha256 OF THE DUMP (.gsa) THAT YtpjgidjkpcbniaaProg.lean LOADS. Nothing in Lean hashes anything: it is a label: what it is worth is what the hold of that sum in a sandbox is worth. -/
noncomputable def Try.pinned : Pinned := { name := "ytpjgidjkpcbniaa", sum := "01e82f3948e2bfca2cf361e030abdb845f7b149a39131c6071ebc482a0d07ab9", checked := Try.checked }
namespace Rows
def none {H : Type} : Left H := { results := [], args := [] }

/-- 'laws.FnExactAreHeights': WHATEVER THE INPUT: true; the input reads as it did. -/
def fnExactAreHeightsSpec : ChangeSpec := { name := "fnExactAreHeights", fn := fun _ => fun
  | [d] => { results := [.lit (.bool true)], args := [d] }
  | _ => none }
def fnExactAreHeightsRow : OpenClaim := { program := "ytpjgidjkpcbniaa", sum := "01e82f3948e2bfca2cf361e030abdb845f7b149a39131c6071ebc482a0d07ab9", func := "loop.example/g01115/laws.FnExactAreHeights", spec := "fnExactAreHeights", apart := false }
def FnExactAreHeightsSaid : Prop := fnExactAreHeightsRow.holds Try.pinned (OpenSpec.ofChange fnExactAreHeightsSpec)

/-- ITS FALSE NEIGHBOUR: 'it returns false'. Refute it at one input. -/
def fnExactAreHeightsWrong : ChangeSpec := { name := "fnExactAreHeights", fn := fun _ => fun
  | [d] => { results := [.lit (.bool false)], args := [d] }
  | _ => none }
def FnExactAreHeightsWrongFalsely : Prop := fnExactAreHeightsRow.holds Try.pinned (OpenSpec.ofChange fnExactAreHeightsWrong)

/-- 'laws.FnExactIsWalk': WHATEVER THE INPUT: true; the input reads as it did. -/
def fnExactIsWalkSpec : ChangeSpec := { name := "fnExactIsWalk", fn := fun _ => fun
  | [d] => { results := [.lit (.bool true)], args := [d] }
  | _ => none }
def fnExactIsWalkRow : OpenClaim := { program := "ytpjgidjkpcbniaa", sum := "01e82f3948e2bfca2cf361e030abdb845f7b149a39131c6071ebc482a0d07ab9", func := "loop.example/g01115/laws.FnExactIsWalk", spec := "fnExactIsWalk", apart := false }
def FnExactIsWalkSaid : Prop := fnExactIsWalkRow.holds Try.pinned (OpenSpec.ofChange fnExactIsWalkSpec)

/-- ITS FALSE NEIGHBOUR: 'it returns false'. Refute it at one input. -/
def fnExactIsWalkWrong : ChangeSpec := { name := "fnExactIsWalk", fn := fun _ => fun
  | [d] => { results := [.lit (.bool false)], args := [d] }
  | _ => none }
def FnExactIsWalkWrongFalsely : Prop := fnExactIsWalkRow.holds Try.pinned (OpenSpec.ofChange fnExactIsWalkWrong)

/-- 'laws.FnExactParkingOfWalk': WHATEVER THE INPUT: true; the input reads as it did. -/
def fnExactParkingOfWalkSpec : ChangeSpec := { name := "fnExactParkingOfWalk", fn := fun _ => fun
  | [d] => { results := [.lit (.bool true)], args := [d] }
  | _ => none }
def fnExactParkingOfWalkRow : OpenClaim := { program := "ytpjgidjkpcbniaa", sum := "01e82f3948e2bfca2cf361e030abdb845f7b149a39131c6071ebc482a0d07ab9", func := "loop.example/g01115/laws.FnExactParkingOfWalk", spec := "fnExactParkingOfWalk", apart := false }
def FnExactParkingOfWalkSaid : Prop := fnExactParkingOfWalkRow.holds Try.pinned (OpenSpec.ofChange fnExactParkingOfWalkSpec)

/-- ITS FALSE NEIGHBOUR: 'it returns false'. Refute it at one input. -/
def fnExactParkingOfWalkWrong : ChangeSpec := { name := "fnExactParkingOfWalk", fn := fun _ => fun
  | [d] => { results := [.lit (.bool false)], args := [d] }
  | _ => none }
def FnExactParkingOfWalkWrongFalsely : Prop := fnExactParkingOfWalkRow.holds Try.pinned (OpenSpec.ofChange fnExactParkingOfWalkWrong)

/-- 'laws.FnExactAreaOf': WHATEVER THE INPUT: true; the input reads as it did. -/
def fnExactAreaOfSpec : ChangeSpec := { name := "fnExactAreaOf", fn := fun _ => fun
  | [d] => { results := [.lit (.bool true)], args := [d] }
  | _ => none }
def fnExactAreaOfRow : OpenClaim := { program := "ytpjgidjkpcbniaa", sum := "01e82f3948e2bfca2cf361e030abdb845f7b149a39131c6071ebc482a0d07ab9", func := "loop.example/g01115/laws.FnExactAreaOf", spec := "fnExactAreaOf", apart := false }
def FnExactAreaOfSaid : Prop := fnExactAreaOfRow.holds Try.pinned (OpenSpec.ofChange fnExactAreaOfSpec)

/-- ITS FALSE NEIGHBOUR: 'it returns false'. Refute it at one input. -/
def fnExactAreaOfWrong : ChangeSpec := { name := "fnExactAreaOf", fn := fun _ => fun
  | [d] => { results := [.lit (.bool false)], args := [d] }
  | _ => none }
def FnExactAreaOfWrongFalsely : Prop := fnExactAreaOfRow.holds Try.pinned (OpenSpec.ofChange fnExactAreaOfWrong)

/-- 'laws.FnExactTouchesOf': WHATEVER THE INPUT: true; the input reads as it did. -/
def fnExactTouchesOfSpec : ChangeSpec := { name := "fnExactTouchesOf", fn := fun _ => fun
  | [d] => { results := [.lit (.bool true)], args := [d] }
  | _ => none }
def fnExactTouchesOfRow : OpenClaim := { program := "ytpjgidjkpcbniaa", sum := "01e82f3948e2bfca2cf361e030abdb845f7b149a39131c6071ebc482a0d07ab9", func := "loop.example/g01115/laws.FnExactTouchesOf", spec := "fnExactTouchesOf", apart := false }
def FnExactTouchesOfSaid : Prop := fnExactTouchesOfRow.holds Try.pinned (OpenSpec.ofChange fnExactTouchesOfSpec)

/-- ITS FALSE NEIGHBOUR: 'it returns false'. Refute it at one input. -/
def fnExactTouchesOfWrong : ChangeSpec := { name := "fnExactTouchesOf", fn := fun _ => fun
  | [d] => { results := [.lit (.bool false)], args := [d] }
  | _ => none }
def FnExactTouchesOfWrongFalsely : Prop := fnExactTouchesOfRow.holds Try.pinned (OpenSpec.ofChange fnExactTouchesOfWrong)

/-- 'laws.FnExactCountHeights': WHATEVER THE INPUT: true; the input reads as it did. -/
def fnExactCountHeightsSpec : ChangeSpec := { name := "fnExactCountHeights", fn := fun _ => fun
  | [d] => { results := [.lit (.bool true)], args := [d] }
  | _ => none }
def fnExactCountHeightsRow : OpenClaim := { program := "ytpjgidjkpcbniaa", sum := "01e82f3948e2bfca2cf361e030abdb845f7b149a39131c6071ebc482a0d07ab9", func := "loop.example/g01115/laws.FnExactCountHeights", spec := "fnExactCountHeights", apart := false }
def FnExactCountHeightsSaid : Prop := fnExactCountHeightsRow.holds Try.pinned (OpenSpec.ofChange fnExactCountHeightsSpec)

/-- ITS FALSE NEIGHBOUR: 'it returns false'. Refute it at one input. -/
def fnExactCountHeightsWrong : ChangeSpec := { name := "fnExactCountHeights", fn := fun _ => fun
  | [d] => { results := [.lit (.bool false)], args := [d] }
  | _ => none }
def FnExactCountHeightsWrongFalsely : Prop := fnExactCountHeightsRow.holds Try.pinned (OpenSpec.ofChange fnExactCountHeightsWrong)

/-- 'laws.FnExactCountLabels': WHATEVER THE INPUT: true; the input reads as it did. -/
def fnExactCountLabelsSpec : ChangeSpec := { name := "fnExactCountLabels", fn := fun _ => fun
  | [d] => { results := [.lit (.bool true)], args := [d] }
  | _ => none }
def fnExactCountLabelsRow : OpenClaim := { program := "ytpjgidjkpcbniaa", sum := "01e82f3948e2bfca2cf361e030abdb845f7b149a39131c6071ebc482a0d07ab9", func := "loop.example/g01115/laws.FnExactCountLabels", spec := "fnExactCountLabels", apart := false }
def FnExactCountLabelsSaid : Prop := fnExactCountLabelsRow.holds Try.pinned (OpenSpec.ofChange fnExactCountLabelsSpec)

/-- ITS FALSE NEIGHBOUR: 'it returns false'. Refute it at one input. -/
def fnExactCountLabelsWrong : ChangeSpec := { name := "fnExactCountLabels", fn := fun _ => fun
  | [d] => { results := [.lit (.bool false)], args := [d] }
  | _ => none }
def FnExactCountLabelsWrongFalsely : Prop := fnExactCountLabelsRow.holds Try.pinned (OpenSpec.ofChange fnExactCountLabelsWrong)

/-- 'laws.FnExactFirstLabels': WHATEVER THE INPUT: true; the input reads as it did. -/
def fnExactFirstLabelsSpec : ChangeSpec := { name := "fnExactFirstLabels", fn := fun _ => fun
  | [d] => { results := [.lit (.bool true)], args := [d] }
  | _ => none }
def fnExactFirstLabelsRow : OpenClaim := { program := "ytpjgidjkpcbniaa", sum := "01e82f3948e2bfca2cf361e030abdb845f7b149a39131c6071ebc482a0d07ab9", func := "loop.example/g01115/laws.FnExactFirstLabels", spec := "fnExactFirstLabels", apart := false }
def FnExactFirstLabelsSaid : Prop := fnExactFirstLabelsRow.holds Try.pinned (OpenSpec.ofChange fnExactFirstLabelsSpec)

/-- ITS FALSE NEIGHBOUR: 'it returns false'. Refute it at one input. -/
def fnExactFirstLabelsWrong : ChangeSpec := { name := "fnExactFirstLabels", fn := fun _ => fun
  | [d] => { results := [.lit (.bool false)], args := [d] }
  | _ => none }
def FnExactFirstLabelsWrongFalsely : Prop := fnExactFirstLabelsRow.holds Try.pinned (OpenSpec.ofChange fnExactFirstLabelsWrong)

/-- 'laws.FnExactBounceOf': WHATEVER THE INPUT: true; the input reads as it did. -/
def fnExactBounceOfSpec : ChangeSpec := { name := "fnExactBounceOf", fn := fun _ => fun
  | [d] => { results := [.lit (.bool true)], args := [d] }
  | _ => none }
def fnExactBounceOfRow : OpenClaim := { program := "ytpjgidjkpcbniaa", sum := "01e82f3948e2bfca2cf361e030abdb845f7b149a39131c6071ebc482a0d07ab9", func := "loop.example/g01115/laws.FnExactBounceOf", spec := "fnExactBounceOf", apart := false }
def FnExactBounceOfSaid : Prop := fnExactBounceOfRow.holds Try.pinned (OpenSpec.ofChange fnExactBounceOfSpec)

/-- ITS FALSE NEIGHBOUR: 'it returns false'. Refute it at one input. -/
def fnExactBounceOfWrong : ChangeSpec := { name := "fnExactBounceOf", fn := fun _ => fun
  | [d] => { results := [.lit (.bool false)], args := [d] }
  | _ => none }
def FnExactBounceOfWrongFalsely : Prop := fnExactBounceOfRow.holds Try.pinned (OpenSpec.ofChange fnExactBounceOfWrong)

/-- 'laws.FnExactTurnHeights': WHATEVER THE INPUT: true; the input reads as it did. -/
def fnExactTurnHeightsSpec : ChangeSpec := { name := "fnExactTurnHeights", fn := fun _ => fun
  | [d] => { results := [.lit (.bool true)], args := [d] }
  | _ => none }
def fnExactTurnHeightsRow : OpenClaim := { program := "ytpjgidjkpcbniaa", sum := "01e82f3948e2bfca2cf361e030abdb845f7b149a39131c6071ebc482a0d07ab9", func := "loop.example/g01115/laws.FnExactTurnHeights", spec := "fnExactTurnHeights", apart := false }
def FnExactTurnHeightsSaid : Prop := fnExactTurnHeightsRow.holds Try.pinned (OpenSpec.ofChange fnExactTurnHeightsSpec)

/-- ITS FALSE NEIGHBOUR: 'it returns false'. Refute it at one input. -/
def fnExactTurnHeightsWrong : ChangeSpec := { name := "fnExactTurnHeights", fn := fun _ => fun
  | [d] => { results := [.lit (.bool false)], args := [d] }
  | _ => none }
def FnExactTurnHeightsWrongFalsely : Prop := fnExactTurnHeightsRow.holds Try.pinned (OpenSpec.ofChange fnExactTurnHeightsWrong)

/-- 'laws.FnExactPairsOf': WHATEVER THE INPUT: true; the input reads as it did. -/
def fnExactPairsOfSpec : ChangeSpec := { name := "fnExactPairsOf", fn := fun _ => fun
  | [d] => { results := [.lit (.bool true)], args := [d] }
  | _ => none }
def fnExactPairsOfRow : OpenClaim := { program := "ytpjgidjkpcbniaa", sum := "01e82f3948e2bfca2cf361e030abdb845f7b149a39131c6071ebc482a0d07ab9", func := "loop.example/g01115/laws.FnExactPairsOf", spec := "fnExactPairsOf", apart := false }
def FnExactPairsOfSaid : Prop := fnExactPairsOfRow.holds Try.pinned (OpenSpec.ofChange fnExactPairsOfSpec)

/-- ITS FALSE NEIGHBOUR: 'it returns false'. Refute it at one input. -/
def fnExactPairsOfWrong : ChangeSpec := { name := "fnExactPairsOf", fn := fun _ => fun
  | [d] => { results := [.lit (.bool false)], args := [d] }
  | _ => none }
def FnExactPairsOfWrongFalsely : Prop := fnExactPairsOfRow.holds Try.pinned (OpenSpec.ofChange fnExactPairsOfWrong)

/-- 'laws.FnExactPairCount': WHATEVER THE INPUT: true; the input reads as it did. -/
def fnExactPairCountSpec : ChangeSpec := { name := "fnExactPairCount", fn := fun _ => fun
  | [d] => { results := [.lit (.bool true)], args := [d] }
  | _ => none }
def fnExactPairCountRow : OpenClaim := { program := "ytpjgidjkpcbniaa", sum := "01e82f3948e2bfca2cf361e030abdb845f7b149a39131c6071ebc482a0d07ab9", func := "loop.example/g01115/laws.FnExactPairCount", spec := "fnExactPairCount", apart := false }
def FnExactPairCountSaid : Prop := fnExactPairCountRow.holds Try.pinned (OpenSpec.ofChange fnExactPairCountSpec)

/-- ITS FALSE NEIGHBOUR: 'it returns false'. Refute it at one input. -/
def fnExactPairCountWrong : ChangeSpec := { name := "fnExactPairCount", fn := fun _ => fun
  | [d] => { results := [.lit (.bool false)], args := [d] }
  | _ => none }
def FnExactPairCountWrongFalsely : Prop := fnExactPairCountRow.holds Try.pinned (OpenSpec.ofChange fnExactPairCountWrong)

/- THE SECOND FORM. 'bulk': how many values and letters a reading holds, each counted each time it is reached (what is shared counts as often as it is met; a slice's spare places count too). A statement '..UptoSaid' is the law's where the arguments, and the package variables that the reading takes, are together of bulk at most 1048576: NARROWER than '..Said'. Prove '..Said' where nothing that the law and all that it calls make is longer than what came in: it says more and counts as full. Else prove '..UptoSaid'. A law counts once. -/
mutual
def uptoBulk {H : Type} : DataW H → Nat
  | .lit (.string bytes) => bytes.length + 1
  | .lit _ => 1
  | .nil => 1
  | .ptr d => uptoBulk d + 1
  | .slice elems spare => uptoBulkAll elems + uptoBulkAll spare + 1
  | .agg parts => uptoBulkAll parts + 1
  | .iface _ d => uptoBulk d + 1
  | .map entries => uptoBulkEntries entries + 1
  | .held _ => 1
def uptoBulkAll {H : Type} : List (DataW H) → Nat
  | [] => 0
  | d :: r => uptoBulk d + uptoBulkAll r
def uptoBulkEntries {H : Type} : List (Lit × DataW H) → Nat
  | [] => 0
  | x :: r => uptoBulkEntry x + uptoBulkEntries r
def uptoBulkEntry {H : Type} : Lit × DataW H → Nat
  | (.string bytes, d) => bytes.length + uptoBulk d + 1
  | (_, d) => uptoBulk d + 1
 end
def uptoSmall : (H : Type) → List (DataW H) → Bool := fun _ ds => decide (uptoBulkAll ds ≤ 1048576)
def OpenSpec.upto (s : _root_.Go.ChangeSpec) : _root_.Go.OpenSpec := { _root_.Go.OpenSpec.ofChange s with cond := some uptoSmall }

/-- 'laws.FnExactAreHeights', WHERE WHAT IT READS IS OF BULK AT MOST 1048576: true; the input reads as it did. -/
def fnExactAreHeightsUptoRow : OpenClaim := { program := "ytpjgidjkpcbniaa", sum := "01e82f3948e2bfca2cf361e030abdb845f7b149a39131c6071ebc482a0d07ab9", func := "loop.example/g01115/laws.FnExactAreHeights", spec := "fnExactAreHeights", apart := false, narrowed := true }
def FnExactAreHeightsUptoSaid : Prop := fnExactAreHeightsUptoRow.holds Try.pinned (OpenSpec.upto fnExactAreHeightsSpec)

/-- 'laws.FnExactIsWalk', WHERE WHAT IT READS IS OF BULK AT MOST 1048576: true; the input reads as it did. -/
def fnExactIsWalkUptoRow : OpenClaim := { program := "ytpjgidjkpcbniaa", sum := "01e82f3948e2bfca2cf361e030abdb845f7b149a39131c6071ebc482a0d07ab9", func := "loop.example/g01115/laws.FnExactIsWalk", spec := "fnExactIsWalk", apart := false, narrowed := true }
def FnExactIsWalkUptoSaid : Prop := fnExactIsWalkUptoRow.holds Try.pinned (OpenSpec.upto fnExactIsWalkSpec)

/-- 'laws.FnExactParkingOfWalk', WHERE WHAT IT READS IS OF BULK AT MOST 1048576: true; the input reads as it did. -/
def fnExactParkingOfWalkUptoRow : OpenClaim := { program := "ytpjgidjkpcbniaa", sum := "01e82f3948e2bfca2cf361e030abdb845f7b149a39131c6071ebc482a0d07ab9", func := "loop.example/g01115/laws.FnExactParkingOfWalk", spec := "fnExactParkingOfWalk", apart := false, narrowed := true }
def FnExactParkingOfWalkUptoSaid : Prop := fnExactParkingOfWalkUptoRow.holds Try.pinned (OpenSpec.upto fnExactParkingOfWalkSpec)

/-- 'laws.FnExactAreaOf', WHERE WHAT IT READS IS OF BULK AT MOST 1048576: true; the input reads as it did. -/
def fnExactAreaOfUptoRow : OpenClaim := { program := "ytpjgidjkpcbniaa", sum := "01e82f3948e2bfca2cf361e030abdb845f7b149a39131c6071ebc482a0d07ab9", func := "loop.example/g01115/laws.FnExactAreaOf", spec := "fnExactAreaOf", apart := false, narrowed := true }
def FnExactAreaOfUptoSaid : Prop := fnExactAreaOfUptoRow.holds Try.pinned (OpenSpec.upto fnExactAreaOfSpec)

/-- 'laws.FnExactTouchesOf', WHERE WHAT IT READS IS OF BULK AT MOST 1048576: true; the input reads as it did. -/
def fnExactTouchesOfUptoRow : OpenClaim := { program := "ytpjgidjkpcbniaa", sum := "01e82f3948e2bfca2cf361e030abdb845f7b149a39131c6071ebc482a0d07ab9", func := "loop.example/g01115/laws.FnExactTouchesOf", spec := "fnExactTouchesOf", apart := false, narrowed := true }
def FnExactTouchesOfUptoSaid : Prop := fnExactTouchesOfUptoRow.holds Try.pinned (OpenSpec.upto fnExactTouchesOfSpec)

/-- 'laws.FnExactCountHeights', WHERE WHAT IT READS IS OF BULK AT MOST 1048576: true; the input reads as it did. -/
def fnExactCountHeightsUptoRow : OpenClaim := { program := "ytpjgidjkpcbniaa", sum := "01e82f3948e2bfca2cf361e030abdb845f7b149a39131c6071ebc482a0d07ab9", func := "loop.example/g01115/laws.FnExactCountHeights", spec := "fnExactCountHeights", apart := false, narrowed := true }
def FnExactCountHeightsUptoSaid : Prop := fnExactCountHeightsUptoRow.holds Try.pinned (OpenSpec.upto fnExactCountHeightsSpec)

/-- 'laws.FnExactCountLabels', WHERE WHAT IT READS IS OF BULK AT MOST 1048576: true; the input reads as it did. -/
def fnExactCountLabelsUptoRow : OpenClaim := { program := "ytpjgidjkpcbniaa", sum := "01e82f3948e2bfca2cf361e030abdb845f7b149a39131c6071ebc482a0d07ab9", func := "loop.example/g01115/laws.FnExactCountLabels", spec := "fnExactCountLabels", apart := false, narrowed := true }
def FnExactCountLabelsUptoSaid : Prop := fnExactCountLabelsUptoRow.holds Try.pinned (OpenSpec.upto fnExactCountLabelsSpec)

/-- 'laws.FnExactFirstLabels', WHERE WHAT IT READS IS OF BULK AT MOST 1048576: true; the input reads as it did. -/
def fnExactFirstLabelsUptoRow : OpenClaim := { program := "ytpjgidjkpcbniaa", sum := "01e82f3948e2bfca2cf361e030abdb845f7b149a39131c6071ebc482a0d07ab9", func := "loop.example/g01115/laws.FnExactFirstLabels", spec := "fnExactFirstLabels", apart := false, narrowed := true }
def FnExactFirstLabelsUptoSaid : Prop := fnExactFirstLabelsUptoRow.holds Try.pinned (OpenSpec.upto fnExactFirstLabelsSpec)

/-- 'laws.FnExactBounceOf', WHERE WHAT IT READS IS OF BULK AT MOST 1048576: true; the input reads as it did. -/
def fnExactBounceOfUptoRow : OpenClaim := { program := "ytpjgidjkpcbniaa", sum := "01e82f3948e2bfca2cf361e030abdb845f7b149a39131c6071ebc482a0d07ab9", func := "loop.example/g01115/laws.FnExactBounceOf", spec := "fnExactBounceOf", apart := false, narrowed := true }
def FnExactBounceOfUptoSaid : Prop := fnExactBounceOfUptoRow.holds Try.pinned (OpenSpec.upto fnExactBounceOfSpec)

/-- 'laws.FnExactTurnHeights', WHERE WHAT IT READS IS OF BULK AT MOST 1048576: true; the input reads as it did. -/
def fnExactTurnHeightsUptoRow : OpenClaim := { program := "ytpjgidjkpcbniaa", sum := "01e82f3948e2bfca2cf361e030abdb845f7b149a39131c6071ebc482a0d07ab9", func := "loop.example/g01115/laws.FnExactTurnHeights", spec := "fnExactTurnHeights", apart := false, narrowed := true }
def FnExactTurnHeightsUptoSaid : Prop := fnExactTurnHeightsUptoRow.holds Try.pinned (OpenSpec.upto fnExactTurnHeightsSpec)

/-- 'laws.FnExactPairsOf', WHERE WHAT IT READS IS OF BULK AT MOST 1048576: true; the input reads as it did. -/
def fnExactPairsOfUptoRow : OpenClaim := { program := "ytpjgidjkpcbniaa", sum := "01e82f3948e2bfca2cf361e030abdb845f7b149a39131c6071ebc482a0d07ab9", func := "loop.example/g01115/laws.FnExactPairsOf", spec := "fnExactPairsOf", apart := false, narrowed := true }
def FnExactPairsOfUptoSaid : Prop := fnExactPairsOfUptoRow.holds Try.pinned (OpenSpec.upto fnExactPairsOfSpec)

/-- 'laws.FnExactPairCount', WHERE WHAT IT READS IS OF BULK AT MOST 1048576: true; the input reads as it did. -/
def fnExactPairCountUptoRow : OpenClaim := { program := "ytpjgidjkpcbniaa", sum := "01e82f3948e2bfca2cf361e030abdb845f7b149a39131c6071ebc482a0d07ab9", func := "loop.example/g01115/laws.FnExactPairCount", spec := "fnExactPairCount", apart := false, narrowed := true }
def FnExactPairCountUptoSaid : Prop := fnExactPairCountUptoRow.holds Try.pinned (OpenSpec.upto fnExactPairCountSpec)

end Rows
end Go.Proofs.Ytpjgidjkpcbniaa
