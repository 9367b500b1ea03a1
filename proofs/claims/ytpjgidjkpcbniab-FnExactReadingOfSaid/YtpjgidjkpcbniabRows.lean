/-
  No cell of these rows narrows 'for every input' (looked for: loops, veiled, ifaces, maps, wideKeys, modest, calm, conditions, laid).
  DERIVED. THE GIVEN ROWS OF THIS SEAT. 12 by the template 'for every input the law returns true; each argument reads behind the call as it read before'; 0 by the template 'total and deterministic' (their statements: YtpjgidjkpcbniabTotals.lean).
  GIVEN WITH THE SEED: the statements are not yours to turn. If you find one false, say at which input.
  Laid BY PROGRAM, IN A SANDBOX (cutbox-rows.mjs): the forced cells as the released guide's own fill.sh prints them over the translation f3088996c191b40d… (all of the seat's roots in one cut). By AI agents, Wed Nov 11 2026. No macro, syntax, notation, axiom, sorry.
-/
import Derived.Test.YtpjgidjkpcbniabChecked
import GoSem.Claim
import GoSem.ClaimJoined
import GoSem.ClaimMapViews
import Derived.JoinedTies
import Derived.KernelRfl
namespace Go.Proofs.Ytpjgidjkpcbniab
/- THE CELL 'sum', in the pinned program and in every row, IS THE sha256 OF THE DUMP (.gsa) THAT YtpjgidjkpcbniabProg.lean LOADS. Nothing in Lean hashes anything: it is a label: what it is worth is what the hold of that sum in a sandbox is worth. -/
noncomputable def Try.pinned : Pinned := { name := "ytpjgidjkpcbniab", sum := "f3088996c191b40d0aa3067115d5c36725e474900d76ff975304b50ed5833b67", checked := Try.checked }
namespace Rows
def none {H : Type} : Left H := { results := [], args := [] }

/-- 'laws.FnExactReadingOf': WHATEVER THE INPUT: true; the input reads as it did. -/
def fnExactReadingOfSpec : ChangeSpec := { name := "fnExactReadingOf", fn := fun _ => fun
  | [d] => { results := [.lit (.bool true)], args := [d] }
  | _ => none }
def fnExactReadingOfRow : OpenClaim := { program := "ytpjgidjkpcbniab", sum := "f3088996c191b40d0aa3067115d5c36725e474900d76ff975304b50ed5833b67", func := "loop.example/g01115/laws.FnExactReadingOf", spec := "fnExactReadingOf", unfollowed := true, recurses := true, apart := false }
def FnExactReadingOfSaid : Prop := fnExactReadingOfRow.holds Try.pinned (OpenSpec.ofChange fnExactReadingOfSpec)

/-- ITS FALSE NEIGHBOUR: 'it returns false'. Refute it at one input. -/
def fnExactReadingOfWrong : ChangeSpec := { name := "fnExactReadingOf", fn := fun _ => fun
  | [d] => { results := [.lit (.bool false)], args := [d] }
  | _ => none }
def FnExactReadingOfWrongFalsely : Prop := fnExactReadingOfRow.holds Try.pinned (OpenSpec.ofChange fnExactReadingOfWrong)

/-- 'laws.FnExactWalkOfParking': WHATEVER THE INPUT: true; the input reads as it did. -/
def fnExactWalkOfParkingSpec : ChangeSpec := { name := "fnExactWalkOfParking", fn := fun _ => fun
  | [d] => { results := [.lit (.bool true)], args := [d] }
  | _ => none }
def fnExactWalkOfParkingRow : OpenClaim := { program := "ytpjgidjkpcbniab", sum := "f3088996c191b40d0aa3067115d5c36725e474900d76ff975304b50ed5833b67", func := "loop.example/g01115/laws.FnExactWalkOfParking", spec := "fnExactWalkOfParking", unfollowed := true, recurses := true, apart := false }
def FnExactWalkOfParkingSaid : Prop := fnExactWalkOfParkingRow.holds Try.pinned (OpenSpec.ofChange fnExactWalkOfParkingSpec)

/-- ITS FALSE NEIGHBOUR: 'it returns false'. Refute it at one input. -/
def fnExactWalkOfParkingWrong : ChangeSpec := { name := "fnExactWalkOfParking", fn := fun _ => fun
  | [d] => { results := [.lit (.bool false)], args := [d] }
  | _ => none }
def FnExactWalkOfParkingWrongFalsely : Prop := fnExactWalkOfParkingRow.holds Try.pinned (OpenSpec.ofChange fnExactWalkOfParkingWrong)

/-- 'laws.FnExactSpreadOfWalks': WHATEVER THE INPUT: true; the input reads as it did. -/
def fnExactSpreadOfWalksSpec : ChangeSpec := { name := "fnExactSpreadOfWalks", fn := fun _ => fun
  | [d] => { results := [.lit (.bool true)], args := [d] }
  | _ => none }
def fnExactSpreadOfWalksRow : OpenClaim := { program := "ytpjgidjkpcbniab", sum := "f3088996c191b40d0aa3067115d5c36725e474900d76ff975304b50ed5833b67", func := "loop.example/g01115/laws.FnExactSpreadOfWalks", spec := "fnExactSpreadOfWalks", unfollowed := true, recurses := true, apart := false }
def FnExactSpreadOfWalksSaid : Prop := fnExactSpreadOfWalksRow.holds Try.pinned (OpenSpec.ofChange fnExactSpreadOfWalksSpec)

/-- ITS FALSE NEIGHBOUR: 'it returns false'. Refute it at one input. -/
def fnExactSpreadOfWalksWrong : ChangeSpec := { name := "fnExactSpreadOfWalks", fn := fun _ => fun
  | [d] => { results := [.lit (.bool false)], args := [d] }
  | _ => none }
def FnExactSpreadOfWalksWrongFalsely : Prop := fnExactSpreadOfWalksRow.holds Try.pinned (OpenSpec.ofChange fnExactSpreadOfWalksWrong)

/-- 'laws.FnExactAllHeights': WHATEVER THE INPUT: true; the input reads as it did. -/
def fnExactAllHeightsSpec : ChangeSpec := { name := "fnExactAllHeights", fn := fun _ => fun
  | [d] => { results := [.lit (.bool true)], args := [d] }
  | _ => none }
def fnExactAllHeightsRow : OpenClaim := { program := "ytpjgidjkpcbniab", sum := "f3088996c191b40d0aa3067115d5c36725e474900d76ff975304b50ed5833b67", func := "loop.example/g01115/laws.FnExactAllHeights", spec := "fnExactAllHeights", unfollowed := true, recurses := true, apart := false }
def FnExactAllHeightsSaid : Prop := fnExactAllHeightsRow.holds Try.pinned (OpenSpec.ofChange fnExactAllHeightsSpec)

/-- ITS FALSE NEIGHBOUR: 'it returns false'. Refute it at one input. -/
def fnExactAllHeightsWrong : ChangeSpec := { name := "fnExactAllHeights", fn := fun _ => fun
  | [d] => { results := [.lit (.bool false)], args := [d] }
  | _ => none }
def FnExactAllHeightsWrongFalsely : Prop := fnExactAllHeightsRow.holds Try.pinned (OpenSpec.ofChange fnExactAllHeightsWrong)

/-- 'laws.FnExactInversionPairs': WHATEVER THE INPUT: true; the input reads as it did. -/
def fnExactInversionPairsSpec : ChangeSpec := { name := "fnExactInversionPairs", fn := fun _ => fun
  | [d] => { results := [.lit (.bool true)], args := [d] }
  | _ => none }
def fnExactInversionPairsRow : OpenClaim := { program := "ytpjgidjkpcbniab", sum := "f3088996c191b40d0aa3067115d5c36725e474900d76ff975304b50ed5833b67", func := "loop.example/g01115/laws.FnExactInversionPairs", spec := "fnExactInversionPairs", unfollowed := true, recurses := true, apart := false }
def FnExactInversionPairsSaid : Prop := fnExactInversionPairsRow.holds Try.pinned (OpenSpec.ofChange fnExactInversionPairsSpec)

/-- ITS FALSE NEIGHBOUR: 'it returns false'. Refute it at one input. -/
def fnExactInversionPairsWrong : ChangeSpec := { name := "fnExactInversionPairs", fn := fun _ => fun
  | [d] => { results := [.lit (.bool false)], args := [d] }
  | _ => none }
def FnExactInversionPairsWrongFalsely : Prop := fnExactInversionPairsRow.holds Try.pinned (OpenSpec.ofChange fnExactInversionPairsWrong)

/-- 'laws.FnExactInversionsOf': WHATEVER THE INPUT: true; the input reads as it did. -/
def fnExactInversionsOfSpec : ChangeSpec := { name := "fnExactInversionsOf", fn := fun _ => fun
  | [d] => { results := [.lit (.bool true)], args := [d] }
  | _ => none }
def fnExactInversionsOfRow : OpenClaim := { program := "ytpjgidjkpcbniab", sum := "f3088996c191b40d0aa3067115d5c36725e474900d76ff975304b50ed5833b67", func := "loop.example/g01115/laws.FnExactInversionsOf", spec := "fnExactInversionsOf", unfollowed := true, recurses := true, apart := false }
def FnExactInversionsOfSaid : Prop := fnExactInversionsOfRow.holds Try.pinned (OpenSpec.ofChange fnExactInversionsOfSpec)

/-- ITS FALSE NEIGHBOUR: 'it returns false'. Refute it at one input. -/
def fnExactInversionsOfWrong : ChangeSpec := { name := "fnExactInversionsOf", fn := fun _ => fun
  | [d] => { results := [.lit (.bool false)], args := [d] }
  | _ => none }
def FnExactInversionsOfWrongFalsely : Prop := fnExactInversionsOfRow.holds Try.pinned (OpenSpec.ofChange fnExactInversionsOfWrong)

/-- 'laws.FnExactAllTrees': WHATEVER THE INPUT: true; the input reads as it did. -/
def fnExactAllTreesSpec : ChangeSpec := { name := "fnExactAllTrees", fn := fun _ => fun
  | [d] => { results := [.lit (.bool true)], args := [d] }
  | _ => none }
def fnExactAllTreesRow : OpenClaim := { program := "ytpjgidjkpcbniab", sum := "f3088996c191b40d0aa3067115d5c36725e474900d76ff975304b50ed5833b67", func := "loop.example/g01115/laws.FnExactAllTrees", spec := "fnExactAllTrees", apart := false }
def FnExactAllTreesSaid : Prop := fnExactAllTreesRow.holds Try.pinned (OpenSpec.ofChange fnExactAllTreesSpec)

/-- ITS FALSE NEIGHBOUR: 'it returns false'. Refute it at one input. -/
def fnExactAllTreesWrong : ChangeSpec := { name := "fnExactAllTrees", fn := fun _ => fun
  | [d] => { results := [.lit (.bool false)], args := [d] }
  | _ => none }
def FnExactAllTreesWrongFalsely : Prop := fnExactAllTreesRow.holds Try.pinned (OpenSpec.ofChange fnExactAllTreesWrong)

/-- 'laws.FnExactCountByInversions': WHATEVER THE INPUT: true; the input reads as it did. -/
def fnExactCountByInversionsSpec : ChangeSpec := { name := "fnExactCountByInversions", fn := fun _ => fun
  | [d] => { results := [.lit (.bool true)], args := [d] }
  | _ => none }
def fnExactCountByInversionsRow : OpenClaim := { program := "ytpjgidjkpcbniab", sum := "f3088996c191b40d0aa3067115d5c36725e474900d76ff975304b50ed5833b67", func := "loop.example/g01115/laws.FnExactCountByInversions", spec := "fnExactCountByInversions", unfollowed := true, recurses := true, apart := false }
def FnExactCountByInversionsSaid : Prop := fnExactCountByInversionsRow.holds Try.pinned (OpenSpec.ofChange fnExactCountByInversionsSpec)

/-- ITS FALSE NEIGHBOUR: 'it returns false'. Refute it at one input. -/
def fnExactCountByInversionsWrong : ChangeSpec := { name := "fnExactCountByInversions", fn := fun _ => fun
  | [d] => { results := [.lit (.bool false)], args := [d] }
  | _ => none }
def FnExactCountByInversionsWrongFalsely : Prop := fnExactCountByInversionsRow.holds Try.pinned (OpenSpec.ofChange fnExactCountByInversionsWrong)

/-- 'laws.FnExactCountWithOutcome': WHATEVER THE INPUT: true; the input reads as it did. -/
def fnExactCountWithOutcomeSpec : ChangeSpec := { name := "fnExactCountWithOutcome", fn := fun _ => fun
  | [d] => { results := [.lit (.bool true)], args := [d] }
  | _ => none }
def fnExactCountWithOutcomeRow : OpenClaim := { program := "ytpjgidjkpcbniab", sum := "f3088996c191b40d0aa3067115d5c36725e474900d76ff975304b50ed5833b67", func := "loop.example/g01115/laws.FnExactCountWithOutcome", spec := "fnExactCountWithOutcome", apart := false }
def FnExactCountWithOutcomeSaid : Prop := fnExactCountWithOutcomeRow.holds Try.pinned (OpenSpec.ofChange fnExactCountWithOutcomeSpec)

/-- ITS FALSE NEIGHBOUR: 'it returns false'. Refute it at one input. -/
def fnExactCountWithOutcomeWrong : ChangeSpec := { name := "fnExactCountWithOutcome", fn := fun _ => fun
  | [d] => { results := [.lit (.bool false)], args := [d] }
  | _ => none }
def FnExactCountWithOutcomeWrongFalsely : Prop := fnExactCountWithOutcomeRow.holds Try.pinned (OpenSpec.ofChange fnExactCountWithOutcomeWrong)

/-- 'laws.FnExactAllWithOutcome': WHATEVER THE INPUT: true; the input reads as it did. -/
def fnExactAllWithOutcomeSpec : ChangeSpec := { name := "fnExactAllWithOutcome", fn := fun _ => fun
  | [d] => { results := [.lit (.bool true)], args := [d] }
  | _ => none }
def fnExactAllWithOutcomeRow : OpenClaim := { program := "ytpjgidjkpcbniab", sum := "f3088996c191b40d0aa3067115d5c36725e474900d76ff975304b50ed5833b67", func := "loop.example/g01115/laws.FnExactAllWithOutcome", spec := "fnExactAllWithOutcome", recurses := true, apart := false }
def FnExactAllWithOutcomeSaid : Prop := fnExactAllWithOutcomeRow.holds Try.pinned (OpenSpec.ofChange fnExactAllWithOutcomeSpec)

/-- ITS FALSE NEIGHBOUR: 'it returns false'. Refute it at one input. -/
def fnExactAllWithOutcomeWrong : ChangeSpec := { name := "fnExactAllWithOutcome", fn := fun _ => fun
  | [d] => { results := [.lit (.bool false)], args := [d] }
  | _ => none }
def FnExactAllWithOutcomeWrongFalsely : Prop := fnExactAllWithOutcomeRow.holds Try.pinned (OpenSpec.ofChange fnExactAllWithOutcomeWrong)

/-- 'laws.FnOutcomesCounted': WHATEVER THE INPUT: true; the input reads as it did. -/
def fnOutcomesCountedSpec : ChangeSpec := { name := "fnOutcomesCounted", fn := fun _ => fun
  | [d1, d2] => { results := [.lit (.bool true)], args := [d1, d2] }
  | _ => none }
def fnOutcomesCountedRow : OpenClaim := { program := "ytpjgidjkpcbniab", sum := "f3088996c191b40d0aa3067115d5c36725e474900d76ff975304b50ed5833b67", func := "loop.example/g01115/laws.FnOutcomesCounted", spec := "fnOutcomesCounted", unfollowed := true, recurses := true, apart := false }
def FnOutcomesCountedSaid : Prop := fnOutcomesCountedRow.holds Try.pinned (OpenSpec.ofChange fnOutcomesCountedSpec)

/-- ITS FALSE NEIGHBOUR: 'it returns false'. Refute it at one input. -/
def fnOutcomesCountedWrong : ChangeSpec := { name := "fnOutcomesCounted", fn := fun _ => fun
  | [d1, d2] => { results := [.lit (.bool false)], args := [d1, d2] }
  | _ => none }
def FnOutcomesCountedWrongFalsely : Prop := fnOutcomesCountedRow.holds Try.pinned (OpenSpec.ofChange fnOutcomesCountedWrong)

/-- 'laws.FnTreesMeasured': WHATEVER THE INPUT: true; the input reads as it did. -/
def fnTreesMeasuredSpec : ChangeSpec := { name := "fnTreesMeasured", fn := fun _ => fun
  | [d1, d2] => { results := [.lit (.bool true)], args := [d1, d2] }
  | _ => none }
def fnTreesMeasuredRow : OpenClaim := { program := "ytpjgidjkpcbniab", sum := "f3088996c191b40d0aa3067115d5c36725e474900d76ff975304b50ed5833b67", func := "loop.example/g01115/laws.FnTreesMeasured", spec := "fnTreesMeasured", unfollowed := true, recurses := true, apart := false }
def FnTreesMeasuredSaid : Prop := fnTreesMeasuredRow.holds Try.pinned (OpenSpec.ofChange fnTreesMeasuredSpec)

/-- ITS FALSE NEIGHBOUR: 'it returns false'. Refute it at one input. -/
def fnTreesMeasuredWrong : ChangeSpec := { name := "fnTreesMeasured", fn := fun _ => fun
  | [d1, d2] => { results := [.lit (.bool false)], args := [d1, d2] }
  | _ => none }
def FnTreesMeasuredWrongFalsely : Prop := fnTreesMeasuredRow.holds Try.pinned (OpenSpec.ofChange fnTreesMeasuredWrong)

/- THE SECOND FORM. 'bulk': how many values and letters a reading holds, each counted each time it is reached (what is shared counts as often as it is met; a slice's spare places count too). A statement '..UptoSaid' is the law's where the arguments, and the package variables that the reading takes, are together of bulk at most 1048576: NARROWER than '..Said'. Prove '..Said' where nothing that the law and all that it calls make is longer than what came in: it says more and counts as full. Else prove '..UptoSaid'. A law counts once. -/
mutual
def uptoBulk {H : Type} : DataW H → Nat
  | .lit (.string bytes) => bytes.length + 1
  | .lit _ => 1
  | .nil => 1
  | .ptr d => uptoBulk d + 1
  | .slice elems spare => uptoBulkAll elems + uptoBulkAll spare + 1
  | .agg parts => uptoBulkAll parts + 1
  | .iface _ d => uptoBulk d + 1
  | .map entries => uptoBulkEntries entries + 1
  | .held _ => 1
def uptoBulkAll {H : Type} : List (DataW H) → Nat
  | [] => 0
  | d :: r => uptoBulk d + uptoBulkAll r
def uptoBulkEntries {H : Type} : List (Lit × DataW H) → Nat
  | [] => 0
  | x :: r => uptoBulkEntry x + uptoBulkEntries r
def uptoBulkEntry {H : Type} : Lit × DataW H → Nat
  | (.string bytes, d) => bytes.length + uptoBulk d + 1
  | (_, d) => uptoBulk d + 1
 end
def uptoSmall : (H : Type) → List (DataW H) → Bool := fun _ ds => decide (uptoBulkAll ds ≤ 1048576)
def OpenSpec.upto (s : _root_.Go.ChangeSpec) : _root_.Go.OpenSpec := { _root_.Go.OpenSpec.ofChange s with cond := some uptoSmall }

/-- 'laws.FnExactReadingOf', WHERE WHAT IT READS IS OF BULK AT MOST 1048576: true; the input reads as it did. -/
def fnExactReadingOfUptoRow : OpenClaim := { program := "ytpjgidjkpcbniab", sum := "f3088996c191b40d0aa3067115d5c36725e474900d76ff975304b50ed5833b67", func := "loop.example/g01115/laws.FnExactReadingOf", spec := "fnExactReadingOf", unfollowed := true, recurses := true, apart := false, narrowed := true }
def FnExactReadingOfUptoSaid : Prop := fnExactReadingOfUptoRow.holds Try.pinned (OpenSpec.upto fnExactReadingOfSpec)

/-- 'laws.FnExactWalkOfParking', WHERE WHAT IT READS IS OF BULK AT MOST 1048576: true; the input reads as it did. -/
def fnExactWalkOfParkingUptoRow : OpenClaim := { program := "ytpjgidjkpcbniab", sum := "f3088996c191b40d0aa3067115d5c36725e474900d76ff975304b50ed5833b67", func := "loop.example/g01115/laws.FnExactWalkOfParking", spec := "fnExactWalkOfParking", unfollowed := true, recurses := true, apart := false, narrowed := true }
def FnExactWalkOfParkingUptoSaid : Prop := fnExactWalkOfParkingUptoRow.holds Try.pinned (OpenSpec.upto fnExactWalkOfParkingSpec)

/-- 'laws.FnExactSpreadOfWalks', WHERE WHAT IT READS IS OF BULK AT MOST 1048576: true; the input reads as it did. -/
def fnExactSpreadOfWalksUptoRow : OpenClaim := { program := "ytpjgidjkpcbniab", sum := "f3088996c191b40d0aa3067115d5c36725e474900d76ff975304b50ed5833b67", func := "loop.example/g01115/laws.FnExactSpreadOfWalks", spec := "fnExactSpreadOfWalks", unfollowed := true, recurses := true, apart := false, narrowed := true }
def FnExactSpreadOfWalksUptoSaid : Prop := fnExactSpreadOfWalksUptoRow.holds Try.pinned (OpenSpec.upto fnExactSpreadOfWalksSpec)

/-- 'laws.FnExactAllHeights', WHERE WHAT IT READS IS OF BULK AT MOST 1048576: true; the input reads as it did. -/
def fnExactAllHeightsUptoRow : OpenClaim := { program := "ytpjgidjkpcbniab", sum := "f3088996c191b40d0aa3067115d5c36725e474900d76ff975304b50ed5833b67", func := "loop.example/g01115/laws.FnExactAllHeights", spec := "fnExactAllHeights", unfollowed := true, recurses := true, apart := false, narrowed := true }
def FnExactAllHeightsUptoSaid : Prop := fnExactAllHeightsUptoRow.holds Try.pinned (OpenSpec.upto fnExactAllHeightsSpec)

/-- 'laws.FnExactInversionPairs', WHERE WHAT IT READS IS OF BULK AT MOST 1048576: true; the input reads as it did. -/
def fnExactInversionPairsUptoRow : OpenClaim := { program := "ytpjgidjkpcbniab", sum := "f3088996c191b40d0aa3067115d5c36725e474900d76ff975304b50ed5833b67", func := "loop.example/g01115/laws.FnExactInversionPairs", spec := "fnExactInversionPairs", unfollowed := true, recurses := true, apart := false, narrowed := true }
def FnExactInversionPairsUptoSaid : Prop := fnExactInversionPairsUptoRow.holds Try.pinned (OpenSpec.upto fnExactInversionPairsSpec)

/-- 'laws.FnExactInversionsOf', WHERE WHAT IT READS IS OF BULK AT MOST 1048576: true; the input reads as it did. -/
def fnExactInversionsOfUptoRow : OpenClaim := { program := "ytpjgidjkpcbniab", sum := "f3088996c191b40d0aa3067115d5c36725e474900d76ff975304b50ed5833b67", func := "loop.example/g01115/laws.FnExactInversionsOf", spec := "fnExactInversionsOf", unfollowed := true, recurses := true, apart := false, narrowed := true }
def FnExactInversionsOfUptoSaid : Prop := fnExactInversionsOfUptoRow.holds Try.pinned (OpenSpec.upto fnExactInversionsOfSpec)

/-- 'laws.FnExactAllTrees', WHERE WHAT IT READS IS OF BULK AT MOST 1048576: true; the input reads as it did. -/
def fnExactAllTreesUptoRow : OpenClaim := { program := "ytpjgidjkpcbniab", sum := "f3088996c191b40d0aa3067115d5c36725e474900d76ff975304b50ed5833b67", func := "loop.example/g01115/laws.FnExactAllTrees", spec := "fnExactAllTrees", apart := false, narrowed := true }
def FnExactAllTreesUptoSaid : Prop := fnExactAllTreesUptoRow.holds Try.pinned (OpenSpec.upto fnExactAllTreesSpec)

/-- 'laws.FnExactCountByInversions', WHERE WHAT IT READS IS OF BULK AT MOST 1048576: true; the input reads as it did. -/
def fnExactCountByInversionsUptoRow : OpenClaim := { program := "ytpjgidjkpcbniab", sum := "f3088996c191b40d0aa3067115d5c36725e474900d76ff975304b50ed5833b67", func := "loop.example/g01115/laws.FnExactCountByInversions", spec := "fnExactCountByInversions", unfollowed := true, recurses := true, apart := false, narrowed := true }
def FnExactCountByInversionsUptoSaid : Prop := fnExactCountByInversionsUptoRow.holds Try.pinned (OpenSpec.upto fnExactCountByInversionsSpec)

/-- 'laws.FnExactCountWithOutcome', WHERE WHAT IT READS IS OF BULK AT MOST 1048576: true; the input reads as it did. -/
def fnExactCountWithOutcomeUptoRow : OpenClaim := { program := "ytpjgidjkpcbniab", sum := "f3088996c191b40d0aa3067115d5c36725e474900d76ff975304b50ed5833b67", func := "loop.example/g01115/laws.FnExactCountWithOutcome", spec := "fnExactCountWithOutcome", apart := false, narrowed := true }
def FnExactCountWithOutcomeUptoSaid : Prop := fnExactCountWithOutcomeUptoRow.holds Try.pinned (OpenSpec.upto fnExactCountWithOutcomeSpec)

/-- 'laws.FnExactAllWithOutcome', WHERE WHAT IT READS IS OF BULK AT MOST 1048576: true; the input reads as it did. -/
def fnExactAllWithOutcomeUptoRow : OpenClaim := { program := "ytpjgidjkpcbniab", sum := "f3088996c191b40d0aa3067115d5c36725e474900d76ff975304b50ed5833b67", func := "loop.example/g01115/laws.FnExactAllWithOutcome", spec := "fnExactAllWithOutcome", recurses := true, apart := false, narrowed := true }
def FnExactAllWithOutcomeUptoSaid : Prop := fnExactAllWithOutcomeUptoRow.holds Try.pinned (OpenSpec.upto fnExactAllWithOutcomeSpec)

/-- 'laws.FnOutcomesCounted', WHERE WHAT IT READS IS OF BULK AT MOST 1048576: true; the input reads as it did. -/
def fnOutcomesCountedUptoRow : OpenClaim := { program := "ytpjgidjkpcbniab", sum := "f3088996c191b40d0aa3067115d5c36725e474900d76ff975304b50ed5833b67", func := "loop.example/g01115/laws.FnOutcomesCounted", spec := "fnOutcomesCounted", unfollowed := true, recurses := true, apart := false, narrowed := true }
def FnOutcomesCountedUptoSaid : Prop := fnOutcomesCountedUptoRow.holds Try.pinned (OpenSpec.upto fnOutcomesCountedSpec)

/-- 'laws.FnTreesMeasured', WHERE WHAT IT READS IS OF BULK AT MOST 1048576: true; the input reads as it did. -/
def fnTreesMeasuredUptoRow : OpenClaim := { program := "ytpjgidjkpcbniab", sum := "f3088996c191b40d0aa3067115d5c36725e474900d76ff975304b50ed5833b67", func := "loop.example/g01115/laws.FnTreesMeasured", spec := "fnTreesMeasured", unfollowed := true, recurses := true, apart := false, narrowed := true }
def FnTreesMeasuredUptoSaid : Prop := fnTreesMeasuredUptoRow.holds Try.pinned (OpenSpec.upto fnTreesMeasuredSpec)

end Rows
end Go.Proofs.Ytpjgidjkpcbniab
