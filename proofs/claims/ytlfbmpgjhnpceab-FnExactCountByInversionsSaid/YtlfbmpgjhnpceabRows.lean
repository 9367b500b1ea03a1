/-
  No cell of these rows narrows 'for every input' (looked for: loops, veiled, ifaces, maps, wideKeys, modest, calm, conditions, laid).
  DERIVED. THE GIVEN ROWS OF THIS SEAT. 12 by the template 'for every input the law returns true; each argument reads behind the call as it read before'; 0 by the template 'total and deterministic' (their statements: YtlfbmpgjhnpceabTotals.lean).
  GIVEN WITH THE SEED: the statements are not yours to turn. If you find one false, say at which input.
  Laid BY PROGRAM, IN A SANDBOX (cutbox-rows.mjs): the forced cells as the released guide's own fill.sh prints them over the translation b530bed6c639d295… (all of the seat's roots in one cut). By AI agents, Wed Nov 11 2026. No macro, syntax, notation, axiom, sorry.
-/
import Derived.Test.YtlfbmpgjhnpceabChecked
import GoSem.Claim
import GoSem.ClaimJoined
import GoSem.ClaimMapViews
import Derived.JoinedTies
import Derived.KernelRfl
namespace Go.Proofs.Ytlfbmpgjhnpceab
/- THE CELL 'sum', in the pinned program and in every row, IS THE sha256 OF THE DUMP (.gsa) THAT YtlfbmpgjhnpceabProg.lean LOADS. Nothing in Lean hashes anything: it is a label: what it is worth is what the hold of that sum in a sandbox is worth. -/
noncomputable def Try.pinned : Pinned := { name := "ytlfbmpgjhnpceab", sum := "b530bed6c639d295a327ff5ca53bc0e3b6573ac8316020b2c63540c975e9b214", checked := Try.checked }
namespace Rows
def none {H : Type} : Left H := { results := [], args := [] }

/-- 'laws.FnExactCountByDefect': WHATEVER THE INPUT: true; the input reads as it did. -/
def fnExactCountByDefectSpec : ChangeSpec := { name := "fnExactCountByDefect", fn := fun _ => fun
  | [d] => { results := [.lit (.bool true)], args := [d] }
  | _ => none }
def fnExactCountByDefectRow : OpenClaim := { program := "ytlfbmpgjhnpceab", sum := "b530bed6c639d295a327ff5ca53bc0e3b6573ac8316020b2c63540c975e9b214", func := "loop.example/g01115/laws.FnExactCountByDefect", spec := "fnExactCountByDefect", unfollowed := true, recurses := true, apart := false }
def FnExactCountByDefectSaid : Prop := fnExactCountByDefectRow.holds Try.pinned (OpenSpec.ofChange fnExactCountByDefectSpec)

/-- ITS FALSE NEIGHBOUR: 'it returns false'. Refute it at one input. -/
def fnExactCountByDefectWrong : ChangeSpec := { name := "fnExactCountByDefect", fn := fun _ => fun
  | [d] => { results := [.lit (.bool false)], args := [d] }
  | _ => none }
def FnExactCountByDefectWrongFalsely : Prop := fnExactCountByDefectRow.holds Try.pinned (OpenSpec.ofChange fnExactCountByDefectWrong)

/-- 'laws.FnExactRefusingPlace': WHATEVER THE INPUT: true; the input reads as it did. -/
def fnExactRefusingPlaceSpec : ChangeSpec := { name := "fnExactRefusingPlace", fn := fun _ => fun
  | [d1, d2] => { results := [.lit (.bool true)], args := [d1, d2] }
  | _ => none }
def fnExactRefusingPlaceRow : OpenClaim := { program := "ytlfbmpgjhnpceab", sum := "b530bed6c639d295a327ff5ca53bc0e3b6573ac8316020b2c63540c975e9b214", func := "loop.example/g01115/laws.FnExactRefusingPlace", spec := "fnExactRefusingPlace", apart := false }
def FnExactRefusingPlaceSaid : Prop := fnExactRefusingPlaceRow.holds Try.pinned (OpenSpec.ofChange fnExactRefusingPlaceSpec)

/-- ITS FALSE NEIGHBOUR: 'it returns false'. Refute it at one input. -/
def fnExactRefusingPlaceWrong : ChangeSpec := { name := "fnExactRefusingPlace", fn := fun _ => fun
  | [d1, d2] => { results := [.lit (.bool false)], args := [d1, d2] }
  | _ => none }
def FnExactRefusingPlaceWrongFalsely : Prop := fnExactRefusingPlaceRow.holds Try.pinned (OpenSpec.ofChange fnExactRefusingPlaceWrong)

/-- 'laws.FnParkingDecided': WHATEVER THE INPUT: true; the input reads as it did. -/
def fnParkingDecidedSpec : ChangeSpec := { name := "fnParkingDecided", fn := fun _ => fun
  | [d1, d2] => { results := [.lit (.bool true)], args := [d1, d2] }
  | _ => none }
def fnParkingDecidedRow : OpenClaim := { program := "ytlfbmpgjhnpceab", sum := "b530bed6c639d295a327ff5ca53bc0e3b6573ac8316020b2c63540c975e9b214", func := "loop.example/g01115/laws.FnParkingDecided", spec := "fnParkingDecided", unfollowed := true, recurses := true, apart := false }
def FnParkingDecidedSaid : Prop := fnParkingDecidedRow.holds Try.pinned (OpenSpec.ofChange fnParkingDecidedSpec)

/-- ITS FALSE NEIGHBOUR: 'it returns false'. Refute it at one input. -/
def fnParkingDecidedWrong : ChangeSpec := { name := "fnParkingDecided", fn := fun _ => fun
  | [d1, d2] => { results := [.lit (.bool false)], args := [d1, d2] }
  | _ => none }
def FnParkingDecidedWrongFalsely : Prop := fnParkingDecidedRow.holds Try.pinned (OpenSpec.ofChange fnParkingDecidedWrong)

/-- 'laws.FnExactSpreadOfWalks': WHATEVER THE INPUT: true; the input reads as it did. -/
def fnExactSpreadOfWalksSpec : ChangeSpec := { name := "fnExactSpreadOfWalks", fn := fun _ => fun
  | [d] => { results := [.lit (.bool true)], args := [d] }
  | _ => none }
def fnExactSpreadOfWalksRow : OpenClaim := { program := "ytlfbmpgjhnpceab", sum := "b530bed6c639d295a327ff5ca53bc0e3b6573ac8316020b2c63540c975e9b214", func := "loop.example/g01115/laws.FnExactSpreadOfWalks", spec := "fnExactSpreadOfWalks", unfollowed := true, recurses := true, apart := false }
def FnExactSpreadOfWalksSaid : Prop := fnExactSpreadOfWalksRow.holds Try.pinned (OpenSpec.ofChange fnExactSpreadOfWalksSpec)

/-- ITS FALSE NEIGHBOUR: 'it returns false'. Refute it at one input. -/
def fnExactSpreadOfWalksWrong : ChangeSpec := { name := "fnExactSpreadOfWalks", fn := fun _ => fun
  | [d] => { results := [.lit (.bool false)], args := [d] }
  | _ => none }
def FnExactSpreadOfWalksWrongFalsely : Prop := fnExactSpreadOfWalksRow.holds Try.pinned (OpenSpec.ofChange fnExactSpreadOfWalksWrong)

/-- 'laws.FnExactAllTrees': WHATEVER THE INPUT: true; the input reads as it did. -/
def fnExactAllTreesSpec : ChangeSpec := { name := "fnExactAllTrees", fn := fun _ => fun
  | [d] => { results := [.lit (.bool true)], args := [d] }
  | _ => none }
def fnExactAllTreesRow : OpenClaim := { program := "ytlfbmpgjhnpceab", sum := "b530bed6c639d295a327ff5ca53bc0e3b6573ac8316020b2c63540c975e9b214", func := "loop.example/g01115/laws.FnExactAllTrees", spec := "fnExactAllTrees", apart := false }
def FnExactAllTreesSaid : Prop := fnExactAllTreesRow.holds Try.pinned (OpenSpec.ofChange fnExactAllTreesSpec)

/-- ITS FALSE NEIGHBOUR: 'it returns false'. Refute it at one input. -/
def fnExactAllTreesWrong : ChangeSpec := { name := "fnExactAllTrees", fn := fun _ => fun
  | [d] => { results := [.lit (.bool false)], args := [d] }
  | _ => none }
def FnExactAllTreesWrongFalsely : Prop := fnExactAllTreesRow.holds Try.pinned (OpenSpec.ofChange fnExactAllTreesWrong)

/-- 'laws.FnExactCountByInversions': WHATEVER THE INPUT: true; the input reads as it did. -/
def fnExactCountByInversionsSpec : ChangeSpec := { name := "fnExactCountByInversions", fn := fun _ => fun
  | [d] => { results := [.lit (.bool true)], args := [d] }
  | _ => none }
def fnExactCountByInversionsRow : OpenClaim := { program := "ytlfbmpgjhnpceab", sum := "b530bed6c639d295a327ff5ca53bc0e3b6573ac8316020b2c63540c975e9b214", func := "loop.example/g01115/laws.FnExactCountByInversions", spec := "fnExactCountByInversions", unfollowed := true, recurses := true, apart := false }
def FnExactCountByInversionsSaid : Prop := fnExactCountByInversionsRow.holds Try.pinned (OpenSpec.ofChange fnExactCountByInversionsSpec)

/-- ITS FALSE NEIGHBOUR: 'it returns false'. Refute it at one input. -/
def fnExactCountByInversionsWrong : ChangeSpec := { name := "fnExactCountByInversions", fn := fun _ => fun
  | [d] => { results := [.lit (.bool false)], args := [d] }
  | _ => none }
def FnExactCountByInversionsWrongFalsely : Prop := fnExactCountByInversionsRow.holds Try.pinned (OpenSpec.ofChange fnExactCountByInversionsWrong)

/-- 'laws.FnExactInversionPairs': WHATEVER THE INPUT: true; the input reads as it did. -/
def fnExactInversionPairsSpec : ChangeSpec := { name := "fnExactInversionPairs", fn := fun _ => fun
  | [d] => { results := [.lit (.bool true)], args := [d] }
  | _ => none }
def fnExactInversionPairsRow : OpenClaim := { program := "ytlfbmpgjhnpceab", sum := "b530bed6c639d295a327ff5ca53bc0e3b6573ac8316020b2c63540c975e9b214", func := "loop.example/g01115/laws.FnExactInversionPairs", spec := "fnExactInversionPairs", unfollowed := true, recurses := true, apart := false }
def FnExactInversionPairsSaid : Prop := fnExactInversionPairsRow.holds Try.pinned (OpenSpec.ofChange fnExactInversionPairsSpec)

/-- ITS FALSE NEIGHBOUR: 'it returns false'. Refute it at one input. -/
def fnExactInversionPairsWrong : ChangeSpec := { name := "fnExactInversionPairs", fn := fun _ => fun
  | [d] => { results := [.lit (.bool false)], args := [d] }
  | _ => none }
def FnExactInversionPairsWrongFalsely : Prop := fnExactInversionPairsRow.holds Try.pinned (OpenSpec.ofChange fnExactInversionPairsWrong)

/-- 'laws.FnExactInversionsOf': WHATEVER THE INPUT: true; the input reads as it did. -/
def fnExactInversionsOfSpec : ChangeSpec := { name := "fnExactInversionsOf", fn := fun _ => fun
  | [d] => { results := [.lit (.bool true)], args := [d] }
  | _ => none }
def fnExactInversionsOfRow : OpenClaim := { program := "ytlfbmpgjhnpceab", sum := "b530bed6c639d295a327ff5ca53bc0e3b6573ac8316020b2c63540c975e9b214", func := "loop.example/g01115/laws.FnExactInversionsOf", spec := "fnExactInversionsOf", unfollowed := true, recurses := true, apart := false }
def FnExactInversionsOfSaid : Prop := fnExactInversionsOfRow.holds Try.pinned (OpenSpec.ofChange fnExactInversionsOfSpec)

/-- ITS FALSE NEIGHBOUR: 'it returns false'. Refute it at one input. -/
def fnExactInversionsOfWrong : ChangeSpec := { name := "fnExactInversionsOf", fn := fun _ => fun
  | [d] => { results := [.lit (.bool false)], args := [d] }
  | _ => none }
def FnExactInversionsOfWrongFalsely : Prop := fnExactInversionsOfRow.holds Try.pinned (OpenSpec.ofChange fnExactInversionsOfWrong)

/-- 'laws.FnDefects': WHATEVER THE INPUT: true; the input reads as it did. -/
def fnDefectsSpec : ChangeSpec := { name := "fnDefects", fn := fun _ => fun
  | [d1, d2] => { results := [.lit (.bool true)], args := [d1, d2] }
  | _ => none }
def fnDefectsRow : OpenClaim := { program := "ytlfbmpgjhnpceab", sum := "b530bed6c639d295a327ff5ca53bc0e3b6573ac8316020b2c63540c975e9b214", func := "loop.example/g01115/laws.FnDefects", spec := "fnDefects", unfollowed := true, recurses := true, apart := false }
def FnDefectsSaid : Prop := fnDefectsRow.holds Try.pinned (OpenSpec.ofChange fnDefectsSpec)

/-- ITS FALSE NEIGHBOUR: 'it returns false'. Refute it at one input. -/
def fnDefectsWrong : ChangeSpec := { name := "fnDefects", fn := fun _ => fun
  | [d1, d2] => { results := [.lit (.bool false)], args := [d1, d2] }
  | _ => none }
def FnDefectsWrongFalsely : Prop := fnDefectsRow.holds Try.pinned (OpenSpec.ofChange fnDefectsWrong)

/-- 'laws.FnCarsThatLookBack': WHATEVER THE INPUT: true; the input reads as it did. -/
def fnCarsThatLookBackSpec : ChangeSpec := { name := "fnCarsThatLookBack", fn := fun _ => fun
  | [d1, d2] => { results := [.lit (.bool true)], args := [d1, d2] }
  | _ => none }
def fnCarsThatLookBackRow : OpenClaim := { program := "ytlfbmpgjhnpceab", sum := "b530bed6c639d295a327ff5ca53bc0e3b6573ac8316020b2c63540c975e9b214", func := "loop.example/g01115/laws.FnCarsThatLookBack", spec := "fnCarsThatLookBack", unfollowed := true, recurses := true, apart := false }
def FnCarsThatLookBackSaid : Prop := fnCarsThatLookBackRow.holds Try.pinned (OpenSpec.ofChange fnCarsThatLookBackSpec)

/-- ITS FALSE NEIGHBOUR: 'it returns false'. Refute it at one input. -/
def fnCarsThatLookBackWrong : ChangeSpec := { name := "fnCarsThatLookBack", fn := fun _ => fun
  | [d1, d2] => { results := [.lit (.bool false)], args := [d1, d2] }
  | _ => none }
def FnCarsThatLookBackWrongFalsely : Prop := fnCarsThatLookBackRow.holds Try.pinned (OpenSpec.ofChange fnCarsThatLookBackWrong)

/-- 'laws.FnLongCars': WHATEVER THE INPUT: true; the input reads as it did. -/
def fnLongCarsSpec : ChangeSpec := { name := "fnLongCars", fn := fun _ => fun
  | [d1, d2] => { results := [.lit (.bool true)], args := [d1, d2] }
  | _ => none }
def fnLongCarsRow : OpenClaim := { program := "ytlfbmpgjhnpceab", sum := "b530bed6c639d295a327ff5ca53bc0e3b6573ac8316020b2c63540c975e9b214", func := "loop.example/g01115/laws.FnLongCars", spec := "fnLongCars", unfollowed := true, recurses := true, apart := false }
def FnLongCarsSaid : Prop := fnLongCarsRow.holds Try.pinned (OpenSpec.ofChange fnLongCarsSpec)

/-- ITS FALSE NEIGHBOUR: 'it returns false'. Refute it at one input. -/
def fnLongCarsWrong : ChangeSpec := { name := "fnLongCars", fn := fun _ => fun
  | [d1, d2] => { results := [.lit (.bool false)], args := [d1, d2] }
  | _ => none }
def FnLongCarsWrongFalsely : Prop := fnLongCarsRow.holds Try.pinned (OpenSpec.ofChange fnLongCarsWrong)

/-- 'laws.FnLongCounts': WHATEVER THE INPUT: true; the input reads as it did. -/
def fnLongCountsSpec : ChangeSpec := { name := "fnLongCounts", fn := fun _ => fun
  | [d1, d2] => { results := [.lit (.bool true)], args := [d1, d2] }
  | _ => none }
def fnLongCountsRow : OpenClaim := { program := "ytlfbmpgjhnpceab", sum := "b530bed6c639d295a327ff5ca53bc0e3b6573ac8316020b2c63540c975e9b214", func := "loop.example/g01115/laws.FnLongCounts", spec := "fnLongCounts", unfollowed := true, recurses := true, apart := false }
def FnLongCountsSaid : Prop := fnLongCountsRow.holds Try.pinned (OpenSpec.ofChange fnLongCountsSpec)

/-- ITS FALSE NEIGHBOUR: 'it returns false'. Refute it at one input. -/
def fnLongCountsWrong : ChangeSpec := { name := "fnLongCounts", fn := fun _ => fun
  | [d1, d2] => { results := [.lit (.bool false)], args := [d1, d2] }
  | _ => none }
def FnLongCountsWrongFalsely : Prop := fnLongCountsRow.holds Try.pinned (OpenSpec.ofChange fnLongCountsWrong)

/- THE SECOND FORM. 'bulk': how many values and letters a reading holds, each counted each time it is reached (what is shared counts as often as it is met; a slice's spare places count too). A statement '..UptoSaid' is the law's where the arguments, and the package variables that the reading takes, are together of bulk at most 1048576: NARROWER than '..Said'. Prove '..Said' where nothing that the law and all that it calls make is longer than what came in: it says more and counts as full. Else prove '..UptoSaid'. A law counts once. -/
mutual
def uptoBulk {H : Type} : DataW H → Nat
  | .lit (.string bytes) => bytes.length + 1
  | .lit _ => 1
  | .nil => 1
  | .ptr d => uptoBulk d + 1
  | .slice elems spare => uptoBulkAll elems + uptoBulkAll spare + 1
  | .agg parts => uptoBulkAll parts + 1
  | .iface _ d => uptoBulk d + 1
  | .map entries => uptoBulkEntries entries + 1
  | .held _ => 1
def uptoBulkAll {H : Type} : List (DataW H) → Nat
  | [] => 0
  | d :: r => uptoBulk d + uptoBulkAll r
def uptoBulkEntries {H : Type} : List (Lit × DataW H) → Nat
  | [] => 0
  | x :: r => uptoBulkEntry x + uptoBulkEntries r
def uptoBulkEntry {H : Type} : Lit × DataW H → Nat
  | (.string bytes, d) => bytes.length + uptoBulk d + 1
  | (_, d) => uptoBulk d + 1
 end
def uptoSmall : (H : Type) → List (DataW H) → Bool := fun _ ds => decide (uptoBulkAll ds ≤ 1048576)
def OpenSpec.upto (s : _root_.Go.ChangeSpec) : _root_.Go.OpenSpec := { _root_.Go.OpenSpec.ofChange s with cond := some uptoSmall }

/-- 'laws.FnExactCountByDefect', WHERE WHAT IT READS IS OF BULK AT MOST 1048576: true; the input reads as it did. -/
def fnExactCountByDefectUptoRow : OpenClaim := { program := "ytlfbmpgjhnpceab", sum := "b530bed6c639d295a327ff5ca53bc0e3b6573ac8316020b2c63540c975e9b214", func := "loop.example/g01115/laws.FnExactCountByDefect", spec := "fnExactCountByDefect", unfollowed := true, recurses := true, apart := false, narrowed := true }
def FnExactCountByDefectUptoSaid : Prop := fnExactCountByDefectUptoRow.holds Try.pinned (OpenSpec.upto fnExactCountByDefectSpec)

/-- 'laws.FnExactRefusingPlace', WHERE WHAT IT READS IS OF BULK AT MOST 1048576: true; the input reads as it did. -/
def fnExactRefusingPlaceUptoRow : OpenClaim := { program := "ytlfbmpgjhnpceab", sum := "b530bed6c639d295a327ff5ca53bc0e3b6573ac8316020b2c63540c975e9b214", func := "loop.example/g01115/laws.FnExactRefusingPlace", spec := "fnExactRefusingPlace", apart := false, narrowed := true }
def FnExactRefusingPlaceUptoSaid : Prop := fnExactRefusingPlaceUptoRow.holds Try.pinned (OpenSpec.upto fnExactRefusingPlaceSpec)

/-- 'laws.FnParkingDecided', WHERE WHAT IT READS IS OF BULK AT MOST 1048576: true; the input reads as it did. -/
def fnParkingDecidedUptoRow : OpenClaim := { program := "ytlfbmpgjhnpceab", sum := "b530bed6c639d295a327ff5ca53bc0e3b6573ac8316020b2c63540c975e9b214", func := "loop.example/g01115/laws.FnParkingDecided", spec := "fnParkingDecided", unfollowed := true, recurses := true, apart := false, narrowed := true }
def FnParkingDecidedUptoSaid : Prop := fnParkingDecidedUptoRow.holds Try.pinned (OpenSpec.upto fnParkingDecidedSpec)

/-- 'laws.FnExactSpreadOfWalks', WHERE WHAT IT READS IS OF BULK AT MOST 1048576: true; the input reads as it did. -/
def fnExactSpreadOfWalksUptoRow : OpenClaim := { program := "ytlfbmpgjhnpceab", sum := "b530bed6c639d295a327ff5ca53bc0e3b6573ac8316020b2c63540c975e9b214", func := "loop.example/g01115/laws.FnExactSpreadOfWalks", spec := "fnExactSpreadOfWalks", unfollowed := true, recurses := true, apart := false, narrowed := true }
def FnExactSpreadOfWalksUptoSaid : Prop := fnExactSpreadOfWalksUptoRow.holds Try.pinned (OpenSpec.upto fnExactSpreadOfWalksSpec)

/-- 'laws.FnExactAllTrees', WHERE WHAT IT READS IS OF BULK AT MOST 1048576: true; the input reads as it did. -/
def fnExactAllTreesUptoRow : OpenClaim := { program := "ytlfbmpgjhnpceab", sum := "b530bed6c639d295a327ff5ca53bc0e3b6573ac8316020b2c63540c975e9b214", func := "loop.example/g01115/laws.FnExactAllTrees", spec := "fnExactAllTrees", apart := false, narrowed := true }
def FnExactAllTreesUptoSaid : Prop := fnExactAllTreesUptoRow.holds Try.pinned (OpenSpec.upto fnExactAllTreesSpec)

/-- 'laws.FnExactCountByInversions', WHERE WHAT IT READS IS OF BULK AT MOST 1048576: true; the input reads as it did. -/
def fnExactCountByInversionsUptoRow : OpenClaim := { program := "ytlfbmpgjhnpceab", sum := "b530bed6c639d295a327ff5ca53bc0e3b6573ac8316020b2c63540c975e9b214", func := "loop.example/g01115/laws.FnExactCountByInversions", spec := "fnExactCountByInversions", unfollowed := true, recurses := true, apart := false, narrowed := true }
def FnExactCountByInversionsUptoSaid : Prop := fnExactCountByInversionsUptoRow.holds Try.pinned (OpenSpec.upto fnExactCountByInversionsSpec)

/-- 'laws.FnExactInversionPairs', WHERE WHAT IT READS IS OF BULK AT MOST 1048576: true; the input reads as it did. -/
def fnExactInversionPairsUptoRow : OpenClaim := { program := "ytlfbmpgjhnpceab", sum := "b530bed6c639d295a327ff5ca53bc0e3b6573ac8316020b2c63540c975e9b214", func := "loop.example/g01115/laws.FnExactInversionPairs", spec := "fnExactInversionPairs", unfollowed := true, recurses := true, apart := false, narrowed := true }
def FnExactInversionPairsUptoSaid : Prop := fnExactInversionPairsUptoRow.holds Try.pinned (OpenSpec.upto fnExactInversionPairsSpec)

/-- 'laws.FnExactInversionsOf', WHERE WHAT IT READS IS OF BULK AT MOST 1048576: true; the input reads as it did. -/
def fnExactInversionsOfUptoRow : OpenClaim := { program := "ytlfbmpgjhnpceab", sum := "b530bed6c639d295a327ff5ca53bc0e3b6573ac8316020b2c63540c975e9b214", func := "loop.example/g01115/laws.FnExactInversionsOf", spec := "fnExactInversionsOf", unfollowed := true, recurses := true, apart := false, narrowed := true }
def FnExactInversionsOfUptoSaid : Prop := fnExactInversionsOfUptoRow.holds Try.pinned (OpenSpec.upto fnExactInversionsOfSpec)

/-- 'laws.FnDefects', WHERE WHAT IT READS IS OF BULK AT MOST 1048576: true; the input reads as it did. -/
def fnDefectsUptoRow : OpenClaim := { program := "ytlfbmpgjhnpceab", sum := "b530bed6c639d295a327ff5ca53bc0e3b6573ac8316020b2c63540c975e9b214", func := "loop.example/g01115/laws.FnDefects", spec := "fnDefects", unfollowed := true, recurses := true, apart := false, narrowed := true }
def FnDefectsUptoSaid : Prop := fnDefectsUptoRow.holds Try.pinned (OpenSpec.upto fnDefectsSpec)

/-- 'laws.FnCarsThatLookBack', WHERE WHAT IT READS IS OF BULK AT MOST 1048576: true; the input reads as it did. -/
def fnCarsThatLookBackUptoRow : OpenClaim := { program := "ytlfbmpgjhnpceab", sum := "b530bed6c639d295a327ff5ca53bc0e3b6573ac8316020b2c63540c975e9b214", func := "loop.example/g01115/laws.FnCarsThatLookBack", spec := "fnCarsThatLookBack", unfollowed := true, recurses := true, apart := false, narrowed := true }
def FnCarsThatLookBackUptoSaid : Prop := fnCarsThatLookBackUptoRow.holds Try.pinned (OpenSpec.upto fnCarsThatLookBackSpec)

/-- 'laws.FnLongCars', WHERE WHAT IT READS IS OF BULK AT MOST 1048576: true; the input reads as it did. -/
def fnLongCarsUptoRow : OpenClaim := { program := "ytlfbmpgjhnpceab", sum := "b530bed6c639d295a327ff5ca53bc0e3b6573ac8316020b2c63540c975e9b214", func := "loop.example/g01115/laws.FnLongCars", spec := "fnLongCars", unfollowed := true, recurses := true, apart := false, narrowed := true }
def FnLongCarsUptoSaid : Prop := fnLongCarsUptoRow.holds Try.pinned (OpenSpec.upto fnLongCarsSpec)

/-- 'laws.FnLongCounts', WHERE WHAT IT READS IS OF BULK AT MOST 1048576: true; the input reads as it did. -/
def fnLongCountsUptoRow : OpenClaim := { program := "ytlfbmpgjhnpceab", sum := "b530bed6c639d295a327ff5ca53bc0e3b6573ac8316020b2c63540c975e9b214", func := "loop.example/g01115/laws.FnLongCounts", spec := "fnLongCounts", unfollowed := true, recurses := true, apart := false, narrowed := true }
def FnLongCountsUptoSaid : Prop := fnLongCountsUptoRow.holds Try.pinned (OpenSpec.upto fnLongCountsSpec)

end Rows
end Go.Proofs.Ytlfbmpgjhnpceab
