/-
  No cell of these rows narrows 'for every input' (looked for: loops, veiled, ifaces, maps, wideKeys, modest, calm, conditions, laid).
  DERIVED. THE GIVEN ROWS OF THIS SEAT. 12 by the template 'for every input the law returns true; each argument reads behind the call as it read before'; 0 by the template 'total and deterministic' (their statements: YtheihclganjhaaaTotals.lean).
  GIVEN WITH THE SEED: the statements are not yours to turn. If you find one false, say at which input.
  Laid BY PROGRAM, IN A SANDBOX (cutbox-rows.mjs): the forced cells as the released guide's own fill.sh prints them over the translation 55b1bf7438a81abb… (all of the seat's roots in one cut). By AI agents, Wed Nov 11 2026. No macro, syntax, notation, axiom, sorry.
-/
import Derived.Test.YtheihclganjhaaaChecked
import GoSem.Claim
import GoSem.ClaimJoined
import GoSem.ClaimMapViews
import Derived.JoinedTies
import Derived.KernelRfl
namespace Go.Proofs.Ytheihclganjhaaa
/- THE CELL 'sum', in the pinned program and in every row, IS THE sha256 OF THE DUMP (.gsa) THAT YtheihclganjhaaaProg.lean LOADS. Nothing in Lean hashes anything: it is a label: what it is worth is what the hold of that sum in a sandbox is worth. -/
noncomputable def Try.pinned : Pinned := { name := "ytheihclganjhaaa", sum := "55b1bf7438a81abbb4bd07ac4deaa530977173359e64f5fc225221105e9758f3", checked := Try.checked }
namespace Rows
def none {H : Type} : Left H := { results := [], args := [] }

/-- 'laws.FnExactAreFavourites': WHATEVER THE INPUT: true; the input reads as it did. -/
def fnExactAreFavouritesSpec : ChangeSpec := { name := "fnExactAreFavourites", fn := fun _ => fun
  | [d1, d2] => { results := [.lit (.bool true)], args := [d1, d2] }
  | _ => none }
def fnExactAreFavouritesRow : OpenClaim := { program := "ytheihclganjhaaa", sum := "55b1bf7438a81abbb4bd07ac4deaa530977173359e64f5fc225221105e9758f3", func := "loop.example/g01115/laws.FnExactAreFavourites", spec := "fnExactAreFavourites", apart := false }
def FnExactAreFavouritesSaid : Prop := fnExactAreFavouritesRow.holds Try.pinned (OpenSpec.ofChange fnExactAreFavouritesSpec)

/-- ITS FALSE NEIGHBOUR: 'it returns false'. Refute it at one input. -/
def fnExactAreFavouritesWrong : ChangeSpec := { name := "fnExactAreFavourites", fn := fun _ => fun
  | [d1, d2] => { results := [.lit (.bool false)], args := [d1, d2] }
  | _ => none }
def FnExactAreFavouritesWrongFalsely : Prop := fnExactAreFavouritesRow.holds Try.pinned (OpenSpec.ofChange fnExactAreFavouritesWrong)

/-- 'laws.FnExactDriveCars': WHATEVER THE INPUT: true; the input reads as it did. -/
def fnExactDriveCarsSpec : ChangeSpec := { name := "fnExactDriveCars", fn := fun _ => fun
  | [d1, d2] => { results := [.lit (.bool true)], args := [d1, d2] }
  | _ => none }
def fnExactDriveCarsRow : OpenClaim := { program := "ytheihclganjhaaa", sum := "55b1bf7438a81abbb4bd07ac4deaa530977173359e64f5fc225221105e9758f3", func := "loop.example/g01115/laws.FnExactDriveCars", spec := "fnExactDriveCars", unfollowed := true, recurses := true, apart := false }
def FnExactDriveCarsSaid : Prop := fnExactDriveCarsRow.holds Try.pinned (OpenSpec.ofChange fnExactDriveCarsSpec)

/-- ITS FALSE NEIGHBOUR: 'it returns false'. Refute it at one input. -/
def fnExactDriveCarsWrong : ChangeSpec := { name := "fnExactDriveCars", fn := fun _ => fun
  | [d1, d2] => { results := [.lit (.bool false)], args := [d1, d2] }
  | _ => none }
def FnExactDriveCarsWrongFalsely : Prop := fnExactDriveCarsRow.holds Try.pinned (OpenSpec.ofChange fnExactDriveCarsWrong)

/-- 'laws.FnExactIsParking': WHATEVER THE INPUT: true; the input reads as it did. -/
def fnExactIsParkingSpec : ChangeSpec := { name := "fnExactIsParking", fn := fun _ => fun
  | [d] => { results := [.lit (.bool true)], args := [d] }
  | _ => none }
def fnExactIsParkingRow : OpenClaim := { program := "ytheihclganjhaaa", sum := "55b1bf7438a81abbb4bd07ac4deaa530977173359e64f5fc225221105e9758f3", func := "loop.example/g01115/laws.FnExactIsParking", spec := "fnExactIsParking", unfollowed := true, recurses := true, apart := false }
def FnExactIsParkingSaid : Prop := fnExactIsParkingRow.holds Try.pinned (OpenSpec.ofChange fnExactIsParkingSpec)

/-- ITS FALSE NEIGHBOUR: 'it returns false'. Refute it at one input. -/
def fnExactIsParkingWrong : ChangeSpec := { name := "fnExactIsParking", fn := fun _ => fun
  | [d] => { results := [.lit (.bool false)], args := [d] }
  | _ => none }
def FnExactIsParkingWrongFalsely : Prop := fnExactIsParkingRow.holds Try.pinned (OpenSpec.ofChange fnExactIsParkingWrong)

/-- 'laws.FnExactDoAllPark': WHATEVER THE INPUT: true; the input reads as it did. -/
def fnExactDoAllParkSpec : ChangeSpec := { name := "fnExactDoAllPark", fn := fun _ => fun
  | [d1, d2] => { results := [.lit (.bool true)], args := [d1, d2] }
  | _ => none }
def fnExactDoAllParkRow : OpenClaim := { program := "ytheihclganjhaaa", sum := "55b1bf7438a81abbb4bd07ac4deaa530977173359e64f5fc225221105e9758f3", func := "loop.example/g01115/laws.FnExactDoAllPark", spec := "fnExactDoAllPark", unfollowed := true, recurses := true, apart := false }
def FnExactDoAllParkSaid : Prop := fnExactDoAllParkRow.holds Try.pinned (OpenSpec.ofChange fnExactDoAllParkSpec)

/-- ITS FALSE NEIGHBOUR: 'it returns false'. Refute it at one input. -/
def fnExactDoAllParkWrong : ChangeSpec := { name := "fnExactDoAllPark", fn := fun _ => fun
  | [d1, d2] => { results := [.lit (.bool false)], args := [d1, d2] }
  | _ => none }
def FnExactDoAllParkWrongFalsely : Prop := fnExactDoAllParkRow.holds Try.pinned (OpenSpec.ofChange fnExactDoAllParkWrong)

/-- 'laws.FnExactRefusingPlace': WHATEVER THE INPUT: true; the input reads as it did. -/
def fnExactRefusingPlaceSpec : ChangeSpec := { name := "fnExactRefusingPlace", fn := fun _ => fun
  | [d1, d2] => { results := [.lit (.bool true)], args := [d1, d2] }
  | _ => none }
def fnExactRefusingPlaceRow : OpenClaim := { program := "ytheihclganjhaaa", sum := "55b1bf7438a81abbb4bd07ac4deaa530977173359e64f5fc225221105e9758f3", func := "loop.example/g01115/laws.FnExactRefusingPlace", spec := "fnExactRefusingPlace", apart := false }
def FnExactRefusingPlaceSaid : Prop := fnExactRefusingPlaceRow.holds Try.pinned (OpenSpec.ofChange fnExactRefusingPlaceSpec)

/-- ITS FALSE NEIGHBOUR: 'it returns false'. Refute it at one input. -/
def fnExactRefusingPlaceWrong : ChangeSpec := { name := "fnExactRefusingPlace", fn := fun _ => fun
  | [d1, d2] => { results := [.lit (.bool false)], args := [d1, d2] }
  | _ => none }
def FnExactRefusingPlaceWrongFalsely : Prop := fnExactRefusingPlaceRow.holds Try.pinned (OpenSpec.ofChange fnExactRefusingPlaceWrong)

/-- 'laws.FnExactDistancesOf': WHATEVER THE INPUT: true; the input reads as it did. -/
def fnExactDistancesOfSpec : ChangeSpec := { name := "fnExactDistancesOf", fn := fun _ => fun
  | [d1, d2] => { results := [.lit (.bool true)], args := [d1, d2] }
  | _ => none }
def fnExactDistancesOfRow : OpenClaim := { program := "ytheihclganjhaaa", sum := "55b1bf7438a81abbb4bd07ac4deaa530977173359e64f5fc225221105e9758f3", func := "loop.example/g01115/laws.FnExactDistancesOf", spec := "fnExactDistancesOf", unfollowed := true, recurses := true, apart := false }
def FnExactDistancesOfSaid : Prop := fnExactDistancesOfRow.holds Try.pinned (OpenSpec.ofChange fnExactDistancesOfSpec)

/-- ITS FALSE NEIGHBOUR: 'it returns false'. Refute it at one input. -/
def fnExactDistancesOfWrong : ChangeSpec := { name := "fnExactDistancesOf", fn := fun _ => fun
  | [d1, d2] => { results := [.lit (.bool false)], args := [d1, d2] }
  | _ => none }
def FnExactDistancesOfWrongFalsely : Prop := fnExactDistancesOfRow.holds Try.pinned (OpenSpec.ofChange fnExactDistancesOfWrong)

/-- 'laws.FnExactTotalDistance': WHATEVER THE INPUT: true; the input reads as it did. -/
def fnExactTotalDistanceSpec : ChangeSpec := { name := "fnExactTotalDistance", fn := fun _ => fun
  | [d1, d2] => { results := [.lit (.bool true)], args := [d1, d2] }
  | _ => none }
def fnExactTotalDistanceRow : OpenClaim := { program := "ytheihclganjhaaa", sum := "55b1bf7438a81abbb4bd07ac4deaa530977173359e64f5fc225221105e9758f3", func := "loop.example/g01115/laws.FnExactTotalDistance", spec := "fnExactTotalDistance", unfollowed := true, recurses := true, apart := false }
def FnExactTotalDistanceSaid : Prop := fnExactTotalDistanceRow.holds Try.pinned (OpenSpec.ofChange fnExactTotalDistanceSpec)

/-- ITS FALSE NEIGHBOUR: 'it returns false'. Refute it at one input. -/
def fnExactTotalDistanceWrong : ChangeSpec := { name := "fnExactTotalDistance", fn := fun _ => fun
  | [d1, d2] => { results := [.lit (.bool false)], args := [d1, d2] }
  | _ => none }
def FnExactTotalDistanceWrongFalsely : Prop := fnExactTotalDistanceRow.holds Try.pinned (OpenSpec.ofChange fnExactTotalDistanceWrong)

/-- 'laws.FnExactLuckyCars': WHATEVER THE INPUT: true; the input reads as it did. -/
def fnExactLuckyCarsSpec : ChangeSpec := { name := "fnExactLuckyCars", fn := fun _ => fun
  | [d1, d2] => { results := [.lit (.bool true)], args := [d1, d2] }
  | _ => none }
def fnExactLuckyCarsRow : OpenClaim := { program := "ytheihclganjhaaa", sum := "55b1bf7438a81abbb4bd07ac4deaa530977173359e64f5fc225221105e9758f3", func := "loop.example/g01115/laws.FnExactLuckyCars", spec := "fnExactLuckyCars", unfollowed := true, recurses := true, apart := false }
def FnExactLuckyCarsSaid : Prop := fnExactLuckyCarsRow.holds Try.pinned (OpenSpec.ofChange fnExactLuckyCarsSpec)

/-- ITS FALSE NEIGHBOUR: 'it returns false'. Refute it at one input. -/
def fnExactLuckyCarsWrong : ChangeSpec := { name := "fnExactLuckyCars", fn := fun _ => fun
  | [d1, d2] => { results := [.lit (.bool false)], args := [d1, d2] }
  | _ => none }
def FnExactLuckyCarsWrongFalsely : Prop := fnExactLuckyCarsRow.holds Try.pinned (OpenSpec.ofChange fnExactLuckyCarsWrong)

/-- 'laws.FnExactIsBelow': WHATEVER THE INPUT: true; the input reads as it did. -/
def fnExactIsBelowSpec : ChangeSpec := { name := "fnExactIsBelow", fn := fun _ => fun
  | [d1, d2] => { results := [.lit (.bool true)], args := [d1, d2] }
  | _ => none }
def fnExactIsBelowRow : OpenClaim := { program := "ytheihclganjhaaa", sum := "55b1bf7438a81abbb4bd07ac4deaa530977173359e64f5fc225221105e9758f3", func := "loop.example/g01115/laws.FnExactIsBelow", spec := "fnExactIsBelow", unfollowed := true, recurses := true, apart := false }
def FnExactIsBelowSaid : Prop := fnExactIsBelowRow.holds Try.pinned (OpenSpec.ofChange fnExactIsBelowSpec)

/-- ITS FALSE NEIGHBOUR: 'it returns false'. Refute it at one input. -/
def fnExactIsBelowWrong : ChangeSpec := { name := "fnExactIsBelow", fn := fun _ => fun
  | [d1, d2] => { results := [.lit (.bool false)], args := [d1, d2] }
  | _ => none }
def FnExactIsBelowWrongFalsely : Prop := fnExactIsBelowRow.holds Try.pinned (OpenSpec.ofChange fnExactIsBelowWrong)

/-- 'laws.FnExactMixOf': WHATEVER THE INPUT: true; the input reads as it did. -/
def fnExactMixOfSpec : ChangeSpec := { name := "fnExactMixOf", fn := fun _ => fun
  | [d1, d2, d3] => { results := [.lit (.bool true)], args := [d1, d2, d3] }
  | _ => none }
def fnExactMixOfRow : OpenClaim := { program := "ytheihclganjhaaa", sum := "55b1bf7438a81abbb4bd07ac4deaa530977173359e64f5fc225221105e9758f3", func := "loop.example/g01115/laws.FnExactMixOf", spec := "fnExactMixOf", unfollowed := true, recurses := true, apart := false }
def FnExactMixOfSaid : Prop := fnExactMixOfRow.holds Try.pinned (OpenSpec.ofChange fnExactMixOfSpec)

/-- ITS FALSE NEIGHBOUR: 'it returns false'. Refute it at one input. -/
def fnExactMixOfWrong : ChangeSpec := { name := "fnExactMixOf", fn := fun _ => fun
  | [d1, d2, d3] => { results := [.lit (.bool false)], args := [d1, d2, d3] }
  | _ => none }
def FnExactMixOfWrongFalsely : Prop := fnExactMixOfRow.holds Try.pinned (OpenSpec.ofChange fnExactMixOfWrong)

/-- 'laws.FnExactCutsOf': WHATEVER THE INPUT: true; the input reads as it did. -/
def fnExactCutsOfSpec : ChangeSpec := { name := "fnExactCutsOf", fn := fun _ => fun
  | [d] => { results := [.lit (.bool true)], args := [d] }
  | _ => none }
def fnExactCutsOfRow : OpenClaim := { program := "ytheihclganjhaaa", sum := "55b1bf7438a81abbb4bd07ac4deaa530977173359e64f5fc225221105e9758f3", func := "loop.example/g01115/laws.FnExactCutsOf", spec := "fnExactCutsOf", unfollowed := true, recurses := true, apart := false }
def FnExactCutsOfSaid : Prop := fnExactCutsOfRow.holds Try.pinned (OpenSpec.ofChange fnExactCutsOfSpec)

/-- ITS FALSE NEIGHBOUR: 'it returns false'. Refute it at one input. -/
def fnExactCutsOfWrong : ChangeSpec := { name := "fnExactCutsOf", fn := fun _ => fun
  | [d] => { results := [.lit (.bool false)], args := [d] }
  | _ => none }
def FnExactCutsOfWrongFalsely : Prop := fnExactCutsOfRow.holds Try.pinned (OpenSpec.ofChange fnExactCutsOfWrong)

/-- 'laws.FnExactJoinParking': WHATEVER THE INPUT: true; the input reads as it did. -/
def fnExactJoinParkingSpec : ChangeSpec := { name := "fnExactJoinParking", fn := fun _ => fun
  | [d1, d2] => { results := [.lit (.bool true)], args := [d1, d2] }
  | _ => none }
def fnExactJoinParkingRow : OpenClaim := { program := "ytheihclganjhaaa", sum := "55b1bf7438a81abbb4bd07ac4deaa530977173359e64f5fc225221105e9758f3", func := "loop.example/g01115/laws.FnExactJoinParking", spec := "fnExactJoinParking", unfollowed := true, recurses := true, apart := false }
def FnExactJoinParkingSaid : Prop := fnExactJoinParkingRow.holds Try.pinned (OpenSpec.ofChange fnExactJoinParkingSpec)

/-- ITS FALSE NEIGHBOUR: 'it returns false'. Refute it at one input. -/
def fnExactJoinParkingWrong : ChangeSpec := { name := "fnExactJoinParking", fn := fun _ => fun
  | [d1, d2] => { results := [.lit (.bool false)], args := [d1, d2] }
  | _ => none }
def FnExactJoinParkingWrongFalsely : Prop := fnExactJoinParkingRow.holds Try.pinned (OpenSpec.ofChange fnExactJoinParkingWrong)

/- THE SECOND FORM. 'bulk': how many values and letters a reading holds, each counted each time it is reached (what is shared counts as often as it is met; a slice's spare places count too). A statement '..UptoSaid' is the law's where the arguments, and the package variables that the reading takes, are together of bulk at most 1048576: NARROWER than '..Said'. Prove '..Said' where nothing that the law and all that it calls make is longer than what came in: it says more and counts as full. Else prove '..UptoSaid'. A law counts once. -/
mutual
def uptoBulk {H : Type} : DataW H → Nat
  | .lit (.string bytes) => bytes.length + 1
  | .lit _ => 1
  | .nil => 1
  | .ptr d => uptoBulk d + 1
  | .slice elems spare => uptoBulkAll elems + uptoBulkAll spare + 1
  | .agg parts => uptoBulkAll parts + 1
  | .iface _ d => uptoBulk d + 1
  | .map entries => uptoBulkEntries entries + 1
  | .held _ => 1
def uptoBulkAll {H : Type} : List (DataW H) → Nat
  | [] => 0
  | d :: r => uptoBulk d + uptoBulkAll r
def uptoBulkEntries {H : Type} : List (Lit × DataW H) → Nat
  | [] => 0
  | x :: r => uptoBulkEntry x + uptoBulkEntries r
def uptoBulkEntry {H : Type} : Lit × DataW H → Nat
  | (.string bytes, d) => bytes.length + uptoBulk d + 1
  | (_, d) => uptoBulk d + 1
 end
def uptoSmall : (H : Type) → List (DataW H) → Bool := fun _ ds => decide (uptoBulkAll ds ≤ 1048576)
def OpenSpec.upto (s : _root_.Go.ChangeSpec) : _root_.Go.OpenSpec := { _root_.Go.OpenSpec.ofChange s with cond := some uptoSmall }

/-- 'laws.FnExactAreFavourites', WHERE WHAT IT READS IS OF BULK AT MOST 1048576: true; the input reads as it did. -/
def fnExactAreFavouritesUptoRow : OpenClaim := { program := "ytheihclganjhaaa", sum := "55b1bf7438a81abbb4bd07ac4deaa530977173359e64f5fc225221105e9758f3", func := "loop.example/g01115/laws.FnExactAreFavourites", spec := "fnExactAreFavourites", apart := false, narrowed := true }
def FnExactAreFavouritesUptoSaid : Prop := fnExactAreFavouritesUptoRow.holds Try.pinned (OpenSpec.upto fnExactAreFavouritesSpec)

/-- 'laws.FnExactDriveCars', WHERE WHAT IT READS IS OF BULK AT MOST 1048576: true; the input reads as it did. -/
def fnExactDriveCarsUptoRow : OpenClaim := { program := "ytheihclganjhaaa", sum := "55b1bf7438a81abbb4bd07ac4deaa530977173359e64f5fc225221105e9758f3", func := "loop.example/g01115/laws.FnExactDriveCars", spec := "fnExactDriveCars", unfollowed := true, recurses := true, apart := false, narrowed := true }
def FnExactDriveCarsUptoSaid : Prop := fnExactDriveCarsUptoRow.holds Try.pinned (OpenSpec.upto fnExactDriveCarsSpec)

/-- 'laws.FnExactIsParking', WHERE WHAT IT READS IS OF BULK AT MOST 1048576: true; the input reads as it did. -/
def fnExactIsParkingUptoRow : OpenClaim := { program := "ytheihclganjhaaa", sum := "55b1bf7438a81abbb4bd07ac4deaa530977173359e64f5fc225221105e9758f3", func := "loop.example/g01115/laws.FnExactIsParking", spec := "fnExactIsParking", unfollowed := true, recurses := true, apart := false, narrowed := true }
def FnExactIsParkingUptoSaid : Prop := fnExactIsParkingUptoRow.holds Try.pinned (OpenSpec.upto fnExactIsParkingSpec)

/-- 'laws.FnExactDoAllPark', WHERE WHAT IT READS IS OF BULK AT MOST 1048576: true; the input reads as it did. -/
def fnExactDoAllParkUptoRow : OpenClaim := { program := "ytheihclganjhaaa", sum := "55b1bf7438a81abbb4bd07ac4deaa530977173359e64f5fc225221105e9758f3", func := "loop.example/g01115/laws.FnExactDoAllPark", spec := "fnExactDoAllPark", unfollowed := true, recurses := true, apart := false, narrowed := true }
def FnExactDoAllParkUptoSaid : Prop := fnExactDoAllParkUptoRow.holds Try.pinned (OpenSpec.upto fnExactDoAllParkSpec)

/-- 'laws.FnExactRefusingPlace', WHERE WHAT IT READS IS OF BULK AT MOST 1048576: true; the input reads as it did. -/
def fnExactRefusingPlaceUptoRow : OpenClaim := { program := "ytheihclganjhaaa", sum := "55b1bf7438a81abbb4bd07ac4deaa530977173359e64f5fc225221105e9758f3", func := "loop.example/g01115/laws.FnExactRefusingPlace", spec := "fnExactRefusingPlace", apart := false, narrowed := true }
def FnExactRefusingPlaceUptoSaid : Prop := fnExactRefusingPlaceUptoRow.holds Try.pinned (OpenSpec.upto fnExactRefusingPlaceSpec)

/-- 'laws.FnExactDistancesOf', WHERE WHAT IT READS IS OF BULK AT MOST 1048576: true; the input reads as it did. -/
def fnExactDistancesOfUptoRow : OpenClaim := { program := "ytheihclganjhaaa", sum := "55b1bf7438a81abbb4bd07ac4deaa530977173359e64f5fc225221105e9758f3", func := "loop.example/g01115/laws.FnExactDistancesOf", spec := "fnExactDistancesOf", unfollowed := true, recurses := true, apart := false, narrowed := true }
def FnExactDistancesOfUptoSaid : Prop := fnExactDistancesOfUptoRow.holds Try.pinned (OpenSpec.upto fnExactDistancesOfSpec)

/-- 'laws.FnExactTotalDistance', WHERE WHAT IT READS IS OF BULK AT MOST 1048576: true; the input reads as it did. -/
def fnExactTotalDistanceUptoRow : OpenClaim := { program := "ytheihclganjhaaa", sum := "55b1bf7438a81abbb4bd07ac4deaa530977173359e64f5fc225221105e9758f3", func := "loop.example/g01115/laws.FnExactTotalDistance", spec := "fnExactTotalDistance", unfollowed := true, recurses := true, apart := false, narrowed := true }
def FnExactTotalDistanceUptoSaid : Prop := fnExactTotalDistanceUptoRow.holds Try.pinned (OpenSpec.upto fnExactTotalDistanceSpec)

/-- 'laws.FnExactLuckyCars', WHERE WHAT IT READS IS OF BULK AT MOST 1048576: true; the input reads as it did. -/
def fnExactLuckyCarsUptoRow : OpenClaim := { program := "ytheihclganjhaaa", sum := "55b1bf7438a81abbb4bd07ac4deaa530977173359e64f5fc225221105e9758f3", func := "loop.example/g01115/laws.FnExactLuckyCars", spec := "fnExactLuckyCars", unfollowed := true, recurses := true, apart := false, narrowed := true }
def FnExactLuckyCarsUptoSaid : Prop := fnExactLuckyCarsUptoRow.holds Try.pinned (OpenSpec.upto fnExactLuckyCarsSpec)

/-- 'laws.FnExactIsBelow', WHERE WHAT IT READS IS OF BULK AT MOST 1048576: true; the input reads as it did. -/
def fnExactIsBelowUptoRow : OpenClaim := { program := "ytheihclganjhaaa", sum := "55b1bf7438a81abbb4bd07ac4deaa530977173359e64f5fc225221105e9758f3", func := "loop.example/g01115/laws.FnExactIsBelow", spec := "fnExactIsBelow", unfollowed := true, recurses := true, apart := false, narrowed := true }
def FnExactIsBelowUptoSaid : Prop := fnExactIsBelowUptoRow.holds Try.pinned (OpenSpec.upto fnExactIsBelowSpec)

/-- 'laws.FnExactMixOf', WHERE WHAT IT READS IS OF BULK AT MOST 1048576: true; the input reads as it did. -/
def fnExactMixOfUptoRow : OpenClaim := { program := "ytheihclganjhaaa", sum := "55b1bf7438a81abbb4bd07ac4deaa530977173359e64f5fc225221105e9758f3", func := "loop.example/g01115/laws.FnExactMixOf", spec := "fnExactMixOf", unfollowed := true, recurses := true, apart := false, narrowed := true }
def FnExactMixOfUptoSaid : Prop := fnExactMixOfUptoRow.holds Try.pinned (OpenSpec.upto fnExactMixOfSpec)

/-- 'laws.FnExactCutsOf', WHERE WHAT IT READS IS OF BULK AT MOST 1048576: true; the input reads as it did. -/
def fnExactCutsOfUptoRow : OpenClaim := { program := "ytheihclganjhaaa", sum := "55b1bf7438a81abbb4bd07ac4deaa530977173359e64f5fc225221105e9758f3", func := "loop.example/g01115/laws.FnExactCutsOf", spec := "fnExactCutsOf", unfollowed := true, recurses := true, apart := false, narrowed := true }
def FnExactCutsOfUptoSaid : Prop := fnExactCutsOfUptoRow.holds Try.pinned (OpenSpec.upto fnExactCutsOfSpec)

/-- 'laws.FnExactJoinParking', WHERE WHAT IT READS IS OF BULK AT MOST 1048576: true; the input reads as it did. -/
def fnExactJoinParkingUptoRow : OpenClaim := { program := "ytheihclganjhaaa", sum := "55b1bf7438a81abbb4bd07ac4deaa530977173359e64f5fc225221105e9758f3", func := "loop.example/g01115/laws.FnExactJoinParking", spec := "fnExactJoinParking", unfollowed := true, recurses := true, apart := false, narrowed := true }
def FnExactJoinParkingUptoSaid : Prop := fnExactJoinParkingUptoRow.holds Try.pinned (OpenSpec.upto fnExactJoinParkingSpec)

end Rows
end Go.Proofs.Ytheihclganjhaaa
