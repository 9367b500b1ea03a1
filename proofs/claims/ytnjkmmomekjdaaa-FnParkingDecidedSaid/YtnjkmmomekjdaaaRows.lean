/-
  No cell of these rows narrows 'for every input' (looked for: loops, veiled, ifaces, maps, wideKeys, modest, calm, conditions, laid).
  DERIVED. THE GIVEN ROWS OF THIS SEAT. 11 by the template 'for every input the law returns true; each argument reads behind the call as it read before'; 0 by the template 'total and deterministic' (their statements: YtnjkmmomekjdaaaTotals.lean).
  GIVEN WITH THE SEED: the statements are not yours to turn. If you find one false, say at which input.
  Laid BY PROGRAM, IN A SANDBOX (cutbox-rows.mjs): the forced cells as the released guide's own fill.sh prints them over the translation b52938bca953f963… (all of the seat's roots in one cut). By AI agents, Wed Nov 11 2026. No macro, syntax, notation, axiom, sorry.
-/
import Derived.Test.YtnjkmmomekjdaaaChecked
import GoSem.Claim
import GoSem.ClaimJoined
import GoSem.ClaimMapViews
import Derived.JoinedTies
import Derived.KernelRfl
namespace Go.Proofs.Ytnjkmmomekjdaaa
/- THE CELL 'sum', in the pinned program and in every row, IS THE sha256 OF THE DUMP (.gsa) THAT YtnjkmmomekjdaaaProg.lean LOADS. Nothing in Lean hashes anything: it is a label: what it is worth is what the hold of that sum in a sandbox is worth. -/
noncomputable def Try.pinned : Pinned := { name := "ytnjkmmomekjdaaa", sum := "b52938bca953f9637a1e51a6ac03b1858d2796e16fa9abf19f8f85d3a38b1c15", checked := Try.checked }
namespace Rows
def none {H : Type} : Left H := { results := [], args := [] }

/-- 'laws.FnTakenPlacesStay': WHATEVER THE INPUT: true; the input reads as it did. -/
def fnTakenPlacesStaySpec : ChangeSpec := { name := "fnTakenPlacesStay", fn := fun _ => fun
  | [d1, d2] => { results := [.lit (.bool true)], args := [d1, d2] }
  | _ => none }
def fnTakenPlacesStayRow : OpenClaim := { program := "ytnjkmmomekjdaaa", sum := "b52938bca953f9637a1e51a6ac03b1858d2796e16fa9abf19f8f85d3a38b1c15", func := "loop.example/g01115/laws.FnTakenPlacesStay", spec := "fnTakenPlacesStay", unfollowed := true, recurses := true, apart := false }
def FnTakenPlacesStaySaid : Prop := fnTakenPlacesStayRow.holds Try.pinned (OpenSpec.ofChange fnTakenPlacesStaySpec)

/-- ITS FALSE NEIGHBOUR: 'it returns false'. Refute it at one input. -/
def fnTakenPlacesStayWrong : ChangeSpec := { name := "fnTakenPlacesStay", fn := fun _ => fun
  | [d1, d2] => { results := [.lit (.bool false)], args := [d1, d2] }
  | _ => none }
def FnTakenPlacesStayWrongFalsely : Prop := fnTakenPlacesStayRow.holds Try.pinned (OpenSpec.ofChange fnTakenPlacesStayWrong)

/-- 'laws.FnParkingDecided': WHATEVER THE INPUT: true; the input reads as it did. -/
def fnParkingDecidedSpec : ChangeSpec := { name := "fnParkingDecided", fn := fun _ => fun
  | [d1, d2] => { results := [.lit (.bool true)], args := [d1, d2] }
  | _ => none }
def fnParkingDecidedRow : OpenClaim := { program := "ytnjkmmomekjdaaa", sum := "b52938bca953f9637a1e51a6ac03b1858d2796e16fa9abf19f8f85d3a38b1c15", func := "loop.example/g01115/laws.FnParkingDecided", spec := "fnParkingDecided", unfollowed := true, recurses := true, apart := false }
def FnParkingDecidedSaid : Prop := fnParkingDecidedRow.holds Try.pinned (OpenSpec.ofChange fnParkingDecidedSpec)

/-- ITS FALSE NEIGHBOUR: 'it returns false'. Refute it at one input. -/
def fnParkingDecidedWrong : ChangeSpec := { name := "fnParkingDecided", fn := fun _ => fun
  | [d1, d2] => { results := [.lit (.bool false)], args := [d1, d2] }
  | _ => none }
def FnParkingDecidedWrongFalsely : Prop := fnParkingDecidedRow.holds Try.pinned (OpenSpec.ofChange fnParkingDecidedWrong)

/-- 'laws.FnLesserListsPark': WHATEVER THE INPUT: true; the input reads as it did. -/
def fnLesserListsParkSpec : ChangeSpec := { name := "fnLesserListsPark", fn := fun _ => fun
  | [d1, d2] => { results := [.lit (.bool true)], args := [d1, d2] }
  | _ => none }
def fnLesserListsParkRow : OpenClaim := { program := "ytnjkmmomekjdaaa", sum := "b52938bca953f9637a1e51a6ac03b1858d2796e16fa9abf19f8f85d3a38b1c15", func := "loop.example/g01115/laws.FnLesserListsPark", spec := "fnLesserListsPark", unfollowed := true, recurses := true, apart := false }
def FnLesserListsParkSaid : Prop := fnLesserListsParkRow.holds Try.pinned (OpenSpec.ofChange fnLesserListsParkSpec)

/-- ITS FALSE NEIGHBOUR: 'it returns false'. Refute it at one input. -/
def fnLesserListsParkWrong : ChangeSpec := { name := "fnLesserListsPark", fn := fun _ => fun
  | [d1, d2] => { results := [.lit (.bool false)], args := [d1, d2] }
  | _ => none }
def FnLesserListsParkWrongFalsely : Prop := fnLesserListsParkRow.holds Try.pinned (OpenSpec.ofChange fnLesserListsParkWrong)

/-- 'laws.FnOutcomesCounted': WHATEVER THE INPUT: true; the input reads as it did. -/
def fnOutcomesCountedSpec : ChangeSpec := { name := "fnOutcomesCounted", fn := fun _ => fun
  | [d1, d2] => { results := [.lit (.bool true)], args := [d1, d2] }
  | _ => none }
def fnOutcomesCountedRow : OpenClaim := { program := "ytnjkmmomekjdaaa", sum := "b52938bca953f9637a1e51a6ac03b1858d2796e16fa9abf19f8f85d3a38b1c15", func := "loop.example/g01115/laws.FnOutcomesCounted", spec := "fnOutcomesCounted", unfollowed := true, recurses := true, apart := false }
def FnOutcomesCountedSaid : Prop := fnOutcomesCountedRow.holds Try.pinned (OpenSpec.ofChange fnOutcomesCountedSpec)

/-- ITS FALSE NEIGHBOUR: 'it returns false'. Refute it at one input. -/
def fnOutcomesCountedWrong : ChangeSpec := { name := "fnOutcomesCounted", fn := fun _ => fun
  | [d1, d2] => { results := [.lit (.bool false)], args := [d1, d2] }
  | _ => none }
def FnOutcomesCountedWrongFalsely : Prop := fnOutcomesCountedRow.holds Try.pinned (OpenSpec.ofChange fnOutcomesCountedWrong)

/-- 'laws.FnExactAreFavourites': WHATEVER THE INPUT: true; the input reads as it did. -/
def fnExactAreFavouritesSpec : ChangeSpec := { name := "fnExactAreFavourites", fn := fun _ => fun
  | [d1, d2] => { results := [.lit (.bool true)], args := [d1, d2] }
  | _ => none }
def fnExactAreFavouritesRow : OpenClaim := { program := "ytnjkmmomekjdaaa", sum := "b52938bca953f9637a1e51a6ac03b1858d2796e16fa9abf19f8f85d3a38b1c15", func := "loop.example/g01115/laws.FnExactAreFavourites", spec := "fnExactAreFavourites", apart := false }
def FnExactAreFavouritesSaid : Prop := fnExactAreFavouritesRow.holds Try.pinned (OpenSpec.ofChange fnExactAreFavouritesSpec)

/-- ITS FALSE NEIGHBOUR: 'it returns false'. Refute it at one input. -/
def fnExactAreFavouritesWrong : ChangeSpec := { name := "fnExactAreFavourites", fn := fun _ => fun
  | [d1, d2] => { results := [.lit (.bool false)], args := [d1, d2] }
  | _ => none }
def FnExactAreFavouritesWrongFalsely : Prop := fnExactAreFavouritesRow.holds Try.pinned (OpenSpec.ofChange fnExactAreFavouritesWrong)

/-- 'laws.FnExactDriveCars': WHATEVER THE INPUT: true; the input reads as it did. -/
def fnExactDriveCarsSpec : ChangeSpec := { name := "fnExactDriveCars", fn := fun _ => fun
  | [d1, d2] => { results := [.lit (.bool true)], args := [d1, d2] }
  | _ => none }
def fnExactDriveCarsRow : OpenClaim := { program := "ytnjkmmomekjdaaa", sum := "b52938bca953f9637a1e51a6ac03b1858d2796e16fa9abf19f8f85d3a38b1c15", func := "loop.example/g01115/laws.FnExactDriveCars", spec := "fnExactDriveCars", unfollowed := true, recurses := true, apart := false }
def FnExactDriveCarsSaid : Prop := fnExactDriveCarsRow.holds Try.pinned (OpenSpec.ofChange fnExactDriveCarsSpec)

/-- ITS FALSE NEIGHBOUR: 'it returns false'. Refute it at one input. -/
def fnExactDriveCarsWrong : ChangeSpec := { name := "fnExactDriveCars", fn := fun _ => fun
  | [d1, d2] => { results := [.lit (.bool false)], args := [d1, d2] }
  | _ => none }
def FnExactDriveCarsWrongFalsely : Prop := fnExactDriveCarsRow.holds Try.pinned (OpenSpec.ofChange fnExactDriveCarsWrong)

/-- 'laws.FnExactIsParking': WHATEVER THE INPUT: true; the input reads as it did. -/
def fnExactIsParkingSpec : ChangeSpec := { name := "fnExactIsParking", fn := fun _ => fun
  | [d] => { results := [.lit (.bool true)], args := [d] }
  | _ => none }
def fnExactIsParkingRow : OpenClaim := { program := "ytnjkmmomekjdaaa", sum := "b52938bca953f9637a1e51a6ac03b1858d2796e16fa9abf19f8f85d3a38b1c15", func := "loop.example/g01115/laws.FnExactIsParking", spec := "fnExactIsParking", unfollowed := true, recurses := true, apart := false }
def FnExactIsParkingSaid : Prop := fnExactIsParkingRow.holds Try.pinned (OpenSpec.ofChange fnExactIsParkingSpec)

/-- ITS FALSE NEIGHBOUR: 'it returns false'. Refute it at one input. -/
def fnExactIsParkingWrong : ChangeSpec := { name := "fnExactIsParking", fn := fun _ => fun
  | [d] => { results := [.lit (.bool false)], args := [d] }
  | _ => none }
def FnExactIsParkingWrongFalsely : Prop := fnExactIsParkingRow.holds Try.pinned (OpenSpec.ofChange fnExactIsParkingWrong)

/-- 'laws.FnExactDoAllPark': WHATEVER THE INPUT: true; the input reads as it did. -/
def fnExactDoAllParkSpec : ChangeSpec := { name := "fnExactDoAllPark", fn := fun _ => fun
  | [d1, d2] => { results := [.lit (.bool true)], args := [d1, d2] }
  | _ => none }
def fnExactDoAllParkRow : OpenClaim := { program := "ytnjkmmomekjdaaa", sum := "b52938bca953f9637a1e51a6ac03b1858d2796e16fa9abf19f8f85d3a38b1c15", func := "loop.example/g01115/laws.FnExactDoAllPark", spec := "fnExactDoAllPark", unfollowed := true, recurses := true, apart := false }
def FnExactDoAllParkSaid : Prop := fnExactDoAllParkRow.holds Try.pinned (OpenSpec.ofChange fnExactDoAllParkSpec)

/-- ITS FALSE NEIGHBOUR: 'it returns false'. Refute it at one input. -/
def fnExactDoAllParkWrong : ChangeSpec := { name := "fnExactDoAllPark", fn := fun _ => fun
  | [d1, d2] => { results := [.lit (.bool false)], args := [d1, d2] }
  | _ => none }
def FnExactDoAllParkWrongFalsely : Prop := fnExactDoAllParkRow.holds Try.pinned (OpenSpec.ofChange fnExactDoAllParkWrong)

/-- 'laws.FnExactRefusingPlace': WHATEVER THE INPUT: true; the input reads as it did. -/
def fnExactRefusingPlaceSpec : ChangeSpec := { name := "fnExactRefusingPlace", fn := fun _ => fun
  | [d1, d2] => { results := [.lit (.bool true)], args := [d1, d2] }
  | _ => none }
def fnExactRefusingPlaceRow : OpenClaim := { program := "ytnjkmmomekjdaaa", sum := "b52938bca953f9637a1e51a6ac03b1858d2796e16fa9abf19f8f85d3a38b1c15", func := "loop.example/g01115/laws.FnExactRefusingPlace", spec := "fnExactRefusingPlace", apart := false }
def FnExactRefusingPlaceSaid : Prop := fnExactRefusingPlaceRow.holds Try.pinned (OpenSpec.ofChange fnExactRefusingPlaceSpec)

/-- ITS FALSE NEIGHBOUR: 'it returns false'. Refute it at one input. -/
def fnExactRefusingPlaceWrong : ChangeSpec := { name := "fnExactRefusingPlace", fn := fun _ => fun
  | [d1, d2] => { results := [.lit (.bool false)], args := [d1, d2] }
  | _ => none }
def FnExactRefusingPlaceWrongFalsely : Prop := fnExactRefusingPlaceRow.holds Try.pinned (OpenSpec.ofChange fnExactRefusingPlaceWrong)

/-- 'laws.FnExactTakenPlaces': WHATEVER THE INPUT: true; the input reads as it did. -/
def fnExactTakenPlacesSpec : ChangeSpec := { name := "fnExactTakenPlaces", fn := fun _ => fun
  | [d1, d2] => { results := [.lit (.bool true)], args := [d1, d2] }
  | _ => none }
def fnExactTakenPlacesRow : OpenClaim := { program := "ytnjkmmomekjdaaa", sum := "b52938bca953f9637a1e51a6ac03b1858d2796e16fa9abf19f8f85d3a38b1c15", func := "loop.example/g01115/laws.FnExactTakenPlaces", spec := "fnExactTakenPlaces", unfollowed := true, recurses := true, apart := false }
def FnExactTakenPlacesSaid : Prop := fnExactTakenPlacesRow.holds Try.pinned (OpenSpec.ofChange fnExactTakenPlacesSpec)

/-- ITS FALSE NEIGHBOUR: 'it returns false'. Refute it at one input. -/
def fnExactTakenPlacesWrong : ChangeSpec := { name := "fnExactTakenPlaces", fn := fun _ => fun
  | [d1, d2] => { results := [.lit (.bool false)], args := [d1, d2] }
  | _ => none }
def FnExactTakenPlacesWrongFalsely : Prop := fnExactTakenPlacesRow.holds Try.pinned (OpenSpec.ofChange fnExactTakenPlacesWrong)

/-- 'laws.FnExactDistancesOf': WHATEVER THE INPUT: true; the input reads as it did. -/
def fnExactDistancesOfSpec : ChangeSpec := { name := "fnExactDistancesOf", fn := fun _ => fun
  | [d1, d2] => { results := [.lit (.bool true)], args := [d1, d2] }
  | _ => none }
def fnExactDistancesOfRow : OpenClaim := { program := "ytnjkmmomekjdaaa", sum := "b52938bca953f9637a1e51a6ac03b1858d2796e16fa9abf19f8f85d3a38b1c15", func := "loop.example/g01115/laws.FnExactDistancesOf", spec := "fnExactDistancesOf", unfollowed := true, recurses := true, apart := false }
def FnExactDistancesOfSaid : Prop := fnExactDistancesOfRow.holds Try.pinned (OpenSpec.ofChange fnExactDistancesOfSpec)

/-- ITS FALSE NEIGHBOUR: 'it returns false'. Refute it at one input. -/
def fnExactDistancesOfWrong : ChangeSpec := { name := "fnExactDistancesOf", fn := fun _ => fun
  | [d1, d2] => { results := [.lit (.bool false)], args := [d1, d2] }
  | _ => none }
def FnExactDistancesOfWrongFalsely : Prop := fnExactDistancesOfRow.holds Try.pinned (OpenSpec.ofChange fnExactDistancesOfWrong)

/- THE SECOND FORM. 'bulk': how many values and letters a reading holds, each counted each time it is reached (what is shared counts as often as it is met; a slice's spare places count too). A statement '..UptoSaid' is the law's where the arguments, and the package variables that the reading takes, are together of bulk at most 1048576: NARROWER than '..Said'. Prove '..Said' where nothing that the law and all that it calls make is longer than what came in: it says more and counts as full. Else prove '..UptoSaid'. A law counts once. -/
mutual
def uptoBulk {H : Type} : DataW H → Nat
  | .lit (.string bytes) => bytes.length + 1
  | .lit _ => 1
  | .nil => 1
  | .ptr d => uptoBulk d + 1
  | .slice elems spare => uptoBulkAll elems + uptoBulkAll spare + 1
  | .agg parts => uptoBulkAll parts + 1
  | .iface _ d => uptoBulk d + 1
  | .map entries => uptoBulkEntries entries + 1
  | .held _ => 1
def uptoBulkAll {H : Type} : List (DataW H) → Nat
  | [] => 0
  | d :: r => uptoBulk d + uptoBulkAll r
def uptoBulkEntries {H : Type} : List (Lit × DataW H) → Nat
  | [] => 0
  | x :: r => uptoBulkEntry x + uptoBulkEntries r
def uptoBulkEntry {H : Type} : Lit × DataW H → Nat
  | (.string bytes, d) => bytes.length + uptoBulk d + 1
  | (_, d) => uptoBulk d + 1
 end
def uptoSmall : (H : Type) → List (DataW H) → Bool := fun _ ds => decide (uptoBulkAll ds ≤ 1048576)
def OpenSpec.upto (s : _root_.Go.ChangeSpec) : _root_.Go.OpenSpec := { _root_.Go.OpenSpec.ofChange s with cond := some uptoSmall }

/-- 'laws.FnTakenPlacesStay', WHERE WHAT IT READS IS OF BULK AT MOST 1048576: true; the input reads as it did. -/
def fnTakenPlacesStayUptoRow : OpenClaim := { program := "ytnjkmmomekjdaaa", sum := "b52938bca953f9637a1e51a6ac03b1858d2796e16fa9abf19f8f85d3a38b1c15", func := "loop.example/g01115/laws.FnTakenPlacesStay", spec := "fnTakenPlacesStay", unfollowed := true, recurses := true, apart := false, narrowed := true }
def FnTakenPlacesStayUptoSaid : Prop := fnTakenPlacesStayUptoRow.holds Try.pinned (OpenSpec.upto fnTakenPlacesStaySpec)

/-- 'laws.FnParkingDecided', WHERE WHAT IT READS IS OF BULK AT MOST 1048576: true; the input reads as it did. -/
def fnParkingDecidedUptoRow : OpenClaim := { program := "ytnjkmmomekjdaaa", sum := "b52938bca953f9637a1e51a6ac03b1858d2796e16fa9abf19f8f85d3a38b1c15", func := "loop.example/g01115/laws.FnParkingDecided", spec := "fnParkingDecided", unfollowed := true, recurses := true, apart := false, narrowed := true }
def FnParkingDecidedUptoSaid : Prop := fnParkingDecidedUptoRow.holds Try.pinned (OpenSpec.upto fnParkingDecidedSpec)

/-- 'laws.FnLesserListsPark', WHERE WHAT IT READS IS OF BULK AT MOST 1048576: true; the input reads as it did. -/
def fnLesserListsParkUptoRow : OpenClaim := { program := "ytnjkmmomekjdaaa", sum := "b52938bca953f9637a1e51a6ac03b1858d2796e16fa9abf19f8f85d3a38b1c15", func := "loop.example/g01115/laws.FnLesserListsPark", spec := "fnLesserListsPark", unfollowed := true, recurses := true, apart := false, narrowed := true }
def FnLesserListsParkUptoSaid : Prop := fnLesserListsParkUptoRow.holds Try.pinned (OpenSpec.upto fnLesserListsParkSpec)

/-- 'laws.FnOutcomesCounted', WHERE WHAT IT READS IS OF BULK AT MOST 1048576: true; the input reads as it did. -/
def fnOutcomesCountedUptoRow : OpenClaim := { program := "ytnjkmmomekjdaaa", sum := "b52938bca953f9637a1e51a6ac03b1858d2796e16fa9abf19f8f85d3a38b1c15", func := "loop.example/g01115/laws.FnOutcomesCounted", spec := "fnOutcomesCounted", unfollowed := true, recurses := true, apart := false, narrowed := true }
def FnOutcomesCountedUptoSaid : Prop := fnOutcomesCountedUptoRow.holds Try.pinned (OpenSpec.upto fnOutcomesCountedSpec)

/-- 'laws.FnExactAreFavourites', WHERE WHAT IT READS IS OF BULK AT MOST 1048576: true; the input reads as it did. -/
def fnExactAreFavouritesUptoRow : OpenClaim := { program := "ytnjkmmomekjdaaa", sum := "b52938bca953f9637a1e51a6ac03b1858d2796e16fa9abf19f8f85d3a38b1c15", func := "loop.example/g01115/laws.FnExactAreFavourites", spec := "fnExactAreFavourites", apart := false, narrowed := true }
def FnExactAreFavouritesUptoSaid : Prop := fnExactAreFavouritesUptoRow.holds Try.pinned (OpenSpec.upto fnExactAreFavouritesSpec)

/-- 'laws.FnExactDriveCars', WHERE WHAT IT READS IS OF BULK AT MOST 1048576: true; the input reads as it did. -/
def fnExactDriveCarsUptoRow : OpenClaim := { program := "ytnjkmmomekjdaaa", sum := "b52938bca953f9637a1e51a6ac03b1858d2796e16fa9abf19f8f85d3a38b1c15", func := "loop.example/g01115/laws.FnExactDriveCars", spec := "fnExactDriveCars", unfollowed := true, recurses := true, apart := false, narrowed := true }
def FnExactDriveCarsUptoSaid : Prop := fnExactDriveCarsUptoRow.holds Try.pinned (OpenSpec.upto fnExactDriveCarsSpec)

/-- 'laws.FnExactIsParking', WHERE WHAT IT READS IS OF BULK AT MOST 1048576: true; the input reads as it did. -/
def fnExactIsParkingUptoRow : OpenClaim := { program := "ytnjkmmomekjdaaa", sum := "b52938bca953f9637a1e51a6ac03b1858d2796e16fa9abf19f8f85d3a38b1c15", func := "loop.example/g01115/laws.FnExactIsParking", spec := "fnExactIsParking", unfollowed := true, recurses := true, apart := false, narrowed := true }
def FnExactIsParkingUptoSaid : Prop := fnExactIsParkingUptoRow.holds Try.pinned (OpenSpec.upto fnExactIsParkingSpec)

/-- 'laws.FnExactDoAllPark', WHERE WHAT IT READS IS OF BULK AT MOST 1048576: true; the input reads as it did. -/
def fnExactDoAllParkUptoRow : OpenClaim := { program := "ytnjkmmomekjdaaa", sum := "b52938bca953f9637a1e51a6ac03b1858d2796e16fa9abf19f8f85d3a38b1c15", func := "loop.example/g01115/laws.FnExactDoAllPark", spec := "fnExactDoAllPark", unfollowed := true, recurses := true, apart := false, narrowed := true }
def FnExactDoAllParkUptoSaid : Prop := fnExactDoAllParkUptoRow.holds Try.pinned (OpenSpec.upto fnExactDoAllParkSpec)

/-- 'laws.FnExactRefusingPlace', WHERE WHAT IT READS IS OF BULK AT MOST 1048576: true; the input reads as it did. -/
def fnExactRefusingPlaceUptoRow : OpenClaim := { program := "ytnjkmmomekjdaaa", sum := "b52938bca953f9637a1e51a6ac03b1858d2796e16fa9abf19f8f85d3a38b1c15", func := "loop.example/g01115/laws.FnExactRefusingPlace", spec := "fnExactRefusingPlace", apart := false, narrowed := true }
def FnExactRefusingPlaceUptoSaid : Prop := fnExactRefusingPlaceUptoRow.holds Try.pinned (OpenSpec.upto fnExactRefusingPlaceSpec)

/-- 'laws.FnExactTakenPlaces', WHERE WHAT IT READS IS OF BULK AT MOST 1048576: true; the input reads as it did. -/
def fnExactTakenPlacesUptoRow : OpenClaim := { program := "ytnjkmmomekjdaaa", sum := "b52938bca953f9637a1e51a6ac03b1858d2796e16fa9abf19f8f85d3a38b1c15", func := "loop.example/g01115/laws.FnExactTakenPlaces", spec := "fnExactTakenPlaces", unfollowed := true, recurses := true, apart := false, narrowed := true }
def FnExactTakenPlacesUptoSaid : Prop := fnExactTakenPlacesUptoRow.holds Try.pinned (OpenSpec.upto fnExactTakenPlacesSpec)

/-- 'laws.FnExactDistancesOf', WHERE WHAT IT READS IS OF BULK AT MOST 1048576: true; the input reads as it did. -/
def fnExactDistancesOfUptoRow : OpenClaim := { program := "ytnjkmmomekjdaaa", sum := "b52938bca953f9637a1e51a6ac03b1858d2796e16fa9abf19f8f85d3a38b1c15", func := "loop.example/g01115/laws.FnExactDistancesOf", spec := "fnExactDistancesOf", unfollowed := true, recurses := true, apart := false, narrowed := true }
def FnExactDistancesOfUptoSaid : Prop := fnExactDistancesOfUptoRow.holds Try.pinned (OpenSpec.upto fnExactDistancesOfSpec)

end Rows
end Go.Proofs.Ytnjkmmomekjdaaa
