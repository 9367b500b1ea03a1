/-
  No cell of these rows narrows 'for every input' (looked for: loops, veiled, ifaces, maps, wideKeys, modest, calm, conditions, laid).
  DERIVED. THE GIVEN ROWS OF THIS SEAT. 8 by the template 'for every input the law returns true; each argument reads behind the call as it read before'; 0 by the template 'total and deterministic' (their statements: YtabhhmnilidppabTotals.lean).
  GIVEN WITH THE SEED: the statements are not yours to turn. If you find one false, say at which input.
  Laid BY PROGRAM, IN A SANDBOX (cutbox-rows.mjs): the forced cells as the released guide's own fill.sh prints them over the translation 801725cd23a54f81… (all of the seat's roots in one cut). By AI agents, Wed Nov 11 2026. No macro, syntax, notation, axiom, sorry.
-/
import Derived.Test.YtabhhmnilidppabChecked
import GoSem.Claim
import GoSem.ClaimJoined
import GoSem.ClaimMapViews
import Derived.JoinedTies
import Derived.KernelRfl
namespace Go.Proofs.Ytabhhmnilidppab
/- THE CELL 'sum', in the pinned program and in every row, IS THE sha256 OF THE DUMP (.gsa) THAT YtabhhmnilidppabProg.lean LOADS. Nothing in Lean hashes anything: it is a label: what it is worth is what the hold of that sum in a sandbox is worth. -/
noncomputable def Try.pinned : Pinned := { name := "ytabhhmnilidppab", sum := "801725cd23a54f81dcafcdfb9945ef1d7bb780509addd8d9522dbdccb5a546ca", checked := Try.checked }
namespace Rows
def none {H : Type} : Left H := { results := [], args := [] }

/-- 'laws.FnExactAllParking': WHATEVER THE INPUT: true; the input reads as it did. -/
def fnExactAllParkingSpec : ChangeSpec := { name := "fnExactAllParking", fn := fun _ => fun
  | [d] => { results := [.lit (.bool true)], args := [d] }
  | _ => none }
def fnExactAllParkingRow : OpenClaim := { program := "ytabhhmnilidppab", sum := "801725cd23a54f81dcafcdfb9945ef1d7bb780509addd8d9522dbdccb5a546ca", func := "loop.example/g01115/laws.FnExactAllParking", spec := "fnExactAllParking", unfollowed := true, recurses := true, apart := false }
def FnExactAllParkingSaid : Prop := fnExactAllParkingRow.holds Try.pinned (OpenSpec.ofChange fnExactAllParkingSpec)

/-- ITS FALSE NEIGHBOUR: 'it returns false'. Refute it at one input. -/
def fnExactAllParkingWrong : ChangeSpec := { name := "fnExactAllParking", fn := fun _ => fun
  | [d] => { results := [.lit (.bool false)], args := [d] }
  | _ => none }
def FnExactAllParkingWrongFalsely : Prop := fnExactAllParkingRow.holds Try.pinned (OpenSpec.ofChange fnExactAllParkingWrong)

/-- 'laws.FnExactAllSorted': WHATEVER THE INPUT: true; the input reads as it did. -/
def fnExactAllSortedSpec : ChangeSpec := { name := "fnExactAllSorted", fn := fun _ => fun
  | [d] => { results := [.lit (.bool true)], args := [d] }
  | _ => none }
def fnExactAllSortedRow : OpenClaim := { program := "ytabhhmnilidppab", sum := "801725cd23a54f81dcafcdfb9945ef1d7bb780509addd8d9522dbdccb5a546ca", func := "loop.example/g01115/laws.FnExactAllSorted", spec := "fnExactAllSorted", unfollowed := true, recurses := true, apart := false }
def FnExactAllSortedSaid : Prop := fnExactAllSortedRow.holds Try.pinned (OpenSpec.ofChange fnExactAllSortedSpec)

/-- ITS FALSE NEIGHBOUR: 'it returns false'. Refute it at one input. -/
def fnExactAllSortedWrong : ChangeSpec := { name := "fnExactAllSorted", fn := fun _ => fun
  | [d] => { results := [.lit (.bool false)], args := [d] }
  | _ => none }
def FnExactAllSortedWrongFalsely : Prop := fnExactAllSortedRow.holds Try.pinned (OpenSpec.ofChange fnExactAllSortedWrong)

/-- 'laws.FnExactCountByDistance': WHATEVER THE INPUT: true; the input reads as it did. -/
def fnExactCountByDistanceSpec : ChangeSpec := { name := "fnExactCountByDistance", fn := fun _ => fun
  | [d] => { results := [.lit (.bool true)], args := [d] }
  | _ => none }
def fnExactCountByDistanceRow : OpenClaim := { program := "ytabhhmnilidppab", sum := "801725cd23a54f81dcafcdfb9945ef1d7bb780509addd8d9522dbdccb5a546ca", func := "loop.example/g01115/laws.FnExactCountByDistance", spec := "fnExactCountByDistance", unfollowed := true, recurses := true, apart := false }
def FnExactCountByDistanceSaid : Prop := fnExactCountByDistanceRow.holds Try.pinned (OpenSpec.ofChange fnExactCountByDistanceSpec)

/-- ITS FALSE NEIGHBOUR: 'it returns false'. Refute it at one input. -/
def fnExactCountByDistanceWrong : ChangeSpec := { name := "fnExactCountByDistance", fn := fun _ => fun
  | [d] => { results := [.lit (.bool false)], args := [d] }
  | _ => none }
def FnExactCountByDistanceWrongFalsely : Prop := fnExactCountByDistanceRow.holds Try.pinned (OpenSpec.ofChange fnExactCountByDistanceWrong)

/-- 'laws.FnExactCountOrders': WHATEVER THE INPUT: true; the input reads as it did. -/
def fnExactCountOrdersSpec : ChangeSpec := { name := "fnExactCountOrders", fn := fun _ => fun
  | [d] => { results := [.lit (.bool true)], args := [d] }
  | _ => none }
def fnExactCountOrdersRow : OpenClaim := { program := "ytabhhmnilidppab", sum := "801725cd23a54f81dcafcdfb9945ef1d7bb780509addd8d9522dbdccb5a546ca", func := "loop.example/g01115/laws.FnExactCountOrders", spec := "fnExactCountOrders", unfollowed := true, recurses := true, apart := false }
def FnExactCountOrdersSaid : Prop := fnExactCountOrdersRow.holds Try.pinned (OpenSpec.ofChange fnExactCountOrdersSpec)

/-- ITS FALSE NEIGHBOUR: 'it returns false'. Refute it at one input. -/
def fnExactCountOrdersWrong : ChangeSpec := { name := "fnExactCountOrders", fn := fun _ => fun
  | [d] => { results := [.lit (.bool false)], args := [d] }
  | _ => none }
def FnExactCountOrdersWrongFalsely : Prop := fnExactCountOrdersRow.holds Try.pinned (OpenSpec.ofChange fnExactCountOrdersWrong)

/-- 'laws.FnParkingRanks': WHATEVER THE INPUT: true; the input reads as it did. -/
def fnParkingRanksSpec : ChangeSpec := { name := "fnParkingRanks", fn := fun _ => fun
  | [d1, d2] => { results := [.lit (.bool true)], args := [d1, d2] }
  | _ => none }
def fnParkingRanksRow : OpenClaim := { program := "ytabhhmnilidppab", sum := "801725cd23a54f81dcafcdfb9945ef1d7bb780509addd8d9522dbdccb5a546ca", func := "loop.example/g01115/laws.FnParkingRanks", spec := "fnParkingRanks", unfollowed := true, recurses := true, apart := false }
def FnParkingRanksSaid : Prop := fnParkingRanksRow.holds Try.pinned (OpenSpec.ofChange fnParkingRanksSpec)

/-- ITS FALSE NEIGHBOUR: 'it returns false'. Refute it at one input. -/
def fnParkingRanksWrong : ChangeSpec := { name := "fnParkingRanks", fn := fun _ => fun
  | [d1, d2] => { results := [.lit (.bool false)], args := [d1, d2] }
  | _ => none }
def FnParkingRanksWrongFalsely : Prop := fnParkingRanksRow.holds Try.pinned (OpenSpec.ofChange fnParkingRanksWrong)

/-- 'laws.FnParkingCounts': WHATEVER THE INPUT: true; the input reads as it did. -/
def fnParkingCountsSpec : ChangeSpec := { name := "fnParkingCounts", fn := fun _ => fun
  | [d1, d2] => { results := [.lit (.bool true)], args := [d1, d2] }
  | _ => none }
def fnParkingCountsRow : OpenClaim := { program := "ytabhhmnilidppab", sum := "801725cd23a54f81dcafcdfb9945ef1d7bb780509addd8d9522dbdccb5a546ca", func := "loop.example/g01115/laws.FnParkingCounts", spec := "fnParkingCounts", unfollowed := true, recurses := true, apart := false }
def FnParkingCountsSaid : Prop := fnParkingCountsRow.holds Try.pinned (OpenSpec.ofChange fnParkingCountsSpec)

/-- ITS FALSE NEIGHBOUR: 'it returns false'. Refute it at one input. -/
def fnParkingCountsWrong : ChangeSpec := { name := "fnParkingCounts", fn := fun _ => fun
  | [d1, d2] => { results := [.lit (.bool false)], args := [d1, d2] }
  | _ => none }
def FnParkingCountsWrongFalsely : Prop := fnParkingCountsRow.holds Try.pinned (OpenSpec.ofChange fnParkingCountsWrong)

/-- 'laws.FnCircles': WHATEVER THE INPUT: true; the input reads as it did. -/
def fnCirclesSpec : ChangeSpec := { name := "fnCircles", fn := fun _ => fun
  | [d1, d2] => { results := [.lit (.bool true)], args := [d1, d2] }
  | _ => none }
def fnCirclesRow : OpenClaim := { program := "ytabhhmnilidppab", sum := "801725cd23a54f81dcafcdfb9945ef1d7bb780509addd8d9522dbdccb5a546ca", func := "loop.example/g01115/laws.FnCircles", spec := "fnCircles", unfollowed := true, recurses := true, apart := false }
def FnCirclesSaid : Prop := fnCirclesRow.holds Try.pinned (OpenSpec.ofChange fnCirclesSpec)

/-- ITS FALSE NEIGHBOUR: 'it returns false'. Refute it at one input. -/
def fnCirclesWrong : ChangeSpec := { name := "fnCircles", fn := fun _ => fun
  | [d1, d2] => { results := [.lit (.bool false)], args := [d1, d2] }
  | _ => none }
def FnCirclesWrongFalsely : Prop := fnCirclesRow.holds Try.pinned (OpenSpec.ofChange fnCirclesWrong)

/-- 'laws.FnSortedParking': WHATEVER THE INPUT: true; the input reads as it did. -/
def fnSortedParkingSpec : ChangeSpec := { name := "fnSortedParking", fn := fun _ => fun
  | [d1, d2] => { results := [.lit (.bool true)], args := [d1, d2] }
  | _ => none }
def fnSortedParkingRow : OpenClaim := { program := "ytabhhmnilidppab", sum := "801725cd23a54f81dcafcdfb9945ef1d7bb780509addd8d9522dbdccb5a546ca", func := "loop.example/g01115/laws.FnSortedParking", spec := "fnSortedParking", unfollowed := true, recurses := true, apart := false }
def FnSortedParkingSaid : Prop := fnSortedParkingRow.holds Try.pinned (OpenSpec.ofChange fnSortedParkingSpec)

/-- ITS FALSE NEIGHBOUR: 'it returns false'. Refute it at one input. -/
def fnSortedParkingWrong : ChangeSpec := { name := "fnSortedParking", fn := fun _ => fun
  | [d1, d2] => { results := [.lit (.bool false)], args := [d1, d2] }
  | _ => none }
def FnSortedParkingWrongFalsely : Prop := fnSortedParkingRow.holds Try.pinned (OpenSpec.ofChange fnSortedParkingWrong)

/- THE SECOND FORM. 'bulk': how many values and letters a reading holds, each counted each time it is reached (what is shared counts as often as it is met; a slice's spare places count too). A statement '..UptoSaid' is the law's where the arguments, and the package variables that the reading takes, are together of bulk at most 1048576: NARROWER than '..Said'. Prove '..Said' where nothing that the law and all that it calls make is longer than what came in: it says more and counts as full. Else prove '..UptoSaid'. A law counts once. -/
mutual
def uptoBulk {H : Type} : DataW H → Nat
  | .lit (.string bytes) => bytes.length + 1
  | .lit _ => 1
  | .nil => 1
  | .ptr d => uptoBulk d + 1
  | .slice elems spare => uptoBulkAll elems + uptoBulkAll spare + 1
  | .agg parts => uptoBulkAll parts + 1
  | .iface _ d => uptoBulk d + 1
  | .map entries => uptoBulkEntries entries + 1
  | .held _ => 1
def uptoBulkAll {H : Type} : List (DataW H) → Nat
  | [] => 0
  | d :: r => uptoBulk d + uptoBulkAll r
def uptoBulkEntries {H : Type} : List (Lit × DataW H) → Nat
  | [] => 0
  | x :: r => uptoBulkEntry x + uptoBulkEntries r
def uptoBulkEntry {H : Type} : Lit × DataW H → Nat
  | (.string bytes, d) => bytes.length + uptoBulk d + 1
  | (_, d) => uptoBulk d + 1
 end
def uptoSmall : (H : Type) → List (DataW H) → Bool := fun _ ds => decide (uptoBulkAll ds ≤ 1048576)
def OpenSpec.upto (s : _root_.Go.ChangeSpec) : _root_.Go.OpenSpec := { _root_.Go.OpenSpec.ofChange s with cond := some uptoSmall }

/-- 'laws.FnExactAllParking', WHERE WHAT IT READS IS OF BULK AT MOST 1048576: true; the input reads as it did. -/
def fnExactAllParkingUptoRow : OpenClaim := { program := "ytabhhmnilidppab", sum := "801725cd23a54f81dcafcdfb9945ef1d7bb780509addd8d9522dbdccb5a546ca", func := "loop.example/g01115/laws.FnExactAllParking", spec := "fnExactAllParking", unfollowed := true, recurses := true, apart := false, narrowed := true }
def FnExactAllParkingUptoSaid : Prop := fnExactAllParkingUptoRow.holds Try.pinned (OpenSpec.upto fnExactAllParkingSpec)

/-- 'laws.FnExactAllSorted', WHERE WHAT IT READS IS OF BULK AT MOST 1048576: true; the input reads as it did. -/
def fnExactAllSortedUptoRow : OpenClaim := { program := "ytabhhmnilidppab", sum := "801725cd23a54f81dcafcdfb9945ef1d7bb780509addd8d9522dbdccb5a546ca", func := "loop.example/g01115/laws.FnExactAllSorted", spec := "fnExactAllSorted", unfollowed := true, recurses := true, apart := false, narrowed := true }
def FnExactAllSortedUptoSaid : Prop := fnExactAllSortedUptoRow.holds Try.pinned (OpenSpec.upto fnExactAllSortedSpec)

/-- 'laws.FnExactCountByDistance', WHERE WHAT IT READS IS OF BULK AT MOST 1048576: true; the input reads as it did. -/
def fnExactCountByDistanceUptoRow : OpenClaim := { program := "ytabhhmnilidppab", sum := "801725cd23a54f81dcafcdfb9945ef1d7bb780509addd8d9522dbdccb5a546ca", func := "loop.example/g01115/laws.FnExactCountByDistance", spec := "fnExactCountByDistance", unfollowed := true, recurses := true, apart := false, narrowed := true }
def FnExactCountByDistanceUptoSaid : Prop := fnExactCountByDistanceUptoRow.holds Try.pinned (OpenSpec.upto fnExactCountByDistanceSpec)

/-- 'laws.FnExactCountOrders', WHERE WHAT IT READS IS OF BULK AT MOST 1048576: true; the input reads as it did. -/
def fnExactCountOrdersUptoRow : OpenClaim := { program := "ytabhhmnilidppab", sum := "801725cd23a54f81dcafcdfb9945ef1d7bb780509addd8d9522dbdccb5a546ca", func := "loop.example/g01115/laws.FnExactCountOrders", spec := "fnExactCountOrders", unfollowed := true, recurses := true, apart := false, narrowed := true }
def FnExactCountOrdersUptoSaid : Prop := fnExactCountOrdersUptoRow.holds Try.pinned (OpenSpec.upto fnExactCountOrdersSpec)

/-- 'laws.FnParkingRanks', WHERE WHAT IT READS IS OF BULK AT MOST 1048576: true; the input reads as it did. -/
def fnParkingRanksUptoRow : OpenClaim := { program := "ytabhhmnilidppab", sum := "801725cd23a54f81dcafcdfb9945ef1d7bb780509addd8d9522dbdccb5a546ca", func := "loop.example/g01115/laws.FnParkingRanks", spec := "fnParkingRanks", unfollowed := true, recurses := true, apart := false, narrowed := true }
def FnParkingRanksUptoSaid : Prop := fnParkingRanksUptoRow.holds Try.pinned (OpenSpec.upto fnParkingRanksSpec)

/-- 'laws.FnParkingCounts', WHERE WHAT IT READS IS OF BULK AT MOST 1048576: true; the input reads as it did. -/
def fnParkingCountsUptoRow : OpenClaim := { program := "ytabhhmnilidppab", sum := "801725cd23a54f81dcafcdfb9945ef1d7bb780509addd8d9522dbdccb5a546ca", func := "loop.example/g01115/laws.FnParkingCounts", spec := "fnParkingCounts", unfollowed := true, recurses := true, apart := false, narrowed := true }
def FnParkingCountsUptoSaid : Prop := fnParkingCountsUptoRow.holds Try.pinned (OpenSpec.upto fnParkingCountsSpec)

/-- 'laws.FnCircles', WHERE WHAT IT READS IS OF BULK AT MOST 1048576: true; the input reads as it did. -/
def fnCirclesUptoRow : OpenClaim := { program := "ytabhhmnilidppab", sum := "801725cd23a54f81dcafcdfb9945ef1d7bb780509addd8d9522dbdccb5a546ca", func := "loop.example/g01115/laws.FnCircles", spec := "fnCircles", unfollowed := true, recurses := true, apart := false, narrowed := true }
def FnCirclesUptoSaid : Prop := fnCirclesUptoRow.holds Try.pinned (OpenSpec.upto fnCirclesSpec)

/-- 'laws.FnSortedParking', WHERE WHAT IT READS IS OF BULK AT MOST 1048576: true; the input reads as it did. -/
def fnSortedParkingUptoRow : OpenClaim := { program := "ytabhhmnilidppab", sum := "801725cd23a54f81dcafcdfb9945ef1d7bb780509addd8d9522dbdccb5a546ca", func := "loop.example/g01115/laws.FnSortedParking", spec := "fnSortedParking", unfollowed := true, recurses := true, apart := false, narrowed := true }
def FnSortedParkingUptoSaid : Prop := fnSortedParkingUptoRow.holds Try.pinned (OpenSpec.upto fnSortedParkingSpec)

end Rows
end Go.Proofs.Ytabhhmnilidppab
