/-
  No cell of these rows narrows 'for every input' (looked for: loops, veiled, ifaces, maps, wideKeys, modest, calm, conditions, laid).
  DERIVED. THE GIVEN ROWS OF THIS SEAT. 8 by the template 'for every input the law returns true; each argument reads behind the call as it read before'; 0 by the template 'total and deterministic' (their statements: YtfkejkkplafciacTotals.lean).
  GIVEN WITH THE SEED: the statements are not yours to turn. If you find one false, say at which input.
  Laid BY PROGRAM, IN A SANDBOX (cutbox-rows.mjs): the forced cells as the released guide's own fill.sh prints them over the translation 49d80d5c18dd9dad… (all of the seat's roots in one cut). By AI agents, Wed Nov 11 2026. No macro, syntax, notation, axiom, sorry.
-/
import Derived.Test.YtfkejkkplafciacChecked
import GoSem.Claim
import GoSem.ClaimJoined
import GoSem.ClaimMapViews
import Derived.JoinedTies
import Derived.KernelRfl
namespace Go.Proofs.Ytfkejkkplafciac
/- THE CELL 'sum', in the pinned program and in every row, IS THE sha256 OF THE DUMP (.gsa) THAT YtfkejkkplafciacProg.lean LOADS. Nothing in Lean hashes anything: it is a label: what it is worth is what the hold of that sum in a sandbox is worth. -/
noncomputable def Try.pinned : Pinned := { name := "ytfkejkkplafciac", sum := "49d80d5c18dd9dad3b8957a2f3c1c873499acb916b10a044e6400a888a557afb", checked := Try.checked }
namespace Rows
def none {H : Type} : Left H := { results := [], args := [] }

/-- 'laws.FnExactRankParking': WHATEVER THE INPUT: true; the input reads as it did. -/
def fnExactRankParkingSpec : ChangeSpec := { name := "fnExactRankParking", fn := fun _ => fun
  | [d] => { results := [.lit (.bool true)], args := [d] }
  | _ => none }
def fnExactRankParkingRow : OpenClaim := { program := "ytfkejkkplafciac", sum := "49d80d5c18dd9dad3b8957a2f3c1c873499acb916b10a044e6400a888a557afb", func := "loop.example/g01115/laws.FnExactRankParking", spec := "fnExactRankParking", unfollowed := true, recurses := true, apart := false }
def FnExactRankParkingSaid : Prop := fnExactRankParkingRow.holds Try.pinned (OpenSpec.ofChange fnExactRankParkingSpec)

/-- ITS FALSE NEIGHBOUR: 'it returns false'. Refute it at one input. -/
def fnExactRankParkingWrong : ChangeSpec := { name := "fnExactRankParking", fn := fun _ => fun
  | [d] => { results := [.lit (.bool false)], args := [d] }
  | _ => none }
def FnExactRankParkingWrongFalsely : Prop := fnExactRankParkingRow.holds Try.pinned (OpenSpec.ofChange fnExactRankParkingWrong)

/-- 'laws.FnExactParkingAt': WHATEVER THE INPUT: true; the input reads as it did. -/
def fnExactParkingAtSpec : ChangeSpec := { name := "fnExactParkingAt", fn := fun _ => fun
  | [d1, d2] => { results := [.lit (.bool true)], args := [d1, d2] }
  | _ => none }
def fnExactParkingAtRow : OpenClaim := { program := "ytfkejkkplafciac", sum := "49d80d5c18dd9dad3b8957a2f3c1c873499acb916b10a044e6400a888a557afb", func := "loop.example/g01115/laws.FnExactParkingAt", spec := "fnExactParkingAt", apart := false }
def FnExactParkingAtSaid : Prop := fnExactParkingAtRow.holds Try.pinned (OpenSpec.ofChange fnExactParkingAtSpec)

/-- ITS FALSE NEIGHBOUR: 'it returns false'. Refute it at one input. -/
def fnExactParkingAtWrong : ChangeSpec := { name := "fnExactParkingAt", fn := fun _ => fun
  | [d1, d2] => { results := [.lit (.bool false)], args := [d1, d2] }
  | _ => none }
def FnExactParkingAtWrongFalsely : Prop := fnExactParkingAtRow.holds Try.pinned (OpenSpec.ofChange fnExactParkingAtWrong)

/-- 'laws.FnExactNextParking': WHATEVER THE INPUT: true; the input reads as it did. -/
def fnExactNextParkingSpec : ChangeSpec := { name := "fnExactNextParking", fn := fun _ => fun
  | [d] => { results := [.lit (.bool true)], args := [d] }
  | _ => none }
def fnExactNextParkingRow : OpenClaim := { program := "ytfkejkkplafciac", sum := "49d80d5c18dd9dad3b8957a2f3c1c873499acb916b10a044e6400a888a557afb", func := "loop.example/g01115/laws.FnExactNextParking", spec := "fnExactNextParking", unfollowed := true, recurses := true, apart := false }
def FnExactNextParkingSaid : Prop := fnExactNextParkingRow.holds Try.pinned (OpenSpec.ofChange fnExactNextParkingSpec)

/-- ITS FALSE NEIGHBOUR: 'it returns false'. Refute it at one input. -/
def fnExactNextParkingWrong : ChangeSpec := { name := "fnExactNextParking", fn := fun _ => fun
  | [d] => { results := [.lit (.bool false)], args := [d] }
  | _ => none }
def FnExactNextParkingWrongFalsely : Prop := fnExactNextParkingRow.holds Try.pinned (OpenSpec.ofChange fnExactNextParkingWrong)

/-- 'laws.FnExactCountByFirst': WHATEVER THE INPUT: true; the input reads as it did. -/
def fnExactCountByFirstSpec : ChangeSpec := { name := "fnExactCountByFirst", fn := fun _ => fun
  | [d] => { results := [.lit (.bool true)], args := [d] }
  | _ => none }
def fnExactCountByFirstRow : OpenClaim := { program := "ytfkejkkplafciac", sum := "49d80d5c18dd9dad3b8957a2f3c1c873499acb916b10a044e6400a888a557afb", func := "loop.example/g01115/laws.FnExactCountByFirst", spec := "fnExactCountByFirst", apart := false }
def FnExactCountByFirstSaid : Prop := fnExactCountByFirstRow.holds Try.pinned (OpenSpec.ofChange fnExactCountByFirstSpec)

/-- ITS FALSE NEIGHBOUR: 'it returns false'. Refute it at one input. -/
def fnExactCountByFirstWrong : ChangeSpec := { name := "fnExactCountByFirst", fn := fun _ => fun
  | [d] => { results := [.lit (.bool false)], args := [d] }
  | _ => none }
def FnExactCountByFirstWrongFalsely : Prop := fnExactCountByFirstRow.holds Try.pinned (OpenSpec.ofChange fnExactCountByFirstWrong)

/-- 'laws.FnExactAllParking': WHATEVER THE INPUT: true; the input reads as it did. -/
def fnExactAllParkingSpec : ChangeSpec := { name := "fnExactAllParking", fn := fun _ => fun
  | [d] => { results := [.lit (.bool true)], args := [d] }
  | _ => none }
def fnExactAllParkingRow : OpenClaim := { program := "ytfkejkkplafciac", sum := "49d80d5c18dd9dad3b8957a2f3c1c873499acb916b10a044e6400a888a557afb", func := "loop.example/g01115/laws.FnExactAllParking", spec := "fnExactAllParking", unfollowed := true, recurses := true, apart := false }
def FnExactAllParkingSaid : Prop := fnExactAllParkingRow.holds Try.pinned (OpenSpec.ofChange fnExactAllParkingSpec)

/-- ITS FALSE NEIGHBOUR: 'it returns false'. Refute it at one input. -/
def fnExactAllParkingWrong : ChangeSpec := { name := "fnExactAllParking", fn := fun _ => fun
  | [d] => { results := [.lit (.bool false)], args := [d] }
  | _ => none }
def FnExactAllParkingWrongFalsely : Prop := fnExactAllParkingRow.holds Try.pinned (OpenSpec.ofChange fnExactAllParkingWrong)

/-- 'laws.FnExactAllSorted': WHATEVER THE INPUT: true; the input reads as it did. -/
def fnExactAllSortedSpec : ChangeSpec := { name := "fnExactAllSorted", fn := fun _ => fun
  | [d] => { results := [.lit (.bool true)], args := [d] }
  | _ => none }
def fnExactAllSortedRow : OpenClaim := { program := "ytfkejkkplafciac", sum := "49d80d5c18dd9dad3b8957a2f3c1c873499acb916b10a044e6400a888a557afb", func := "loop.example/g01115/laws.FnExactAllSorted", spec := "fnExactAllSorted", unfollowed := true, recurses := true, apart := false }
def FnExactAllSortedSaid : Prop := fnExactAllSortedRow.holds Try.pinned (OpenSpec.ofChange fnExactAllSortedSpec)

/-- ITS FALSE NEIGHBOUR: 'it returns false'. Refute it at one input. -/
def fnExactAllSortedWrong : ChangeSpec := { name := "fnExactAllSorted", fn := fun _ => fun
  | [d] => { results := [.lit (.bool false)], args := [d] }
  | _ => none }
def FnExactAllSortedWrongFalsely : Prop := fnExactAllSortedRow.holds Try.pinned (OpenSpec.ofChange fnExactAllSortedWrong)

/-- 'laws.FnExactCountByDistance': WHATEVER THE INPUT: true; the input reads as it did. -/
def fnExactCountByDistanceSpec : ChangeSpec := { name := "fnExactCountByDistance", fn := fun _ => fun
  | [d] => { results := [.lit (.bool true)], args := [d] }
  | _ => none }
def fnExactCountByDistanceRow : OpenClaim := { program := "ytfkejkkplafciac", sum := "49d80d5c18dd9dad3b8957a2f3c1c873499acb916b10a044e6400a888a557afb", func := "loop.example/g01115/laws.FnExactCountByDistance", spec := "fnExactCountByDistance", unfollowed := true, recurses := true, apart := false }
def FnExactCountByDistanceSaid : Prop := fnExactCountByDistanceRow.holds Try.pinned (OpenSpec.ofChange fnExactCountByDistanceSpec)

/-- ITS FALSE NEIGHBOUR: 'it returns false'. Refute it at one input. -/
def fnExactCountByDistanceWrong : ChangeSpec := { name := "fnExactCountByDistance", fn := fun _ => fun
  | [d] => { results := [.lit (.bool false)], args := [d] }
  | _ => none }
def FnExactCountByDistanceWrongFalsely : Prop := fnExactCountByDistanceRow.holds Try.pinned (OpenSpec.ofChange fnExactCountByDistanceWrong)

/-- 'laws.FnExactParkingOfClass': WHATEVER THE INPUT: true; the input reads as it did. -/
def fnExactParkingOfClassSpec : ChangeSpec := { name := "fnExactParkingOfClass", fn := fun _ => fun
  | [d] => { results := [.lit (.bool true)], args := [d] }
  | _ => none }
def fnExactParkingOfClassRow : OpenClaim := { program := "ytfkejkkplafciac", sum := "49d80d5c18dd9dad3b8957a2f3c1c873499acb916b10a044e6400a888a557afb", func := "loop.example/g01115/laws.FnExactParkingOfClass", spec := "fnExactParkingOfClass", unfollowed := true, recurses := true, apart := false }
def FnExactParkingOfClassSaid : Prop := fnExactParkingOfClassRow.holds Try.pinned (OpenSpec.ofChange fnExactParkingOfClassSpec)

/-- ITS FALSE NEIGHBOUR: 'it returns false'. Refute it at one input. -/
def fnExactParkingOfClassWrong : ChangeSpec := { name := "fnExactParkingOfClass", fn := fun _ => fun
  | [d] => { results := [.lit (.bool false)], args := [d] }
  | _ => none }
def FnExactParkingOfClassWrongFalsely : Prop := fnExactParkingOfClassRow.holds Try.pinned (OpenSpec.ofChange fnExactParkingOfClassWrong)

/- THE SECOND FORM. 'bulk': how many values and letters a reading holds, each counted each time it is reached (what is shared counts as often as it is met; a slice's spare places count too). A statement '..UptoSaid' is the law's where the arguments, and the package variables that the reading takes, are together of bulk at most 1048576: NARROWER than '..Said'. Prove '..Said' where nothing that the law and all that it calls make is longer than what came in: it says more and counts as full. Else prove '..UptoSaid'. A law counts once. -/
mutual
def uptoBulk {H : Type} : DataW H → Nat
  | .lit (.string bytes) => bytes.length + 1
  | .lit _ => 1
  | .nil => 1
  | .ptr d => uptoBulk d + 1
  | .slice elems spare => uptoBulkAll elems + uptoBulkAll spare + 1
  | .agg parts => uptoBulkAll parts + 1
  | .iface _ d => uptoBulk d + 1
  | .map entries => uptoBulkEntries entries + 1
  | .held _ => 1
def uptoBulkAll {H : Type} : List (DataW H) → Nat
  | [] => 0
  | d :: r => uptoBulk d + uptoBulkAll r
def uptoBulkEntries {H : Type} : List (Lit × DataW H) → Nat
  | [] => 0
  | x :: r => uptoBulkEntry x + uptoBulkEntries r
def uptoBulkEntry {H : Type} : Lit × DataW H → Nat
  | (.string bytes, d) => bytes.length + uptoBulk d + 1
  | (_, d) => uptoBulk d + 1
 end
def uptoSmall : (H : Type) → List (DataW H) → Bool := fun _ ds => decide (uptoBulkAll ds ≤ 1048576)
def OpenSpec.upto (s : _root_.Go.ChangeSpec) : _root_.Go.OpenSpec := { _root_.Go.OpenSpec.ofChange s with cond := some uptoSmall }

/-- 'laws.FnExactRankParking', WHERE WHAT IT READS IS OF BULK AT MOST 1048576: true; the input reads as it did. -/
def fnExactRankParkingUptoRow : OpenClaim := { program := "ytfkejkkplafciac", sum := "49d80d5c18dd9dad3b8957a2f3c1c873499acb916b10a044e6400a888a557afb", func := "loop.example/g01115/laws.FnExactRankParking", spec := "fnExactRankParking", unfollowed := true, recurses := true, apart := false, narrowed := true }
def FnExactRankParkingUptoSaid : Prop := fnExactRankParkingUptoRow.holds Try.pinned (OpenSpec.upto fnExactRankParkingSpec)

/-- 'laws.FnExactParkingAt', WHERE WHAT IT READS IS OF BULK AT MOST 1048576: true; the input reads as it did. -/
def fnExactParkingAtUptoRow : OpenClaim := { program := "ytfkejkkplafciac", sum := "49d80d5c18dd9dad3b8957a2f3c1c873499acb916b10a044e6400a888a557afb", func := "loop.example/g01115/laws.FnExactParkingAt", spec := "fnExactParkingAt", apart := false, narrowed := true }
def FnExactParkingAtUptoSaid : Prop := fnExactParkingAtUptoRow.holds Try.pinned (OpenSpec.upto fnExactParkingAtSpec)

/-- 'laws.FnExactNextParking', WHERE WHAT IT READS IS OF BULK AT MOST 1048576: true; the input reads as it did. -/
def fnExactNextParkingUptoRow : OpenClaim := { program := "ytfkejkkplafciac", sum := "49d80d5c18dd9dad3b8957a2f3c1c873499acb916b10a044e6400a888a557afb", func := "loop.example/g01115/laws.FnExactNextParking", spec := "fnExactNextParking", unfollowed := true, recurses := true, apart := false, narrowed := true }
def FnExactNextParkingUptoSaid : Prop := fnExactNextParkingUptoRow.holds Try.pinned (OpenSpec.upto fnExactNextParkingSpec)

/-- 'laws.FnExactCountByFirst', WHERE WHAT IT READS IS OF BULK AT MOST 1048576: true; the input reads as it did. -/
def fnExactCountByFirstUptoRow : OpenClaim := { program := "ytfkejkkplafciac", sum := "49d80d5c18dd9dad3b8957a2f3c1c873499acb916b10a044e6400a888a557afb", func := "loop.example/g01115/laws.FnExactCountByFirst", spec := "fnExactCountByFirst", apart := false, narrowed := true }
def FnExactCountByFirstUptoSaid : Prop := fnExactCountByFirstUptoRow.holds Try.pinned (OpenSpec.upto fnExactCountByFirstSpec)

/-- 'laws.FnExactAllParking', WHERE WHAT IT READS IS OF BULK AT MOST 1048576: true; the input reads as it did. -/
def fnExactAllParkingUptoRow : OpenClaim := { program := "ytfkejkkplafciac", sum := "49d80d5c18dd9dad3b8957a2f3c1c873499acb916b10a044e6400a888a557afb", func := "loop.example/g01115/laws.FnExactAllParking", spec := "fnExactAllParking", unfollowed := true, recurses := true, apart := false, narrowed := true }
def FnExactAllParkingUptoSaid : Prop := fnExactAllParkingUptoRow.holds Try.pinned (OpenSpec.upto fnExactAllParkingSpec)

/-- 'laws.FnExactAllSorted', WHERE WHAT IT READS IS OF BULK AT MOST 1048576: true; the input reads as it did. -/
def fnExactAllSortedUptoRow : OpenClaim := { program := "ytfkejkkplafciac", sum := "49d80d5c18dd9dad3b8957a2f3c1c873499acb916b10a044e6400a888a557afb", func := "loop.example/g01115/laws.FnExactAllSorted", spec := "fnExactAllSorted", unfollowed := true, recurses := true, apart := false, narrowed := true }
def FnExactAllSortedUptoSaid : Prop := fnExactAllSortedUptoRow.holds Try.pinned (OpenSpec.upto fnExactAllSortedSpec)

/-- 'laws.FnExactCountByDistance', WHERE WHAT IT READS IS OF BULK AT MOST 1048576: true; the input reads as it did. -/
def fnExactCountByDistanceUptoRow : OpenClaim := { program := "ytfkejkkplafciac", sum := "49d80d5c18dd9dad3b8957a2f3c1c873499acb916b10a044e6400a888a557afb", func := "loop.example/g01115/laws.FnExactCountByDistance", spec := "fnExactCountByDistance", unfollowed := true, recurses := true, apart := false, narrowed := true }
def FnExactCountByDistanceUptoSaid : Prop := fnExactCountByDistanceUptoRow.holds Try.pinned (OpenSpec.upto fnExactCountByDistanceSpec)

/-- 'laws.FnExactParkingOfClass', WHERE WHAT IT READS IS OF BULK AT MOST 1048576: true; the input reads as it did. -/
def fnExactParkingOfClassUptoRow : OpenClaim := { program := "ytfkejkkplafciac", sum := "49d80d5c18dd9dad3b8957a2f3c1c873499acb916b10a044e6400a888a557afb", func := "loop.example/g01115/laws.FnExactParkingOfClass", spec := "fnExactParkingOfClass", unfollowed := true, recurses := true, apart := false, narrowed := true }
def FnExactParkingOfClassUptoSaid : Prop := fnExactParkingOfClassUptoRow.holds Try.pinned (OpenSpec.upto fnExactParkingOfClassSpec)

end Rows
end Go.Proofs.Ytfkejkkplafciac
