/-
  No cell of these rows narrows 'for every input' (looked for: loops, veiled, ifaces, maps, wideKeys, modest, calm, conditions, laid).
  DERIVED. THE GIVEN ROWS OF THIS SEAT. 12 by the template 'for every input the law returns true; each argument reads behind the call as it read before'; 0 by the template 'total and deterministic' (their statements: YtabhhmnilidppaaTotals.lean).
  GIVEN WITH THE SEED: the statements are not yours to turn. If you find one false, say at which input.
  Laid BY PROGRAM, IN A SANDBOX (cutbox-rows.mjs): the forced cells as the released guide's own fill.sh prints them over the translation ab5a7f2d37a3ddf8… (all of the seat's roots in one cut). By AI agents, Wed Nov 11 2026. No macro, syntax, notation, axiom, sorry.
-/
import Derived.Test.YtabhhmnilidppaaChecked
import GoSem.Claim
import GoSem.ClaimJoined
import GoSem.ClaimMapViews
import Derived.JoinedTies
import Derived.KernelRfl
namespace Go.Proofs.Ytabhhmnilidppaa
/- THE CELL 'sum', in the pinned program and in every row, IS THE sha256 OF THE DUMP (.gsa) THAT YtabhhmnilidppaaProg.lean LOADS. Nothing in Lean hashes anything: it is a label: what it is worth is what the hold of that sum in a sandbox is worth. -/
noncomputable def Try.pinned : Pinned := { name := "ytabhhmnilidppaa", sum := "ab5a7f2d37a3ddf892e0a2186b5877ed934b47a31c75c7bc2f885813ffbf43db", checked := Try.checked }
namespace Rows
def none {H : Type} : Left H := { results := [], args := [] }

/-- 'laws.FnExactCountParking': WHATEVER THE INPUT: true; the input reads as it did. -/
def fnExactCountParkingSpec : ChangeSpec := { name := "fnExactCountParking", fn := fun _ => fun
  | [d] => { results := [.lit (.bool true)], args := [d] }
  | _ => none }
def fnExactCountParkingRow : OpenClaim := { program := "ytabhhmnilidppaa", sum := "ab5a7f2d37a3ddf892e0a2186b5877ed934b47a31c75c7bc2f885813ffbf43db", func := "loop.example/g01115/laws.FnExactCountParking", spec := "fnExactCountParking", apart := false }
def FnExactCountParkingSaid : Prop := fnExactCountParkingRow.holds Try.pinned (OpenSpec.ofChange fnExactCountParkingSpec)

/-- ITS FALSE NEIGHBOUR: 'it returns false'. Refute it at one input. -/
def fnExactCountParkingWrong : ChangeSpec := { name := "fnExactCountParking", fn := fun _ => fun
  | [d] => { results := [.lit (.bool false)], args := [d] }
  | _ => none }
def FnExactCountParkingWrongFalsely : Prop := fnExactCountParkingRow.holds Try.pinned (OpenSpec.ofChange fnExactCountParkingWrong)

/-- 'laws.FnExactCountForStreet': WHATEVER THE INPUT: true; the input reads as it did. -/
def fnExactCountForStreetSpec : ChangeSpec := { name := "fnExactCountForStreet", fn := fun _ => fun
  | [d1, d2] => { results := [.lit (.bool true)], args := [d1, d2] }
  | _ => none }
def fnExactCountForStreetRow : OpenClaim := { program := "ytabhhmnilidppaa", sum := "ab5a7f2d37a3ddf892e0a2186b5877ed934b47a31c75c7bc2f885813ffbf43db", func := "loop.example/g01115/laws.FnExactCountForStreet", spec := "fnExactCountForStreet", apart := false }
def FnExactCountForStreetSaid : Prop := fnExactCountForStreetRow.holds Try.pinned (OpenSpec.ofChange fnExactCountForStreetSpec)

/-- ITS FALSE NEIGHBOUR: 'it returns false'. Refute it at one input. -/
def fnExactCountForStreetWrong : ChangeSpec := { name := "fnExactCountForStreet", fn := fun _ => fun
  | [d1, d2] => { results := [.lit (.bool false)], args := [d1, d2] }
  | _ => none }
def FnExactCountForStreetWrongFalsely : Prop := fnExactCountForStreetRow.holds Try.pinned (OpenSpec.ofChange fnExactCountForStreetWrong)

/-- 'laws.FnExactCountSorted': WHATEVER THE INPUT: true; the input reads as it did. -/
def fnExactCountSortedSpec : ChangeSpec := { name := "fnExactCountSorted", fn := fun _ => fun
  | [d] => { results := [.lit (.bool true)], args := [d] }
  | _ => none }
def fnExactCountSortedRow : OpenClaim := { program := "ytabhhmnilidppaa", sum := "ab5a7f2d37a3ddf892e0a2186b5877ed934b47a31c75c7bc2f885813ffbf43db", func := "loop.example/g01115/laws.FnExactCountSorted", spec := "fnExactCountSorted", apart := false }
def FnExactCountSortedSaid : Prop := fnExactCountSortedRow.holds Try.pinned (OpenSpec.ofChange fnExactCountSortedSpec)

/-- ITS FALSE NEIGHBOUR: 'it returns false'. Refute it at one input. -/
def fnExactCountSortedWrong : ChangeSpec := { name := "fnExactCountSorted", fn := fun _ => fun
  | [d] => { results := [.lit (.bool false)], args := [d] }
  | _ => none }
def FnExactCountSortedWrongFalsely : Prop := fnExactCountSortedRow.holds Try.pinned (OpenSpec.ofChange fnExactCountSortedWrong)

/-- 'laws.FnExactCountByLucky': WHATEVER THE INPUT: true; the input reads as it did. -/
def fnExactCountByLuckySpec : ChangeSpec := { name := "fnExactCountByLucky", fn := fun _ => fun
  | [d] => { results := [.lit (.bool true)], args := [d] }
  | _ => none }
def fnExactCountByLuckyRow : OpenClaim := { program := "ytabhhmnilidppaa", sum := "ab5a7f2d37a3ddf892e0a2186b5877ed934b47a31c75c7bc2f885813ffbf43db", func := "loop.example/g01115/laws.FnExactCountByLucky", spec := "fnExactCountByLucky", apart := false }
def FnExactCountByLuckySaid : Prop := fnExactCountByLuckyRow.holds Try.pinned (OpenSpec.ofChange fnExactCountByLuckySpec)

/-- ITS FALSE NEIGHBOUR: 'it returns false'. Refute it at one input. -/
def fnExactCountByLuckyWrong : ChangeSpec := { name := "fnExactCountByLucky", fn := fun _ => fun
  | [d] => { results := [.lit (.bool false)], args := [d] }
  | _ => none }
def FnExactCountByLuckyWrongFalsely : Prop := fnExactCountByLuckyRow.holds Try.pinned (OpenSpec.ofChange fnExactCountByLuckyWrong)

/-- 'laws.FnExactCountByFirst': WHATEVER THE INPUT: true; the input reads as it did. -/
def fnExactCountByFirstSpec : ChangeSpec := { name := "fnExactCountByFirst", fn := fun _ => fun
  | [d] => { results := [.lit (.bool true)], args := [d] }
  | _ => none }
def fnExactCountByFirstRow : OpenClaim := { program := "ytabhhmnilidppaa", sum := "ab5a7f2d37a3ddf892e0a2186b5877ed934b47a31c75c7bc2f885813ffbf43db", func := "loop.example/g01115/laws.FnExactCountByFirst", spec := "fnExactCountByFirst", apart := false }
def FnExactCountByFirstSaid : Prop := fnExactCountByFirstRow.holds Try.pinned (OpenSpec.ofChange fnExactCountByFirstSpec)

/-- ITS FALSE NEIGHBOUR: 'it returns false'. Refute it at one input. -/
def fnExactCountByFirstWrong : ChangeSpec := { name := "fnExactCountByFirst", fn := fun _ => fun
  | [d] => { results := [.lit (.bool false)], args := [d] }
  | _ => none }
def FnExactCountByFirstWrongFalsely : Prop := fnExactCountByFirstRow.holds Try.pinned (OpenSpec.ofChange fnExactCountByFirstWrong)

/-- 'laws.FnExactRankParking': WHATEVER THE INPUT: true; the input reads as it did. -/
def fnExactRankParkingSpec : ChangeSpec := { name := "fnExactRankParking", fn := fun _ => fun
  | [d] => { results := [.lit (.bool true)], args := [d] }
  | _ => none }
def fnExactRankParkingRow : OpenClaim := { program := "ytabhhmnilidppaa", sum := "ab5a7f2d37a3ddf892e0a2186b5877ed934b47a31c75c7bc2f885813ffbf43db", func := "loop.example/g01115/laws.FnExactRankParking", spec := "fnExactRankParking", unfollowed := true, recurses := true, apart := false }
def FnExactRankParkingSaid : Prop := fnExactRankParkingRow.holds Try.pinned (OpenSpec.ofChange fnExactRankParkingSpec)

/-- ITS FALSE NEIGHBOUR: 'it returns false'. Refute it at one input. -/
def fnExactRankParkingWrong : ChangeSpec := { name := "fnExactRankParking", fn := fun _ => fun
  | [d] => { results := [.lit (.bool false)], args := [d] }
  | _ => none }
def FnExactRankParkingWrongFalsely : Prop := fnExactRankParkingRow.holds Try.pinned (OpenSpec.ofChange fnExactRankParkingWrong)

/-- 'laws.FnExactParkingAt': WHATEVER THE INPUT: true; the input reads as it did. -/
def fnExactParkingAtSpec : ChangeSpec := { name := "fnExactParkingAt", fn := fun _ => fun
  | [d1, d2] => { results := [.lit (.bool true)], args := [d1, d2] }
  | _ => none }
def fnExactParkingAtRow : OpenClaim := { program := "ytabhhmnilidppaa", sum := "ab5a7f2d37a3ddf892e0a2186b5877ed934b47a31c75c7bc2f885813ffbf43db", func := "loop.example/g01115/laws.FnExactParkingAt", spec := "fnExactParkingAt", apart := false }
def FnExactParkingAtSaid : Prop := fnExactParkingAtRow.holds Try.pinned (OpenSpec.ofChange fnExactParkingAtSpec)

/-- ITS FALSE NEIGHBOUR: 'it returns false'. Refute it at one input. -/
def fnExactParkingAtWrong : ChangeSpec := { name := "fnExactParkingAt", fn := fun _ => fun
  | [d1, d2] => { results := [.lit (.bool false)], args := [d1, d2] }
  | _ => none }
def FnExactParkingAtWrongFalsely : Prop := fnExactParkingAtRow.holds Try.pinned (OpenSpec.ofChange fnExactParkingAtWrong)

/-- 'laws.FnExactNextParking': WHATEVER THE INPUT: true; the input reads as it did. -/
def fnExactNextParkingSpec : ChangeSpec := { name := "fnExactNextParking", fn := fun _ => fun
  | [d] => { results := [.lit (.bool true)], args := [d] }
  | _ => none }
def fnExactNextParkingRow : OpenClaim := { program := "ytabhhmnilidppaa", sum := "ab5a7f2d37a3ddf892e0a2186b5877ed934b47a31c75c7bc2f885813ffbf43db", func := "loop.example/g01115/laws.FnExactNextParking", spec := "fnExactNextParking", unfollowed := true, recurses := true, apart := false }
def FnExactNextParkingSaid : Prop := fnExactNextParkingRow.holds Try.pinned (OpenSpec.ofChange fnExactNextParkingSpec)

/-- ITS FALSE NEIGHBOUR: 'it returns false'. Refute it at one input. -/
def fnExactNextParkingWrong : ChangeSpec := { name := "fnExactNextParking", fn := fun _ => fun
  | [d] => { results := [.lit (.bool false)], args := [d] }
  | _ => none }
def FnExactNextParkingWrongFalsely : Prop := fnExactNextParkingRow.holds Try.pinned (OpenSpec.ofChange fnExactNextParkingWrong)

/-- 'laws.FnExactDriveCircle': WHATEVER THE INPUT: true; the input reads as it did. -/
def fnExactDriveCircleSpec : ChangeSpec := { name := "fnExactDriveCircle", fn := fun _ => fun
  | [d1, d2] => { results := [.lit (.bool true)], args := [d1, d2] }
  | _ => none }
def fnExactDriveCircleRow : OpenClaim := { program := "ytabhhmnilidppaa", sum := "ab5a7f2d37a3ddf892e0a2186b5877ed934b47a31c75c7bc2f885813ffbf43db", func := "loop.example/g01115/laws.FnExactDriveCircle", spec := "fnExactDriveCircle", unfollowed := true, recurses := true, apart := false }
def FnExactDriveCircleSaid : Prop := fnExactDriveCircleRow.holds Try.pinned (OpenSpec.ofChange fnExactDriveCircleSpec)

/-- ITS FALSE NEIGHBOUR: 'it returns false'. Refute it at one input. -/
def fnExactDriveCircleWrong : ChangeSpec := { name := "fnExactDriveCircle", fn := fun _ => fun
  | [d1, d2] => { results := [.lit (.bool false)], args := [d1, d2] }
  | _ => none }
def FnExactDriveCircleWrongFalsely : Prop := fnExactDriveCircleRow.holds Try.pinned (OpenSpec.ofChange fnExactDriveCircleWrong)

/-- 'laws.FnExactFreeOnCircle': WHATEVER THE INPUT: true; the input reads as it did. -/
def fnExactFreeOnCircleSpec : ChangeSpec := { name := "fnExactFreeOnCircle", fn := fun _ => fun
  | [d] => { results := [.lit (.bool true)], args := [d] }
  | _ => none }
def fnExactFreeOnCircleRow : OpenClaim := { program := "ytabhhmnilidppaa", sum := "ab5a7f2d37a3ddf892e0a2186b5877ed934b47a31c75c7bc2f885813ffbf43db", func := "loop.example/g01115/laws.FnExactFreeOnCircle", spec := "fnExactFreeOnCircle", unfollowed := true, recurses := true, apart := false }
def FnExactFreeOnCircleSaid : Prop := fnExactFreeOnCircleRow.holds Try.pinned (OpenSpec.ofChange fnExactFreeOnCircleSpec)

/-- ITS FALSE NEIGHBOUR: 'it returns false'. Refute it at one input. -/
def fnExactFreeOnCircleWrong : ChangeSpec := { name := "fnExactFreeOnCircle", fn := fun _ => fun
  | [d] => { results := [.lit (.bool false)], args := [d] }
  | _ => none }
def FnExactFreeOnCircleWrongFalsely : Prop := fnExactFreeOnCircleRow.holds Try.pinned (OpenSpec.ofChange fnExactFreeOnCircleWrong)

/-- 'laws.FnExactTurnFavourites': WHATEVER THE INPUT: true; the input reads as it did. -/
def fnExactTurnFavouritesSpec : ChangeSpec := { name := "fnExactTurnFavourites", fn := fun _ => fun
  | [d1, d2, d3] => { results := [.lit (.bool true)], args := [d1, d2, d3] }
  | _ => none }
def fnExactTurnFavouritesRow : OpenClaim := { program := "ytabhhmnilidppaa", sum := "ab5a7f2d37a3ddf892e0a2186b5877ed934b47a31c75c7bc2f885813ffbf43db", func := "loop.example/g01115/laws.FnExactTurnFavourites", spec := "fnExactTurnFavourites", apart := false }
def FnExactTurnFavouritesSaid : Prop := fnExactTurnFavouritesRow.holds Try.pinned (OpenSpec.ofChange fnExactTurnFavouritesSpec)

/-- ITS FALSE NEIGHBOUR: 'it returns false'. Refute it at one input. -/
def fnExactTurnFavouritesWrong : ChangeSpec := { name := "fnExactTurnFavourites", fn := fun _ => fun
  | [d1, d2, d3] => { results := [.lit (.bool false)], args := [d1, d2, d3] }
  | _ => none }
def FnExactTurnFavouritesWrongFalsely : Prop := fnExactTurnFavouritesRow.holds Try.pinned (OpenSpec.ofChange fnExactTurnFavouritesWrong)

/-- 'laws.FnExactParkingOfClass': WHATEVER THE INPUT: true; the input reads as it did. -/
def fnExactParkingOfClassSpec : ChangeSpec := { name := "fnExactParkingOfClass", fn := fun _ => fun
  | [d] => { results := [.lit (.bool true)], args := [d] }
  | _ => none }
def fnExactParkingOfClassRow : OpenClaim := { program := "ytabhhmnilidppaa", sum := "ab5a7f2d37a3ddf892e0a2186b5877ed934b47a31c75c7bc2f885813ffbf43db", func := "loop.example/g01115/laws.FnExactParkingOfClass", spec := "fnExactParkingOfClass", unfollowed := true, recurses := true, apart := false }
def FnExactParkingOfClassSaid : Prop := fnExactParkingOfClassRow.holds Try.pinned (OpenSpec.ofChange fnExactParkingOfClassSpec)

/-- ITS FALSE NEIGHBOUR: 'it returns false'. Refute it at one input. -/
def fnExactParkingOfClassWrong : ChangeSpec := { name := "fnExactParkingOfClass", fn := fun _ => fun
  | [d] => { results := [.lit (.bool false)], args := [d] }
  | _ => none }
def FnExactParkingOfClassWrongFalsely : Prop := fnExactParkingOfClassRow.holds Try.pinned (OpenSpec.ofChange fnExactParkingOfClassWrong)

/- THE SECOND FORM. 'bulk': how many values and letters a reading holds, each counted each time it is reached (what is shared counts as often as it is met; a slice's spare places count too). A statement '..UptoSaid' is the law's where the arguments, and the package variables that the reading takes, are together of bulk at most 1048576: NARROWER than '..Said'. Prove '..Said' where nothing that the law and all that it calls make is longer than what came in: it says more and counts as full. Else prove '..UptoSaid'. A law counts once. -/
mutual
def uptoBulk {H : Type} : DataW H → Nat
  | .lit (.string bytes) => bytes.length + 1
  | .lit _ => 1
  | .nil => 1
  | .ptr d => uptoBulk d + 1
  | .slice elems spare => uptoBulkAll elems + uptoBulkAll spare + 1
  | .agg parts => uptoBulkAll parts + 1
  | .iface _ d => uptoBulk d + 1
  | .map entries => uptoBulkEntries entries + 1
  | .held _ => 1
def uptoBulkAll {H : Type} : List (DataW H) → Nat
  | [] => 0
  | d :: r => uptoBulk d + uptoBulkAll r
def uptoBulkEntries {H : Type} : List (Lit × DataW H) → Nat
  | [] => 0
  | x :: r => uptoBulkEntry x + uptoBulkEntries r
def uptoBulkEntry {H : Type} : Lit × DataW H → Nat
  | (.string bytes, d) => bytes.length + uptoBulk d + 1
  | (_, d) => uptoBulk d + 1
 end
def uptoSmall : (H : Type) → List (DataW H) → Bool := fun _ ds => decide (uptoBulkAll ds ≤ 1048576)
def OpenSpec.upto (s : _root_.Go.ChangeSpec) : _root_.Go.OpenSpec := { _root_.Go.OpenSpec.ofChange s with cond := some uptoSmall }

/-- 'laws.FnExactCountParking', WHERE WHAT IT READS IS OF BULK AT MOST 1048576: true; the input reads as it did. -/
def fnExactCountParkingUptoRow : OpenClaim := { program := "ytabhhmnilidppaa", sum := "ab5a7f2d37a3ddf892e0a2186b5877ed934b47a31c75c7bc2f885813ffbf43db", func := "loop.example/g01115/laws.FnExactCountParking", spec := "fnExactCountParking", apart := false, narrowed := true }
def FnExactCountParkingUptoSaid : Prop := fnExactCountParkingUptoRow.holds Try.pinned (OpenSpec.upto fnExactCountParkingSpec)

/-- 'laws.FnExactCountForStreet', WHERE WHAT IT READS IS OF BULK AT MOST 1048576: true; the input reads as it did. -/
def fnExactCountForStreetUptoRow : OpenClaim := { program := "ytabhhmnilidppaa", sum := "ab5a7f2d37a3ddf892e0a2186b5877ed934b47a31c75c7bc2f885813ffbf43db", func := "loop.example/g01115/laws.FnExactCountForStreet", spec := "fnExactCountForStreet", apart := false, narrowed := true }
def FnExactCountForStreetUptoSaid : Prop := fnExactCountForStreetUptoRow.holds Try.pinned (OpenSpec.upto fnExactCountForStreetSpec)

/-- 'laws.FnExactCountSorted', WHERE WHAT IT READS IS OF BULK AT MOST 1048576: true; the input reads as it did. -/
def fnExactCountSortedUptoRow : OpenClaim := { program := "ytabhhmnilidppaa", sum := "ab5a7f2d37a3ddf892e0a2186b5877ed934b47a31c75c7bc2f885813ffbf43db", func := "loop.example/g01115/laws.FnExactCountSorted", spec := "fnExactCountSorted", apart := false, narrowed := true }
def FnExactCountSortedUptoSaid : Prop := fnExactCountSortedUptoRow.holds Try.pinned (OpenSpec.upto fnExactCountSortedSpec)

/-- 'laws.FnExactCountByLucky', WHERE WHAT IT READS IS OF BULK AT MOST 1048576: true; the input reads as it did. -/
def fnExactCountByLuckyUptoRow : OpenClaim := { program := "ytabhhmnilidppaa", sum := "ab5a7f2d37a3ddf892e0a2186b5877ed934b47a31c75c7bc2f885813ffbf43db", func := "loop.example/g01115/laws.FnExactCountByLucky", spec := "fnExactCountByLucky", apart := false, narrowed := true }
def FnExactCountByLuckyUptoSaid : Prop := fnExactCountByLuckyUptoRow.holds Try.pinned (OpenSpec.upto fnExactCountByLuckySpec)

/-- 'laws.FnExactCountByFirst', WHERE WHAT IT READS IS OF BULK AT MOST 1048576: true; the input reads as it did. -/
def fnExactCountByFirstUptoRow : OpenClaim := { program := "ytabhhmnilidppaa", sum := "ab5a7f2d37a3ddf892e0a2186b5877ed934b47a31c75c7bc2f885813ffbf43db", func := "loop.example/g01115/laws.FnExactCountByFirst", spec := "fnExactCountByFirst", apart := false, narrowed := true }
def FnExactCountByFirstUptoSaid : Prop := fnExactCountByFirstUptoRow.holds Try.pinned (OpenSpec.upto fnExactCountByFirstSpec)

/-- 'laws.FnExactRankParking', WHERE WHAT IT READS IS OF BULK AT MOST 1048576: true; the input reads as it did. -/
def fnExactRankParkingUptoRow : OpenClaim := { program := "ytabhhmnilidppaa", sum := "ab5a7f2d37a3ddf892e0a2186b5877ed934b47a31c75c7bc2f885813ffbf43db", func := "loop.example/g01115/laws.FnExactRankParking", spec := "fnExactRankParking", unfollowed := true, recurses := true, apart := false, narrowed := true }
def FnExactRankParkingUptoSaid : Prop := fnExactRankParkingUptoRow.holds Try.pinned (OpenSpec.upto fnExactRankParkingSpec)

/-- 'laws.FnExactParkingAt', WHERE WHAT IT READS IS OF BULK AT MOST 1048576: true; the input reads as it did. -/
def fnExactParkingAtUptoRow : OpenClaim := { program := "ytabhhmnilidppaa", sum := "ab5a7f2d37a3ddf892e0a2186b5877ed934b47a31c75c7bc2f885813ffbf43db", func := "loop.example/g01115/laws.FnExactParkingAt", spec := "fnExactParkingAt", apart := false, narrowed := true }
def FnExactParkingAtUptoSaid : Prop := fnExactParkingAtUptoRow.holds Try.pinned (OpenSpec.upto fnExactParkingAtSpec)

/-- 'laws.FnExactNextParking', WHERE WHAT IT READS IS OF BULK AT MOST 1048576: true; the input reads as it did. -/
def fnExactNextParkingUptoRow : OpenClaim := { program := "ytabhhmnilidppaa", sum := "ab5a7f2d37a3ddf892e0a2186b5877ed934b47a31c75c7bc2f885813ffbf43db", func := "loop.example/g01115/laws.FnExactNextParking", spec := "fnExactNextParking", unfollowed := true, recurses := true, apart := false, narrowed := true }
def FnExactNextParkingUptoSaid : Prop := fnExactNextParkingUptoRow.holds Try.pinned (OpenSpec.upto fnExactNextParkingSpec)

/-- 'laws.FnExactDriveCircle', WHERE WHAT IT READS IS OF BULK AT MOST 1048576: true; the input reads as it did. -/
def fnExactDriveCircleUptoRow : OpenClaim := { program := "ytabhhmnilidppaa", sum := "ab5a7f2d37a3ddf892e0a2186b5877ed934b47a31c75c7bc2f885813ffbf43db", func := "loop.example/g01115/laws.FnExactDriveCircle", spec := "fnExactDriveCircle", unfollowed := true, recurses := true, apart := false, narrowed := true }
def FnExactDriveCircleUptoSaid : Prop := fnExactDriveCircleUptoRow.holds Try.pinned (OpenSpec.upto fnExactDriveCircleSpec)

/-- 'laws.FnExactFreeOnCircle', WHERE WHAT IT READS IS OF BULK AT MOST 1048576: true; the input reads as it did. -/
def fnExactFreeOnCircleUptoRow : OpenClaim := { program := "ytabhhmnilidppaa", sum := "ab5a7f2d37a3ddf892e0a2186b5877ed934b47a31c75c7bc2f885813ffbf43db", func := "loop.example/g01115/laws.FnExactFreeOnCircle", spec := "fnExactFreeOnCircle", unfollowed := true, recurses := true, apart := false, narrowed := true }
def FnExactFreeOnCircleUptoSaid : Prop := fnExactFreeOnCircleUptoRow.holds Try.pinned (OpenSpec.upto fnExactFreeOnCircleSpec)

/-- 'laws.FnExactTurnFavourites', WHERE WHAT IT READS IS OF BULK AT MOST 1048576: true; the input reads as it did. -/
def fnExactTurnFavouritesUptoRow : OpenClaim := { program := "ytabhhmnilidppaa", sum := "ab5a7f2d37a3ddf892e0a2186b5877ed934b47a31c75c7bc2f885813ffbf43db", func := "loop.example/g01115/laws.FnExactTurnFavourites", spec := "fnExactTurnFavourites", apart := false, narrowed := true }
def FnExactTurnFavouritesUptoSaid : Prop := fnExactTurnFavouritesUptoRow.holds Try.pinned (OpenSpec.upto fnExactTurnFavouritesSpec)

/-- 'laws.FnExactParkingOfClass', WHERE WHAT IT READS IS OF BULK AT MOST 1048576: true; the input reads as it did. -/
def fnExactParkingOfClassUptoRow : OpenClaim := { program := "ytabhhmnilidppaa", sum := "ab5a7f2d37a3ddf892e0a2186b5877ed934b47a31c75c7bc2f885813ffbf43db", func := "loop.example/g01115/laws.FnExactParkingOfClass", spec := "fnExactParkingOfClass", unfollowed := true, recurses := true, apart := false, narrowed := true }
def FnExactParkingOfClassUptoSaid : Prop := fnExactParkingOfClassUptoRow.holds Try.pinned (OpenSpec.upto fnExactParkingOfClassSpec)

end Rows
end Go.Proofs.Ytabhhmnilidppaa
