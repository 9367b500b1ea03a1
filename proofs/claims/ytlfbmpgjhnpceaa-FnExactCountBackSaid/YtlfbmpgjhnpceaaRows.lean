/-
  No cell of these rows narrows 'for every input' (looked for: loops, veiled, ifaces, maps, wideKeys, modest, calm, conditions, laid).
  DERIVED. THE GIVEN ROWS OF THIS SEAT. 12 by the template 'for every input the law returns true; each argument reads behind the call as it read before'; 0 by the template 'total and deterministic' (their statements: YtlfbmpgjhnpceaaTotals.lean).
  GIVEN WITH THE SEED: the statements are not yours to turn. If you find one false, say at which input.
  Laid BY PROGRAM, IN A SANDBOX (cutbox-rows.mjs): the forced cells as the released guide's own fill.sh prints them over the translation b7ebffb753b5c766… (all of the seat's roots in one cut). By AI agents, Wed Nov 11 2026. No macro, syntax, notation, axiom, sorry.
-/
import Derived.Test.YtlfbmpgjhnpceaaChecked
import GoSem.Claim
import GoSem.ClaimJoined
import GoSem.ClaimMapViews
import Derived.JoinedTies
import Derived.KernelRfl
namespace Go.Proofs.Ytlfbmpgjhnpceaa
/- THE CELL 'sum', in the pinned program and in every row, IS THE sha256 OF THE DUMP (.gsa) THAT YtlfbmpgjhnpceaaProg.lean LOADS. Nothing in Lean hashes anything: it is a label: what it is worth is what the hold of that sum in a sandbox is worth. -/
noncomputable def Try.pinned : Pinned := { name := "ytlfbmpgjhnpceaa", sum := "b7ebffb753b5c7664e73dbb054aaef9b400f7bb99d85a4a80afe8dd0e70b4098", checked := Try.checked }
namespace Rows
def none {H : Type} : Left H := { results := [], args := [] }

/-- 'laws.FnExactDriveSome': WHATEVER THE INPUT: true; the input reads as it did. -/
def fnExactDriveSomeSpec : ChangeSpec := { name := "fnExactDriveSome", fn := fun _ => fun
  | [d1, d2] => { results := [.lit (.bool true)], args := [d1, d2] }
  | _ => none }
def fnExactDriveSomeRow : OpenClaim := { program := "ytlfbmpgjhnpceaa", sum := "b7ebffb753b5c7664e73dbb054aaef9b400f7bb99d85a4a80afe8dd0e70b4098", func := "loop.example/g01115/laws.FnExactDriveSome", spec := "fnExactDriveSome", unfollowed := true, recurses := true, apart := false }
def FnExactDriveSomeSaid : Prop := fnExactDriveSomeRow.holds Try.pinned (OpenSpec.ofChange fnExactDriveSomeSpec)

/-- ITS FALSE NEIGHBOUR: 'it returns false'. Refute it at one input. -/
def fnExactDriveSomeWrong : ChangeSpec := { name := "fnExactDriveSome", fn := fun _ => fun
  | [d1, d2] => { results := [.lit (.bool false)], args := [d1, d2] }
  | _ => none }
def FnExactDriveSomeWrongFalsely : Prop := fnExactDriveSomeRow.holds Try.pinned (OpenSpec.ofChange fnExactDriveSomeWrong)

/-- 'laws.FnExactDriveBack': WHATEVER THE INPUT: true; the input reads as it did. -/
def fnExactDriveBackSpec : ChangeSpec := { name := "fnExactDriveBack", fn := fun _ => fun
  | [d1, d2, d3] => { results := [.lit (.bool true)], args := [d1, d2, d3] }
  | _ => none }
def fnExactDriveBackRow : OpenClaim := { program := "ytlfbmpgjhnpceaa", sum := "b7ebffb753b5c7664e73dbb054aaef9b400f7bb99d85a4a80afe8dd0e70b4098", func := "loop.example/g01115/laws.FnExactDriveBack", spec := "fnExactDriveBack", unfollowed := true, recurses := true, apart := false }
def FnExactDriveBackSaid : Prop := fnExactDriveBackRow.holds Try.pinned (OpenSpec.ofChange fnExactDriveBackSpec)

/-- ITS FALSE NEIGHBOUR: 'it returns false'. Refute it at one input. -/
def fnExactDriveBackWrong : ChangeSpec := { name := "fnExactDriveBack", fn := fun _ => fun
  | [d1, d2, d3] => { results := [.lit (.bool false)], args := [d1, d2, d3] }
  | _ => none }
def FnExactDriveBackWrongFalsely : Prop := fnExactDriveBackRow.holds Try.pinned (OpenSpec.ofChange fnExactDriveBackWrong)

/-- 'laws.FnExactDoParkBack': WHATEVER THE INPUT: true; the input reads as it did. -/
def fnExactDoParkBackSpec : ChangeSpec := { name := "fnExactDoParkBack", fn := fun _ => fun
  | [d1, d2, d3] => { results := [.lit (.bool true)], args := [d1, d2, d3] }
  | _ => none }
def fnExactDoParkBackRow : OpenClaim := { program := "ytlfbmpgjhnpceaa", sum := "b7ebffb753b5c7664e73dbb054aaef9b400f7bb99d85a4a80afe8dd0e70b4098", func := "loop.example/g01115/laws.FnExactDoParkBack", spec := "fnExactDoParkBack", unfollowed := true, recurses := true, apart := false }
def FnExactDoParkBackSaid : Prop := fnExactDoParkBackRow.holds Try.pinned (OpenSpec.ofChange fnExactDoParkBackSpec)

/-- ITS FALSE NEIGHBOUR: 'it returns false'. Refute it at one input. -/
def fnExactDoParkBackWrong : ChangeSpec := { name := "fnExactDoParkBack", fn := fun _ => fun
  | [d1, d2, d3] => { results := [.lit (.bool false)], args := [d1, d2, d3] }
  | _ => none }
def FnExactDoParkBackWrongFalsely : Prop := fnExactDoParkBackRow.holds Try.pinned (OpenSpec.ofChange fnExactDoParkBackWrong)

/-- 'laws.FnExactLeastBack': WHATEVER THE INPUT: true; the input reads as it did. -/
def fnExactLeastBackSpec : ChangeSpec := { name := "fnExactLeastBack", fn := fun _ => fun
  | [d1, d2] => { results := [.lit (.bool true)], args := [d1, d2] }
  | _ => none }
def fnExactLeastBackRow : OpenClaim := { program := "ytlfbmpgjhnpceaa", sum := "b7ebffb753b5c7664e73dbb054aaef9b400f7bb99d85a4a80afe8dd0e70b4098", func := "loop.example/g01115/laws.FnExactLeastBack", spec := "fnExactLeastBack", unfollowed := true, recurses := true, apart := false }
def FnExactLeastBackSaid : Prop := fnExactLeastBackRow.holds Try.pinned (OpenSpec.ofChange fnExactLeastBackSpec)

/-- ITS FALSE NEIGHBOUR: 'it returns false'. Refute it at one input. -/
def fnExactLeastBackWrong : ChangeSpec := { name := "fnExactLeastBack", fn := fun _ => fun
  | [d1, d2] => { results := [.lit (.bool false)], args := [d1, d2] }
  | _ => none }
def FnExactLeastBackWrongFalsely : Prop := fnExactLeastBackRow.holds Try.pinned (OpenSpec.ofChange fnExactLeastBackWrong)

/-- 'laws.FnExactDriveLong': WHATEVER THE INPUT: true; the input reads as it did. -/
def fnExactDriveLongSpec : ChangeSpec := { name := "fnExactDriveLong", fn := fun _ => fun
  | [d1, d2] => { results := [.lit (.bool true)], args := [d1, d2] }
  | _ => none }
def fnExactDriveLongRow : OpenClaim := { program := "ytlfbmpgjhnpceaa", sum := "b7ebffb753b5c7664e73dbb054aaef9b400f7bb99d85a4a80afe8dd0e70b4098", func := "loop.example/g01115/laws.FnExactDriveLong", spec := "fnExactDriveLong", unfollowed := true, recurses := true, apart := false }
def FnExactDriveLongSaid : Prop := fnExactDriveLongRow.holds Try.pinned (OpenSpec.ofChange fnExactDriveLongSpec)

/-- ITS FALSE NEIGHBOUR: 'it returns false'. Refute it at one input. -/
def fnExactDriveLongWrong : ChangeSpec := { name := "fnExactDriveLong", fn := fun _ => fun
  | [d1, d2] => { results := [.lit (.bool false)], args := [d1, d2] }
  | _ => none }
def FnExactDriveLongWrongFalsely : Prop := fnExactDriveLongRow.holds Try.pinned (OpenSpec.ofChange fnExactDriveLongWrong)

/-- 'laws.FnExactIsLongParking': WHATEVER THE INPUT: true; the input reads as it did. -/
def fnExactIsLongParkingSpec : ChangeSpec := { name := "fnExactIsLongParking", fn := fun _ => fun
  | [d1, d2] => { results := [.lit (.bool true)], args := [d1, d2] }
  | _ => none }
def fnExactIsLongParkingRow : OpenClaim := { program := "ytlfbmpgjhnpceaa", sum := "b7ebffb753b5c7664e73dbb054aaef9b400f7bb99d85a4a80afe8dd0e70b4098", func := "loop.example/g01115/laws.FnExactIsLongParking", spec := "fnExactIsLongParking", unfollowed := true, recurses := true, apart := false }
def FnExactIsLongParkingSaid : Prop := fnExactIsLongParkingRow.holds Try.pinned (OpenSpec.ofChange fnExactIsLongParkingSpec)

/-- ITS FALSE NEIGHBOUR: 'it returns false'. Refute it at one input. -/
def fnExactIsLongParkingWrong : ChangeSpec := { name := "fnExactIsLongParking", fn := fun _ => fun
  | [d1, d2] => { results := [.lit (.bool false)], args := [d1, d2] }
  | _ => none }
def FnExactIsLongParkingWrongFalsely : Prop := fnExactIsLongParkingRow.holds Try.pinned (OpenSpec.ofChange fnExactIsLongParkingWrong)

/-- 'laws.FnExactBlockedCar': WHATEVER THE INPUT: true; the input reads as it did. -/
def fnExactBlockedCarSpec : ChangeSpec := { name := "fnExactBlockedCar", fn := fun _ => fun
  | [d1, d2] => { results := [.lit (.bool true)], args := [d1, d2] }
  | _ => none }
def fnExactBlockedCarRow : OpenClaim := { program := "ytlfbmpgjhnpceaa", sum := "b7ebffb753b5c7664e73dbb054aaef9b400f7bb99d85a4a80afe8dd0e70b4098", func := "loop.example/g01115/laws.FnExactBlockedCar", spec := "fnExactBlockedCar", unfollowed := true, recurses := true, apart := false }
def FnExactBlockedCarSaid : Prop := fnExactBlockedCarRow.holds Try.pinned (OpenSpec.ofChange fnExactBlockedCarSpec)

/-- ITS FALSE NEIGHBOUR: 'it returns false'. Refute it at one input. -/
def fnExactBlockedCarWrong : ChangeSpec := { name := "fnExactBlockedCar", fn := fun _ => fun
  | [d1, d2] => { results := [.lit (.bool false)], args := [d1, d2] }
  | _ => none }
def FnExactBlockedCarWrongFalsely : Prop := fnExactBlockedCarRow.holds Try.pinned (OpenSpec.ofChange fnExactBlockedCarWrong)

/-- 'laws.FnExactCountLong': WHATEVER THE INPUT: true; the input reads as it did. -/
def fnExactCountLongSpec : ChangeSpec := { name := "fnExactCountLong", fn := fun _ => fun
  | [d] => { results := [.lit (.bool true)], args := [d] }
  | _ => none }
def fnExactCountLongRow : OpenClaim := { program := "ytlfbmpgjhnpceaa", sum := "b7ebffb753b5c7664e73dbb054aaef9b400f7bb99d85a4a80afe8dd0e70b4098", func := "loop.example/g01115/laws.FnExactCountLong", spec := "fnExactCountLong", apart := false }
def FnExactCountLongSaid : Prop := fnExactCountLongRow.holds Try.pinned (OpenSpec.ofChange fnExactCountLongSpec)

/-- ITS FALSE NEIGHBOUR: 'it returns false'. Refute it at one input. -/
def fnExactCountLongWrong : ChangeSpec := { name := "fnExactCountLong", fn := fun _ => fun
  | [d] => { results := [.lit (.bool false)], args := [d] }
  | _ => none }
def FnExactCountLongWrongFalsely : Prop := fnExactCountLongRow.holds Try.pinned (OpenSpec.ofChange fnExactCountLongWrong)

/-- 'laws.FnExactDefectOf': WHATEVER THE INPUT: true; the input reads as it did. -/
def fnExactDefectOfSpec : ChangeSpec := { name := "fnExactDefectOf", fn := fun _ => fun
  | [d1, d2] => { results := [.lit (.bool true)], args := [d1, d2] }
  | _ => none }
def fnExactDefectOfRow : OpenClaim := { program := "ytlfbmpgjhnpceaa", sum := "b7ebffb753b5c7664e73dbb054aaef9b400f7bb99d85a4a80afe8dd0e70b4098", func := "loop.example/g01115/laws.FnExactDefectOf", spec := "fnExactDefectOf", apart := false }
def FnExactDefectOfSaid : Prop := fnExactDefectOfRow.holds Try.pinned (OpenSpec.ofChange fnExactDefectOfSpec)

/-- ITS FALSE NEIGHBOUR: 'it returns false'. Refute it at one input. -/
def fnExactDefectOfWrong : ChangeSpec := { name := "fnExactDefectOf", fn := fun _ => fun
  | [d1, d2] => { results := [.lit (.bool false)], args := [d1, d2] }
  | _ => none }
def FnExactDefectOfWrongFalsely : Prop := fnExactDefectOfRow.holds Try.pinned (OpenSpec.ofChange fnExactDefectOfWrong)

/-- 'laws.FnExactPlacesNeeded': WHATEVER THE INPUT: true; the input reads as it did. -/
def fnExactPlacesNeededSpec : ChangeSpec := { name := "fnExactPlacesNeeded", fn := fun _ => fun
  | [d] => { results := [.lit (.bool true)], args := [d] }
  | _ => none }
def fnExactPlacesNeededRow : OpenClaim := { program := "ytlfbmpgjhnpceaa", sum := "b7ebffb753b5c7664e73dbb054aaef9b400f7bb99d85a4a80afe8dd0e70b4098", func := "loop.example/g01115/laws.FnExactPlacesNeeded", spec := "fnExactPlacesNeeded", unfollowed := true, recurses := true, apart := false }
def FnExactPlacesNeededSaid : Prop := fnExactPlacesNeededRow.holds Try.pinned (OpenSpec.ofChange fnExactPlacesNeededSpec)

/-- ITS FALSE NEIGHBOUR: 'it returns false'. Refute it at one input. -/
def fnExactPlacesNeededWrong : ChangeSpec := { name := "fnExactPlacesNeeded", fn := fun _ => fun
  | [d] => { results := [.lit (.bool false)], args := [d] }
  | _ => none }
def FnExactPlacesNeededWrongFalsely : Prop := fnExactPlacesNeededRow.holds Try.pinned (OpenSpec.ofChange fnExactPlacesNeededWrong)

/-- 'laws.FnExactStretchList': WHATEVER THE INPUT: true; the input reads as it did. -/
def fnExactStretchListSpec : ChangeSpec := { name := "fnExactStretchList", fn := fun _ => fun
  | [d1, d2] => { results := [.lit (.bool true)], args := [d1, d2] }
  | _ => none }
def fnExactStretchListRow : OpenClaim := { program := "ytlfbmpgjhnpceaa", sum := "b7ebffb753b5c7664e73dbb054aaef9b400f7bb99d85a4a80afe8dd0e70b4098", func := "loop.example/g01115/laws.FnExactStretchList", spec := "fnExactStretchList", unfollowed := true, recurses := true, apart := false }
def FnExactStretchListSaid : Prop := fnExactStretchListRow.holds Try.pinned (OpenSpec.ofChange fnExactStretchListSpec)

/-- ITS FALSE NEIGHBOUR: 'it returns false'. Refute it at one input. -/
def fnExactStretchListWrong : ChangeSpec := { name := "fnExactStretchList", fn := fun _ => fun
  | [d1, d2] => { results := [.lit (.bool false)], args := [d1, d2] }
  | _ => none }
def FnExactStretchListWrongFalsely : Prop := fnExactStretchListRow.holds Try.pinned (OpenSpec.ofChange fnExactStretchListWrong)

/-- 'laws.FnExactCountBack': WHATEVER THE INPUT: true; the input reads as it did. -/
def fnExactCountBackSpec : ChangeSpec := { name := "fnExactCountBack", fn := fun _ => fun
  | [d1, d2] => { results := [.lit (.bool true)], args := [d1, d2] }
  | _ => none }
def fnExactCountBackRow : OpenClaim := { program := "ytlfbmpgjhnpceaa", sum := "b7ebffb753b5c7664e73dbb054aaef9b400f7bb99d85a4a80afe8dd0e70b4098", func := "loop.example/g01115/laws.FnExactCountBack", spec := "fnExactCountBack", unfollowed := true, recurses := true, apart := false }
def FnExactCountBackSaid : Prop := fnExactCountBackRow.holds Try.pinned (OpenSpec.ofChange fnExactCountBackSpec)

/-- ITS FALSE NEIGHBOUR: 'it returns false'. Refute it at one input. -/
def fnExactCountBackWrong : ChangeSpec := { name := "fnExactCountBack", fn := fun _ => fun
  | [d1, d2] => { results := [.lit (.bool false)], args := [d1, d2] }
  | _ => none }
def FnExactCountBackWrongFalsely : Prop := fnExactCountBackRow.holds Try.pinned (OpenSpec.ofChange fnExactCountBackWrong)

/- THE SECOND FORM. 'bulk': how many values and letters a reading holds, each counted each time it is reached (what is shared counts as often as it is met; a slice's spare places count too). A statement '..UptoSaid' is the law's where the arguments, and the package variables that the reading takes, are together of bulk at most 1048576: NARROWER than '..Said'. Prove '..Said' where nothing that the law and all that it calls make is longer than what came in: it says more and counts as full. Else prove '..UptoSaid'. A law counts once. -/
mutual
def uptoBulk {H : Type} : DataW H → Nat
  | .lit (.string bytes) => bytes.length + 1
  | .lit _ => 1
  | .nil => 1
  | .ptr d => uptoBulk d + 1
  | .slice elems spare => uptoBulkAll elems + uptoBulkAll spare + 1
  | .agg parts => uptoBulkAll parts + 1
  | .iface _ d => uptoBulk d + 1
  | .map entries => uptoBulkEntries entries + 1
  | .held _ => 1
def uptoBulkAll {H : Type} : List (DataW H) → Nat
  | [] => 0
  | d :: r => uptoBulk d + uptoBulkAll r
def uptoBulkEntries {H : Type} : List (Lit × DataW H) → Nat
  | [] => 0
  | x :: r => uptoBulkEntry x + uptoBulkEntries r
def uptoBulkEntry {H : Type} : Lit × DataW H → Nat
  | (.string bytes, d) => bytes.length + uptoBulk d + 1
  | (_, d) => uptoBulk d + 1
 end
def uptoSmall : (H : Type) → List (DataW H) → Bool := fun _ ds => decide (uptoBulkAll ds ≤ 1048576)
def OpenSpec.upto (s : _root_.Go.ChangeSpec) : _root_.Go.OpenSpec := { _root_.Go.OpenSpec.ofChange s with cond := some uptoSmall }

/-- 'laws.FnExactDriveSome', WHERE WHAT IT READS IS OF BULK AT MOST 1048576: true; the input reads as it did. -/
def fnExactDriveSomeUptoRow : OpenClaim := { program := "ytlfbmpgjhnpceaa", sum := "b7ebffb753b5c7664e73dbb054aaef9b400f7bb99d85a4a80afe8dd0e70b4098", func := "loop.example/g01115/laws.FnExactDriveSome", spec := "fnExactDriveSome", unfollowed := true, recurses := true, apart := false, narrowed := true }
def FnExactDriveSomeUptoSaid : Prop := fnExactDriveSomeUptoRow.holds Try.pinned (OpenSpec.upto fnExactDriveSomeSpec)

/-- 'laws.FnExactDriveBack', WHERE WHAT IT READS IS OF BULK AT MOST 1048576: true; the input reads as it did. -/
def fnExactDriveBackUptoRow : OpenClaim := { program := "ytlfbmpgjhnpceaa", sum := "b7ebffb753b5c7664e73dbb054aaef9b400f7bb99d85a4a80afe8dd0e70b4098", func := "loop.example/g01115/laws.FnExactDriveBack", spec := "fnExactDriveBack", unfollowed := true, recurses := true, apart := false, narrowed := true }
def FnExactDriveBackUptoSaid : Prop := fnExactDriveBackUptoRow.holds Try.pinned (OpenSpec.upto fnExactDriveBackSpec)

/-- 'laws.FnExactDoParkBack', WHERE WHAT IT READS IS OF BULK AT MOST 1048576: true; the input reads as it did. -/
def fnExactDoParkBackUptoRow : OpenClaim := { program := "ytlfbmpgjhnpceaa", sum := "b7ebffb753b5c7664e73dbb054aaef9b400f7bb99d85a4a80afe8dd0e70b4098", func := "loop.example/g01115/laws.FnExactDoParkBack", spec := "fnExactDoParkBack", unfollowed := true, recurses := true, apart := false, narrowed := true }
def FnExactDoParkBackUptoSaid : Prop := fnExactDoParkBackUptoRow.holds Try.pinned (OpenSpec.upto fnExactDoParkBackSpec)

/-- 'laws.FnExactLeastBack', WHERE WHAT IT READS IS OF BULK AT MOST 1048576: true; the input reads as it did. -/
def fnExactLeastBackUptoRow : OpenClaim := { program := "ytlfbmpgjhnpceaa", sum := "b7ebffb753b5c7664e73dbb054aaef9b400f7bb99d85a4a80afe8dd0e70b4098", func := "loop.example/g01115/laws.FnExactLeastBack", spec := "fnExactLeastBack", unfollowed := true, recurses := true, apart := false, narrowed := true }
def FnExactLeastBackUptoSaid : Prop := fnExactLeastBackUptoRow.holds Try.pinned (OpenSpec.upto fnExactLeastBackSpec)

/-- 'laws.FnExactDriveLong', WHERE WHAT IT READS IS OF BULK AT MOST 1048576: true; the input reads as it did. -/
def fnExactDriveLongUptoRow : OpenClaim := { program := "ytlfbmpgjhnpceaa", sum := "b7ebffb753b5c7664e73dbb054aaef9b400f7bb99d85a4a80afe8dd0e70b4098", func := "loop.example/g01115/laws.FnExactDriveLong", spec := "fnExactDriveLong", unfollowed := true, recurses := true, apart := false, narrowed := true }
def FnExactDriveLongUptoSaid : Prop := fnExactDriveLongUptoRow.holds Try.pinned (OpenSpec.upto fnExactDriveLongSpec)

/-- 'laws.FnExactIsLongParking', WHERE WHAT IT READS IS OF BULK AT MOST 1048576: true; the input reads as it did. -/
def fnExactIsLongParkingUptoRow : OpenClaim := { program := "ytlfbmpgjhnpceaa", sum := "b7ebffb753b5c7664e73dbb054aaef9b400f7bb99d85a4a80afe8dd0e70b4098", func := "loop.example/g01115/laws.FnExactIsLongParking", spec := "fnExactIsLongParking", unfollowed := true, recurses := true, apart := false, narrowed := true }
def FnExactIsLongParkingUptoSaid : Prop := fnExactIsLongParkingUptoRow.holds Try.pinned (OpenSpec.upto fnExactIsLongParkingSpec)

/-- 'laws.FnExactBlockedCar', WHERE WHAT IT READS IS OF BULK AT MOST 1048576: true; the input reads as it did. -/
def fnExactBlockedCarUptoRow : OpenClaim := { program := "ytlfbmpgjhnpceaa", sum := "b7ebffb753b5c7664e73dbb054aaef9b400f7bb99d85a4a80afe8dd0e70b4098", func := "loop.example/g01115/laws.FnExactBlockedCar", spec := "fnExactBlockedCar", unfollowed := true, recurses := true, apart := false, narrowed := true }
def FnExactBlockedCarUptoSaid : Prop := fnExactBlockedCarUptoRow.holds Try.pinned (OpenSpec.upto fnExactBlockedCarSpec)

/-- 'laws.FnExactCountLong', WHERE WHAT IT READS IS OF BULK AT MOST 1048576: true; the input reads as it did. -/
def fnExactCountLongUptoRow : OpenClaim := { program := "ytlfbmpgjhnpceaa", sum := "b7ebffb753b5c7664e73dbb054aaef9b400f7bb99d85a4a80afe8dd0e70b4098", func := "loop.example/g01115/laws.FnExactCountLong", spec := "fnExactCountLong", apart := false, narrowed := true }
def FnExactCountLongUptoSaid : Prop := fnExactCountLongUptoRow.holds Try.pinned (OpenSpec.upto fnExactCountLongSpec)

/-- 'laws.FnExactDefectOf', WHERE WHAT IT READS IS OF BULK AT MOST 1048576: true; the input reads as it did. -/
def fnExactDefectOfUptoRow : OpenClaim := { program := "ytlfbmpgjhnpceaa", sum := "b7ebffb753b5c7664e73dbb054aaef9b400f7bb99d85a4a80afe8dd0e70b4098", func := "loop.example/g01115/laws.FnExactDefectOf", spec := "fnExactDefectOf", apart := false, narrowed := true }
def FnExactDefectOfUptoSaid : Prop := fnExactDefectOfUptoRow.holds Try.pinned (OpenSpec.upto fnExactDefectOfSpec)

/-- 'laws.FnExactPlacesNeeded', WHERE WHAT IT READS IS OF BULK AT MOST 1048576: true; the input reads as it did. -/
def fnExactPlacesNeededUptoRow : OpenClaim := { program := "ytlfbmpgjhnpceaa", sum := "b7ebffb753b5c7664e73dbb054aaef9b400f7bb99d85a4a80afe8dd0e70b4098", func := "loop.example/g01115/laws.FnExactPlacesNeeded", spec := "fnExactPlacesNeeded", unfollowed := true, recurses := true, apart := false, narrowed := true }
def FnExactPlacesNeededUptoSaid : Prop := fnExactPlacesNeededUptoRow.holds Try.pinned (OpenSpec.upto fnExactPlacesNeededSpec)

/-- 'laws.FnExactStretchList', WHERE WHAT IT READS IS OF BULK AT MOST 1048576: true; the input reads as it did. -/
def fnExactStretchListUptoRow : OpenClaim := { program := "ytlfbmpgjhnpceaa", sum := "b7ebffb753b5c7664e73dbb054aaef9b400f7bb99d85a4a80afe8dd0e70b4098", func := "loop.example/g01115/laws.FnExactStretchList", spec := "fnExactStretchList", unfollowed := true, recurses := true, apart := false, narrowed := true }
def FnExactStretchListUptoSaid : Prop := fnExactStretchListUptoRow.holds Try.pinned (OpenSpec.upto fnExactStretchListSpec)

/-- 'laws.FnExactCountBack', WHERE WHAT IT READS IS OF BULK AT MOST 1048576: true; the input reads as it did. -/
def fnExactCountBackUptoRow : OpenClaim := { program := "ytlfbmpgjhnpceaa", sum := "b7ebffb753b5c7664e73dbb054aaef9b400f7bb99d85a4a80afe8dd0e70b4098", func := "loop.example/g01115/laws.FnExactCountBack", spec := "fnExactCountBack", unfollowed := true, recurses := true, apart := false, narrowed := true }
def FnExactCountBackUptoSaid : Prop := fnExactCountBackUptoRow.holds Try.pinned (OpenSpec.upto fnExactCountBackSpec)

end Rows
end Go.Proofs.Ytlfbmpgjhnpceaa
