/-
  No cell of these rows narrows 'for every input' (looked for: loops, veiled, ifaces, maps, wideKeys, modest, calm, conditions, laid).
  DERIVED. THE GIVEN ROWS OF THIS SEAT. 8 by the template 'for every input the law returns true; each argument reads behind the call as it read before'; 0 by the template 'total and deterministic' (their statements: YtbmghpgnakbnjaaTotals.lean).
  GIVEN WITH THE SEED: the statements are not yours to turn. If you find one false, say at which input.
  Laid BY PROGRAM, IN A SANDBOX (cutbox-rows.mjs): the forced cells as the released guide's own fill.sh prints them over the translation 2d73c3023ce4c9b7… (all of the seat's roots in one cut). By AI agents, Wed Nov 11 2026. No macro, syntax, notation, axiom, sorry.
-/
import Derived.Test.YtbmghpgnakbnjaaChecked
import GoSem.Claim
import GoSem.ClaimJoined
import GoSem.ClaimMapViews
import Derived.JoinedTies
import Derived.KernelRfl
namespace Go.Proofs.Ytbmghpgnakbnjaa
/- THE CELL 'sum', in the pinned program and in every row, IS THE sha256 OF THE DUMP (.gsa) THAT YtbmghpgnakbnjaaProg.lean LOADS. Nothing in Lean hashes anything: it is a label: what it is worth is what the hold of that sum in a sandbox is worth. -/
noncomputable def Try.pinned : Pinned := { name := "ytbmghpgnakbnjaa", sum := "2d73c3023ce4c9b7f97727e31c20cbfd99795e840330e0c36a337a7dedc51ecf", checked := Try.checked }
namespace Rows
def none {H : Type} : Left H := { results := [], args := [] }

/-- 'laws.FnExactIsTable': WHATEVER THE INPUT: true; the input reads as it did. -/
def fnExactIsTableSpec : ChangeSpec := { name := "fnExactIsTable", fn := fun _ => fun
  | [d] => { results := [.lit (.bool true)], args := [d] }
  | _ => none }
def fnExactIsTableRow : OpenClaim := { program := "ytbmghpgnakbnjaa", sum := "2d73c3023ce4c9b7f97727e31c20cbfd99795e840330e0c36a337a7dedc51ecf", func := "loop.example/g01115/laws.FnExactIsTable", spec := "fnExactIsTable", apart := false }
def FnExactIsTableSaid : Prop := fnExactIsTableRow.holds Try.pinned (OpenSpec.ofChange fnExactIsTableSpec)

/-- ITS FALSE NEIGHBOUR: 'it returns false'. Refute it at one input. -/
def fnExactIsTableWrong : ChangeSpec := { name := "fnExactIsTable", fn := fun _ => fun
  | [d] => { results := [.lit (.bool false)], args := [d] }
  | _ => none }
def FnExactIsTableWrongFalsely : Prop := fnExactIsTableRow.holds Try.pinned (OpenSpec.ofChange fnExactIsTableWrong)

/-- 'laws.FnExactEmptyTable': WHATEVER THE INPUT: true; the input reads as it did. -/
def fnExactEmptyTableSpec : ChangeSpec := { name := "fnExactEmptyTable", fn := fun _ => fun
  | [d] => { results := [.lit (.bool true)], args := [d] }
  | _ => none }
def fnExactEmptyTableRow : OpenClaim := { program := "ytbmghpgnakbnjaa", sum := "2d73c3023ce4c9b7f97727e31c20cbfd99795e840330e0c36a337a7dedc51ecf", func := "loop.example/g01115/laws.FnExactEmptyTable", spec := "fnExactEmptyTable", apart := false }
def FnExactEmptyTableSaid : Prop := fnExactEmptyTableRow.holds Try.pinned (OpenSpec.ofChange fnExactEmptyTableSpec)

/-- ITS FALSE NEIGHBOUR: 'it returns false'. Refute it at one input. -/
def fnExactEmptyTableWrong : ChangeSpec := { name := "fnExactEmptyTable", fn := fun _ => fun
  | [d] => { results := [.lit (.bool false)], args := [d] }
  | _ => none }
def FnExactEmptyTableWrongFalsely : Prop := fnExactEmptyTableRow.holds Try.pinned (OpenSpec.ofChange fnExactEmptyTableWrong)

/-- 'laws.FnExactInsertKey': WHATEVER THE INPUT: true; the input reads as it did. -/
def fnExactInsertKeySpec : ChangeSpec := { name := "fnExactInsertKey", fn := fun _ => fun
  | [d1, d2] => { results := [.lit (.bool true)], args := [d1, d2] }
  | _ => none }
def fnExactInsertKeyRow : OpenClaim := { program := "ytbmghpgnakbnjaa", sum := "2d73c3023ce4c9b7f97727e31c20cbfd99795e840330e0c36a337a7dedc51ecf", func := "loop.example/g01115/laws.FnExactInsertKey", spec := "fnExactInsertKey", apart := false }
def FnExactInsertKeySaid : Prop := fnExactInsertKeyRow.holds Try.pinned (OpenSpec.ofChange fnExactInsertKeySpec)

/-- ITS FALSE NEIGHBOUR: 'it returns false'. Refute it at one input. -/
def fnExactInsertKeyWrong : ChangeSpec := { name := "fnExactInsertKey", fn := fun _ => fun
  | [d1, d2] => { results := [.lit (.bool false)], args := [d1, d2] }
  | _ => none }
def FnExactInsertKeyWrongFalsely : Prop := fnExactInsertKeyRow.holds Try.pinned (OpenSpec.ofChange fnExactInsertKeyWrong)

/-- 'laws.FnExactFindKey': WHATEVER THE INPUT: true; the input reads as it did. -/
def fnExactFindKeySpec : ChangeSpec := { name := "fnExactFindKey", fn := fun _ => fun
  | [d1, d2] => { results := [.lit (.bool true)], args := [d1, d2] }
  | _ => none }
def fnExactFindKeyRow : OpenClaim := { program := "ytbmghpgnakbnjaa", sum := "2d73c3023ce4c9b7f97727e31c20cbfd99795e840330e0c36a337a7dedc51ecf", func := "loop.example/g01115/laws.FnExactFindKey", spec := "fnExactFindKey", apart := false }
def FnExactFindKeySaid : Prop := fnExactFindKeyRow.holds Try.pinned (OpenSpec.ofChange fnExactFindKeySpec)

/-- ITS FALSE NEIGHBOUR: 'it returns false'. Refute it at one input. -/
def fnExactFindKeyWrong : ChangeSpec := { name := "fnExactFindKey", fn := fun _ => fun
  | [d1, d2] => { results := [.lit (.bool false)], args := [d1, d2] }
  | _ => none }
def FnExactFindKeyWrongFalsely : Prop := fnExactFindKeyRow.holds Try.pinned (OpenSpec.ofChange fnExactFindKeyWrong)

/-- 'laws.FnExactRemoveKey': WHATEVER THE INPUT: true; the input reads as it did. -/
def fnExactRemoveKeySpec : ChangeSpec := { name := "fnExactRemoveKey", fn := fun _ => fun
  | [d1, d2] => { results := [.lit (.bool true)], args := [d1, d2] }
  | _ => none }
def fnExactRemoveKeyRow : OpenClaim := { program := "ytbmghpgnakbnjaa", sum := "2d73c3023ce4c9b7f97727e31c20cbfd99795e840330e0c36a337a7dedc51ecf", func := "loop.example/g01115/laws.FnExactRemoveKey", spec := "fnExactRemoveKey", apart := false }
def FnExactRemoveKeySaid : Prop := fnExactRemoveKeyRow.holds Try.pinned (OpenSpec.ofChange fnExactRemoveKeySpec)

/-- ITS FALSE NEIGHBOUR: 'it returns false'. Refute it at one input. -/
def fnExactRemoveKeyWrong : ChangeSpec := { name := "fnExactRemoveKey", fn := fun _ => fun
  | [d1, d2] => { results := [.lit (.bool false)], args := [d1, d2] }
  | _ => none }
def FnExactRemoveKeyWrongFalsely : Prop := fnExactRemoveKeyRow.holds Try.pinned (OpenSpec.ofChange fnExactRemoveKeyWrong)

/-- 'laws.FnExactTableOf': WHATEVER THE INPUT: true; the input reads as it did. -/
def fnExactTableOfSpec : ChangeSpec := { name := "fnExactTableOf", fn := fun _ => fun
  | [d1, d2] => { results := [.lit (.bool true)], args := [d1, d2] }
  | _ => none }
def fnExactTableOfRow : OpenClaim := { program := "ytbmghpgnakbnjaa", sum := "2d73c3023ce4c9b7f97727e31c20cbfd99795e840330e0c36a337a7dedc51ecf", func := "loop.example/g01115/laws.FnExactTableOf", spec := "fnExactTableOf", unfollowed := true, recurses := true, apart := false }
def FnExactTableOfSaid : Prop := fnExactTableOfRow.holds Try.pinned (OpenSpec.ofChange fnExactTableOfSpec)

/-- ITS FALSE NEIGHBOUR: 'it returns false'. Refute it at one input. -/
def fnExactTableOfWrong : ChangeSpec := { name := "fnExactTableOf", fn := fun _ => fun
  | [d1, d2] => { results := [.lit (.bool false)], args := [d1, d2] }
  | _ => none }
def FnExactTableOfWrongFalsely : Prop := fnExactTableOfRow.holds Try.pinned (OpenSpec.ofChange fnExactTableOfWrong)

/-- 'laws.FnExactKeysOf': WHATEVER THE INPUT: true; the input reads as it did. -/
def fnExactKeysOfSpec : ChangeSpec := { name := "fnExactKeysOf", fn := fun _ => fun
  | [d] => { results := [.lit (.bool true)], args := [d] }
  | _ => none }
def fnExactKeysOfRow : OpenClaim := { program := "ytbmghpgnakbnjaa", sum := "2d73c3023ce4c9b7f97727e31c20cbfd99795e840330e0c36a337a7dedc51ecf", func := "loop.example/g01115/laws.FnExactKeysOf", spec := "fnExactKeysOf", recurses := true, apart := false }
def FnExactKeysOfSaid : Prop := fnExactKeysOfRow.holds Try.pinned (OpenSpec.ofChange fnExactKeysOfSpec)

/-- ITS FALSE NEIGHBOUR: 'it returns false'. Refute it at one input. -/
def fnExactKeysOfWrong : ChangeSpec := { name := "fnExactKeysOf", fn := fun _ => fun
  | [d] => { results := [.lit (.bool false)], args := [d] }
  | _ => none }
def FnExactKeysOfWrongFalsely : Prop := fnExactKeysOfRow.holds Try.pinned (OpenSpec.ofChange fnExactKeysOfWrong)

/-- 'laws.FnExactUsedCells': WHATEVER THE INPUT: true; the input reads as it did. -/
def fnExactUsedCellsSpec : ChangeSpec := { name := "fnExactUsedCells", fn := fun _ => fun
  | [d] => { results := [.lit (.bool true)], args := [d] }
  | _ => none }
def fnExactUsedCellsRow : OpenClaim := { program := "ytbmghpgnakbnjaa", sum := "2d73c3023ce4c9b7f97727e31c20cbfd99795e840330e0c36a337a7dedc51ecf", func := "loop.example/g01115/laws.FnExactUsedCells", spec := "fnExactUsedCells", apart := false }
def FnExactUsedCellsSaid : Prop := fnExactUsedCellsRow.holds Try.pinned (OpenSpec.ofChange fnExactUsedCellsSpec)

/-- ITS FALSE NEIGHBOUR: 'it returns false'. Refute it at one input. -/
def fnExactUsedCellsWrong : ChangeSpec := { name := "fnExactUsedCells", fn := fun _ => fun
  | [d] => { results := [.lit (.bool false)], args := [d] }
  | _ => none }
def FnExactUsedCellsWrongFalsely : Prop := fnExactUsedCellsRow.holds Try.pinned (OpenSpec.ofChange fnExactUsedCellsWrong)

/- THE SECOND FORM. 'bulk': how many values and letters a reading holds, each counted each time it is reached (what is shared counts as often as it is met; a slice's spare places count too). A statement '..UptoSaid' is the law's where the arguments, and the package variables that the reading takes, are together of bulk at most 1048576: NARROWER than '..Said'. Prove '..Said' where nothing that the law and all that it calls make is longer than what came in: it says more and counts as full. Else prove '..UptoSaid'. A law counts once. -/
mutual
def uptoBulk {H : Type} : DataW H → Nat
  | .lit (.string bytes) => bytes.length + 1
  | .lit _ => 1
  | .nil => 1
  | .ptr d => uptoBulk d + 1
  | .slice elems spare => uptoBulkAll elems + uptoBulkAll spare + 1
  | .agg parts => uptoBulkAll parts + 1
  | .iface _ d => uptoBulk d + 1
  | .map entries => uptoBulkEntries entries + 1
  | .held _ => 1
def uptoBulkAll {H : Type} : List (DataW H) → Nat
  | [] => 0
  | d :: r => uptoBulk d + uptoBulkAll r
def uptoBulkEntries {H : Type} : List (Lit × DataW H) → Nat
  | [] => 0
  | x :: r => uptoBulkEntry x + uptoBulkEntries r
def uptoBulkEntry {H : Type} : Lit × DataW H → Nat
  | (.string bytes, d) => bytes.length + uptoBulk d + 1
  | (_, d) => uptoBulk d + 1
 end
def uptoSmall : (H : Type) → List (DataW H) → Bool := fun _ ds => decide (uptoBulkAll ds ≤ 1048576)
def OpenSpec.upto (s : _root_.Go.ChangeSpec) : _root_.Go.OpenSpec := { _root_.Go.OpenSpec.ofChange s with cond := some uptoSmall }

/-- 'laws.FnExactIsTable', WHERE WHAT IT READS IS OF BULK AT MOST 1048576: true; the input reads as it did. -/
def fnExactIsTableUptoRow : OpenClaim := { program := "ytbmghpgnakbnjaa", sum := "2d73c3023ce4c9b7f97727e31c20cbfd99795e840330e0c36a337a7dedc51ecf", func := "loop.example/g01115/laws.FnExactIsTable", spec := "fnExactIsTable", apart := false, narrowed := true }
def FnExactIsTableUptoSaid : Prop := fnExactIsTableUptoRow.holds Try.pinned (OpenSpec.upto fnExactIsTableSpec)

/-- 'laws.FnExactEmptyTable', WHERE WHAT IT READS IS OF BULK AT MOST 1048576: true; the input reads as it did. -/
def fnExactEmptyTableUptoRow : OpenClaim := { program := "ytbmghpgnakbnjaa", sum := "2d73c3023ce4c9b7f97727e31c20cbfd99795e840330e0c36a337a7dedc51ecf", func := "loop.example/g01115/laws.FnExactEmptyTable", spec := "fnExactEmptyTable", apart := false, narrowed := true }
def FnExactEmptyTableUptoSaid : Prop := fnExactEmptyTableUptoRow.holds Try.pinned (OpenSpec.upto fnExactEmptyTableSpec)

/-- 'laws.FnExactInsertKey', WHERE WHAT IT READS IS OF BULK AT MOST 1048576: true; the input reads as it did. -/
def fnExactInsertKeyUptoRow : OpenClaim := { program := "ytbmghpgnakbnjaa", sum := "2d73c3023ce4c9b7f97727e31c20cbfd99795e840330e0c36a337a7dedc51ecf", func := "loop.example/g01115/laws.FnExactInsertKey", spec := "fnExactInsertKey", apart := false, narrowed := true }
def FnExactInsertKeyUptoSaid : Prop := fnExactInsertKeyUptoRow.holds Try.pinned (OpenSpec.upto fnExactInsertKeySpec)

/-- 'laws.FnExactFindKey', WHERE WHAT IT READS IS OF BULK AT MOST 1048576: true; the input reads as it did. -/
def fnExactFindKeyUptoRow : OpenClaim := { program := "ytbmghpgnakbnjaa", sum := "2d73c3023ce4c9b7f97727e31c20cbfd99795e840330e0c36a337a7dedc51ecf", func := "loop.example/g01115/laws.FnExactFindKey", spec := "fnExactFindKey", apart := false, narrowed := true }
def FnExactFindKeyUptoSaid : Prop := fnExactFindKeyUptoRow.holds Try.pinned (OpenSpec.upto fnExactFindKeySpec)

/-- 'laws.FnExactRemoveKey', WHERE WHAT IT READS IS OF BULK AT MOST 1048576: true; the input reads as it did. -/
def fnExactRemoveKeyUptoRow : OpenClaim := { program := "ytbmghpgnakbnjaa", sum := "2d73c3023ce4c9b7f97727e31c20cbfd99795e840330e0c36a337a7dedc51ecf", func := "loop.example/g01115/laws.FnExactRemoveKey", spec := "fnExactRemoveKey", apart := false, narrowed := true }
def FnExactRemoveKeyUptoSaid : Prop := fnExactRemoveKeyUptoRow.holds Try.pinned (OpenSpec.upto fnExactRemoveKeySpec)

/-- 'laws.FnExactTableOf', WHERE WHAT IT READS IS OF BULK AT MOST 1048576: true; the input reads as it did. -/
def fnExactTableOfUptoRow : OpenClaim := { program := "ytbmghpgnakbnjaa", sum := "2d73c3023ce4c9b7f97727e31c20cbfd99795e840330e0c36a337a7dedc51ecf", func := "loop.example/g01115/laws.FnExactTableOf", spec := "fnExactTableOf", unfollowed := true, recurses := true, apart := false, narrowed := true }
def FnExactTableOfUptoSaid : Prop := fnExactTableOfUptoRow.holds Try.pinned (OpenSpec.upto fnExactTableOfSpec)

/-- 'laws.FnExactKeysOf', WHERE WHAT IT READS IS OF BULK AT MOST 1048576: true; the input reads as it did. -/
def fnExactKeysOfUptoRow : OpenClaim := { program := "ytbmghpgnakbnjaa", sum := "2d73c3023ce4c9b7f97727e31c20cbfd99795e840330e0c36a337a7dedc51ecf", func := "loop.example/g01115/laws.FnExactKeysOf", spec := "fnExactKeysOf", recurses := true, apart := false, narrowed := true }
def FnExactKeysOfUptoSaid : Prop := fnExactKeysOfUptoRow.holds Try.pinned (OpenSpec.upto fnExactKeysOfSpec)

/-- 'laws.FnExactUsedCells', WHERE WHAT IT READS IS OF BULK AT MOST 1048576: true; the input reads as it did. -/
def fnExactUsedCellsUptoRow : OpenClaim := { program := "ytbmghpgnakbnjaa", sum := "2d73c3023ce4c9b7f97727e31c20cbfd99795e840330e0c36a337a7dedc51ecf", func := "loop.example/g01115/laws.FnExactUsedCells", spec := "fnExactUsedCells", apart := false, narrowed := true }
def FnExactUsedCellsUptoSaid : Prop := fnExactUsedCellsUptoRow.holds Try.pinned (OpenSpec.upto fnExactUsedCellsSpec)

end Rows
end Go.Proofs.Ytbmghpgnakbnjaa
