/-
  No cell of these rows narrows 'for every input' (looked for: loops, veiled, ifaces, maps, wideKeys, modest, calm, conditions, laid).
  DERIVED. THE GIVEN ROWS OF THIS SEAT. 5 by the template 'for every input the law returns true; each argument reads behind the call as it read before'; 0 by the template 'total and deterministic' (their statements: YtehdccfkkfkciabTotals.lean).
  GIVEN WITH THE SEED: the statements are not yours to turn. If you find one false, say at which input.
  Laid BY PROGRAM, IN A SANDBOX (cutbox-rows.mjs): the forced cells as the released guide's own fill.sh prints them over the translation bf6b112efdaa3d52… (all of the seat's roots in one cut). By AI agents, Wed Nov 11 2026. No macro, syntax, notation, axiom, sorry.
-/
import Derived.Test.YtehdccfkkfkciabChecked
import GoSem.Claim
import GoSem.ClaimJoined
import GoSem.ClaimMapViews
import Derived.JoinedTies
import Derived.KernelRfl
namespace Go.Proofs.Ytehdccfkkfkciab
/- THE CELL 'sum', in the pinned program and in every row, IS THE sha256 OF THE DUMP (.gsa) THAT YtehdccfkkfkciabProg.lean LOADS. Nothing in Lean hashes anything: it is a label: what it is worth is what the hold of that sum in a sandbox is worth. -/
noncomputable def Try.pinned : Pinned := { name := "ytehdccfkkfkciab", sum := "bf6b112efdaa3d5278793eaddb4f51fcadcf2c77ec0ebe3be3a746e4f3e6d9cb", checked := Try.checked }
namespace Rows
def none {H : Type} : Left H := { results := [], args := [] }

/-- 'laws.FnExactCountUnit': WHATEVER THE INPUT: true; the input reads as it did. -/
def fnExactCountUnitSpec : ChangeSpec := { name := "fnExactCountUnit", fn := fun _ => fun
  | [d1, d2] => { results := [.lit (.bool true)], args := [d1, d2] }
  | _ => none }
def fnExactCountUnitRow : OpenClaim := { program := "ytehdccfkkfkciab", sum := "bf6b112efdaa3d5278793eaddb4f51fcadcf2c77ec0ebe3be3a746e4f3e6d9cb", func := "loop.example/g01115/laws.FnExactCountUnit", spec := "fnExactCountUnit", unfollowed := true, recurses := true, apart := false }
def FnExactCountUnitSaid : Prop := fnExactCountUnitRow.holds Try.pinned (OpenSpec.ofChange fnExactCountUnitSpec)

/-- ITS FALSE NEIGHBOUR: 'it returns false'. Refute it at one input. -/
def fnExactCountUnitWrong : ChangeSpec := { name := "fnExactCountUnit", fn := fun _ => fun
  | [d1, d2] => { results := [.lit (.bool false)], args := [d1, d2] }
  | _ => none }
def FnExactCountUnitWrongFalsely : Prop := fnExactCountUnitRow.holds Try.pinned (OpenSpec.ofChange fnExactCountUnitWrong)

/-- 'laws.FnExactUnitBlocks': WHATEVER THE INPUT: true; the input reads as it did. -/
def fnExactUnitBlocksSpec : ChangeSpec := { name := "fnExactUnitBlocks", fn := fun _ => fun
  | [d] => { results := [.lit (.bool true)], args := [d] }
  | _ => none }
def fnExactUnitBlocksRow : OpenClaim := { program := "ytehdccfkkfkciab", sum := "bf6b112efdaa3d5278793eaddb4f51fcadcf2c77ec0ebe3be3a746e4f3e6d9cb", func := "loop.example/g01115/laws.FnExactUnitBlocks", spec := "fnExactUnitBlocks", unfollowed := true, recurses := true, apart := false }
def FnExactUnitBlocksSaid : Prop := fnExactUnitBlocksRow.holds Try.pinned (OpenSpec.ofChange fnExactUnitBlocksSpec)

/-- ITS FALSE NEIGHBOUR: 'it returns false'. Refute it at one input. -/
def fnExactUnitBlocksWrong : ChangeSpec := { name := "fnExactUnitBlocks", fn := fun _ => fun
  | [d] => { results := [.lit (.bool false)], args := [d] }
  | _ => none }
def FnExactUnitBlocksWrongFalsely : Prop := fnExactUnitBlocksRow.holds Try.pinned (OpenSpec.ofChange fnExactUnitBlocksWrong)

/-- 'laws.FnExactFromUnitBlocks': WHATEVER THE INPUT: true; the input reads as it did. -/
def fnExactFromUnitBlocksSpec : ChangeSpec := { name := "fnExactFromUnitBlocks", fn := fun _ => fun
  | [d] => { results := [.lit (.bool true)], args := [d] }
  | _ => none }
def fnExactFromUnitBlocksRow : OpenClaim := { program := "ytehdccfkkfkciab", sum := "bf6b112efdaa3d5278793eaddb4f51fcadcf2c77ec0ebe3be3a746e4f3e6d9cb", func := "loop.example/g01115/laws.FnExactFromUnitBlocks", spec := "fnExactFromUnitBlocks", unfollowed := true, recurses := true, apart := false }
def FnExactFromUnitBlocksSaid : Prop := fnExactFromUnitBlocksRow.holds Try.pinned (OpenSpec.ofChange fnExactFromUnitBlocksSpec)

/-- ITS FALSE NEIGHBOUR: 'it returns false'. Refute it at one input. -/
def fnExactFromUnitBlocksWrong : ChangeSpec := { name := "fnExactFromUnitBlocks", fn := fun _ => fun
  | [d] => { results := [.lit (.bool false)], args := [d] }
  | _ => none }
def FnExactFromUnitBlocksWrongFalsely : Prop := fnExactFromUnitBlocksRow.holds Try.pinned (OpenSpec.ofChange fnExactFromUnitBlocksWrong)

/-- 'laws.FnExactReorderCars': WHATEVER THE INPUT: true; the input reads as it did. -/
def fnExactReorderCarsSpec : ChangeSpec := { name := "fnExactReorderCars", fn := fun _ => fun
  | [d1, d2] => { results := [.lit (.bool true)], args := [d1, d2] }
  | _ => none }
def fnExactReorderCarsRow : OpenClaim := { program := "ytehdccfkkfkciab", sum := "bf6b112efdaa3d5278793eaddb4f51fcadcf2c77ec0ebe3be3a746e4f3e6d9cb", func := "loop.example/g01115/laws.FnExactReorderCars", spec := "fnExactReorderCars", apart := false }
def FnExactReorderCarsSaid : Prop := fnExactReorderCarsRow.holds Try.pinned (OpenSpec.ofChange fnExactReorderCarsSpec)

/-- ITS FALSE NEIGHBOUR: 'it returns false'. Refute it at one input. -/
def fnExactReorderCarsWrong : ChangeSpec := { name := "fnExactReorderCars", fn := fun _ => fun
  | [d1, d2] => { results := [.lit (.bool false)], args := [d1, d2] }
  | _ => none }
def FnExactReorderCarsWrongFalsely : Prop := fnExactReorderCarsRow.holds Try.pinned (OpenSpec.ofChange fnExactReorderCarsWrong)

/-- 'laws.FnExactWaitsOf': WHATEVER THE INPUT: true; the input reads as it did. -/
def fnExactWaitsOfSpec : ChangeSpec := { name := "fnExactWaitsOf", fn := fun _ => fun
  | [d1, d2] => { results := [.lit (.bool true)], args := [d1, d2] }
  | _ => none }
def fnExactWaitsOfRow : OpenClaim := { program := "ytehdccfkkfkciab", sum := "bf6b112efdaa3d5278793eaddb4f51fcadcf2c77ec0ebe3be3a746e4f3e6d9cb", func := "loop.example/g01115/laws.FnExactWaitsOf", spec := "fnExactWaitsOf", unfollowed := true, recurses := true, apart := false }
def FnExactWaitsOfSaid : Prop := fnExactWaitsOfRow.holds Try.pinned (OpenSpec.ofChange fnExactWaitsOfSpec)

/-- ITS FALSE NEIGHBOUR: 'it returns false'. Refute it at one input. -/
def fnExactWaitsOfWrong : ChangeSpec := { name := "fnExactWaitsOf", fn := fun _ => fun
  | [d1, d2] => { results := [.lit (.bool false)], args := [d1, d2] }
  | _ => none }
def FnExactWaitsOfWrongFalsely : Prop := fnExactWaitsOfRow.holds Try.pinned (OpenSpec.ofChange fnExactWaitsOfWrong)

/- THE SECOND FORM. 'bulk': how many values and letters a reading holds, each counted each time it is reached (what is shared counts as often as it is met; a slice's spare places count too). A statement '..UptoSaid' is the law's where the arguments, and the package variables that the reading takes, are together of bulk at most 1048576: NARROWER than '..Said'. Prove '..Said' where nothing that the law and all that it calls make is longer than what came in: it says more and counts as full. Else prove '..UptoSaid'. A law counts once. -/
mutual
def uptoBulk {H : Type} : DataW H → Nat
  | .lit (.string bytes) => bytes.length + 1
  | .lit _ => 1
  | .nil => 1
  | .ptr d => uptoBulk d + 1
  | .slice elems spare => uptoBulkAll elems + uptoBulkAll spare + 1
  | .agg parts => uptoBulkAll parts + 1
  | .iface _ d => uptoBulk d + 1
  | .map entries => uptoBulkEntries entries + 1
  | .held _ => 1
def uptoBulkAll {H : Type} : List (DataW H) → Nat
  | [] => 0
  | d :: r => uptoBulk d + uptoBulkAll r
def uptoBulkEntries {H : Type} : List (Lit × DataW H) → Nat
  | [] => 0
  | x :: r => uptoBulkEntry x + uptoBulkEntries r
def uptoBulkEntry {H : Type} : Lit × DataW H → Nat
  | (.string bytes, d) => bytes.length + uptoBulk d + 1
  | (_, d) => uptoBulk d + 1
 end
def uptoSmall : (H : Type) → List (DataW H) → Bool := fun _ ds => decide (uptoBulkAll ds ≤ 1048576)
def OpenSpec.upto (s : _root_.Go.ChangeSpec) : _root_.Go.OpenSpec := { _root_.Go.OpenSpec.ofChange s with cond := some uptoSmall }

/-- 'laws.FnExactCountUnit', WHERE WHAT IT READS IS OF BULK AT MOST 1048576: true; the input reads as it did. -/
def fnExactCountUnitUptoRow : OpenClaim := { program := "ytehdccfkkfkciab", sum := "bf6b112efdaa3d5278793eaddb4f51fcadcf2c77ec0ebe3be3a746e4f3e6d9cb", func := "loop.example/g01115/laws.FnExactCountUnit", spec := "fnExactCountUnit", unfollowed := true, recurses := true, apart := false, narrowed := true }
def FnExactCountUnitUptoSaid : Prop := fnExactCountUnitUptoRow.holds Try.pinned (OpenSpec.upto fnExactCountUnitSpec)

/-- 'laws.FnExactUnitBlocks', WHERE WHAT IT READS IS OF BULK AT MOST 1048576: true; the input reads as it did. -/
def fnExactUnitBlocksUptoRow : OpenClaim := { program := "ytehdccfkkfkciab", sum := "bf6b112efdaa3d5278793eaddb4f51fcadcf2c77ec0ebe3be3a746e4f3e6d9cb", func := "loop.example/g01115/laws.FnExactUnitBlocks", spec := "fnExactUnitBlocks", unfollowed := true, recurses := true, apart := false, narrowed := true }
def FnExactUnitBlocksUptoSaid : Prop := fnExactUnitBlocksUptoRow.holds Try.pinned (OpenSpec.upto fnExactUnitBlocksSpec)

/-- 'laws.FnExactFromUnitBlocks', WHERE WHAT IT READS IS OF BULK AT MOST 1048576: true; the input reads as it did. -/
def fnExactFromUnitBlocksUptoRow : OpenClaim := { program := "ytehdccfkkfkciab", sum := "bf6b112efdaa3d5278793eaddb4f51fcadcf2c77ec0ebe3be3a746e4f3e6d9cb", func := "loop.example/g01115/laws.FnExactFromUnitBlocks", spec := "fnExactFromUnitBlocks", unfollowed := true, recurses := true, apart := false, narrowed := true }
def FnExactFromUnitBlocksUptoSaid : Prop := fnExactFromUnitBlocksUptoRow.holds Try.pinned (OpenSpec.upto fnExactFromUnitBlocksSpec)

/-- 'laws.FnExactReorderCars', WHERE WHAT IT READS IS OF BULK AT MOST 1048576: true; the input reads as it did. -/
def fnExactReorderCarsUptoRow : OpenClaim := { program := "ytehdccfkkfkciab", sum := "bf6b112efdaa3d5278793eaddb4f51fcadcf2c77ec0ebe3be3a746e4f3e6d9cb", func := "loop.example/g01115/laws.FnExactReorderCars", spec := "fnExactReorderCars", apart := false, narrowed := true }
def FnExactReorderCarsUptoSaid : Prop := fnExactReorderCarsUptoRow.holds Try.pinned (OpenSpec.upto fnExactReorderCarsSpec)

/-- 'laws.FnExactWaitsOf', WHERE WHAT IT READS IS OF BULK AT MOST 1048576: true; the input reads as it did. -/
def fnExactWaitsOfUptoRow : OpenClaim := { program := "ytehdccfkkfkciab", sum := "bf6b112efdaa3d5278793eaddb4f51fcadcf2c77ec0ebe3be3a746e4f3e6d9cb", func := "loop.example/g01115/laws.FnExactWaitsOf", spec := "fnExactWaitsOf", unfollowed := true, recurses := true, apart := false, narrowed := true }
def FnExactWaitsOfUptoSaid : Prop := fnExactWaitsOfUptoRow.holds Try.pinned (OpenSpec.upto fnExactWaitsOfSpec)

end Rows
end Go.Proofs.Ytehdccfkkfkciab
