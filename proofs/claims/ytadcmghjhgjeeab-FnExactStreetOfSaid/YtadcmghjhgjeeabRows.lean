/-
  No cell of these rows narrows 'for every input' (looked for: loops, veiled, ifaces, maps, wideKeys, modest, calm, conditions, laid).
  DERIVED. THE GIVEN ROWS OF THIS SEAT. 8 by the template 'for every input the law returns true; each argument reads behind the call as it read before'; 0 by the template 'total and deterministic' (their statements: YtadcmghjhgjeeabTotals.lean).
  GIVEN WITH THE SEED: the statements are not yours to turn. If you find one false, say at which input.
  Laid BY PROGRAM, IN A SANDBOX (cutbox-rows.mjs): the forced cells as the released guide's own fill.sh prints them over the translation f8b0fb5d37550881… (all of the seat's roots in one cut). By AI agents, Wed Nov 11 2026. No macro, syntax, notation, axiom, sorry.
-/
import Derived.Test.YtadcmghjhgjeeabChecked
import GoSem.Claim
import GoSem.ClaimJoined
import GoSem.ClaimMapViews
import Derived.JoinedTies
import Derived.KernelRfl
namespace Go.Proofs.Ytadcmghjhgjeeab
/- THE CELL 'sum', in the pinned program and in every row, IS THE sha256 OF THE DUMP (.gsa) THAT YtadcmghjhgjeeabProg.lean LOADS. Nothing in Lean hashes anything: it is a label: what it is worth is what the hold of that sum in a sandbox is worth. -/
noncomputable def Try.pinned : Pinned := { name := "ytadcmghjhgjeeab", sum := "f8b0fb5d37550881e2e3fa387054ebacd43ee5667df628fffd6e009eb4b93d06", checked := Try.checked }
namespace Rows
def none {H : Type} : Left H := { results := [], args := [] }

/-- 'laws.FnExactRestSand': WHATEVER THE INPUT: true; the input reads as it did. -/
def fnExactRestSandSpec : ChangeSpec := { name := "fnExactRestSand", fn := fun _ => fun
  | [d] => { results := [.lit (.bool true)], args := [d] }
  | _ => none }
def fnExactRestSandRow : OpenClaim := { program := "ytadcmghjhgjeeab", sum := "f8b0fb5d37550881e2e3fa387054ebacd43ee5667df628fffd6e009eb4b93d06", func := "loop.example/g01115/laws.FnExactRestSand", spec := "fnExactRestSand", apart := false }
def FnExactRestSandSaid : Prop := fnExactRestSandRow.holds Try.pinned (OpenSpec.ofChange fnExactRestSandSpec)

/-- ITS FALSE NEIGHBOUR: 'it returns false'. Refute it at one input. -/
def fnExactRestSandWrong : ChangeSpec := { name := "fnExactRestSand", fn := fun _ => fun
  | [d] => { results := [.lit (.bool false)], args := [d] }
  | _ => none }
def FnExactRestSandWrongFalsely : Prop := fnExactRestSandRow.holds Try.pinned (OpenSpec.ofChange fnExactRestSandWrong)

/-- 'laws.FnExactRepeatSand': WHATEVER THE INPUT: true; the input reads as it did. -/
def fnExactRepeatSandSpec : ChangeSpec := { name := "fnExactRepeatSand", fn := fun _ => fun
  | [d1, d2] => { results := [.lit (.bool true)], args := [d1, d2] }
  | _ => none }
def fnExactRepeatSandRow : OpenClaim := { program := "ytadcmghjhgjeeab", sum := "f8b0fb5d37550881e2e3fa387054ebacd43ee5667df628fffd6e009eb4b93d06", func := "loop.example/g01115/laws.FnExactRepeatSand", spec := "fnExactRepeatSand", apart := false }
def FnExactRepeatSandSaid : Prop := fnExactRepeatSandRow.holds Try.pinned (OpenSpec.ofChange fnExactRepeatSandSpec)

/-- ITS FALSE NEIGHBOUR: 'it returns false'. Refute it at one input. -/
def fnExactRepeatSandWrong : ChangeSpec := { name := "fnExactRepeatSand", fn := fun _ => fun
  | [d1, d2] => { results := [.lit (.bool false)], args := [d1, d2] }
  | _ => none }
def FnExactRepeatSandWrongFalsely : Prop := fnExactRepeatSandRow.holds Try.pinned (OpenSpec.ofChange fnExactRepeatSandWrong)

/-- 'laws.FnExactFirstInsertion': WHATEVER THE INPUT: true; the input reads as it did. -/
def fnExactFirstInsertionSpec : ChangeSpec := { name := "fnExactFirstInsertion", fn := fun _ => fun
  | [d] => { results := [.lit (.bool true)], args := [d] }
  | _ => none }
def fnExactFirstInsertionRow : OpenClaim := { program := "ytadcmghjhgjeeab", sum := "f8b0fb5d37550881e2e3fa387054ebacd43ee5667df628fffd6e009eb4b93d06", func := "loop.example/g01115/laws.FnExactFirstInsertion", spec := "fnExactFirstInsertion", recurses := true, apart := false }
def FnExactFirstInsertionSaid : Prop := fnExactFirstInsertionRow.holds Try.pinned (OpenSpec.ofChange fnExactFirstInsertionSpec)

/-- ITS FALSE NEIGHBOUR: 'it returns false'. Refute it at one input. -/
def fnExactFirstInsertionWrong : ChangeSpec := { name := "fnExactFirstInsertion", fn := fun _ => fun
  | [d] => { results := [.lit (.bool false)], args := [d] }
  | _ => none }
def FnExactFirstInsertionWrongFalsely : Prop := fnExactFirstInsertionRow.holds Try.pinned (OpenSpec.ofChange fnExactFirstInsertionWrong)

/-- 'laws.FnExactCountInsertions': WHATEVER THE INPUT: true; the input reads as it did. -/
def fnExactCountInsertionsSpec : ChangeSpec := { name := "fnExactCountInsertions", fn := fun _ => fun
  | [d] => { results := [.lit (.bool true)], args := [d] }
  | _ => none }
def fnExactCountInsertionsRow : OpenClaim := { program := "ytadcmghjhgjeeab", sum := "f8b0fb5d37550881e2e3fa387054ebacd43ee5667df628fffd6e009eb4b93d06", func := "loop.example/g01115/laws.FnExactCountInsertions", spec := "fnExactCountInsertions", recurses := true, apart := false }
def FnExactCountInsertionsSaid : Prop := fnExactCountInsertionsRow.holds Try.pinned (OpenSpec.ofChange fnExactCountInsertionsSpec)

/-- ITS FALSE NEIGHBOUR: 'it returns false'. Refute it at one input. -/
def fnExactCountInsertionsWrong : ChangeSpec := { name := "fnExactCountInsertions", fn := fun _ => fun
  | [d] => { results := [.lit (.bool false)], args := [d] }
  | _ => none }
def FnExactCountInsertionsWrongFalsely : Prop := fnExactCountInsertionsRow.holds Try.pinned (OpenSpec.ofChange fnExactCountInsertionsWrong)

/-- 'laws.FnExactStreetOf': WHATEVER THE INPUT: true; the input reads as it did. -/
def fnExactStreetOfSpec : ChangeSpec := { name := "fnExactStreetOf", fn := fun _ => fun
  | [d] => { results := [.lit (.bool true)], args := [d] }
  | _ => none }
def fnExactStreetOfRow : OpenClaim := { program := "ytadcmghjhgjeeab", sum := "f8b0fb5d37550881e2e3fa387054ebacd43ee5667df628fffd6e009eb4b93d06", func := "loop.example/g01115/laws.FnExactStreetOf", spec := "fnExactStreetOf", recurses := true, apart := false }
def FnExactStreetOfSaid : Prop := fnExactStreetOfRow.holds Try.pinned (OpenSpec.ofChange fnExactStreetOfSpec)

/-- ITS FALSE NEIGHBOUR: 'it returns false'. Refute it at one input. -/
def fnExactStreetOfWrong : ChangeSpec := { name := "fnExactStreetOf", fn := fun _ => fun
  | [d] => { results := [.lit (.bool false)], args := [d] }
  | _ => none }
def FnExactStreetOfWrongFalsely : Prop := fnExactStreetOfRow.holds Try.pinned (OpenSpec.ofChange fnExactStreetOfWrong)

/-- 'laws.FnExactBaseRegion': WHATEVER THE INPUT: true; the input reads as it did. -/
def fnExactBaseRegionSpec : ChangeSpec := { name := "fnExactBaseRegion", fn := fun _ => fun
  | [d] => { results := [.lit (.bool true)], args := [d] }
  | _ => none }
def fnExactBaseRegionRow : OpenClaim := { program := "ytadcmghjhgjeeab", sum := "f8b0fb5d37550881e2e3fa387054ebacd43ee5667df628fffd6e009eb4b93d06", func := "loop.example/g01115/laws.FnExactBaseRegion", spec := "fnExactBaseRegion", apart := false }
def FnExactBaseRegionSaid : Prop := fnExactBaseRegionRow.holds Try.pinned (OpenSpec.ofChange fnExactBaseRegionSpec)

/-- ITS FALSE NEIGHBOUR: 'it returns false'. Refute it at one input. -/
def fnExactBaseRegionWrong : ChangeSpec := { name := "fnExactBaseRegion", fn := fun _ => fun
  | [d] => { results := [.lit (.bool false)], args := [d] }
  | _ => none }
def FnExactBaseRegionWrongFalsely : Prop := fnExactBaseRegionRow.holds Try.pinned (OpenSpec.ofChange fnExactBaseRegionWrong)

/-- 'laws.FnExactRegionOfLabel': WHATEVER THE INPUT: true; the input reads as it did. -/
def fnExactRegionOfLabelSpec : ChangeSpec := { name := "fnExactRegionOfLabel", fn := fun _ => fun
  | [d] => { results := [.lit (.bool true)], args := [d] }
  | _ => none }
def fnExactRegionOfLabelRow : OpenClaim := { program := "ytadcmghjhgjeeab", sum := "f8b0fb5d37550881e2e3fa387054ebacd43ee5667df628fffd6e009eb4b93d06", func := "loop.example/g01115/laws.FnExactRegionOfLabel", spec := "fnExactRegionOfLabel", unfollowed := true, recurses := true, apart := false }
def FnExactRegionOfLabelSaid : Prop := fnExactRegionOfLabelRow.holds Try.pinned (OpenSpec.ofChange fnExactRegionOfLabelSpec)

/-- ITS FALSE NEIGHBOUR: 'it returns false'. Refute it at one input. -/
def fnExactRegionOfLabelWrong : ChangeSpec := { name := "fnExactRegionOfLabel", fn := fun _ => fun
  | [d] => { results := [.lit (.bool false)], args := [d] }
  | _ => none }
def FnExactRegionOfLabelWrongFalsely : Prop := fnExactRegionOfLabelRow.holds Try.pinned (OpenSpec.ofChange fnExactRegionOfLabelWrong)

/-- 'laws.FnExactAllRegions': WHATEVER THE INPUT: true; the input reads as it did. -/
def fnExactAllRegionsSpec : ChangeSpec := { name := "fnExactAllRegions", fn := fun _ => fun
  | [d] => { results := [.lit (.bool true)], args := [d] }
  | _ => none }
def fnExactAllRegionsRow : OpenClaim := { program := "ytadcmghjhgjeeab", sum := "f8b0fb5d37550881e2e3fa387054ebacd43ee5667df628fffd6e009eb4b93d06", func := "loop.example/g01115/laws.FnExactAllRegions", spec := "fnExactAllRegions", unfollowed := true, recurses := true, apart := false }
def FnExactAllRegionsSaid : Prop := fnExactAllRegionsRow.holds Try.pinned (OpenSpec.ofChange fnExactAllRegionsSpec)

/-- ITS FALSE NEIGHBOUR: 'it returns false'. Refute it at one input. -/
def fnExactAllRegionsWrong : ChangeSpec := { name := "fnExactAllRegions", fn := fun _ => fun
  | [d] => { results := [.lit (.bool false)], args := [d] }
  | _ => none }
def FnExactAllRegionsWrongFalsely : Prop := fnExactAllRegionsRow.holds Try.pinned (OpenSpec.ofChange fnExactAllRegionsWrong)

/- THE SECOND FORM. 'bulk': how many values and letters a reading holds, each counted each time it is reached (what is shared counts as often as it is met; a slice's spare places count too). A statement '..UptoSaid' is the law's where the arguments, and the package variables that the reading takes, are together of bulk at most 1048576: NARROWER than '..Said'. Prove '..Said' where nothing that the law and all that it calls make is longer than what came in: it says more and counts as full. Else prove '..UptoSaid'. A law counts once. -/
mutual
def uptoBulk {H : Type} : DataW H → Nat
  | .lit (.string bytes) => bytes.length + 1
  | .lit _ => 1
  | .nil => 1
  | .ptr d => uptoBulk d + 1
  | .slice elems spare => uptoBulkAll elems + uptoBulkAll spare + 1
  | .agg parts => uptoBulkAll parts + 1
  | .iface _ d => uptoBulk d + 1
  | .map entries => uptoBulkEntries entries + 1
  | .held _ => 1
def uptoBulkAll {H : Type} : List (DataW H) → Nat
  | [] => 0
  | d :: r => uptoBulk d + uptoBulkAll r
def uptoBulkEntries {H : Type} : List (Lit × DataW H) → Nat
  | [] => 0
  | x :: r => uptoBulkEntry x + uptoBulkEntries r
def uptoBulkEntry {H : Type} : Lit × DataW H → Nat
  | (.string bytes, d) => bytes.length + uptoBulk d + 1
  | (_, d) => uptoBulk d + 1
 end
def uptoSmall : (H : Type) → List (DataW H) → Bool := fun _ ds => decide (uptoBulkAll ds ≤ 1048576)
def OpenSpec.upto (s : _root_.Go.ChangeSpec) : _root_.Go.OpenSpec := { _root_.Go.OpenSpec.ofChange s with cond := some uptoSmall }

/-- 'laws.FnExactRestSand', WHERE WHAT IT READS IS OF BULK AT MOST 1048576: true; the input reads as it did. -/
def fnExactRestSandUptoRow : OpenClaim := { program := "ytadcmghjhgjeeab", sum := "f8b0fb5d37550881e2e3fa387054ebacd43ee5667df628fffd6e009eb4b93d06", func := "loop.example/g01115/laws.FnExactRestSand", spec := "fnExactRestSand", apart := false, narrowed := true }
def FnExactRestSandUptoSaid : Prop := fnExactRestSandUptoRow.holds Try.pinned (OpenSpec.upto fnExactRestSandSpec)

/-- 'laws.FnExactRepeatSand', WHERE WHAT IT READS IS OF BULK AT MOST 1048576: true; the input reads as it did. -/
def fnExactRepeatSandUptoRow : OpenClaim := { program := "ytadcmghjhgjeeab", sum := "f8b0fb5d37550881e2e3fa387054ebacd43ee5667df628fffd6e009eb4b93d06", func := "loop.example/g01115/laws.FnExactRepeatSand", spec := "fnExactRepeatSand", apart := false, narrowed := true }
def FnExactRepeatSandUptoSaid : Prop := fnExactRepeatSandUptoRow.holds Try.pinned (OpenSpec.upto fnExactRepeatSandSpec)

/-- 'laws.FnExactFirstInsertion', WHERE WHAT IT READS IS OF BULK AT MOST 1048576: true; the input reads as it did. -/
def fnExactFirstInsertionUptoRow : OpenClaim := { program := "ytadcmghjhgjeeab", sum := "f8b0fb5d37550881e2e3fa387054ebacd43ee5667df628fffd6e009eb4b93d06", func := "loop.example/g01115/laws.FnExactFirstInsertion", spec := "fnExactFirstInsertion", recurses := true, apart := false, narrowed := true }
def FnExactFirstInsertionUptoSaid : Prop := fnExactFirstInsertionUptoRow.holds Try.pinned (OpenSpec.upto fnExactFirstInsertionSpec)

/-- 'laws.FnExactCountInsertions', WHERE WHAT IT READS IS OF BULK AT MOST 1048576: true; the input reads as it did. -/
def fnExactCountInsertionsUptoRow : OpenClaim := { program := "ytadcmghjhgjeeab", sum := "f8b0fb5d37550881e2e3fa387054ebacd43ee5667df628fffd6e009eb4b93d06", func := "loop.example/g01115/laws.FnExactCountInsertions", spec := "fnExactCountInsertions", recurses := true, apart := false, narrowed := true }
def FnExactCountInsertionsUptoSaid : Prop := fnExactCountInsertionsUptoRow.holds Try.pinned (OpenSpec.upto fnExactCountInsertionsSpec)

/-- 'laws.FnExactStreetOf', WHERE WHAT IT READS IS OF BULK AT MOST 1048576: true; the input reads as it did. -/
def fnExactStreetOfUptoRow : OpenClaim := { program := "ytadcmghjhgjeeab", sum := "f8b0fb5d37550881e2e3fa387054ebacd43ee5667df628fffd6e009eb4b93d06", func := "loop.example/g01115/laws.FnExactStreetOf", spec := "fnExactStreetOf", recurses := true, apart := false, narrowed := true }
def FnExactStreetOfUptoSaid : Prop := fnExactStreetOfUptoRow.holds Try.pinned (OpenSpec.upto fnExactStreetOfSpec)

/-- 'laws.FnExactBaseRegion', WHERE WHAT IT READS IS OF BULK AT MOST 1048576: true; the input reads as it did. -/
def fnExactBaseRegionUptoRow : OpenClaim := { program := "ytadcmghjhgjeeab", sum := "f8b0fb5d37550881e2e3fa387054ebacd43ee5667df628fffd6e009eb4b93d06", func := "loop.example/g01115/laws.FnExactBaseRegion", spec := "fnExactBaseRegion", apart := false, narrowed := true }
def FnExactBaseRegionUptoSaid : Prop := fnExactBaseRegionUptoRow.holds Try.pinned (OpenSpec.upto fnExactBaseRegionSpec)

/-- 'laws.FnExactRegionOfLabel', WHERE WHAT IT READS IS OF BULK AT MOST 1048576: true; the input reads as it did. -/
def fnExactRegionOfLabelUptoRow : OpenClaim := { program := "ytadcmghjhgjeeab", sum := "f8b0fb5d37550881e2e3fa387054ebacd43ee5667df628fffd6e009eb4b93d06", func := "loop.example/g01115/laws.FnExactRegionOfLabel", spec := "fnExactRegionOfLabel", unfollowed := true, recurses := true, apart := false, narrowed := true }
def FnExactRegionOfLabelUptoSaid : Prop := fnExactRegionOfLabelUptoRow.holds Try.pinned (OpenSpec.upto fnExactRegionOfLabelSpec)

/-- 'laws.FnExactAllRegions', WHERE WHAT IT READS IS OF BULK AT MOST 1048576: true; the input reads as it did. -/
def fnExactAllRegionsUptoRow : OpenClaim := { program := "ytadcmghjhgjeeab", sum := "f8b0fb5d37550881e2e3fa387054ebacd43ee5667df628fffd6e009eb4b93d06", func := "loop.example/g01115/laws.FnExactAllRegions", spec := "fnExactAllRegions", unfollowed := true, recurses := true, apart := false, narrowed := true }
def FnExactAllRegionsUptoSaid : Prop := fnExactAllRegionsUptoRow.holds Try.pinned (OpenSpec.upto fnExactAllRegionsSpec)

end Rows
end Go.Proofs.Ytadcmghjhgjeeab
