/-
  No cell of these rows narrows 'for every input' (looked for: loops, veiled, ifaces, maps, wideKeys, modest, calm, conditions, laid).
  DERIVED. THE GIVEN ROWS OF THIS SEAT. 5 by the template 'for every input the law returns true; each argument reads behind the call as it read before'; 0 by the template 'total and deterministic' (their statements: YtakadjhbomggbabTotals.lean).
  GIVEN WITH THE SEED: the statements are not yours to turn. If you find one false, say at which input.
  Laid BY PROGRAM, IN A SANDBOX (cutbox-rows.mjs): the forced cells as the released guide's own fill.sh prints them over the translation a6e460c5168e416f… (all of the seat's roots in one cut). By AI agents, Wed Nov 11 2026. No macro, syntax, notation, axiom, sorry.
-/
import Derived.Test.YtakadjhbomggbabChecked
import GoSem.Claim
import GoSem.ClaimJoined
import GoSem.ClaimMapViews
import Derived.JoinedTies
import Derived.KernelRfl
namespace Go.Proofs.Ytakadjhbomggbab
/- THE CELL 'sum', in the pinned program and in every row, IS THE sha256 OF THE DUMP (.gsa) THAT YtakadjhbomggbabProg.lean LOADS. Nothing in Lean hashes anything: it is a label: what it is worth is what the hold of that sum in a sandbox is worth. -/
noncomputable def Try.pinned : Pinned := { name := "ytakadjhbomggbab", sum := "a6e460c5168e416f7c54e5395f579fe68b126edeee912f833f71d1d732ffb165", checked := Try.checked }
namespace Rows
def none {H : Type} : Left H := { results := [], args := [] }

/-- 'laws.FnExactRegionOfPoint': WHATEVER THE INPUT: true; the input reads as it did. -/
def fnExactRegionOfPointSpec : ChangeSpec := { name := "fnExactRegionOfPoint", fn := fun _ => fun
  | [d] => { results := [.lit (.bool true)], args := [d] }
  | _ => none }
def fnExactRegionOfPointRow : OpenClaim := { program := "ytakadjhbomggbab", sum := "a6e460c5168e416f7c54e5395f579fe68b126edeee912f833f71d1d732ffb165", func := "loop.example/g01115/laws.FnExactRegionOfPoint", spec := "fnExactRegionOfPoint", unfollowed := true, recurses := true, apart := false }
def FnExactRegionOfPointSaid : Prop := fnExactRegionOfPointRow.holds Try.pinned (OpenSpec.ofChange fnExactRegionOfPointSpec)

/-- ITS FALSE NEIGHBOUR: 'it returns false'. Refute it at one input. -/
def fnExactRegionOfPointWrong : ChangeSpec := { name := "fnExactRegionOfPoint", fn := fun _ => fun
  | [d] => { results := [.lit (.bool false)], args := [d] }
  | _ => none }
def FnExactRegionOfPointWrongFalsely : Prop := fnExactRegionOfPointRow.holds Try.pinned (OpenSpec.ofChange fnExactRegionOfPointWrong)

/-- 'laws.FnExactLabelOfRegion': WHATEVER THE INPUT: true; the input reads as it did. -/
def fnExactLabelOfRegionSpec : ChangeSpec := { name := "fnExactLabelOfRegion", fn := fun _ => fun
  | [d] => { results := [.lit (.bool true)], args := [d] }
  | _ => none }
def fnExactLabelOfRegionRow : OpenClaim := { program := "ytakadjhbomggbab", sum := "a6e460c5168e416f7c54e5395f579fe68b126edeee912f833f71d1d732ffb165", func := "loop.example/g01115/laws.FnExactLabelOfRegion", spec := "fnExactLabelOfRegion", unfollowed := true, recurses := true, apart := false }
def FnExactLabelOfRegionSaid : Prop := fnExactLabelOfRegionRow.holds Try.pinned (OpenSpec.ofChange fnExactLabelOfRegionSpec)

/-- ITS FALSE NEIGHBOUR: 'it returns false'. Refute it at one input. -/
def fnExactLabelOfRegionWrong : ChangeSpec := { name := "fnExactLabelOfRegion", fn := fun _ => fun
  | [d] => { results := [.lit (.bool false)], args := [d] }
  | _ => none }
def FnExactLabelOfRegionWrongFalsely : Prop := fnExactLabelOfRegionRow.holds Try.pinned (OpenSpec.ofChange fnExactLabelOfRegionWrong)

/-- 'laws.FnExactAllRegions': WHATEVER THE INPUT: true; the input reads as it did. -/
def fnExactAllRegionsSpec : ChangeSpec := { name := "fnExactAllRegions", fn := fun _ => fun
  | [d] => { results := [.lit (.bool true)], args := [d] }
  | _ => none }
def fnExactAllRegionsRow : OpenClaim := { program := "ytakadjhbomggbab", sum := "a6e460c5168e416f7c54e5395f579fe68b126edeee912f833f71d1d732ffb165", func := "loop.example/g01115/laws.FnExactAllRegions", spec := "fnExactAllRegions", unfollowed := true, recurses := true, apart := false }
def FnExactAllRegionsSaid : Prop := fnExactAllRegionsRow.holds Try.pinned (OpenSpec.ofChange fnExactAllRegionsSpec)

/-- ITS FALSE NEIGHBOUR: 'it returns false'. Refute it at one input. -/
def fnExactAllRegionsWrong : ChangeSpec := { name := "fnExactAllRegions", fn := fun _ => fun
  | [d] => { results := [.lit (.bool false)], args := [d] }
  | _ => none }
def FnExactAllRegionsWrongFalsely : Prop := fnExactAllRegionsRow.holds Try.pinned (OpenSpec.ofChange fnExactAllRegionsWrong)

/-- 'laws.FnRegionsHaveLabels': WHATEVER THE INPUT: true; the input reads as it did. -/
def fnRegionsHaveLabelsSpec : ChangeSpec := { name := "fnRegionsHaveLabels", fn := fun _ => fun
  | [d1, d2] => { results := [.lit (.bool true)], args := [d1, d2] }
  | _ => none }
def fnRegionsHaveLabelsRow : OpenClaim := { program := "ytakadjhbomggbab", sum := "a6e460c5168e416f7c54e5395f579fe68b126edeee912f833f71d1d732ffb165", func := "loop.example/g01115/laws.FnRegionsHaveLabels", spec := "fnRegionsHaveLabels", unfollowed := true, recurses := true, apart := false }
def FnRegionsHaveLabelsSaid : Prop := fnRegionsHaveLabelsRow.holds Try.pinned (OpenSpec.ofChange fnRegionsHaveLabelsSpec)

/-- ITS FALSE NEIGHBOUR: 'it returns false'. Refute it at one input. -/
def fnRegionsHaveLabelsWrong : ChangeSpec := { name := "fnRegionsHaveLabels", fn := fun _ => fun
  | [d1, d2] => { results := [.lit (.bool false)], args := [d1, d2] }
  | _ => none }
def FnRegionsHaveLabelsWrongFalsely : Prop := fnRegionsHaveLabelsRow.holds Try.pinned (OpenSpec.ofChange fnRegionsHaveLabelsWrong)

/-- 'laws.FnPointsInRegions': WHATEVER THE INPUT: true; the input reads as it did. -/
def fnPointsInRegionsSpec : ChangeSpec := { name := "fnPointsInRegions", fn := fun _ => fun
  | [d1, d2] => { results := [.lit (.bool true)], args := [d1, d2] }
  | _ => none }
def fnPointsInRegionsRow : OpenClaim := { program := "ytakadjhbomggbab", sum := "a6e460c5168e416f7c54e5395f579fe68b126edeee912f833f71d1d732ffb165", func := "loop.example/g01115/laws.FnPointsInRegions", spec := "fnPointsInRegions", unfollowed := true, recurses := true, apart := false }
def FnPointsInRegionsSaid : Prop := fnPointsInRegionsRow.holds Try.pinned (OpenSpec.ofChange fnPointsInRegionsSpec)

/-- ITS FALSE NEIGHBOUR: 'it returns false'. Refute it at one input. -/
def fnPointsInRegionsWrong : ChangeSpec := { name := "fnPointsInRegions", fn := fun _ => fun
  | [d1, d2] => { results := [.lit (.bool false)], args := [d1, d2] }
  | _ => none }
def FnPointsInRegionsWrongFalsely : Prop := fnPointsInRegionsRow.holds Try.pinned (OpenSpec.ofChange fnPointsInRegionsWrong)

/- THE SECOND FORM. 'bulk': how many values and letters a reading holds, each counted each time it is reached (what is shared counts as often as it is met; a slice's spare places count too). A statement '..UptoSaid' is the law's where the arguments, and the package variables that the reading takes, are together of bulk at most 1048576: NARROWER than '..Said'. Prove '..Said' where nothing that the law and all that it calls make is longer than what came in: it says more and counts as full. Else prove '..UptoSaid'. A law counts once. -/
mutual
def uptoBulk {H : Type} : DataW H → Nat
  | .lit (.string bytes) => bytes.length + 1
  | .lit _ => 1
  | .nil => 1
  | .ptr d => uptoBulk d + 1
  | .slice elems spare => uptoBulkAll elems + uptoBulkAll spare + 1
  | .agg parts => uptoBulkAll parts + 1
  | .iface _ d => uptoBulk d + 1
  | .map entries => uptoBulkEntries entries + 1
  | .held _ => 1
def uptoBulkAll {H : Type} : List (DataW H) → Nat
  | [] => 0
  | d :: r => uptoBulk d + uptoBulkAll r
def uptoBulkEntries {H : Type} : List (Lit × DataW H) → Nat
  | [] => 0
  | x :: r => uptoBulkEntry x + uptoBulkEntries r
def uptoBulkEntry {H : Type} : Lit × DataW H → Nat
  | (.string bytes, d) => bytes.length + uptoBulk d + 1
  | (_, d) => uptoBulk d + 1
 end
def uptoSmall : (H : Type) → List (DataW H) → Bool := fun _ ds => decide (uptoBulkAll ds ≤ 1048576)
def OpenSpec.upto (s : _root_.Go.ChangeSpec) : _root_.Go.OpenSpec := { _root_.Go.OpenSpec.ofChange s with cond := some uptoSmall }

/-- 'laws.FnExactRegionOfPoint', WHERE WHAT IT READS IS OF BULK AT MOST 1048576: true; the input reads as it did. -/
def fnExactRegionOfPointUptoRow : OpenClaim := { program := "ytakadjhbomggbab", sum := "a6e460c5168e416f7c54e5395f579fe68b126edeee912f833f71d1d732ffb165", func := "loop.example/g01115/laws.FnExactRegionOfPoint", spec := "fnExactRegionOfPoint", unfollowed := true, recurses := true, apart := false, narrowed := true }
def FnExactRegionOfPointUptoSaid : Prop := fnExactRegionOfPointUptoRow.holds Try.pinned (OpenSpec.upto fnExactRegionOfPointSpec)

/-- 'laws.FnExactLabelOfRegion', WHERE WHAT IT READS IS OF BULK AT MOST 1048576: true; the input reads as it did. -/
def fnExactLabelOfRegionUptoRow : OpenClaim := { program := "ytakadjhbomggbab", sum := "a6e460c5168e416f7c54e5395f579fe68b126edeee912f833f71d1d732ffb165", func := "loop.example/g01115/laws.FnExactLabelOfRegion", spec := "fnExactLabelOfRegion", unfollowed := true, recurses := true, apart := false, narrowed := true }
def FnExactLabelOfRegionUptoSaid : Prop := fnExactLabelOfRegionUptoRow.holds Try.pinned (OpenSpec.upto fnExactLabelOfRegionSpec)

/-- 'laws.FnExactAllRegions', WHERE WHAT IT READS IS OF BULK AT MOST 1048576: true; the input reads as it did. -/
def fnExactAllRegionsUptoRow : OpenClaim := { program := "ytakadjhbomggbab", sum := "a6e460c5168e416f7c54e5395f579fe68b126edeee912f833f71d1d732ffb165", func := "loop.example/g01115/laws.FnExactAllRegions", spec := "fnExactAllRegions", unfollowed := true, recurses := true, apart := false, narrowed := true }
def FnExactAllRegionsUptoSaid : Prop := fnExactAllRegionsUptoRow.holds Try.pinned (OpenSpec.upto fnExactAllRegionsSpec)

/-- 'laws.FnRegionsHaveLabels', WHERE WHAT IT READS IS OF BULK AT MOST 1048576: true; the input reads as it did. -/
def fnRegionsHaveLabelsUptoRow : OpenClaim := { program := "ytakadjhbomggbab", sum := "a6e460c5168e416f7c54e5395f579fe68b126edeee912f833f71d1d732ffb165", func := "loop.example/g01115/laws.FnRegionsHaveLabels", spec := "fnRegionsHaveLabels", unfollowed := true, recurses := true, apart := false, narrowed := true }
def FnRegionsHaveLabelsUptoSaid : Prop := fnRegionsHaveLabelsUptoRow.holds Try.pinned (OpenSpec.upto fnRegionsHaveLabelsSpec)

/-- 'laws.FnPointsInRegions', WHERE WHAT IT READS IS OF BULK AT MOST 1048576: true; the input reads as it did. -/
def fnPointsInRegionsUptoRow : OpenClaim := { program := "ytakadjhbomggbab", sum := "a6e460c5168e416f7c54e5395f579fe68b126edeee912f833f71d1d732ffb165", func := "loop.example/g01115/laws.FnPointsInRegions", spec := "fnPointsInRegions", unfollowed := true, recurses := true, apart := false, narrowed := true }
def FnPointsInRegionsUptoSaid : Prop := fnPointsInRegionsUptoRow.holds Try.pinned (OpenSpec.upto fnPointsInRegionsSpec)

end Rows
end Go.Proofs.Ytakadjhbomggbab
