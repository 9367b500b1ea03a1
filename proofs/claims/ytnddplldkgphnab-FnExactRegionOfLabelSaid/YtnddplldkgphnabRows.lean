/-
  No cell of these rows narrows 'for every input' (looked for: loops, veiled, ifaces, maps, wideKeys, modest, calm, conditions, laid).
  DERIVED. THE GIVEN ROWS OF THIS SEAT. 6 by the template 'for every input the law returns true; each argument reads behind the call as it read before'; 0 by the template 'total and deterministic' (their statements: YtnddplldkgphnabTotals.lean).
  GIVEN WITH THE SEED: the statements are not yours to turn. If you find one false, say at which input.
  Laid BY PROGRAM, IN A SANDBOX (cutbox-rows.mjs): the forced cells as the released guide's own fill.sh prints them over the translation 4913d9bd1b53fc43… (all of the seat's roots in one cut). By AI agents, Wed Nov 11 2026. No macro, syntax, notation, axiom, sorry.
-/
import Derived.Test.YtnddplldkgphnabChecked
import GoSem.Claim
import GoSem.ClaimJoined
import GoSem.ClaimMapViews
import Derived.JoinedTies
import Derived.KernelRfl
namespace Go.Proofs.Ytnddplldkgphnab
/- THE CELL 'sum', in the pinned program and in every row, IS THE sha256 OF THE DUMP (.gsa) THAT YtnddplldkgphnabProg.lean LOADS. Nothing in Lean hashes anything: it is a label: what it is worth is what the hold of that sum in a sandbox is worth. -/
noncomputable def Try.pinned : Pinned := { name := "ytnddplldkgphnab", sum := "4913d9bd1b53fc430da14cff8bbd35872769a9d971b3024e840e9d9b272668d4", checked := Try.checked }
namespace Rows
def none {H : Type} : Left H := { results := [], args := [] }

/-- 'laws.FnExactRegionOfLabel': WHATEVER THE INPUT: true; the input reads as it did. -/
def fnExactRegionOfLabelSpec : ChangeSpec := { name := "fnExactRegionOfLabel", fn := fun _ => fun
  | [d] => { results := [.lit (.bool true)], args := [d] }
  | _ => none }
def fnExactRegionOfLabelRow : OpenClaim := { program := "ytnddplldkgphnab", sum := "4913d9bd1b53fc430da14cff8bbd35872769a9d971b3024e840e9d9b272668d4", func := "loop.example/g01115/laws.FnExactRegionOfLabel", spec := "fnExactRegionOfLabel", unfollowed := true, recurses := true, apart := false }
def FnExactRegionOfLabelSaid : Prop := fnExactRegionOfLabelRow.holds Try.pinned (OpenSpec.ofChange fnExactRegionOfLabelSpec)

/-- ITS FALSE NEIGHBOUR: 'it returns false'. Refute it at one input. -/
def fnExactRegionOfLabelWrong : ChangeSpec := { name := "fnExactRegionOfLabel", fn := fun _ => fun
  | [d] => { results := [.lit (.bool false)], args := [d] }
  | _ => none }
def FnExactRegionOfLabelWrongFalsely : Prop := fnExactRegionOfLabelRow.holds Try.pinned (OpenSpec.ofChange fnExactRegionOfLabelWrong)

/-- 'laws.FnExactAllRegions': WHATEVER THE INPUT: true; the input reads as it did. -/
def fnExactAllRegionsSpec : ChangeSpec := { name := "fnExactAllRegions", fn := fun _ => fun
  | [d] => { results := [.lit (.bool true)], args := [d] }
  | _ => none }
def fnExactAllRegionsRow : OpenClaim := { program := "ytnddplldkgphnab", sum := "4913d9bd1b53fc430da14cff8bbd35872769a9d971b3024e840e9d9b272668d4", func := "loop.example/g01115/laws.FnExactAllRegions", spec := "fnExactAllRegions", unfollowed := true, recurses := true, apart := false }
def FnExactAllRegionsSaid : Prop := fnExactAllRegionsRow.holds Try.pinned (OpenSpec.ofChange fnExactAllRegionsSpec)

/-- ITS FALSE NEIGHBOUR: 'it returns false'. Refute it at one input. -/
def fnExactAllRegionsWrong : ChangeSpec := { name := "fnExactAllRegions", fn := fun _ => fun
  | [d] => { results := [.lit (.bool false)], args := [d] }
  | _ => none }
def FnExactAllRegionsWrongFalsely : Prop := fnExactAllRegionsRow.holds Try.pinned (OpenSpec.ofChange fnExactAllRegionsWrong)

/-- 'laws.FnExactPointOfRegion': WHATEVER THE INPUT: true; the input reads as it did. -/
def fnExactPointOfRegionSpec : ChangeSpec := { name := "fnExactPointOfRegion", fn := fun _ => fun
  | [d] => { results := [.lit (.bool true)], args := [d] }
  | _ => none }
def fnExactPointOfRegionRow : OpenClaim := { program := "ytnddplldkgphnab", sum := "4913d9bd1b53fc430da14cff8bbd35872769a9d971b3024e840e9d9b272668d4", func := "loop.example/g01115/laws.FnExactPointOfRegion", spec := "fnExactPointOfRegion", apart := false }
def FnExactPointOfRegionSaid : Prop := fnExactPointOfRegionRow.holds Try.pinned (OpenSpec.ofChange fnExactPointOfRegionSpec)

/-- ITS FALSE NEIGHBOUR: 'it returns false'. Refute it at one input. -/
def fnExactPointOfRegionWrong : ChangeSpec := { name := "fnExactPointOfRegion", fn := fun _ => fun
  | [d] => { results := [.lit (.bool false)], args := [d] }
  | _ => none }
def FnExactPointOfRegionWrongFalsely : Prop := fnExactPointOfRegionRow.holds Try.pinned (OpenSpec.ofChange fnExactPointOfRegionWrong)

/-- 'laws.FnExactRegionOfPoint': WHATEVER THE INPUT: true; the input reads as it did. -/
def fnExactRegionOfPointSpec : ChangeSpec := { name := "fnExactRegionOfPoint", fn := fun _ => fun
  | [d] => { results := [.lit (.bool true)], args := [d] }
  | _ => none }
def fnExactRegionOfPointRow : OpenClaim := { program := "ytnddplldkgphnab", sum := "4913d9bd1b53fc430da14cff8bbd35872769a9d971b3024e840e9d9b272668d4", func := "loop.example/g01115/laws.FnExactRegionOfPoint", spec := "fnExactRegionOfPoint", unfollowed := true, recurses := true, apart := false }
def FnExactRegionOfPointSaid : Prop := fnExactRegionOfPointRow.holds Try.pinned (OpenSpec.ofChange fnExactRegionOfPointSpec)

/-- ITS FALSE NEIGHBOUR: 'it returns false'. Refute it at one input. -/
def fnExactRegionOfPointWrong : ChangeSpec := { name := "fnExactRegionOfPoint", fn := fun _ => fun
  | [d] => { results := [.lit (.bool false)], args := [d] }
  | _ => none }
def FnExactRegionOfPointWrongFalsely : Prop := fnExactRegionOfPointRow.holds Try.pinned (OpenSpec.ofChange fnExactRegionOfPointWrong)

/-- 'laws.FnExactLabelOfPoint': WHATEVER THE INPUT: true; the input reads as it did. -/
def fnExactLabelOfPointSpec : ChangeSpec := { name := "fnExactLabelOfPoint", fn := fun _ => fun
  | [d] => { results := [.lit (.bool true)], args := [d] }
  | _ => none }
def fnExactLabelOfPointRow : OpenClaim := { program := "ytnddplldkgphnab", sum := "4913d9bd1b53fc430da14cff8bbd35872769a9d971b3024e840e9d9b272668d4", func := "loop.example/g01115/laws.FnExactLabelOfPoint", spec := "fnExactLabelOfPoint", unfollowed := true, recurses := true, apart := false }
def FnExactLabelOfPointSaid : Prop := fnExactLabelOfPointRow.holds Try.pinned (OpenSpec.ofChange fnExactLabelOfPointSpec)

/-- ITS FALSE NEIGHBOUR: 'it returns false'. Refute it at one input. -/
def fnExactLabelOfPointWrong : ChangeSpec := { name := "fnExactLabelOfPoint", fn := fun _ => fun
  | [d] => { results := [.lit (.bool false)], args := [d] }
  | _ => none }
def FnExactLabelOfPointWrongFalsely : Prop := fnExactLabelOfPointRow.holds Try.pinned (OpenSpec.ofChange fnExactLabelOfPointWrong)

/-- 'laws.FnExactLabelOfRegion': WHATEVER THE INPUT: true; the input reads as it did. -/
def fnExactLabelOfRegionSpec : ChangeSpec := { name := "fnExactLabelOfRegion", fn := fun _ => fun
  | [d] => { results := [.lit (.bool true)], args := [d] }
  | _ => none }
def fnExactLabelOfRegionRow : OpenClaim := { program := "ytnddplldkgphnab", sum := "4913d9bd1b53fc430da14cff8bbd35872769a9d971b3024e840e9d9b272668d4", func := "loop.example/g01115/laws.FnExactLabelOfRegion", spec := "fnExactLabelOfRegion", unfollowed := true, recurses := true, apart := false }
def FnExactLabelOfRegionSaid : Prop := fnExactLabelOfRegionRow.holds Try.pinned (OpenSpec.ofChange fnExactLabelOfRegionSpec)

/-- ITS FALSE NEIGHBOUR: 'it returns false'. Refute it at one input. -/
def fnExactLabelOfRegionWrong : ChangeSpec := { name := "fnExactLabelOfRegion", fn := fun _ => fun
  | [d] => { results := [.lit (.bool false)], args := [d] }
  | _ => none }
def FnExactLabelOfRegionWrongFalsely : Prop := fnExactLabelOfRegionRow.holds Try.pinned (OpenSpec.ofChange fnExactLabelOfRegionWrong)

/- THE SECOND FORM. 'bulk': how many values and letters a reading holds, each counted each time it is reached (what is shared counts as often as it is met; a slice's spare places count too). A statement '..UptoSaid' is the law's where the arguments, and the package variables that the reading takes, are together of bulk at most 1048576: NARROWER than '..Said'. Prove '..Said' where nothing that the law and all that it calls make is longer than what came in: it says more and counts as full. Else prove '..UptoSaid'. A law counts once. -/
mutual
def uptoBulk {H : Type} : DataW H → Nat
  | .lit (.string bytes) => bytes.length + 1
  | .lit _ => 1
  | .nil => 1
  | .ptr d => uptoBulk d + 1
  | .slice elems spare => uptoBulkAll elems + uptoBulkAll spare + 1
  | .agg parts => uptoBulkAll parts + 1
  | .iface _ d => uptoBulk d + 1
  | .map entries => uptoBulkEntries entries + 1
  | .held _ => 1
def uptoBulkAll {H : Type} : List (DataW H) → Nat
  | [] => 0
  | d :: r => uptoBulk d + uptoBulkAll r
def uptoBulkEntries {H : Type} : List (Lit × DataW H) → Nat
  | [] => 0
  | x :: r => uptoBulkEntry x + uptoBulkEntries r
def uptoBulkEntry {H : Type} : Lit × DataW H → Nat
  | (.string bytes, d) => bytes.length + uptoBulk d + 1
  | (_, d) => uptoBulk d + 1
 end
def uptoSmall : (H : Type) → List (DataW H) → Bool := fun _ ds => decide (uptoBulkAll ds ≤ 1048576)
def OpenSpec.upto (s : _root_.Go.ChangeSpec) : _root_.Go.OpenSpec := { _root_.Go.OpenSpec.ofChange s with cond := some uptoSmall }

/-- 'laws.FnExactRegionOfLabel', WHERE WHAT IT READS IS OF BULK AT MOST 1048576: true; the input reads as it did. -/
def fnExactRegionOfLabelUptoRow : OpenClaim := { program := "ytnddplldkgphnab", sum := "4913d9bd1b53fc430da14cff8bbd35872769a9d971b3024e840e9d9b272668d4", func := "loop.example/g01115/laws.FnExactRegionOfLabel", spec := "fnExactRegionOfLabel", unfollowed := true, recurses := true, apart := false, narrowed := true }
def FnExactRegionOfLabelUptoSaid : Prop := fnExactRegionOfLabelUptoRow.holds Try.pinned (OpenSpec.upto fnExactRegionOfLabelSpec)

/-- 'laws.FnExactAllRegions', WHERE WHAT IT READS IS OF BULK AT MOST 1048576: true; the input reads as it did. -/
def fnExactAllRegionsUptoRow : OpenClaim := { program := "ytnddplldkgphnab", sum := "4913d9bd1b53fc430da14cff8bbd35872769a9d971b3024e840e9d9b272668d4", func := "loop.example/g01115/laws.FnExactAllRegions", spec := "fnExactAllRegions", unfollowed := true, recurses := true, apart := false, narrowed := true }
def FnExactAllRegionsUptoSaid : Prop := fnExactAllRegionsUptoRow.holds Try.pinned (OpenSpec.upto fnExactAllRegionsSpec)

/-- 'laws.FnExactPointOfRegion', WHERE WHAT IT READS IS OF BULK AT MOST 1048576: true; the input reads as it did. -/
def fnExactPointOfRegionUptoRow : OpenClaim := { program := "ytnddplldkgphnab", sum := "4913d9bd1b53fc430da14cff8bbd35872769a9d971b3024e840e9d9b272668d4", func := "loop.example/g01115/laws.FnExactPointOfRegion", spec := "fnExactPointOfRegion", apart := false, narrowed := true }
def FnExactPointOfRegionUptoSaid : Prop := fnExactPointOfRegionUptoRow.holds Try.pinned (OpenSpec.upto fnExactPointOfRegionSpec)

/-- 'laws.FnExactRegionOfPoint', WHERE WHAT IT READS IS OF BULK AT MOST 1048576: true; the input reads as it did. -/
def fnExactRegionOfPointUptoRow : OpenClaim := { program := "ytnddplldkgphnab", sum := "4913d9bd1b53fc430da14cff8bbd35872769a9d971b3024e840e9d9b272668d4", func := "loop.example/g01115/laws.FnExactRegionOfPoint", spec := "fnExactRegionOfPoint", unfollowed := true, recurses := true, apart := false, narrowed := true }
def FnExactRegionOfPointUptoSaid : Prop := fnExactRegionOfPointUptoRow.holds Try.pinned (OpenSpec.upto fnExactRegionOfPointSpec)

/-- 'laws.FnExactLabelOfPoint', WHERE WHAT IT READS IS OF BULK AT MOST 1048576: true; the input reads as it did. -/
def fnExactLabelOfPointUptoRow : OpenClaim := { program := "ytnddplldkgphnab", sum := "4913d9bd1b53fc430da14cff8bbd35872769a9d971b3024e840e9d9b272668d4", func := "loop.example/g01115/laws.FnExactLabelOfPoint", spec := "fnExactLabelOfPoint", unfollowed := true, recurses := true, apart := false, narrowed := true }
def FnExactLabelOfPointUptoSaid : Prop := fnExactLabelOfPointUptoRow.holds Try.pinned (OpenSpec.upto fnExactLabelOfPointSpec)

/-- 'laws.FnExactLabelOfRegion', WHERE WHAT IT READS IS OF BULK AT MOST 1048576: true; the input reads as it did. -/
def fnExactLabelOfRegionUptoRow : OpenClaim := { program := "ytnddplldkgphnab", sum := "4913d9bd1b53fc430da14cff8bbd35872769a9d971b3024e840e9d9b272668d4", func := "loop.example/g01115/laws.FnExactLabelOfRegion", spec := "fnExactLabelOfRegion", unfollowed := true, recurses := true, apart := false, narrowed := true }
def FnExactLabelOfRegionUptoSaid : Prop := fnExactLabelOfRegionUptoRow.holds Try.pinned (OpenSpec.upto fnExactLabelOfRegionSpec)

end Rows
end Go.Proofs.Ytnddplldkgphnab
