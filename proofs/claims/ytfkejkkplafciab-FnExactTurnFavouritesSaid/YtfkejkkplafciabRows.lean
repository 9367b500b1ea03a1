/-
  No cell of these rows narrows 'for every input' (looked for: loops, veiled, ifaces, maps, wideKeys, modest, calm, conditions, laid).
  DERIVED. THE GIVEN ROWS OF THIS SEAT. 8 by the template 'for every input the law returns true; each argument reads behind the call as it read before'; 0 by the template 'total and deterministic' (their statements: YtfkejkkplafciabTotals.lean).
  GIVEN WITH THE SEED: the statements are not yours to turn. If you find one false, say at which input.
  Laid BY PROGRAM, IN A SANDBOX (cutbox-rows.mjs): the forced cells as the released guide's own fill.sh prints them over the translation 2f3b62e431c15723… (all of the seat's roots in one cut). By AI agents, Wed Nov 11 2026. No macro, syntax, notation, axiom, sorry.
-/
import Derived.Test.YtfkejkkplafciabChecked
import GoSem.Claim
import GoSem.ClaimJoined
import GoSem.ClaimMapViews
import Derived.JoinedTies
import Derived.KernelRfl
namespace Go.Proofs.Ytfkejkkplafciab
/- THE CELL 'sum', in the pinned program and in every row, IS THE sha256 OF THE DUMP (.gsa) THAT YtfkejkkplafciabProg.lean LOADS. Nothing in Lean hashes anything: it is a label: what it is worth is what the hold of that sum in a sandbox is worth. -/
noncomputable def Try.pinned : Pinned := { name := "ytfkejkkplafciab", sum := "2f3b62e431c157232a34d09995502427d99b17c452eafa5874ecfc43de367a84", checked := Try.checked }
namespace Rows
def none {H : Type} : Left H := { results := [], args := [] }

/-- 'laws.FnExactRankSlope': WHATEVER THE INPUT: true; the input reads as it did. -/
def fnExactRankSlopeSpec : ChangeSpec := { name := "fnExactRankSlope", fn := fun _ => fun
  | [d1, d2] => { results := [.lit (.bool true)], args := [d1, d2] }
  | _ => none }
def fnExactRankSlopeRow : OpenClaim := { program := "ytfkejkkplafciab", sum := "2f3b62e431c157232a34d09995502427d99b17c452eafa5874ecfc43de367a84", func := "loop.example/g01115/laws.FnExactRankSlope", spec := "fnExactRankSlope", recurses := true, apart := false }
def FnExactRankSlopeSaid : Prop := fnExactRankSlopeRow.holds Try.pinned (OpenSpec.ofChange fnExactRankSlopeSpec)

/-- ITS FALSE NEIGHBOUR: 'it returns false'. Refute it at one input. -/
def fnExactRankSlopeWrong : ChangeSpec := { name := "fnExactRankSlope", fn := fun _ => fun
  | [d1, d2] => { results := [.lit (.bool false)], args := [d1, d2] }
  | _ => none }
def FnExactRankSlopeWrongFalsely : Prop := fnExactRankSlopeRow.holds Try.pinned (OpenSpec.ofChange fnExactRankSlopeWrong)

/-- 'laws.FnExactSlopeAt': WHATEVER THE INPUT: true; the input reads as it did. -/
def fnExactSlopeAtSpec : ChangeSpec := { name := "fnExactSlopeAt", fn := fun _ => fun
  | [d1, d2, d3] => { results := [.lit (.bool true)], args := [d1, d2, d3] }
  | _ => none }
def fnExactSlopeAtRow : OpenClaim := { program := "ytfkejkkplafciab", sum := "2f3b62e431c157232a34d09995502427d99b17c452eafa5874ecfc43de367a84", func := "loop.example/g01115/laws.FnExactSlopeAt", spec := "fnExactSlopeAt", unfollowed := true, recurses := true, apart := false }
def FnExactSlopeAtSaid : Prop := fnExactSlopeAtRow.holds Try.pinned (OpenSpec.ofChange fnExactSlopeAtSpec)

/-- ITS FALSE NEIGHBOUR: 'it returns false'. Refute it at one input. -/
def fnExactSlopeAtWrong : ChangeSpec := { name := "fnExactSlopeAt", fn := fun _ => fun
  | [d1, d2, d3] => { results := [.lit (.bool false)], args := [d1, d2, d3] }
  | _ => none }
def FnExactSlopeAtWrongFalsely : Prop := fnExactSlopeAtRow.holds Try.pinned (OpenSpec.ofChange fnExactSlopeAtWrong)

/-- 'laws.FnExactTurnToSlope': WHATEVER THE INPUT: true; the input reads as it did. -/
def fnExactTurnToSlopeSpec : ChangeSpec := { name := "fnExactTurnToSlope", fn := fun _ => fun
  | [d1, d2] => { results := [.lit (.bool true)], args := [d1, d2] }
  | _ => none }
def fnExactTurnToSlopeRow : OpenClaim := { program := "ytfkejkkplafciab", sum := "2f3b62e431c157232a34d09995502427d99b17c452eafa5874ecfc43de367a84", func := "loop.example/g01115/laws.FnExactTurnToSlope", spec := "fnExactTurnToSlope", recurses := true, apart := false }
def FnExactTurnToSlopeSaid : Prop := fnExactTurnToSlopeRow.holds Try.pinned (OpenSpec.ofChange fnExactTurnToSlopeSpec)

/-- ITS FALSE NEIGHBOUR: 'it returns false'. Refute it at one input. -/
def fnExactTurnToSlopeWrong : ChangeSpec := { name := "fnExactTurnToSlope", fn := fun _ => fun
  | [d1, d2] => { results := [.lit (.bool false)], args := [d1, d2] }
  | _ => none }
def FnExactTurnToSlopeWrongFalsely : Prop := fnExactTurnToSlopeRow.holds Try.pinned (OpenSpec.ofChange fnExactTurnToSlopeWrong)

/-- 'laws.FnExactUsualOf': WHATEVER THE INPUT: true; the input reads as it did. -/
def fnExactUsualOfSpec : ChangeSpec := { name := "fnExactUsualOf", fn := fun _ => fun
  | [d] => { results := [.lit (.bool true)], args := [d] }
  | _ => none }
def fnExactUsualOfRow : OpenClaim := { program := "ytfkejkkplafciab", sum := "2f3b62e431c157232a34d09995502427d99b17c452eafa5874ecfc43de367a84", func := "loop.example/g01115/laws.FnExactUsualOf", spec := "fnExactUsualOf", recurses := true, apart := false }
def FnExactUsualOfSaid : Prop := fnExactUsualOfRow.holds Try.pinned (OpenSpec.ofChange fnExactUsualOfSpec)

/-- ITS FALSE NEIGHBOUR: 'it returns false'. Refute it at one input. -/
def fnExactUsualOfWrong : ChangeSpec := { name := "fnExactUsualOf", fn := fun _ => fun
  | [d] => { results := [.lit (.bool false)], args := [d] }
  | _ => none }
def FnExactUsualOfWrongFalsely : Prop := fnExactUsualOfRow.holds Try.pinned (OpenSpec.ofChange fnExactUsualOfWrong)

/-- 'laws.FnExactAllSlope': WHATEVER THE INPUT: true; the input reads as it did. -/
def fnExactAllSlopeSpec : ChangeSpec := { name := "fnExactAllSlope", fn := fun _ => fun
  | [d1, d2] => { results := [.lit (.bool true)], args := [d1, d2] }
  | _ => none }
def fnExactAllSlopeRow : OpenClaim := { program := "ytfkejkkplafciab", sum := "2f3b62e431c157232a34d09995502427d99b17c452eafa5874ecfc43de367a84", func := "loop.example/g01115/laws.FnExactAllSlope", spec := "fnExactAllSlope", unfollowed := true, recurses := true, apart := false }
def FnExactAllSlopeSaid : Prop := fnExactAllSlopeRow.holds Try.pinned (OpenSpec.ofChange fnExactAllSlopeSpec)

/-- ITS FALSE NEIGHBOUR: 'it returns false'. Refute it at one input. -/
def fnExactAllSlopeWrong : ChangeSpec := { name := "fnExactAllSlope", fn := fun _ => fun
  | [d1, d2] => { results := [.lit (.bool false)], args := [d1, d2] }
  | _ => none }
def FnExactAllSlopeWrongFalsely : Prop := fnExactAllSlopeRow.holds Try.pinned (OpenSpec.ofChange fnExactAllSlopeWrong)

/-- 'laws.FnExactAllSlopeWalks': WHATEVER THE INPUT: true; the input reads as it did. -/
def fnExactAllSlopeWalksSpec : ChangeSpec := { name := "fnExactAllSlopeWalks", fn := fun _ => fun
  | [d1, d2] => { results := [.lit (.bool true)], args := [d1, d2] }
  | _ => none }
def fnExactAllSlopeWalksRow : OpenClaim := { program := "ytfkejkkplafciab", sum := "2f3b62e431c157232a34d09995502427d99b17c452eafa5874ecfc43de367a84", func := "loop.example/g01115/laws.FnExactAllSlopeWalks", spec := "fnExactAllSlopeWalks", unfollowed := true, recurses := true, apart := false }
def FnExactAllSlopeWalksSaid : Prop := fnExactAllSlopeWalksRow.holds Try.pinned (OpenSpec.ofChange fnExactAllSlopeWalksSpec)

/-- ITS FALSE NEIGHBOUR: 'it returns false'. Refute it at one input. -/
def fnExactAllSlopeWalksWrong : ChangeSpec := { name := "fnExactAllSlopeWalks", fn := fun _ => fun
  | [d1, d2] => { results := [.lit (.bool false)], args := [d1, d2] }
  | _ => none }
def FnExactAllSlopeWalksWrongFalsely : Prop := fnExactAllSlopeWalksRow.holds Try.pinned (OpenSpec.ofChange fnExactAllSlopeWalksWrong)

/-- 'laws.FnExactSortedFits': WHATEVER THE INPUT: true; the input reads as it did. -/
def fnExactSortedFitsSpec : ChangeSpec := { name := "fnExactSortedFits", fn := fun _ => fun
  | [d] => { results := [.lit (.bool true)], args := [d] }
  | _ => none }
def fnExactSortedFitsRow : OpenClaim := { program := "ytfkejkkplafciab", sum := "2f3b62e431c157232a34d09995502427d99b17c452eafa5874ecfc43de367a84", func := "loop.example/g01115/laws.FnExactSortedFits", spec := "fnExactSortedFits", recurses := true, apart := false }
def FnExactSortedFitsSaid : Prop := fnExactSortedFitsRow.holds Try.pinned (OpenSpec.ofChange fnExactSortedFitsSpec)

/-- ITS FALSE NEIGHBOUR: 'it returns false'. Refute it at one input. -/
def fnExactSortedFitsWrong : ChangeSpec := { name := "fnExactSortedFits", fn := fun _ => fun
  | [d] => { results := [.lit (.bool false)], args := [d] }
  | _ => none }
def FnExactSortedFitsWrongFalsely : Prop := fnExactSortedFitsRow.holds Try.pinned (OpenSpec.ofChange fnExactSortedFitsWrong)

/-- 'laws.FnExactTurnFavourites': WHATEVER THE INPUT: true; the input reads as it did. -/
def fnExactTurnFavouritesSpec : ChangeSpec := { name := "fnExactTurnFavourites", fn := fun _ => fun
  | [d1, d2, d3] => { results := [.lit (.bool true)], args := [d1, d2, d3] }
  | _ => none }
def fnExactTurnFavouritesRow : OpenClaim := { program := "ytfkejkkplafciab", sum := "2f3b62e431c157232a34d09995502427d99b17c452eafa5874ecfc43de367a84", func := "loop.example/g01115/laws.FnExactTurnFavourites", spec := "fnExactTurnFavourites", apart := false }
def FnExactTurnFavouritesSaid : Prop := fnExactTurnFavouritesRow.holds Try.pinned (OpenSpec.ofChange fnExactTurnFavouritesSpec)

/-- ITS FALSE NEIGHBOUR: 'it returns false'. Refute it at one input. -/
def fnExactTurnFavouritesWrong : ChangeSpec := { name := "fnExactTurnFavourites", fn := fun _ => fun
  | [d1, d2, d3] => { results := [.lit (.bool false)], args := [d1, d2, d3] }
  | _ => none }
def FnExactTurnFavouritesWrongFalsely : Prop := fnExactTurnFavouritesRow.holds Try.pinned (OpenSpec.ofChange fnExactTurnFavouritesWrong)

/- THE SECOND FORM. 'bulk': how many values and letters a reading holds, each counted each time it is reached (what is shared counts as often as it is met; a slice's spare places count too). A statement '..UptoSaid' is the law's where the arguments, and the package variables that the reading takes, are together of bulk at most 1048576: NARROWER than '..Said'. Prove '..Said' where nothing that the law and all that it calls make is longer than what came in: it says more and counts as full. Else prove '..UptoSaid'. A law counts once. -/
mutual
def uptoBulk {H : Type} : DataW H → Nat
  | .lit (.string bytes) => bytes.length + 1
  | .lit _ => 1
  | .nil => 1
  | .ptr d => uptoBulk d + 1
  | .slice elems spare => uptoBulkAll elems + uptoBulkAll spare + 1
  | .agg parts => uptoBulkAll parts + 1
  | .iface _ d => uptoBulk d + 1
  | .map entries => uptoBulkEntries entries + 1
  | .held _ => 1
def uptoBulkAll {H : Type} : List (DataW H) → Nat
  | [] => 0
  | d :: r => uptoBulk d + uptoBulkAll r
def uptoBulkEntries {H : Type} : List (Lit × DataW H) → Nat
  | [] => 0
  | x :: r => uptoBulkEntry x + uptoBulkEntries r
def uptoBulkEntry {H : Type} : Lit × DataW H → Nat
  | (.string bytes, d) => bytes.length + uptoBulk d + 1
  | (_, d) => uptoBulk d + 1
 end
def uptoSmall : (H : Type) → List (DataW H) → Bool := fun _ ds => decide (uptoBulkAll ds ≤ 1048576)
def OpenSpec.upto (s : _root_.Go.ChangeSpec) : _root_.Go.OpenSpec := { _root_.Go.OpenSpec.ofChange s with cond := some uptoSmall }

/-- 'laws.FnExactRankSlope', WHERE WHAT IT READS IS OF BULK AT MOST 1048576: true; the input reads as it did. -/
def fnExactRankSlopeUptoRow : OpenClaim := { program := "ytfkejkkplafciab", sum := "2f3b62e431c157232a34d09995502427d99b17c452eafa5874ecfc43de367a84", func := "loop.example/g01115/laws.FnExactRankSlope", spec := "fnExactRankSlope", recurses := true, apart := false, narrowed := true }
def FnExactRankSlopeUptoSaid : Prop := fnExactRankSlopeUptoRow.holds Try.pinned (OpenSpec.upto fnExactRankSlopeSpec)

/-- 'laws.FnExactSlopeAt', WHERE WHAT IT READS IS OF BULK AT MOST 1048576: true; the input reads as it did. -/
def fnExactSlopeAtUptoRow : OpenClaim := { program := "ytfkejkkplafciab", sum := "2f3b62e431c157232a34d09995502427d99b17c452eafa5874ecfc43de367a84", func := "loop.example/g01115/laws.FnExactSlopeAt", spec := "fnExactSlopeAt", unfollowed := true, recurses := true, apart := false, narrowed := true }
def FnExactSlopeAtUptoSaid : Prop := fnExactSlopeAtUptoRow.holds Try.pinned (OpenSpec.upto fnExactSlopeAtSpec)

/-- 'laws.FnExactTurnToSlope', WHERE WHAT IT READS IS OF BULK AT MOST 1048576: true; the input reads as it did. -/
def fnExactTurnToSlopeUptoRow : OpenClaim := { program := "ytfkejkkplafciab", sum := "2f3b62e431c157232a34d09995502427d99b17c452eafa5874ecfc43de367a84", func := "loop.example/g01115/laws.FnExactTurnToSlope", spec := "fnExactTurnToSlope", recurses := true, apart := false, narrowed := true }
def FnExactTurnToSlopeUptoSaid : Prop := fnExactTurnToSlopeUptoRow.holds Try.pinned (OpenSpec.upto fnExactTurnToSlopeSpec)

/-- 'laws.FnExactUsualOf', WHERE WHAT IT READS IS OF BULK AT MOST 1048576: true; the input reads as it did. -/
def fnExactUsualOfUptoRow : OpenClaim := { program := "ytfkejkkplafciab", sum := "2f3b62e431c157232a34d09995502427d99b17c452eafa5874ecfc43de367a84", func := "loop.example/g01115/laws.FnExactUsualOf", spec := "fnExactUsualOf", recurses := true, apart := false, narrowed := true }
def FnExactUsualOfUptoSaid : Prop := fnExactUsualOfUptoRow.holds Try.pinned (OpenSpec.upto fnExactUsualOfSpec)

/-- 'laws.FnExactAllSlope', WHERE WHAT IT READS IS OF BULK AT MOST 1048576: true; the input reads as it did. -/
def fnExactAllSlopeUptoRow : OpenClaim := { program := "ytfkejkkplafciab", sum := "2f3b62e431c157232a34d09995502427d99b17c452eafa5874ecfc43de367a84", func := "loop.example/g01115/laws.FnExactAllSlope", spec := "fnExactAllSlope", unfollowed := true, recurses := true, apart := false, narrowed := true }
def FnExactAllSlopeUptoSaid : Prop := fnExactAllSlopeUptoRow.holds Try.pinned (OpenSpec.upto fnExactAllSlopeSpec)

/-- 'laws.FnExactAllSlopeWalks', WHERE WHAT IT READS IS OF BULK AT MOST 1048576: true; the input reads as it did. -/
def fnExactAllSlopeWalksUptoRow : OpenClaim := { program := "ytfkejkkplafciab", sum := "2f3b62e431c157232a34d09995502427d99b17c452eafa5874ecfc43de367a84", func := "loop.example/g01115/laws.FnExactAllSlopeWalks", spec := "fnExactAllSlopeWalks", unfollowed := true, recurses := true, apart := false, narrowed := true }
def FnExactAllSlopeWalksUptoSaid : Prop := fnExactAllSlopeWalksUptoRow.holds Try.pinned (OpenSpec.upto fnExactAllSlopeWalksSpec)

/-- 'laws.FnExactSortedFits', WHERE WHAT IT READS IS OF BULK AT MOST 1048576: true; the input reads as it did. -/
def fnExactSortedFitsUptoRow : OpenClaim := { program := "ytfkejkkplafciab", sum := "2f3b62e431c157232a34d09995502427d99b17c452eafa5874ecfc43de367a84", func := "loop.example/g01115/laws.FnExactSortedFits", spec := "fnExactSortedFits", recurses := true, apart := false, narrowed := true }
def FnExactSortedFitsUptoSaid : Prop := fnExactSortedFitsUptoRow.holds Try.pinned (OpenSpec.upto fnExactSortedFitsSpec)

/-- 'laws.FnExactTurnFavourites', WHERE WHAT IT READS IS OF BULK AT MOST 1048576: true; the input reads as it did. -/
def fnExactTurnFavouritesUptoRow : OpenClaim := { program := "ytfkejkkplafciab", sum := "2f3b62e431c157232a34d09995502427d99b17c452eafa5874ecfc43de367a84", func := "loop.example/g01115/laws.FnExactTurnFavourites", spec := "fnExactTurnFavourites", apart := false, narrowed := true }
def FnExactTurnFavouritesUptoSaid : Prop := fnExactTurnFavouritesUptoRow.holds Try.pinned (OpenSpec.upto fnExactTurnFavouritesSpec)

end Rows
end Go.Proofs.Ytfkejkkplafciab
