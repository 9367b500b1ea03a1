/-
  No cell of these rows narrows 'for every input' (looked for: loops, veiled, ifaces, maps, wideKeys, modest, calm, conditions, laid).
  DERIVED. THE GIVEN ROWS OF THIS SEAT. 8 by the template 'for every input the law returns true; each argument reads behind the call as it read before'; 0 by the template 'total and deterministic' (their statements: YtfkejkkplafciaaTotals.lean).
  GIVEN WITH THE SEED: the statements are not yours to turn. If you find one false, say at which input.
  Laid BY PROGRAM, IN A SANDBOX (cutbox-rows.mjs): the forced cells as the released guide's own fill.sh prints them over the translation 77b5ce33e17766e2… (all of the seat's roots in one cut). By AI agents, Wed Nov 11 2026. No macro, syntax, notation, axiom, sorry.
-/
import Derived.Test.YtfkejkkplafciaaChecked
import GoSem.Claim
import GoSem.ClaimJoined
import GoSem.ClaimMapViews
import Derived.JoinedTies
import Derived.KernelRfl
namespace Go.Proofs.Ytfkejkkplafciaa
/- THE CELL 'sum', in the pinned program and in every row, IS THE sha256 OF THE DUMP (.gsa) THAT YtfkejkkplafciaaProg.lean LOADS. Nothing in Lean hashes anything: it is a label: what it is worth is what the hold of that sum in a sandbox is worth. -/
noncomputable def Try.pinned : Pinned := { name := "ytfkejkkplafciaa", sum := "77b5ce33e17766e2b01f6570933ddc9d5fa62ea137e64dd12ad59f4dc254f23e", checked := Try.checked }
namespace Rows
def none {H : Type} : Left H := { results := [], args := [] }

/-- 'laws.FnExactIsSlope': WHATEVER THE INPUT: true; the input reads as it did. -/
def fnExactIsSlopeSpec : ChangeSpec := { name := "fnExactIsSlope", fn := fun _ => fun
  | [d1, d2] => { results := [.lit (.bool true)], args := [d1, d2] }
  | _ => none }
def fnExactIsSlopeRow : OpenClaim := { program := "ytfkejkkplafciaa", sum := "77b5ce33e17766e2b01f6570933ddc9d5fa62ea137e64dd12ad59f4dc254f23e", func := "loop.example/g01115/laws.FnExactIsSlope", spec := "fnExactIsSlope", apart := false }
def FnExactIsSlopeSaid : Prop := fnExactIsSlopeRow.holds Try.pinned (OpenSpec.ofChange fnExactIsSlopeSpec)

/-- ITS FALSE NEIGHBOUR: 'it returns false'. Refute it at one input. -/
def fnExactIsSlopeWrong : ChangeSpec := { name := "fnExactIsSlope", fn := fun _ => fun
  | [d1, d2] => { results := [.lit (.bool false)], args := [d1, d2] }
  | _ => none }
def FnExactIsSlopeWrongFalsely : Prop := fnExactIsSlopeRow.holds Try.pinned (OpenSpec.ofChange fnExactIsSlopeWrong)

/-- 'laws.FnExactBoundsOf': WHATEVER THE INPUT: true; the input reads as it did. -/
def fnExactBoundsOfSpec : ChangeSpec := { name := "fnExactBoundsOf", fn := fun _ => fun
  | [d1, d2] => { results := [.lit (.bool true)], args := [d1, d2] }
  | _ => none }
def fnExactBoundsOfRow : OpenClaim := { program := "ytfkejkkplafciaa", sum := "77b5ce33e17766e2b01f6570933ddc9d5fa62ea137e64dd12ad59f4dc254f23e", func := "loop.example/g01115/laws.FnExactBoundsOf", spec := "fnExactBoundsOf", apart := false }
def FnExactBoundsOfSaid : Prop := fnExactBoundsOfRow.holds Try.pinned (OpenSpec.ofChange fnExactBoundsOfSpec)

/-- ITS FALSE NEIGHBOUR: 'it returns false'. Refute it at one input. -/
def fnExactBoundsOfWrong : ChangeSpec := { name := "fnExactBoundsOf", fn := fun _ => fun
  | [d1, d2] => { results := [.lit (.bool false)], args := [d1, d2] }
  | _ => none }
def FnExactBoundsOfWrongFalsely : Prop := fnExactBoundsOfRow.holds Try.pinned (OpenSpec.ofChange fnExactBoundsOfWrong)

/-- 'laws.FnExactIsSlopeParking': WHATEVER THE INPUT: true; the input reads as it did. -/
def fnExactIsSlopeParkingSpec : ChangeSpec := { name := "fnExactIsSlopeParking", fn := fun _ => fun
  | [d1, d2] => { results := [.lit (.bool true)], args := [d1, d2] }
  | _ => none }
def fnExactIsSlopeParkingRow : OpenClaim := { program := "ytfkejkkplafciaa", sum := "77b5ce33e17766e2b01f6570933ddc9d5fa62ea137e64dd12ad59f4dc254f23e", func := "loop.example/g01115/laws.FnExactIsSlopeParking", spec := "fnExactIsSlopeParking", recurses := true, apart := false }
def FnExactIsSlopeParkingSaid : Prop := fnExactIsSlopeParkingRow.holds Try.pinned (OpenSpec.ofChange fnExactIsSlopeParkingSpec)

/-- ITS FALSE NEIGHBOUR: 'it returns false'. Refute it at one input. -/
def fnExactIsSlopeParkingWrong : ChangeSpec := { name := "fnExactIsSlopeParking", fn := fun _ => fun
  | [d1, d2] => { results := [.lit (.bool false)], args := [d1, d2] }
  | _ => none }
def FnExactIsSlopeParkingWrongFalsely : Prop := fnExactIsSlopeParkingRow.holds Try.pinned (OpenSpec.ofChange fnExactIsSlopeParkingWrong)

/-- 'laws.FnExactCountSlope': WHATEVER THE INPUT: true; the input reads as it did. -/
def fnExactCountSlopeSpec : ChangeSpec := { name := "fnExactCountSlope", fn := fun _ => fun
  | [d1, d2] => { results := [.lit (.bool true)], args := [d1, d2] }
  | _ => none }
def fnExactCountSlopeRow : OpenClaim := { program := "ytfkejkkplafciaa", sum := "77b5ce33e17766e2b01f6570933ddc9d5fa62ea137e64dd12ad59f4dc254f23e", func := "loop.example/g01115/laws.FnExactCountSlope", spec := "fnExactCountSlope", unfollowed := true, recurses := true, apart := false }
def FnExactCountSlopeSaid : Prop := fnExactCountSlopeRow.holds Try.pinned (OpenSpec.ofChange fnExactCountSlopeSpec)

/-- ITS FALSE NEIGHBOUR: 'it returns false'. Refute it at one input. -/
def fnExactCountSlopeWrong : ChangeSpec := { name := "fnExactCountSlope", fn := fun _ => fun
  | [d1, d2] => { results := [.lit (.bool false)], args := [d1, d2] }
  | _ => none }
def FnExactCountSlopeWrongFalsely : Prop := fnExactCountSlopeRow.holds Try.pinned (OpenSpec.ofChange fnExactCountSlopeWrong)

/-- 'laws.FnExactCountSlopeWalks': WHATEVER THE INPUT: true; the input reads as it did. -/
def fnExactCountSlopeWalksSpec : ChangeSpec := { name := "fnExactCountSlopeWalks", fn := fun _ => fun
  | [d1, d2] => { results := [.lit (.bool true)], args := [d1, d2] }
  | _ => none }
def fnExactCountSlopeWalksRow : OpenClaim := { program := "ytfkejkkplafciaa", sum := "77b5ce33e17766e2b01f6570933ddc9d5fa62ea137e64dd12ad59f4dc254f23e", func := "loop.example/g01115/laws.FnExactCountSlopeWalks", spec := "fnExactCountSlopeWalks", unfollowed := true, recurses := true, apart := false }
def FnExactCountSlopeWalksSaid : Prop := fnExactCountSlopeWalksRow.holds Try.pinned (OpenSpec.ofChange fnExactCountSlopeWalksSpec)

/-- ITS FALSE NEIGHBOUR: 'it returns false'. Refute it at one input. -/
def fnExactCountSlopeWalksWrong : ChangeSpec := { name := "fnExactCountSlopeWalks", fn := fun _ => fun
  | [d1, d2] => { results := [.lit (.bool false)], args := [d1, d2] }
  | _ => none }
def FnExactCountSlopeWalksWrongFalsely : Prop := fnExactCountSlopeWalksRow.holds Try.pinned (OpenSpec.ofChange fnExactCountSlopeWalksWrong)

/-- 'laws.FnExactMostArea': WHATEVER THE INPUT: true; the input reads as it did. -/
def fnExactMostAreaSpec : ChangeSpec := { name := "fnExactMostArea", fn := fun _ => fun
  | [d1, d2] => { results := [.lit (.bool true)], args := [d1, d2] }
  | _ => none }
def fnExactMostAreaRow : OpenClaim := { program := "ytfkejkkplafciaa", sum := "77b5ce33e17766e2b01f6570933ddc9d5fa62ea137e64dd12ad59f4dc254f23e", func := "loop.example/g01115/laws.FnExactMostArea", spec := "fnExactMostArea", apart := false }
def FnExactMostAreaSaid : Prop := fnExactMostAreaRow.holds Try.pinned (OpenSpec.ofChange fnExactMostAreaSpec)

/-- ITS FALSE NEIGHBOUR: 'it returns false'. Refute it at one input. -/
def fnExactMostAreaWrong : ChangeSpec := { name := "fnExactMostArea", fn := fun _ => fun
  | [d1, d2] => { results := [.lit (.bool false)], args := [d1, d2] }
  | _ => none }
def FnExactMostAreaWrongFalsely : Prop := fnExactMostAreaRow.holds Try.pinned (OpenSpec.ofChange fnExactMostAreaWrong)

/-- 'laws.FnExactLevelsOfWalk': WHATEVER THE INPUT: true; the input reads as it did. -/
def fnExactLevelsOfWalkSpec : ChangeSpec := { name := "fnExactLevelsOfWalk", fn := fun _ => fun
  | [d1, d2] => { results := [.lit (.bool true)], args := [d1, d2] }
  | _ => none }
def fnExactLevelsOfWalkRow : OpenClaim := { program := "ytfkejkkplafciaa", sum := "77b5ce33e17766e2b01f6570933ddc9d5fa62ea137e64dd12ad59f4dc254f23e", func := "loop.example/g01115/laws.FnExactLevelsOfWalk", spec := "fnExactLevelsOfWalk", recurses := true, apart := false }
def FnExactLevelsOfWalkSaid : Prop := fnExactLevelsOfWalkRow.holds Try.pinned (OpenSpec.ofChange fnExactLevelsOfWalkSpec)

/-- ITS FALSE NEIGHBOUR: 'it returns false'. Refute it at one input. -/
def fnExactLevelsOfWalkWrong : ChangeSpec := { name := "fnExactLevelsOfWalk", fn := fun _ => fun
  | [d1, d2] => { results := [.lit (.bool false)], args := [d1, d2] }
  | _ => none }
def FnExactLevelsOfWalkWrongFalsely : Prop := fnExactLevelsOfWalkRow.holds Try.pinned (OpenSpec.ofChange fnExactLevelsOfWalkWrong)

/-- 'laws.FnExactTurnSlopeWalk': WHATEVER THE INPUT: true; the input reads as it did. -/
def fnExactTurnSlopeWalkSpec : ChangeSpec := { name := "fnExactTurnSlopeWalk", fn := fun _ => fun
  | [d1, d2] => { results := [.lit (.bool true)], args := [d1, d2] }
  | _ => none }
def fnExactTurnSlopeWalkRow : OpenClaim := { program := "ytfkejkkplafciaa", sum := "77b5ce33e17766e2b01f6570933ddc9d5fa62ea137e64dd12ad59f4dc254f23e", func := "loop.example/g01115/laws.FnExactTurnSlopeWalk", spec := "fnExactTurnSlopeWalk", recurses := true, apart := false }
def FnExactTurnSlopeWalkSaid : Prop := fnExactTurnSlopeWalkRow.holds Try.pinned (OpenSpec.ofChange fnExactTurnSlopeWalkSpec)

/-- ITS FALSE NEIGHBOUR: 'it returns false'. Refute it at one input. -/
def fnExactTurnSlopeWalkWrong : ChangeSpec := { name := "fnExactTurnSlopeWalk", fn := fun _ => fun
  | [d1, d2] => { results := [.lit (.bool false)], args := [d1, d2] }
  | _ => none }
def FnExactTurnSlopeWalkWrongFalsely : Prop := fnExactTurnSlopeWalkRow.holds Try.pinned (OpenSpec.ofChange fnExactTurnSlopeWalkWrong)

/- THE SECOND FORM. 'bulk': how many values and letters a reading holds, each counted each time it is reached (what is shared counts as often as it is met; a slice's spare places count too). A statement '..UptoSaid' is the law's where the arguments, and the package variables that the reading takes, are together of bulk at most 1048576: NARROWER than '..Said'. Prove '..Said' where nothing that the law and all that it calls make is longer than what came in: it says more and counts as full. Else prove '..UptoSaid'. A law counts once. -/
mutual
def uptoBulk {H : Type} : DataW H → Nat
  | .lit (.string bytes) => bytes.length + 1
  | .lit _ => 1
  | .nil => 1
  | .ptr d => uptoBulk d + 1
  | .slice elems spare => uptoBulkAll elems + uptoBulkAll spare + 1
  | .agg parts => uptoBulkAll parts + 1
  | .iface _ d => uptoBulk d + 1
  | .map entries => uptoBulkEntries entries + 1
  | .held _ => 1
def uptoBulkAll {H : Type} : List (DataW H) → Nat
  | [] => 0
  | d :: r => uptoBulk d + uptoBulkAll r
def uptoBulkEntries {H : Type} : List (Lit × DataW H) → Nat
  | [] => 0
  | x :: r => uptoBulkEntry x + uptoBulkEntries r
def uptoBulkEntry {H : Type} : Lit × DataW H → Nat
  | (.string bytes, d) => bytes.length + uptoBulk d + 1
  | (_, d) => uptoBulk d + 1
 end
def uptoSmall : (H : Type) → List (DataW H) → Bool := fun _ ds => decide (uptoBulkAll ds ≤ 1048576)
def OpenSpec.upto (s : _root_.Go.ChangeSpec) : _root_.Go.OpenSpec := { _root_.Go.OpenSpec.ofChange s with cond := some uptoSmall }

/-- 'laws.FnExactIsSlope', WHERE WHAT IT READS IS OF BULK AT MOST 1048576: true; the input reads as it did. -/
def fnExactIsSlopeUptoRow : OpenClaim := { program := "ytfkejkkplafciaa", sum := "77b5ce33e17766e2b01f6570933ddc9d5fa62ea137e64dd12ad59f4dc254f23e", func := "loop.example/g01115/laws.FnExactIsSlope", spec := "fnExactIsSlope", apart := false, narrowed := true }
def FnExactIsSlopeUptoSaid : Prop := fnExactIsSlopeUptoRow.holds Try.pinned (OpenSpec.upto fnExactIsSlopeSpec)

/-- 'laws.FnExactBoundsOf', WHERE WHAT IT READS IS OF BULK AT MOST 1048576: true; the input reads as it did. -/
def fnExactBoundsOfUptoRow : OpenClaim := { program := "ytfkejkkplafciaa", sum := "77b5ce33e17766e2b01f6570933ddc9d5fa62ea137e64dd12ad59f4dc254f23e", func := "loop.example/g01115/laws.FnExactBoundsOf", spec := "fnExactBoundsOf", apart := false, narrowed := true }
def FnExactBoundsOfUptoSaid : Prop := fnExactBoundsOfUptoRow.holds Try.pinned (OpenSpec.upto fnExactBoundsOfSpec)

/-- 'laws.FnExactIsSlopeParking', WHERE WHAT IT READS IS OF BULK AT MOST 1048576: true; the input reads as it did. -/
def fnExactIsSlopeParkingUptoRow : OpenClaim := { program := "ytfkejkkplafciaa", sum := "77b5ce33e17766e2b01f6570933ddc9d5fa62ea137e64dd12ad59f4dc254f23e", func := "loop.example/g01115/laws.FnExactIsSlopeParking", spec := "fnExactIsSlopeParking", recurses := true, apart := false, narrowed := true }
def FnExactIsSlopeParkingUptoSaid : Prop := fnExactIsSlopeParkingUptoRow.holds Try.pinned (OpenSpec.upto fnExactIsSlopeParkingSpec)

/-- 'laws.FnExactCountSlope', WHERE WHAT IT READS IS OF BULK AT MOST 1048576: true; the input reads as it did. -/
def fnExactCountSlopeUptoRow : OpenClaim := { program := "ytfkejkkplafciaa", sum := "77b5ce33e17766e2b01f6570933ddc9d5fa62ea137e64dd12ad59f4dc254f23e", func := "loop.example/g01115/laws.FnExactCountSlope", spec := "fnExactCountSlope", unfollowed := true, recurses := true, apart := false, narrowed := true }
def FnExactCountSlopeUptoSaid : Prop := fnExactCountSlopeUptoRow.holds Try.pinned (OpenSpec.upto fnExactCountSlopeSpec)

/-- 'laws.FnExactCountSlopeWalks', WHERE WHAT IT READS IS OF BULK AT MOST 1048576: true; the input reads as it did. -/
def fnExactCountSlopeWalksUptoRow : OpenClaim := { program := "ytfkejkkplafciaa", sum := "77b5ce33e17766e2b01f6570933ddc9d5fa62ea137e64dd12ad59f4dc254f23e", func := "loop.example/g01115/laws.FnExactCountSlopeWalks", spec := "fnExactCountSlopeWalks", unfollowed := true, recurses := true, apart := false, narrowed := true }
def FnExactCountSlopeWalksUptoSaid : Prop := fnExactCountSlopeWalksUptoRow.holds Try.pinned (OpenSpec.upto fnExactCountSlopeWalksSpec)

/-- 'laws.FnExactMostArea', WHERE WHAT IT READS IS OF BULK AT MOST 1048576: true; the input reads as it did. -/
def fnExactMostAreaUptoRow : OpenClaim := { program := "ytfkejkkplafciaa", sum := "77b5ce33e17766e2b01f6570933ddc9d5fa62ea137e64dd12ad59f4dc254f23e", func := "loop.example/g01115/laws.FnExactMostArea", spec := "fnExactMostArea", apart := false, narrowed := true }
def FnExactMostAreaUptoSaid : Prop := fnExactMostAreaUptoRow.holds Try.pinned (OpenSpec.upto fnExactMostAreaSpec)

/-- 'laws.FnExactLevelsOfWalk', WHERE WHAT IT READS IS OF BULK AT MOST 1048576: true; the input reads as it did. -/
def fnExactLevelsOfWalkUptoRow : OpenClaim := { program := "ytfkejkkplafciaa", sum := "77b5ce33e17766e2b01f6570933ddc9d5fa62ea137e64dd12ad59f4dc254f23e", func := "loop.example/g01115/laws.FnExactLevelsOfWalk", spec := "fnExactLevelsOfWalk", recurses := true, apart := false, narrowed := true }
def FnExactLevelsOfWalkUptoSaid : Prop := fnExactLevelsOfWalkUptoRow.holds Try.pinned (OpenSpec.upto fnExactLevelsOfWalkSpec)

/-- 'laws.FnExactTurnSlopeWalk', WHERE WHAT IT READS IS OF BULK AT MOST 1048576: true; the input reads as it did. -/
def fnExactTurnSlopeWalkUptoRow : OpenClaim := { program := "ytfkejkkplafciaa", sum := "77b5ce33e17766e2b01f6570933ddc9d5fa62ea137e64dd12ad59f4dc254f23e", func := "loop.example/g01115/laws.FnExactTurnSlopeWalk", spec := "fnExactTurnSlopeWalk", recurses := true, apart := false, narrowed := true }
def FnExactTurnSlopeWalkUptoSaid : Prop := fnExactTurnSlopeWalkUptoRow.holds Try.pinned (OpenSpec.upto fnExactTurnSlopeWalkSpec)

end Rows
end Go.Proofs.Ytfkejkkplafciaa
