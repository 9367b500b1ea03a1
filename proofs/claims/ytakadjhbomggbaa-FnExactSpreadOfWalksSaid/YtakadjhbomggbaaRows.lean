/-
  No cell of these rows narrows 'for every input' (looked for: loops, veiled, ifaces, maps, wideKeys, modest, calm, conditions, laid).
  DERIVED. THE GIVEN ROWS OF THIS SEAT. 5 by the template 'for every input the law returns true; each argument reads behind the call as it read before'; 0 by the template 'total and deterministic' (their statements: YtakadjhbomggbaaTotals.lean).
  GIVEN WITH THE SEED: the statements are not yours to turn. If you find one false, say at which input.
  Laid BY PROGRAM, IN A SANDBOX (cutbox-rows.mjs): the forced cells as the released guide's own fill.sh prints them over the translation a58cc3408808fbba… (all of the seat's roots in one cut). By AI agents, Wed Nov 11 2026. No macro, syntax, notation, axiom, sorry.
-/
import Derived.Test.YtakadjhbomggbaaChecked
import GoSem.Claim
import GoSem.ClaimJoined
import GoSem.ClaimMapViews
import Derived.JoinedTies
import Derived.KernelRfl
namespace Go.Proofs.Ytakadjhbomggbaa
/- THE CELL 'sum', in the pinned program and in every row, IS THE sha256 OF THE DUMP (.gsa) THAT YtakadjhbomggbaaProg.lean LOADS. Nothing in Lean hashes anything: it is a label: what it is worth is what the hold of that sum in a sandbox is worth. -/
noncomputable def Try.pinned : Pinned := { name := "ytakadjhbomggbaa", sum := "a58cc3408808fbbac64c3847f1756aab2fb422bbc152d798e961dcae3925ecd9", checked := Try.checked }
namespace Rows
def none {H : Type} : Left H := { results := [], args := [] }

/-- 'laws.FnParkingIsWalks': WHATEVER THE INPUT: true; the input reads as it did. -/
def fnParkingIsWalksSpec : ChangeSpec := { name := "fnParkingIsWalks", fn := fun _ => fun
  | [d1, d2] => { results := [.lit (.bool true)], args := [d1, d2] }
  | _ => none }
def fnParkingIsWalksRow : OpenClaim := { program := "ytakadjhbomggbaa", sum := "a58cc3408808fbbac64c3847f1756aab2fb422bbc152d798e961dcae3925ecd9", func := "loop.example/g01115/laws.FnParkingIsWalks", spec := "fnParkingIsWalks", unfollowed := true, recurses := true, apart := false }
def FnParkingIsWalksSaid : Prop := fnParkingIsWalksRow.holds Try.pinned (OpenSpec.ofChange fnParkingIsWalksSpec)

/-- ITS FALSE NEIGHBOUR: 'it returns false'. Refute it at one input. -/
def fnParkingIsWalksWrong : ChangeSpec := { name := "fnParkingIsWalks", fn := fun _ => fun
  | [d1, d2] => { results := [.lit (.bool false)], args := [d1, d2] }
  | _ => none }
def FnParkingIsWalksWrongFalsely : Prop := fnParkingIsWalksRow.holds Try.pinned (OpenSpec.ofChange fnParkingIsWalksWrong)

/-- 'laws.FnPairsOfWalks': WHATEVER THE INPUT: true; the input reads as it did. -/
def fnPairsOfWalksSpec : ChangeSpec := { name := "fnPairsOfWalks", fn := fun _ => fun
  | [d1, d2] => { results := [.lit (.bool true)], args := [d1, d2] }
  | _ => none }
def fnPairsOfWalksRow : OpenClaim := { program := "ytakadjhbomggbaa", sum := "a58cc3408808fbbac64c3847f1756aab2fb422bbc152d798e961dcae3925ecd9", func := "loop.example/g01115/laws.FnPairsOfWalks", spec := "fnPairsOfWalks", unfollowed := true, recurses := true, apart := false }
def FnPairsOfWalksSaid : Prop := fnPairsOfWalksRow.holds Try.pinned (OpenSpec.ofChange fnPairsOfWalksSpec)

/-- ITS FALSE NEIGHBOUR: 'it returns false'. Refute it at one input. -/
def fnPairsOfWalksWrong : ChangeSpec := { name := "fnPairsOfWalks", fn := fun _ => fun
  | [d1, d2] => { results := [.lit (.bool false)], args := [d1, d2] }
  | _ => none }
def FnPairsOfWalksWrongFalsely : Prop := fnPairsOfWalksRow.holds Try.pinned (OpenSpec.ofChange fnPairsOfWalksWrong)

/-- 'laws.FnHeightsTurned': WHATEVER THE INPUT: true; the input reads as it did. -/
def fnHeightsTurnedSpec : ChangeSpec := { name := "fnHeightsTurned", fn := fun _ => fun
  | [d1, d2] => { results := [.lit (.bool true)], args := [d1, d2] }
  | _ => none }
def fnHeightsTurnedRow : OpenClaim := { program := "ytakadjhbomggbaa", sum := "a58cc3408808fbbac64c3847f1756aab2fb422bbc152d798e961dcae3925ecd9", func := "loop.example/g01115/laws.FnHeightsTurned", spec := "fnHeightsTurned", apart := false }
def FnHeightsTurnedSaid : Prop := fnHeightsTurnedRow.holds Try.pinned (OpenSpec.ofChange fnHeightsTurnedSpec)

/-- ITS FALSE NEIGHBOUR: 'it returns false'. Refute it at one input. -/
def fnHeightsTurnedWrong : ChangeSpec := { name := "fnHeightsTurned", fn := fun _ => fun
  | [d1, d2] => { results := [.lit (.bool false)], args := [d1, d2] }
  | _ => none }
def FnHeightsTurnedWrongFalsely : Prop := fnHeightsTurnedRow.holds Try.pinned (OpenSpec.ofChange fnHeightsTurnedWrong)

/-- 'laws.FnExactSpreadOfWalks': WHATEVER THE INPUT: true; the input reads as it did. -/
def fnExactSpreadOfWalksSpec : ChangeSpec := { name := "fnExactSpreadOfWalks", fn := fun _ => fun
  | [d] => { results := [.lit (.bool true)], args := [d] }
  | _ => none }
def fnExactSpreadOfWalksRow : OpenClaim := { program := "ytakadjhbomggbaa", sum := "a58cc3408808fbbac64c3847f1756aab2fb422bbc152d798e961dcae3925ecd9", func := "loop.example/g01115/laws.FnExactSpreadOfWalks", spec := "fnExactSpreadOfWalks", unfollowed := true, recurses := true, apart := false }
def FnExactSpreadOfWalksSaid : Prop := fnExactSpreadOfWalksRow.holds Try.pinned (OpenSpec.ofChange fnExactSpreadOfWalksSpec)

/-- ITS FALSE NEIGHBOUR: 'it returns false'. Refute it at one input. -/
def fnExactSpreadOfWalksWrong : ChangeSpec := { name := "fnExactSpreadOfWalks", fn := fun _ => fun
  | [d] => { results := [.lit (.bool false)], args := [d] }
  | _ => none }
def FnExactSpreadOfWalksWrongFalsely : Prop := fnExactSpreadOfWalksRow.holds Try.pinned (OpenSpec.ofChange fnExactSpreadOfWalksWrong)

/-- 'laws.FnLongCounts': WHATEVER THE INPUT: true; the input reads as it did. -/
def fnLongCountsSpec : ChangeSpec := { name := "fnLongCounts", fn := fun _ => fun
  | [d1, d2] => { results := [.lit (.bool true)], args := [d1, d2] }
  | _ => none }
def fnLongCountsRow : OpenClaim := { program := "ytakadjhbomggbaa", sum := "a58cc3408808fbbac64c3847f1756aab2fb422bbc152d798e961dcae3925ecd9", func := "loop.example/g01115/laws.FnLongCounts", spec := "fnLongCounts", unfollowed := true, recurses := true, apart := false }
def FnLongCountsSaid : Prop := fnLongCountsRow.holds Try.pinned (OpenSpec.ofChange fnLongCountsSpec)

/-- ITS FALSE NEIGHBOUR: 'it returns false'. Refute it at one input. -/
def fnLongCountsWrong : ChangeSpec := { name := "fnLongCounts", fn := fun _ => fun
  | [d1, d2] => { results := [.lit (.bool false)], args := [d1, d2] }
  | _ => none }
def FnLongCountsWrongFalsely : Prop := fnLongCountsRow.holds Try.pinned (OpenSpec.ofChange fnLongCountsWrong)

/- THE SECOND FORM. 'bulk': how many values and letters a reading holds, each counted each time it is reached (what is shared counts as often as it is met; a slice's spare places count too). A statement '..UptoSaid' is the law's where the arguments, and the package variables that the reading takes, are together of bulk at most 1048576: NARROWER than '..Said'. Prove '..Said' where nothing that the law and all that it calls make is longer than what came in: it says more and counts as full. Else prove '..UptoSaid'. A law counts once. -/
mutual
def uptoBulk {H : Type} : DataW H → Nat
  | .lit (.string bytes) => bytes.length + 1
  | .lit _ => 1
  | .nil => 1
  | .ptr d => uptoBulk d + 1
  | .slice elems spare => uptoBulkAll elems + uptoBulkAll spare + 1
  | .agg parts => uptoBulkAll parts + 1
  | .iface _ d => uptoBulk d + 1
  | .map entries => uptoBulkEntries entries + 1
  | .held _ => 1
def uptoBulkAll {H : Type} : List (DataW H) → Nat
  | [] => 0
  | d :: r => uptoBulk d + uptoBulkAll r
def uptoBulkEntries {H : Type} : List (Lit × DataW H) → Nat
  | [] => 0
  | x :: r => uptoBulkEntry x + uptoBulkEntries r
def uptoBulkEntry {H : Type} : Lit × DataW H → Nat
  | (.string bytes, d) => bytes.length + uptoBulk d + 1
  | (_, d) => uptoBulk d + 1
 end
def uptoSmall : (H : Type) → List (DataW H) → Bool := fun _ ds => decide (uptoBulkAll ds ≤ 1048576)
def OpenSpec.upto (s : _root_.Go.ChangeSpec) : _root_.Go.OpenSpec := { _root_.Go.OpenSpec.ofChange s with cond := some uptoSmall }

/-- 'laws.FnParkingIsWalks', WHERE WHAT IT READS IS OF BULK AT MOST 1048576: true; the input reads as it did. -/
def fnParkingIsWalksUptoRow : OpenClaim := { program := "ytakadjhbomggbaa", sum := "a58cc3408808fbbac64c3847f1756aab2fb422bbc152d798e961dcae3925ecd9", func := "loop.example/g01115/laws.FnParkingIsWalks", spec := "fnParkingIsWalks", unfollowed := true, recurses := true, apart := false, narrowed := true }
def FnParkingIsWalksUptoSaid : Prop := fnParkingIsWalksUptoRow.holds Try.pinned (OpenSpec.upto fnParkingIsWalksSpec)

/-- 'laws.FnPairsOfWalks', WHERE WHAT IT READS IS OF BULK AT MOST 1048576: true; the input reads as it did. -/
def fnPairsOfWalksUptoRow : OpenClaim := { program := "ytakadjhbomggbaa", sum := "a58cc3408808fbbac64c3847f1756aab2fb422bbc152d798e961dcae3925ecd9", func := "loop.example/g01115/laws.FnPairsOfWalks", spec := "fnPairsOfWalks", unfollowed := true, recurses := true, apart := false, narrowed := true }
def FnPairsOfWalksUptoSaid : Prop := fnPairsOfWalksUptoRow.holds Try.pinned (OpenSpec.upto fnPairsOfWalksSpec)

/-- 'laws.FnHeightsTurned', WHERE WHAT IT READS IS OF BULK AT MOST 1048576: true; the input reads as it did. -/
def fnHeightsTurnedUptoRow : OpenClaim := { program := "ytakadjhbomggbaa", sum := "a58cc3408808fbbac64c3847f1756aab2fb422bbc152d798e961dcae3925ecd9", func := "loop.example/g01115/laws.FnHeightsTurned", spec := "fnHeightsTurned", apart := false, narrowed := true }
def FnHeightsTurnedUptoSaid : Prop := fnHeightsTurnedUptoRow.holds Try.pinned (OpenSpec.upto fnHeightsTurnedSpec)

/-- 'laws.FnExactSpreadOfWalks', WHERE WHAT IT READS IS OF BULK AT MOST 1048576: true; the input reads as it did. -/
def fnExactSpreadOfWalksUptoRow : OpenClaim := { program := "ytakadjhbomggbaa", sum := "a58cc3408808fbbac64c3847f1756aab2fb422bbc152d798e961dcae3925ecd9", func := "loop.example/g01115/laws.FnExactSpreadOfWalks", spec := "fnExactSpreadOfWalks", unfollowed := true, recurses := true, apart := false, narrowed := true }
def FnExactSpreadOfWalksUptoSaid : Prop := fnExactSpreadOfWalksUptoRow.holds Try.pinned (OpenSpec.upto fnExactSpreadOfWalksSpec)

/-- 'laws.FnLongCounts', WHERE WHAT IT READS IS OF BULK AT MOST 1048576: true; the input reads as it did. -/
def fnLongCountsUptoRow : OpenClaim := { program := "ytakadjhbomggbaa", sum := "a58cc3408808fbbac64c3847f1756aab2fb422bbc152d798e961dcae3925ecd9", func := "loop.example/g01115/laws.FnLongCounts", spec := "fnLongCounts", unfollowed := true, recurses := true, apart := false, narrowed := true }
def FnLongCountsUptoSaid : Prop := fnLongCountsUptoRow.holds Try.pinned (OpenSpec.upto fnLongCountsSpec)

end Rows
end Go.Proofs.Ytakadjhbomggbaa
