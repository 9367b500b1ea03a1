/-
  No cell of these rows narrows 'for every input' (looked for: loops, veiled, ifaces, maps, wideKeys, modest, calm, conditions, laid).
  DERIVED. THE GIVEN ROWS OF THIS SEAT. 3 by the template 'for every input the law returns true; each argument reads behind the call as it read before'; 0 by the template 'total and deterministic' (their statements: YtkkhlkaieohklaaTotals.lean).
  GIVEN WITH THE SEED: the statements are not yours to turn. If you find one false, say at which input.
  Laid BY PROGRAM, IN A SANDBOX (cutbox-rows.mjs): the forced cells as the released guide's own fill.sh prints them over the translation f98de3de9d40ca76… (all of the seat's roots in one cut). By AI agents, Wed Nov 11 2026. No macro, syntax, notation, axiom, sorry.
-/
import Derived.Test.YtkkhlkaieohklaaChecked
import GoSem.Claim
import GoSem.ClaimJoined
import GoSem.ClaimMapViews
import Derived.JoinedTies
import Derived.KernelRfl
namespace Go.Proofs.Ytkkhlkaieohklaa
/- THE CELL 'sum', in the pinned program and in every row, IS THE sha256 OF THE DUMP (.gsa) THAT YtkkhlkaieohklaaProg.lean LOADS. Nothing in Lean hashes anything: it is a label: what it is worth is what the hold of that sum in a sandbox is worth. -/
noncomputable def Try.pinned : Pinned := { name := "ytkkhlkaieohklaa", sum := "f98de3de9d40ca7606fd68dc6e773df86ae18e723d9678887fa08c9f8b3e1cd8", checked := Try.checked }
namespace Rows
def none {H : Type} : Left H := { results := [], args := [] }

/-- 'laws.FnParkingRanks': WHATEVER THE INPUT: true; the input reads as it did. -/
def fnParkingRanksSpec : ChangeSpec := { name := "fnParkingRanks", fn := fun _ => fun
  | [d1, d2] => { results := [.lit (.bool true)], args := [d1, d2] }
  | _ => none }
def fnParkingRanksRow : OpenClaim := { program := "ytkkhlkaieohklaa", sum := "f98de3de9d40ca7606fd68dc6e773df86ae18e723d9678887fa08c9f8b3e1cd8", func := "loop.example/g01115/laws.FnParkingRanks", spec := "fnParkingRanks", unfollowed := true, recurses := true, apart := false }
def FnParkingRanksSaid : Prop := fnParkingRanksRow.holds Try.pinned (OpenSpec.ofChange fnParkingRanksSpec)

/-- ITS FALSE NEIGHBOUR: 'it returns false'. Refute it at one input. -/
def fnParkingRanksWrong : ChangeSpec := { name := "fnParkingRanks", fn := fun _ => fun
  | [d1, d2] => { results := [.lit (.bool false)], args := [d1, d2] }
  | _ => none }
def FnParkingRanksWrongFalsely : Prop := fnParkingRanksRow.holds Try.pinned (OpenSpec.ofChange fnParkingRanksWrong)

/-- 'laws.FnSortedParking': WHATEVER THE INPUT: true; the input reads as it did. -/
def fnSortedParkingSpec : ChangeSpec := { name := "fnSortedParking", fn := fun _ => fun
  | [d1, d2] => { results := [.lit (.bool true)], args := [d1, d2] }
  | _ => none }
def fnSortedParkingRow : OpenClaim := { program := "ytkkhlkaieohklaa", sum := "f98de3de9d40ca7606fd68dc6e773df86ae18e723d9678887fa08c9f8b3e1cd8", func := "loop.example/g01115/laws.FnSortedParking", spec := "fnSortedParking", unfollowed := true, recurses := true, apart := false }
def FnSortedParkingSaid : Prop := fnSortedParkingRow.holds Try.pinned (OpenSpec.ofChange fnSortedParkingSpec)

/-- ITS FALSE NEIGHBOUR: 'it returns false'. Refute it at one input. -/
def fnSortedParkingWrong : ChangeSpec := { name := "fnSortedParking", fn := fun _ => fun
  | [d1, d2] => { results := [.lit (.bool false)], args := [d1, d2] }
  | _ => none }
def FnSortedParkingWrongFalsely : Prop := fnSortedParkingRow.holds Try.pinned (OpenSpec.ofChange fnSortedParkingWrong)

/-- 'laws.FnExactAllHeights': WHATEVER THE INPUT: true; the input reads as it did. -/
def fnExactAllHeightsSpec : ChangeSpec := { name := "fnExactAllHeights", fn := fun _ => fun
  | [d] => { results := [.lit (.bool true)], args := [d] }
  | _ => none }
def fnExactAllHeightsRow : OpenClaim := { program := "ytkkhlkaieohklaa", sum := "f98de3de9d40ca7606fd68dc6e773df86ae18e723d9678887fa08c9f8b3e1cd8", func := "loop.example/g01115/laws.FnExactAllHeights", spec := "fnExactAllHeights", unfollowed := true, recurses := true, apart := false }
def FnExactAllHeightsSaid : Prop := fnExactAllHeightsRow.holds Try.pinned (OpenSpec.ofChange fnExactAllHeightsSpec)

/-- ITS FALSE NEIGHBOUR: 'it returns false'. Refute it at one input. -/
def fnExactAllHeightsWrong : ChangeSpec := { name := "fnExactAllHeights", fn := fun _ => fun
  | [d] => { results := [.lit (.bool false)], args := [d] }
  | _ => none }
def FnExactAllHeightsWrongFalsely : Prop := fnExactAllHeightsRow.holds Try.pinned (OpenSpec.ofChange fnExactAllHeightsWrong)

/- THE SECOND FORM. 'bulk': how many values and letters a reading holds, each counted each time it is reached (what is shared counts as often as it is met; a slice's spare places count too). A statement '..UptoSaid' is the law's where the arguments, and the package variables that the reading takes, are together of bulk at most 1048576: NARROWER than '..Said'. Prove '..Said' where nothing that the law and all that it calls make is longer than what came in: it says more and counts as full. Else prove '..UptoSaid'. A law counts once. -/
mutual
def uptoBulk {H : Type} : DataW H → Nat
  | .lit (.string bytes) => bytes.length + 1
  | .lit _ => 1
  | .nil => 1
  | .ptr d => uptoBulk d + 1
  | .slice elems spare => uptoBulkAll elems + uptoBulkAll spare + 1
  | .agg parts => uptoBulkAll parts + 1
  | .iface _ d => uptoBulk d + 1
  | .map entries => uptoBulkEntries entries + 1
  | .held _ => 1
def uptoBulkAll {H : Type} : List (DataW H) → Nat
  | [] => 0
  | d :: r => uptoBulk d + uptoBulkAll r
def uptoBulkEntries {H : Type} : List (Lit × DataW H) → Nat
  | [] => 0
  | x :: r => uptoBulkEntry x + uptoBulkEntries r
def uptoBulkEntry {H : Type} : Lit × DataW H → Nat
  | (.string bytes, d) => bytes.length + uptoBulk d + 1
  | (_, d) => uptoBulk d + 1
 end
def uptoSmall : (H : Type) → List (DataW H) → Bool := fun _ ds => decide (uptoBulkAll ds ≤ 1048576)
def OpenSpec.upto (s : _root_.Go.ChangeSpec) : _root_.Go.OpenSpec := { _root_.Go.OpenSpec.ofChange s with cond := some uptoSmall }

/-- 'laws.FnParkingRanks', WHERE WHAT IT READS IS OF BULK AT MOST 1048576: true; the input reads as it did. -/
def fnParkingRanksUptoRow : OpenClaim := { program := "ytkkhlkaieohklaa", sum := "f98de3de9d40ca7606fd68dc6e773df86ae18e723d9678887fa08c9f8b3e1cd8", func := "loop.example/g01115/laws.FnParkingRanks", spec := "fnParkingRanks", unfollowed := true, recurses := true, apart := false, narrowed := true }
def FnParkingRanksUptoSaid : Prop := fnParkingRanksUptoRow.holds Try.pinned (OpenSpec.upto fnParkingRanksSpec)

/-- 'laws.FnSortedParking', WHERE WHAT IT READS IS OF BULK AT MOST 1048576: true; the input reads as it did. -/
def fnSortedParkingUptoRow : OpenClaim := { program := "ytkkhlkaieohklaa", sum := "f98de3de9d40ca7606fd68dc6e773df86ae18e723d9678887fa08c9f8b3e1cd8", func := "loop.example/g01115/laws.FnSortedParking", spec := "fnSortedParking", unfollowed := true, recurses := true, apart := false, narrowed := true }
def FnSortedParkingUptoSaid : Prop := fnSortedParkingUptoRow.holds Try.pinned (OpenSpec.upto fnSortedParkingSpec)

/-- 'laws.FnExactAllHeights', WHERE WHAT IT READS IS OF BULK AT MOST 1048576: true; the input reads as it did. -/
def fnExactAllHeightsUptoRow : OpenClaim := { program := "ytkkhlkaieohklaa", sum := "f98de3de9d40ca7606fd68dc6e773df86ae18e723d9678887fa08c9f8b3e1cd8", func := "loop.example/g01115/laws.FnExactAllHeights", spec := "fnExactAllHeights", unfollowed := true, recurses := true, apart := false, narrowed := true }
def FnExactAllHeightsUptoSaid : Prop := fnExactAllHeightsUptoRow.holds Try.pinned (OpenSpec.upto fnExactAllHeightsSpec)

end Rows
end Go.Proofs.Ytkkhlkaieohklaa
