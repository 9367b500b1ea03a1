/- What a call comes to that answers with rows alone. -/
import Derived.Test.YtakadjhbomggbaaGreatRows3
namespace Go.Proofs.YtakadjhbomggbaaGreat
open Go.RowKit

/-- A slice of slices of the call's own. -/
def PostRowsOnly (w : World) (ls : List (List Int)) (e : Ending) (w' : World) : Prop := ∃ a q cap rs, e = .returned (.slice a q cap) ∧ OwnR w' w.heap.size a q cap rs ∧ numsOf rs = ls ∧ Below w.heap.size w w'
theorem numsOf_app (rs ss : List Rw) : numsOf (rs ++ ss) = numsOf rs ++ numsOf ss := by simp [numsOf]
theorem numsOf_len {w : World} {B : Nat} {a : Option Addr} {q cap : Nat} {rs : List Rw} (h : OwnR w B a q cap rs) : (numsOf rs).length = q := by
  rw [← h.len]
  simp [numsOf]

theorem take_getD {L : List (List Int)} {k : Nat} (h : k < L.length) : L.take (k + 1) = L.take k ++ [L.getD k []] := by
  rw [List.take_succ_eq_append_getElem h]
  simp [h]

end Go.Proofs.YtakadjhbomggbaaGreat
