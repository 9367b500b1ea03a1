/- Numbers put into the cells of an own list. -/
import Derived.Test.YtehdccfkkfkciacImplB
import Derived.Laws.IdiomCopy
namespace Go.Proofs.Ytehdccfkkfkciac
open Go.RowKit

def putAll (xs : List Int) (o : Nat) : List Int → List Int
  | [] => xs
  | y :: ys => putAll (xs.set o y) (o + 1) ys
theorem own_setCells {B g n cap : Nat} : ∀ (ys : List Int) (o : Nat) {w : World} {xs : List Int}, Own w B (some ⟨g, 0, none⟩) n cap xs →
    Own (w.setCells g o (ys.map (Value.int .i64))) B (some ⟨g, 0, none⟩) n cap (putAll xs o ys) ∧ w.grownBy (w.setCells g o (ys.map (Value.int .i64))) (some g)
  | [], _, w, _, h => ⟨h, World.grownBy.refl _ _⟩
  | y :: ys, o, w, xs, h => by
    obtain ⟨s1, s2⟩ := h.set o y
    obtain ⟨t1, t2⟩ := own_setCells ys (o + 1) s1
    exact ⟨t1, grown_trans s2 t2⟩
theorem putAll_at : ∀ (ys xs : List Int) (o : Nat), o + ys.length = xs.length → putAll xs o ys = xs.take o ++ ys
  | [], xs, o, h => by
    obtain rfl : o = xs.length := by simpa using h
    simp [putAll]
  | y :: ys, xs, o, h => by
    simp only [List.length_cons] at h
    rw [putAll, putAll_at ys (xs.set o y) (o + 1) (by simp; omega)]
    rw [take_succ_nth (by simp; omega), nth_set (by omega), if_pos rfl, List.take_set_of_le (Nat.le_refl _), List.append_assoc]
    rfl
end Go.Proofs.Ytehdccfkkfkciac
