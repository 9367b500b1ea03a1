/- Numbers put in their places in a list. -/
import Derived.Test.YtakadjhbomggbaaMath1
namespace Go.Proofs.Ytakadjhbomggbaa
open Go.RowKit

/-- A number put into a list, unless it is there. -/
def putL : List Int → Int → List Int
  | [], x => [x]
  | y :: l, x => if y < x then y :: putL l x else if y = x then y :: l else x :: y :: l
theorem putL_at {x : Int} : ∀ (j : Nat) (l : List Int), j ≤ l.length → (∀ t, t < j → nth l t < x) → (j = l.length ∨ x ≤ nth l j) → putL l x = if j < l.length ∧ nth l j = x then l else l.take j ++ [x] ++ l.drop j
  | 0, [], _, _, _ => by simp [putL]
  | 0, y :: l, _, _, h => by
    rcases h with h | h
    · simp at h
    · simp only [nth, List.getD_cons_zero] at h ⊢
      have h1 : ¬ y < x := by omega
      by_cases e : y = x
      · simp [putL, e]
      · simp [putL, h1, e]
  | j + 1, [], h, _, _ => by simp at h
  | j + 1, y :: l, h1, h2, h3 => by
    have h0 := h2 0 (by omega)
    simp only [nth, List.getD_cons_zero] at h0
    have ih := putL_at (x := x) j l (by simpa using h1) (fun t ht => by simpa [nth] using h2 (t + 1) (by omega)) (by simpa [nth] using h3)
    simp only [putL, if_pos h0, ih]
    have e1 : (j + 1 < (y :: l).length ∧ nth (y :: l) (j + 1) = x) ↔ (j < l.length ∧ nth l j = x) := by simp [nth]
    by_cases e : j < l.length ∧ nth l j = x
    · rw [if_pos e, if_pos (e1.2 e)]
    · rw [if_neg e, if_neg (fun hh => e (e1.1 hh))]
      simp
theorem putL_perm {x : Int} : ∀ {l : List Int}, x ∉ l → (putL l x).Perm (x :: l)
  | [], _ => by simp [putL]
  | y :: l, h => by
    simp only [List.mem_cons, not_or] at h
    have hyx : ¬ y = x := fun e => h.1 e.symm
    by_cases e : y < x
    · simp only [putL, if_pos e]
      exact ((putL_perm h.2).cons y).trans (List.Perm.swap x y l)
    · simp only [putL, if_neg e, if_neg hyx]
      exact List.Perm.refl _
theorem length_putL (l : List Int) (x : Int) : (putL l x).length ≤ l.length + 1 := by
  induction l with
  | nil => simp [putL]
  | cons y l ih =>
    simp only [putL]
    split
    · simpa using ih
    · split <;> simp
end Go.Proofs.Ytakadjhbomggbaa
