/- Sand settles alike in any order. -/
import Derived.Test.YtclpbccmgfclcaaMathSa
namespace Go.Proofs.Ytclpbccmgfclcaa
open Go.RowKit

theorem topL_comm {c : List Int} {i j : Nat} (hi : i < c.length) (hj : j < c.length) (h : i ≠ j) : topL (topL c i) j = topL (topL c j) i := by
  refine ext_nth (by simp) fun k hk => ?_
  simp only [length_topL] at hk
  rw [nth_topL (c := topL c i) (by simpa using hj) (by simpa using hk), nth_topL (c := topL c j) (by simpa using hi) (by simpa using hk), nth_topL hi hk, nth_topL hj hk, length_topL, length_topL]
  by_cases h1 : i = k
  · subst h1
    rw [if_pos rfl, if_neg (Ne.symm h), if_neg (Ne.symm h), if_pos rfl]
    omega
  · rw [if_neg h1]
    by_cases h2 : j = k
    · subst h2; rw [if_pos rfl, if_pos rfl, if_neg h1]; omega
    · rw [if_neg h2, if_neg h2, if_neg h1]
/-- Whatever node topples first, all ends alike, and each node topples as often. -/
theorem settle_any_first : ∀ (T : Nat) (c : List Int), Pile c → total c ≤ T → ∀ i, i < c.length → (c.length : Int) ≤ nth c i →
    (settle (topL c i)).1 = (settle c).1 ∧ (settle c).2.Perm ((i : Int) :: (settle (topL c i)).2)
  | 0, c, hp, ht, i, hi, hn => by
    have := (pile_total hp).2 _ (nth_mem hi)
    omega
  | T + 1, c, hp, ht, i, hi, hn => by
    have hf : firstN c < c.length := by
      have := first_le c
      apply Classical.byContradiction
      intro hno
      have := first_before (c := c) (k := i) (by omega)
      omega
    have hs := settle_step hp hf
    by_cases e : firstN c = i
    · subst e
      rw [hs]
      exact ⟨rfl, List.Perm.refl _⟩
    · have ha := first_at hf
      have p1 := pile_topL hp hf ha
      have p2 := pile_topL hp hi hn
      have i1 := settle_any_first T (topL c (firstN c)) p1 (by rw [total_topL hf]; omega) i (by simpa using hi) (by rw [nth_topL hf hi, if_neg e, length_topL]; omega)
      have i2 := settle_any_first T (topL c i) p2 (by rw [total_topL hi]; omega) (firstN c) (by simpa using hf) (by rw [nth_topL hi hf, if_neg (Ne.symm e), length_topL]; omega)
      have hc := topL_comm hf hi e
      rw [hs]
      obtain ⟨a1, a2⟩ := i1
      obtain ⟨b1, b2⟩ := i2
      rw [hc] at a1 a2
      refine ⟨by rw [← b1]; exact a1, ?_⟩
      exact ((a2.cons _).trans (List.Perm.swap _ _ _)).trans (b2.symm.cons _)
theorem nth_bump : ∀ (is t : List Int) (k : Nat), (∀ x ∈ is, 0 ≤ x ∧ x < (t.length : Int)) → nth (bump t is) k = nth t k + (is.count (k : Int) : Nat)
  | [], t, k, _ => by simp [bump]
  | i :: is, t, k, h => by
    have h0 := h i (by simp)
    rw [bump, nth_bump is _ k (fun x hx => by rw [List.length_set]; exact h x (by simp [hx])), nth_set (by omega), List.count_cons]
    by_cases e : i.toNat = k
    · rw [if_pos e, if_pos (by simp; omega)]
      subst e
      omega
    · rw [if_neg e, if_neg (by simp; omega)]
      omega
/-- How often each node topples. -/
def timesL (c : List Int) : List Int := bump (List.replicate c.length 0) (settle c).2
@[simp] theorem length_timesL (c : List Int) : (timesL c).length = c.length := by simp [timesL]
theorem nth_times {c : List Int} (h : Pile c) {k : Nat} (hk : k < c.length) : nth (timesL c) k = ((settle c).2.count (k : Int) : Nat) := by
  unfold timesL
  rw [nth_bump _ _ _ (fun x hx => by simpa using (settled h).ord x hx)]
  simp [nth, hk]
theorem times_first {c : List Int} (h : Pile c) {i k : Nat} (hi : i < c.length) (hn : (c.length : Int) ≤ nth c i) (hk : k < c.length) : nth (timesL c) k = nth (timesL (topL c i)) k + (if k = i then 1 else 0) := by
  rw [nth_times h hk, nth_times (pile_topL h hi hn) (by simpa using hk), ((settle_any_first (total c).toNat c h (by have := (pile_total h).1; omega) i hi hn).2).count_eq, List.count_cons]
  by_cases e : k = i
  · subst e; simp
  · rw [if_neg e, if_neg (by simp; omega)]
    omega
theorem total_times {c : List Int} (h : Pile c) : total (timesL c) = ((settle c).2.length : Int) := by
  have key : ∀ (is t : List Int), (∀ x ∈ is, 0 ≤ x ∧ x < (t.length : Int)) → total (bump t is) = total t + is.length := by
    intro is
    induction is with
    | nil => intro t _; simp [bump]
    | cons i is ih =>
      intro t ht
      have h0 := ht i (by simp)
      rw [bump, ih _ (fun x hx => by rw [List.length_set]; exact ht x (by simp [hx])), total_set _ _ _ (by omega)]
      simp only [List.length_cons]
      omega
  unfold timesL
  rw [key _ _ (fun x hx => by simpa using (settled h).ord x hx)]
  have : ∀ n, total (List.replicate n 0) = 0 := fun n => by
    induction n with
    | zero => rfl
    | succ n ih => rw [List.replicate_succ, total_cons, ih]; rfl
  rw [this]
  omega
/-- The sum falls by one for each toppling, and each node is left with what the topplings leave it. -/
theorem settle_sum {c : List Int} (h : Pile c) : total c - total (settle c).1 = ((settle c).2.length : Int) ∧ ∀ k, k < c.length → nth (settle c).1 k = nth c k - ((c.length : Int) + 1) * ((settle c).2.count (k : Int) : Nat) + ((settle c).2.length : Int) := by
  refine settle_ind (P := fun c => total c - total (settle c).1 = ((settle c).2.length : Int) ∧ ∀ k, k < c.length → nth (settle c).1 k = nth c k - ((c.length : Int) + 1) * ((settle c).2.count (k : Int) : Nat) + ((settle c).2.length : Int)) (fun c hc hf => ?_) (fun c hc hf ih => ?_) (total c).toNat c h (by omega)
  · rw [settle_done hf]
    exact ⟨by simp, fun k hk => by simp⟩
  · rw [settle_step hc hf]
    obtain ⟨h1, h2⟩ := ih
    rw [total_topL hf] at h1
    simp only [List.length_cons]
    refine ⟨by omega, fun k hk => ?_⟩
    have h3 := h2 k (by simpa using hk)
    rw [nth_topL hf hk, length_topL] at h3
    rw [h3, List.count_cons]
    by_cases e : firstN c = k
    · rw [if_pos e, if_pos (by simp [e]), Int.natCast_succ, Int.mul_add]
      omega
    · rw [if_neg e, if_neg (by simp; omega), Nat.add_zero]
      omega
theorem stable_iff {c : List Int} (h : Pile c) : firstN c = c.length ↔ (settle c).2 = [] := by
  constructor
  · intro hf; rw [settle_done hf]
  · intro hs
    have := first_le c
    apply Classical.byContradiction
    intro hno
    rw [settle_step h (by omega)] at hs
    cases hs
end Go.Proofs.Ytclpbccmgfclcaa
