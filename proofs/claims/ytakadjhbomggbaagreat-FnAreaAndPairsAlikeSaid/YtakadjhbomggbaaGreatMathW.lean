/- The tables by which beginnings are counted, number by number. -/
import Derived.Test.YtakadjhbomggbaaGreatMathG
namespace Go.Proofs.YtakadjhbomggbaaGreat
open Go.RowKit

theorem chs_70 : ∀ n, n < 9 → ∀ i, i < 9 → chs n i ≤ 70 := by decide +kernel
/-- The table of those that have chosen: k kinds are done, of the next one M. -/
def Next (c : Nat → Bool) (v : Nat → Nat) (L k M : Nat) (zs : List Int) : Prop :=
  ∀ s, s ≤ L → nth zs s = if c s = true then ((chs L s * (sumTo (fun j => chs s j * v j) k + if k ≤ s ∧ s < k + M then chs s k * v k else 0) : Nat) : Int) else 0
/-- A table. -/
def Tab (v : Nat → Nat) (L : Nat) (ys : List Int) : Prop := ∀ s, s ≤ L → nth ys s = ((chs L s * v s : Nat) : Int)
theorem nth_replicate0 (n i : Nat) : nth (List.replicate n 0) i = 0 := by
  simp only [nth, List.getD_eq_getElem?_getD, List.getElem?_replicate]
  split <;> rfl
theorem next_zero (c : Nat → Bool) (v : Nat → Nat) (L : Nat) : Next c v L 0 0 (List.replicate (L + 1) 0) := fun s _ => by
  rw [nth_replicate0]
  simp [sumTo]
theorem next_skip {c : Nat → Bool} {v : Nat → Nat} {L k M : Nat} {zs : List Int} (h : Next c v L k M zs) (hc : c (k + M) = false) : Next c v L k (M + 1) zs := fun s hs => by
  rw [h s hs]
  by_cases e : s = k + M
  · subst e; simp [hc]
  · have : (k ≤ s ∧ s < k + M) = (k ≤ s ∧ s < k + (M + 1)) := by apply propext; omega
    simp only [this]
theorem next_store {c : Nat → Bool} {v : Nat → Nat} {L k M : Nat} {ys zs : List Int} (h : Next c v L k M zs) (hy : Tab v L ys) (hl : zs.length = L + 1) (h8 : L ≤ 8) (hkM : k + M ≤ L) (hc : c (k + M) = true) :
    Next c v L k (M + 1) (zs.set (k + M) (nth zs (k + M) + nth ys k * (chs (L - k) M : Int))) := fun s hs => by
  rw [nth_set (by omega)]
  by_cases e : k + M = s
  · rw [if_pos e, h _ hkM, hy k (by omega), if_pos hc, if_neg (by omega), if_pos (by rw [← e]; exact hc), if_pos (by omega)]
    subst e
    have := chs_chs L (by omega) (k + M) (by omega) k (by omega) (by omega) (by omega)
    rw [show k + M - k = M by omega] at this
    rw [Nat.add_zero, Nat.mul_add, ← Nat.mul_assoc (chs L (k + M)) (chs (k + M) k), ← this]
    simp only [Int.natCast_mul, Int.natCast_add]
    rw [Int.mul_right_comm]
  · rw [if_neg e, h s hs]
    have : (k ≤ s ∧ s < k + M) = (k ≤ s ∧ s < k + (M + 1)) := by apply propext; omega
    simp only [this]
theorem next_done {c : Nat → Bool} {v : Nat → Nat} {L k M : Nat} {zs : List Int} (h : Next c v L k M zs) (hM : L < k + M) : Next c v L (k + 1) 0 zs := fun s hs => by
  rw [h s hs, if_neg (by omega : ¬ (k + 1 ≤ s ∧ s < k + 1 + 0)), Nat.add_zero, sumTo]
  by_cases e : k ≤ s
  · rw [if_pos (show k ≤ s ∧ s < k + M from ⟨e, by omega⟩)]
  · rw [if_neg (show ¬ (k ≤ s ∧ s < k + M) by omega), chs_big s k (by omega), Nat.zero_mul]
theorem sum_past {v : Nat → Nat} {s : Nat} : ∀ L, s ≤ L → sumTo (fun j => chs s j * v j) (L + 1) = sumTo (fun j => chs s j * v j) (s + 1)
  | L, h => by
    obtain ⟨d, rfl⟩ : ∃ d, L = s + d := ⟨L - s, by omega⟩
    induction d with
    | zero => rfl
    | succ d ih =>
      rw [show s + (d + 1) + 1 = (s + d + 1) + 1 from rfl, sumTo, ih (by omega), chs_big s (s + d + 1) (by omega), Nat.zero_mul, Nat.add_zero]
theorem next_final {c : Nat → Bool} {v : Nat → Nat} {L : Nat} {zs : List Int} (h : Next c v L (L + 1) 0 zs) : Tab (fun s => if c s = true then sumTo (fun j => chs s j * v j) (s + 1) else 0) L zs := fun s hs => by
  rw [h s hs, if_neg (by omega : ¬ (L + 1 ≤ s ∧ s < L + 1 + 0)), Nat.add_zero, sum_past L hs]
  split <;> simp [*]
theorem tab_le {v : Nat → Nat} {L : Nat} {ys : List Int} (h : Tab v L ys) (h8 : L ≤ 8) (hv : ∀ s, s ≤ 8 → v s ≤ 16777216) {s : Nat} (hs : s ≤ L) : 0 ≤ nth ys s ∧ nth ys s ≤ 1174405120 := by
  rw [h s hs]
  have := Nat.mul_le_mul (chs_70 L (by omega) s (by omega)) (hv s (by omega))
  omega
theorem next_le {c : Nat → Bool} {v : Nat → Nat} {L k M : Nat} {zs : List Int} (h : Next c v L k M zs) (h8 : L ≤ 8) (hk : k ≤ L) (hv : ∀ s, s ≤ 8 → v s ≤ 16777216) {s : Nat} (hs : s ≤ L) : 0 ≤ nth zs s ∧ nth zs s ≤ 1000000000000 := by
  rw [h s hs]
  split
  · have h1 : sumTo (fun j => chs s j * v j) k ≤ sumTo (fun _ => 1174405120) k := sumTo_le fun i hi => by
      have := Nat.mul_le_mul (chs_70 s (by omega) i (by omega)) (hv i (by omega))
      omega
    have h2 : ∀ k, sumTo (fun _ => 1174405120) k = k * 1174405120 := by
      intro k
      induction k with
      | zero => rfl
      | succ k ih => simp only [sumTo]; rw [ih]; omega
    rw [h2] at h1
    have h3 : k * 1174405120 ≤ 8 * 1174405120 := Nat.mul_le_mul_right _ (by omega)
    have h4 : (if k ≤ s ∧ s < k + M then chs s k * v k else 0) ≤ 1174405120 := by
      split
      · have := Nat.mul_le_mul (chs_70 s (by omega) k (by omega)) (hv k (by omega))
        omega
      · omega
    have := Nat.mul_le_mul (chs_70 L (by omega) s (by omega)) (Nat.add_le_add (Nat.le_trans h1 h3) h4)
    omega
  · omega
theorem prod_le {v : Nat → Nat} {L : Nat} {ys : List Int} (h : Tab v L ys) (h8 : L ≤ 8) (hv : ∀ s, s ≤ 8 → v s ≤ 16777216) {s : Nat} (hs : s ≤ L) {n k : Nat} (hn : n ≤ 8) (hk : k ≤ 8) :
    0 ≤ nth ys s * (chs n k : Int) ∧ nth ys s * (chs n k : Int) ≤ 1000000000000 := by
  rw [h s hs]
  have := Nat.mul_le_mul (Nat.mul_le_mul (chs_70 L (by omega) s (by omega)) (hv s (by omega))) (chs_70 n (by omega) k (by omega))
  rw [← Int.natCast_mul]
  omega
theorem V_le8 (b : Nat → Nat) {P : Nat} (hP : P ≤ 8) : ∀ s, s ≤ 8 → V b P s ≤ 16777216 := fun s hs => by
  refine Nat.le_trans (V_le b P (by omega) s (by omega)) ?_
  have : ∀ P, P < 9 → ∀ s, s < 9 → P ^ s ≤ 16777216 := by decide +kernel
  exact this P (by omega) s (by omega)
theorem tab_step {b : Nat → Nat} {P L : Nat} {zs : List Int} (h : Next (fun s => decide (P < b P + s)) (V b P) L (L + 1) 0 zs) : Tab (V b (P + 1)) L zs := fun s hs => by
  rw [next_final h s hs]
  simp only [V, decide_eq_true_eq]
/-- A first table. -/
theorem tab_first (b : Nat → Nat) (L : Nat) : Tab (V b 0) L ((List.replicate (L + 1) 0).set 0 1) := fun s _ => by
  rw [nth_set (by simp)]
  by_cases e : s = 0
  · subst e; simp [V, chs_zero]
  · rw [if_neg (by omega), nth_replicate0]
    simp [V, e]
theorem below_upto {xs : List Int} {n : Nat} (h0 : ∀ i, i < n → 0 ≤ nth xs i) (hn : xs.length = n) : below xs 0 = 0 := by
  unfold below
  rw [List.countP_eq_zero]
  intro x hx
  obtain ⟨i, hi, rfl⟩ := mem_nth hx
  have := h0 i (by omega)
  simp
  omega
theorem pow_small : ∀ b, b < 14 → ∀ k, k < 9 → b ^ k ≤ 815730721 := by decide +kernel
end Go.Proofs.YtakadjhbomggbaaGreat
