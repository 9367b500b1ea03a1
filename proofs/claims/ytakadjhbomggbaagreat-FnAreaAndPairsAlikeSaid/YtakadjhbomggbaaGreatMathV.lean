/- Ranks, number by number. -/
import Derived.Test.YtakadjhbomggbaaGreatMathW
namespace Go.Proofs.YtakadjhbomggbaaGreat
open Go.RowKit

/-- The rank of the first k numbers. -/
def rkTo (xs : List Int) (n k : Nat) : Nat := rk n [] (toN (xs.take k))
/-- What the first j choices of the next number add. -/
def rkAt (xs : List Int) (n k j : Nat) : Nat := sumTo (fun y => N (xs.take k ++ [(y : Int)]) n) j
/-- What the first j choices behind p are. -/
def rkAtP (p : List Int) (n j : Nat) : Nat := sumTo (fun y => N (p ++ [(y : Int)]) n) j
theorem rkAtP_succ (p : List Int) (n j : Nat) : rkAtP p n (j + 1) = rkAtP p n j + N (p ++ [(j : Int)]) n := rfl
theorem rkTo_zero (xs : List Int) (n : Nat) : rkTo xs n 0 = 0 := rfl
theorem rkTo_succ {xs : List Int} {n k x : Nat} (h0 : ∀ y ∈ xs, 0 ≤ y) (hk : k < xs.length) (hx : nth xs k = (x : Int)) : rkTo xs n (k + 1) = rkTo xs n k + rkAt xs n k x := by
  unfold rkTo rkAt
  rw [take_succ_nth hk, hx]
  have e : toN (xs.take k ++ [(x : Int)]) = toN (xs.take k) ++ [x] := by simp [toN]
  rw [e, rk_append, toI_toN fun y hy => h0 y (List.mem_of_mem_take hy)]
  simp [rk]
theorem rkAt_succ (xs : List Int) (n k j : Nat) : rkAt xs n k (j + 1) = rkAt xs n k j + N (xs.take k ++ [(j : Int)]) n := rfl
theorem rkAt_le {xs : List Int} {n k : Nat} (hn : n ≤ 8) : ∀ j, j ≤ 8 → rkAt xs n k j ≤ j * 16777216
  | 0, _ => by simp [rkAt, sumTo]
  | j + 1, h => by
    have := rkAt_le (xs := xs) (n := n) (k := k) hn j (by omega)
    have := N_le (p := xs.take k ++ [(j : Int)]) hn
    rw [rkAt_succ]
    omega
theorem rkTo_le {xs : List Int} {n : Nat} (hn : n ≤ 8) (h0 : ∀ y ∈ xs, 0 ≤ y ∧ y ≤ 8) : ∀ k, k ≤ xs.length → rkTo xs n k ≤ k * 134217728
  | 0, _ => by simp [rkTo, toN, rk]
  | k + 1, h => by
    have ih := rkTo_le hn h0 k (by omega)
    have hx := h0 _ (nth_mem (xs := xs) (i := k) (by omega))
    rw [rkTo_succ (x := (nth xs k).toNat) (fun y hy => (h0 y hy).1) (by omega) (by omega)]
    have := rkAt_le (xs := xs) (k := k) hn (nth xs k).toNat (by omega)
    omega
theorem rankOf_yes {xs : List Int} (h : isPark xs = true) : rankOf xs = ((rkTo xs xs.length xs.length : Int), true) := by
  simp [rankOf, h, rkTo]
theorem rankOf_no {xs : List Int} (h : ¬ isPark xs = true) : rankOf xs = (0, false) := by simp [rankOf, h]
theorem parks_nth {xs : List Int} {n : Nat} (h : isPark xs = true) (hn : xs.length = n) : n ≤ 8 ∧ (∀ i, i < n → 0 ≤ nth xs i ∧ nth xs i ≤ 7 ∧ nth xs i < n) ∧ (∀ x ∈ xs, 0 ≤ x ∧ x ≤ 8) := by
  obtain ⟨h1, h2⟩ := isPark_bounds h
  refine ⟨by omega, fun i hi => ?_, fun x hx => by have := h2 x hx; omega⟩
  have := h2 _ (nth_mem (xs := xs) (i := i) (by omega))
  omega
theorem rk_lt_cnt {xs : List Int} (h : isPark xs = true) : rk xs.length [] (toN xs) < cnt xs.length := by
  obtain ⟨h1, h2⟩ := isPark_bounds h
  have h3 := (isPark_zpark h1 fun x hx => (h2 x hx).1).1 h
  have e := toI_toN (xs := xs) fun x hx => (h2 x hx).1
  have := rk_lt (n := xs.length) (toN xs) [] (by simp [length_toN]) (fun x hx => by
    obtain ⟨y, hy, rfl⟩ := List.mem_map.1 hx
    have := h2 y hy
    omega) (by rw [e]; simpa using h3)
  rw [N_nil h1] at this
  exact this
theorem rkTo_all {xs : List Int} {n : Nat} (h : xs.length = n) : rkTo xs n n = rk n [] (toN xs) := by
  unfold rkTo
  rw [List.take_of_length_le (by omega)]
end Go.Proofs.YtakadjhbomggbaaGreat
