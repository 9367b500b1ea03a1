/- The model's functions of chapter 8, by their contracts: slopes, bounds, slope parking functions, counts. -/
import Derived.Test.YtehdccfkkfkciaaSpecS
import Derived.Test.YtehdccfkkfkciaaLawKit
import Derived.Test.YtehdccfkkfkciaaMathSn
import Derived.Test.YtehdccfkkfkciaaMathW
namespace Go.Proofs.Ytehdccfkkfkciaa
open Go.RowKit

theorem gcd_tableB : ∀ m, m < 7 → ∀ q, q < 14 → 1 ≤ m → (List.range (m + 1)).all (fun t => !(decide (2 ≤ t) && decide (m % t = 0) && decide (q % t = 0))) = decide (Nat.gcd m q = 1) := by decide +kernel
theorem gcd_table {m q : Nat} (hm : m < 7) (hq : q < 14) (h1 : 1 ≤ m) : (∀ t, t < m + 1 → 2 ≤ t → ¬ (m % t = 0 ∧ q % t = 0)) ↔ Nat.gcd m q = 1 := by
  have h := gcd_tableB m hm q hq h1
  rw [← decide_eq_true_eq (p := Nat.gcd m q = 1), ← h, List.all_eq_true]
  constructor
  · intro hh t ht
    have := hh t (List.mem_range.1 ht)
    simp only [Bool.not_eq_true', Bool.and_eq_false_iff, decide_eq_false_iff_not]
    omega
  · intro hh t ht h2
    have := hh t (List.mem_range.2 ht)
    simp only [Bool.not_eq_true', Bool.and_eq_false_iff, decide_eq_false_iff_not] at this
    omega
theorem slB_out1 {n a : Int} (h : ¬ inB n 1 6 = true) : slB n a = false := by simp [slB, h]
theorem slB_out2 {n a : Int} (h : ¬ inB a 1 13 = true) : slB n a = false := by simp [slB, h]

theorem bnds_prod {n a k : Nat} (hn : n ≤ 6) (ha : a ≤ 13) (hk : k < n) : k * a ≤ 78 ∧ k * a / n ≤ 78 := by
  have h := Nat.mul_le_mul (show k ≤ 6 by omega) ha
  exact ⟨h, Nat.le_trans (Nat.div_le_self _ _) h⟩

theorem goodSl_no1 {xs : List Int} {a : Int} (h : ¬ slB xs.length a = true) : goodSl xs a = false := by simp [goodSl, h]
theorem goodSl_no2 {xs : List Int} {a : Int} (h : ¬ allB xs 0 (a - 1) = true) : goodSl xs a = false := by
  rw [Bool.eq_false_iff]
  intro hg
  simp only [goodSl, Bool.and_eq_true] at hg
  obtain ⟨m, q, h1, rfl, h3⟩ := slB_iff.1 hg.1
  have hm : xs.length = m := by omega
  obtain ⟨_, ⟨a1, _⟩, _⟩ := slN_iff.1 h3
  refine h (allB_iff.2 fun x hx => ?_)
  have := und_len (bnds_bnd _ _) (by rw [length_bnds]) hg.2 x hx
  have := numB_slope (n := xs.length) (a := q) a1
  rw [Int.toNat_natCast] at *
  omega
theorem goodSl_yes {xs : List Int} {n q : Nat} (hl : xs.length = n) (h : slB (n : Int) (q : Int) = true) : goodSl xs q = undTo (insSort xs) (bnds n q) n := by
  subst hl
  simp [goodSl, h, und]
theorem sort_nonneg {xs : List Int} {hi : Int} {n : Nat} (h : allB xs 0 hi = true) (hl : xs.length = n) : ∀ i, i < n → 0 ≤ nth (insSort xs) i := fun i hi => by
  have := length_insSort xs
  exact (allB_iff.1 h _ ((insSort_perm xs).mem_iff.1 (nth_mem (by omega)))).1
theorem slB_parts {n : Nat} {a : Int} (h : slB (n : Int) a = true) : ∃ q : Nat, a = (q : Int) ∧ slN n q = true ∧ (1 ≤ n ∧ n ≤ 6) ∧ 1 ≤ q ∧ q ≤ 13 := by
  obtain ⟨m, q, h1, rfl, h3⟩ := slB_iff.1 h
  have : n = m := by omega
  subst this
  obtain ⟨a1, a2, _⟩ := slN_iff.1 h3
  exact ⟨q, rfl, h3, a1, a2⟩

theorem most_bound {m q : Nat} (hm : m ≤ 6) (hq : q ≤ 13) (h1 : 1 ≤ m) (h2 : 1 ≤ q) : 0 ≤ ((m : Int) - 1) * ((q : Int) - 1) ∧ ((m : Int) - 1) * ((q : Int) - 1) ≤ 60 := by
  have h := Nat.mul_le_mul (show m - 1 ≤ 5 by omega) (show q - 1 ≤ 12 by omega)
  rw [show (m : Int) - 1 = ((m - 1 : Nat) : Int) by omega, show (q : Int) - 1 = ((q - 1 : Nat) : Int) by omega, ← Int.natCast_mul]
  omega

theorem chs_next18 : ∀ n, n < 19 → ∀ i, i < n → chs n i * (n - i) = chs n (i + 1) * (i + 1) := by decide +kernel
theorem chs_times18 : ∀ n, n < 19 → ∀ i, i < n → chs n i * (n - i) ≤ 1000000 := by decide +kernel
theorem chs_small18 : ∀ n, n < 19 → ∀ i, i < 19 → chs n i ≤ 48620 := by decide +kernel
/-- The next choice by the formula that goes up: n - k + i over i. -/
theorem chs_up : ∀ n, n < 19 → ∀ k, k < 7 → k ≤ n → ∀ i, i < k → chs (n - k + i) i * (n - k + i + 1) = chs (n - k + (i + 1)) (i + 1) * (i + 1) := by decide +kernel
theorem chs_upB : ∀ n, n < 19 → ∀ k, k < 7 → k ≤ n → ∀ i, i < k + 1 → chs (n - k + i) i ≤ 48620 := by decide +kernel

theorem chs_slope {m q : Nat} (hm : 1 ≤ m ∧ m ≤ 6) (hq : 1 ≤ q ∧ q ≤ 13) : chs (m + q - 1) (m - 1) ≤ 48620 := chs_small18 _ (by omega) _ (by omega)

end Go.Proofs.Ytehdccfkkfkciaa
