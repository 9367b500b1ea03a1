/- The program's functions of chapter 2, by their contracts: powers, choices, counts. -/
import Derived.Test.YtakadjhbomggbaaGreatImplG
import Derived.Test.YtakadjhbomggbaaGreatSpecN
namespace Go.Proofs.YtakadjhbomggbaaGreat
open Go.RowKit

theorem isCarNumber_any (n : Int) (w : World) :
    Calls Tryz.prog 41 #[.int .i64 n] w fun e w' => e = .returned (.bool (inB n 0 8)) ∧ w = w' := by
  by_cases h1 : 0 ≤ n
  · by_cases h2 : n ≤ 8
    · have HR : Hid (inB n 0 8 = true) := hid (inB_iff.2 ⟨h1, h2⟩)
      go_enter Tryz.func41, Tryz.ntmps41
      go_wp2_with fail
      go_ret
      exact ⟨ret_bool HR.out.symm, rfl⟩
    · have HR : Hid (inB n 0 8 = false) := hid (by rw [inB_not]; omega)
      go_enter Tryz.func41, Tryz.ntmps41
      go_wp2_with fail
      go_ret
      exact ⟨ret_bool HR.out.symm, rfl⟩
  · have HR : Hid (inB n 0 8 = false) := hid (by rw [inB_not]; omega)
    go_enter Tryz.func41, Tryz.ntmps41
    go_wp2_with fail
    go_ret
    exact ⟨ret_bool HR.out.symm, rfl⟩

set_option maxHeartbeats 400000 in
theorem power_any (b k : Nat) (w : World) (hb : b ≤ 13) (hk : k ≤ 8) :
    Calls Tryz.prog 58 #[.int .i64 (b : Int), .int .i64 (k : Int)] w fun e w' => e = .returned (.int .i64 ((b ^ k : Nat) : Int)) ∧ w = w' := by
  go_enter Tryz.func58, Tryz.ntmps58
  go_wp2_with fail
  go_loop [5, 7] (fun o i => ∃ j : Nat, j ≤ k ∧ i = .int .i64 (j : Int) ∧ o = .int .i64 ((b ^ j : Nat) : Int)) (fun _ i => k - (intOf i).toNat)
  case atStart => exact ⟨0, Nat.zero_le _, rfl, by simp⟩
  case round =>
    obtain ⟨j, hj, rfl, rfl⟩ := hrel
    have hp := pow_small b (by omega) j (by omega)
    by_cases hlt : j < k
    · have hq := pow_small b (by omega) (j + 1) (by omega)
      have HP : Hid (((b ^ (j + 1) : Nat) : Int) = ((b ^ j : Nat) : Int) * (b : Int)) := hid (by rw [Nat.pow_succ, Int.natCast_mul])
      obtain ⟨q, hqe⟩ : ∃ q, b ^ (j + 1) = q := ⟨_, rfl⟩
      have HQ := hid hqe
      rw [hqe] at hq HP
      clear hqe
      have hq1 : ((b ^ j : Nat) : Int) * (b : Int) ≤ 815730721 := by rw [← HP.out]; exact Int.ofNat_le.2 hq
      have hq0 : 0 ≤ ((b ^ j : Nat) : Int) * (b : Int) := by rw [← HP.out]; exact Int.natCast_nonneg _
      clear hq
      generalize b ^ j = p at *
      go_wp2_with fail
      go_round
      case rel => exact ⟨j + 1, by omega, by go_num, by rw [HQ.out, HP.out]⟩
      case measure => simp [intOf]; omega
    · obtain rfl : j = k := by omega
      go_wp2_with fail
      go_ret
      exact ⟨rfl, rfl⟩
theorem power_at (b k r : Nat) (B K : Int) (w : World) (hB : B = (b : Int)) (hK : K = (k : Int)) (hb : b ≤ 13) (hk : k ≤ 8) (hr : Hid (b ^ k = r)) :
    Calls Tryz.prog 58 #[.int .i64 B, .int .i64 K] w fun e w' => e = .returned (.int .i64 (r : Int)) ∧ w = w' := by
  subst hB hK
  have := hr.out
  subst this
  exact power_any b k w hb hk

set_option maxHeartbeats 800000 in
theorem binomial_any (n k : Nat) (w : World) (hn : n ≤ 16) (hk : k ≤ n) :
    Calls Tryz.prog 57 #[.int .i64 (n : Int), .int .i64 (k : Int)] w fun e w' => e = .returned (.int .i64 (chs n k : Int)) ∧ w' = w := by
  go_enter Tryz.func57, Tryz.ntmps57
  go_wp2_with fail
  go_loop [5, 8] (fun o i => ∃ j : Nat, j ≤ k ∧ i = .int .i64 (j : Int) ∧ o = .int .i64 (chs n j : Int)) (fun _ i => k - (intOf i).toNat)
  case atStart => exact ⟨0, Nat.zero_le _, rfl, by simp [chs_zero]⟩
  case round =>
    obtain ⟨j, hj, rfl, rfl⟩ := hrel
    by_cases hlt : j < k
    · have h1 := chs_next n (by omega) j (by omega)
      have h2 := chs_times n (by omega) j (by omega)
      have h3 := chs_small n (by omega) j (by omega)
      have hi : ((chs n j * (n - j) : Nat) : Int) = (chs n j : Int) * ((n : Int) - (j : Int)) := by rw [Int.natCast_mul]; congr 1; omega
      have hi1 : (chs n j : Int) * ((n : Int) - (j : Int)) ≤ 205920 := by rw [← hi]; omega
      have hi0 : 0 ≤ (chs n j : Int) * ((n : Int) - (j : Int)) := by rw [← hi]; omega
      have HQ : Hid ((chs n j : Int) * ((n : Int) - (j : Int)) / ((j : Int) + 1) = (chs n (j + 1) : Int)) := hid (by
        rw [← hi, h1, show (j : Int) + 1 = ((j + 1 : Nat) : Int) by omega, ← Int.natCast_ediv, Nat.mul_div_cancel _ (by omega)])
      clear h1 h2 hi
      generalize chs n j = c at *
      go_wp2_with fail
      go_round
      case rel => exact ⟨j + 1, by omega, by go_num, congrArg (Value.int .i64) HQ.out⟩
      case measure => simp [intOf]; omega
    · obtain rfl : j = k := by omega
      go_wp2_with fail
      go_ret
      exact ⟨rfl, rfl⟩
theorem binomial_at (n k : Nat) (N K : Int) (w : World) (hN : N = (n : Int)) (hK : K = (k : Int)) (hn : n ≤ 16) (hk : k ≤ n) :
    Calls Tryz.prog 57 #[.int .i64 N, .int .i64 K] w fun e w' => e = .returned (.int .i64 (chs n k : Int)) ∧ w' = w := by
  subst hN hK
  exact binomial_any n k w hn hk

set_option maxHeartbeats 800000 in
theorem streetN_any (c q : Nat) (w : World) (hc : c ≤ 8) (hq : q ≤ 12) :
    Calls Tryz.prog 42 #[.int .i64 (c : Int), .int .i64 (q : Int)] w fun e w' => e = .returned (.int .i64 (streetCnt c q : Int)) ∧ w = w' := by
  cases c with
  | zero =>
    go_enter Tryz.func42, Tryz.ntmps42
    go_wp2_with fail
    go_ret
    exact ⟨rfl, rfl⟩
  | succ k =>
    have hbe : ((k : Int) + 1 == 0) = false := by simp; omega
    by_cases hlt : q < k + 1
    · have HS : Hid (streetCnt (k + 1) q = 0) := hid (by simp [streetCnt, hlt])
      have hlt' : (q : Int) < (k : Int) + 1 := by omega
      go_enter Tryz.func42, Tryz.ntmps42
      go_wp2_with fail
      go_ret
      exact ⟨ret_int (by rw [HS.out]; rfl), rfl⟩
    · have hs := street_small (k + 1) (by omega) q (by omega) (by omega) (by omega)
      have hpw := pow_small (q + 1) (by omega) k (by omega)
      have hS : streetCnt (k + 1) q = (q + 1 - (k + 1)) * (q + 1) ^ k := by simp [streetCnt, hlt]
      rw [show k + 1 - 1 = k from rfl] at hs
      obtain ⟨r, hre⟩ : ∃ r, (q + 1) ^ k = r := ⟨_, rfl⟩
      have HE := hid hre
      rw [hre] at hs hpw hS
      have hi : (((q + 1 - (k + 1)) * r : Nat) : Int) = ((q : Int) + 1 - ((k : Int) + 1)) * (r : Int) := by
        rw [Int.natCast_mul]
        congr 1
        omega
      have HS : Hid ((streetCnt (k + 1) q : Int) = ((q : Int) + 1 - ((k : Int) + 1)) * (r : Int)) := hid (by rw [hS, hi])
      have hi1 : ((q : Int) + 1 - ((k : Int) + 1)) * (r : Int) ≤ 815730721 := by rw [← hi]; exact Int.ofNat_le.2 hs
      have hi0 : 0 ≤ ((q : Int) + 1 - ((k : Int) + 1)) * (r : Int) := by rw [← hi]; exact Int.natCast_nonneg _
      clear hre hS hi hs
      have hnl : ¬ (q : Int) < (k : Int) + 1 := by omega
      go_enter Tryz.func42, Tryz.ntmps42
      go_wp2_with (go_at_call 58; refine (power_at (q + 1) k r _ _ _ (by omega) (by omega) (by omega) (by omega) HE).mono ?_; rintro e w' ⟨rfl, rfl⟩)
      go_ret
      exact ⟨ret_int HS.out.symm, rfl⟩

theorem streetCnt_le {c q : Nat} (hc : c ≤ 8) (hq : q ≤ 12) : streetCnt c q ≤ 815730721 := by
  have : ∀ c, c < 9 → ∀ q, q < 13 → streetCnt c q ≤ 815730721 := by decide +kernel
  exact this c (by omega) q (by omega)
theorem streetCnt_self : ∀ n, n < 9 → streetCnt n n = cnt n := by decide +kernel

set_option maxHeartbeats 400000 in
theorem countParking_any (n : Int) (w : World) : Calls Tryz.prog 18 #[.int .i64 n] w (PostInt w (countOf n)) := by
  by_cases hg : inB n 0 8 = true
  · obtain ⟨m, rfl⟩ : ∃ m : Nat, n = (m : Int) := ⟨n.toNat, by have := inB_iff.1 hg; omega⟩
    have hm : m ≤ 8 := by have := inB_iff.1 hg; omega
    have HR : Hid (countOf m = ((streetCnt m m : Int), true)) := hid (by simp [countOf, hg, streetCnt_self m (by omega)])
    have HG := hid hg
    clear hg
    go_enter Tryz.func18, Tryz.ntmps18
    go_wp2_with (first | (go_at_call 41; refine (isCarNumber_any _ _).mono ?_; rintro e w' ⟨rfl, rfl⟩; rw [HG.out]) | (go_at_call 42; refine (streetN_any _ _ _ hm (by omega)).mono ?_; rintro e w' ⟨rfl, rfl⟩))
    go_ret2
    exact postInt HR.out (Below.refl _ _)
  · have HR : Hid (countOf n = (0, false)) := hid (by simp [countOf, hg])
    have HG := hid hg
    clear hg
    go_enter Tryz.func18, Tryz.ntmps18
    go_wp2_with (go_at_call 41; refine (isCarNumber_any _ _).mono ?_; rintro e w' ⟨rfl, rfl⟩; rw [Bool.eq_false_iff.2 HG.out])
    go_ret2
    exact postInt HR.out (Below.refl _ _)

set_option maxHeartbeats 400000 in
theorem countSorted_any (n : Int) (w : World) : Calls Tryz.prog 36 #[.int .i64 n] w (PostInt w (countSortedOf n)) := by
  by_cases hg : inB n 0 8 = true
  · obtain ⟨m, rfl⟩ : ∃ m : Nat, n = (m : Int) := ⟨n.toNat, by have := inB_iff.1 hg; omega⟩
    have hm : m ≤ 8 := by have := inB_iff.1 hg; omega
    have h3 := chs_small (2 * m) (by omega) m (by omega)
    have HR : Hid (countSortedOf m = ((chs (2 * m) m : Int) / ((m : Int) + 1), true)) := hid (by
      simp [countSortedOf, hg])
    have hdv : 0 ≤ (chs (2 * m) m : Int) / ((m : Int) + 1) ∧ (chs (2 * m) m : Int) / ((m : Int) + 1) ≤ 12870 := by
      rw [show (m : Int) + 1 = ((m + 1 : Nat) : Int) by omega, ← Int.natCast_ediv]
      have := Nat.div_le_self (chs (2 * m) m) (m + 1)
      generalize chs (2 * m) m / (m + 1) = d at *
      omega
    obtain ⟨hdv0, hdv1⟩ := hdv
    have HG := hid hg
    clear hg
    go_enter Tryz.func36, Tryz.ntmps36
    go_wp2_with (go_at_call 41; refine (isCarNumber_any _ _).mono ?_; rintro e w' ⟨rfl, rfl⟩; rw [HG.out])
    refine (binomial_at (2 * m) m _ _ _ (by omega) (by omega) (by omega) (by omega)).mono ?_
    rintro e w' ⟨rfl, rfl⟩
    go_wp2_with fail
    go_ret2
    exact postInt HR.out (Below.refl _ _)
  · have HR : Hid (countSortedOf n = (0, false)) := hid (by simp [countSortedOf, hg])
    have HG := hid hg
    clear hg
    go_enter Tryz.func36, Tryz.ntmps36
    go_wp2_with (go_at_call 41; refine (isCarNumber_any _ _).mono ?_; rintro e w' ⟨rfl, rfl⟩; rw [Bool.eq_false_iff.2 HG.out])
    go_ret2
    exact postInt HR.out (Below.refl _ _)
end Go.Proofs.YtakadjhbomggbaaGreat
