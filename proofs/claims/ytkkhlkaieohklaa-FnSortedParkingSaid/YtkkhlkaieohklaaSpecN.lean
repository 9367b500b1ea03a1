/- The model's functions of chapter 2, by their contracts: counts, ranks. -/
import Derived.Test.YtkkhlkaieohklaaSpecS
import Derived.Test.YtkkhlkaieohklaaMathW
import Derived.StillTailTactics
namespace Go.Proofs.Ytkkhlkaieohklaa
open Go.RowKit

theorem cnCars_any (n : Int) (w : World) :
    Calls Try.prog 46 #[.int .i64 n] w fun e w' => e = .returned (.bool (inB n 0 8)) ∧ w = w' := by
  go_enter Try.func46, Try.ntmps46
  go_wp2_with (go_at_call 47; refine (l1In_any _ _ _ _).mono ?_; rintro e w' ⟨rfl, rfl⟩)
  go_ret
  exact ⟨rfl, rfl⟩

set_option maxHeartbeats 400000 in
theorem cnPower_any (b k : Nat) (w : World) (hb : b ≤ 13) (hk : k ≤ 8) :
    Calls Try.prog 71 #[.int .i64 (b : Int), .int .i64 (k : Int)] w fun e w' => e = .returned (.int .i64 ((b ^ k : Nat) : Int)) ∧ w = w' := by
  go_enter Try.func71, Try.ntmps71
  go_wp2_with fail
  go_loop [1, 5] (fun i o => ∃ j : Nat, j ≤ k ∧ i = .int .i64 ((k - j : Nat) : Int) ∧ o = .int .i64 ((b ^ j : Nat) : Int)) (fun i _ => (intOf i).toNat)
  case atStart => exact ⟨0, Nat.zero_le _, by simp, by simp⟩
  case round =>
    obtain ⟨j, hj, rfl, rfl⟩ := hrel
    have hp := pow_small b (by omega) j (by omega)
    by_cases hlt : j < k
    · have hq := pow_small b (by omega) (j + 1) (by omega)
      have HP : Hid (((b ^ (j + 1) : Nat) : Int) = ((b ^ j : Nat) : Int) * (b : Int)) := hid (by rw [Nat.pow_succ, Int.natCast_mul])
      obtain ⟨q, hqe⟩ : ∃ q, b ^ (j + 1) = q := ⟨_, rfl⟩
      have HQ := hid hqe
      rw [hqe] at hq HP
      clear hqe
      have hq1 : ((b ^ j : Nat) : Int) * (b : Int) ≤ 815730721 := by rw [← HP.out]; exact Int.ofNat_le.2 hq
      have hq0 : 0 ≤ ((b ^ j : Nat) : Int) * (b : Int) := by rw [← HP.out]; exact Int.natCast_nonneg _
      obtain ⟨d, hd⟩ : ∃ d, k - j = d + 1 := ⟨k - j - 1, by omega⟩
      have hd2 : k - (j + 1) = d := by omega
      have hd8 : d ≤ 8 := by omega
      have HD2 := hid hd2
      rw [hd]
      clear hq hd hd2
      generalize b ^ j = p at *
      go_wp2_with fail
      go_round
      case rel => exact ⟨j + 1, by omega, by rw [HD2.out], by rw [HQ.out, HP.out]⟩
      case measure => simp [intOf]
    · obtain rfl : j = k := by omega
      rw [Nat.sub_self]
      go_wp2_with fail
      go_ret
      exact ⟨rfl, rfl⟩

theorem cnPower_at (b k r : Nat) (B K : Int) (w : World) (hB : B = (b : Int)) (hK : K = (k : Int)) (hb : b ≤ 13) (hk : k ≤ 8) (hr : Hid (b ^ k = r)) :
    Calls Try.prog 71 #[.int .i64 B, .int .i64 K] w fun e w' => e = .returned (.int .i64 (r : Int)) ∧ w = w' := by
  subst hB hK
  have := hr.out
  subst this
  exact cnPower_any b k w hb hk

theorem cnCount_any (n : Nat) (w : World) (hn : n ≤ 8) :
    Calls Try.prog 37 #[.int .i64 (n : Int)] w fun e w' => e = .returned (.int .i64 (cnt n : Int)) ∧ w = w' := by
  by_cases h0 : n = 0
  · subst h0
    go_enter Try.func37, Try.ntmps37
    go_wp2_with fail
    go_ret
    exact ⟨rfl, rfl⟩
  · obtain ⟨k, rfl⟩ : ∃ k, n = k + 1 := ⟨n - 1, by omega⟩
    have HR : Hid ((cnt (k + 1) : Int) = (((k + 2) ^ k : Nat) : Int)) := hid (by unfold cnt; rw [if_neg (by omega)]; rfl)
    clear h0
    have hbe : (((k : Int) + 1) == 0) = false := by simp; omega
    go_enter Try.func37, Try.ntmps37
    go_wp2_with fail
    refine (cnPower_at (k + 2) k _ _ _ _ (by omega) (by omega) (by omega) (by omega) (hid rfl)).mono ?_
    rintro e w' ⟨rfl, rfl⟩
    go_wp2_with fail
    go_ret
    exact ⟨ret_int HR.out.symm, rfl⟩

theorem specCountParking_any (n : Int) (w : World) : Calls Try.prog 11 #[.int .i64 n] w (PostInt w (countOf n)) := by
  by_cases hg : inB n 0 8 = true
  · obtain ⟨m, rfl⟩ : ∃ m : Nat, n = (m : Int) := ⟨n.toNat, by have := inB_iff.1 hg; omega⟩
    have hm : m ≤ 8 := by have := inB_iff.1 hg; omega
    have HR : Hid (countOf m = ((cnt m : Int), true)) := hid (by simp [countOf, hg])
    have HG := hid hg
    clear hg
    go_enter Try.func11, Try.ntmps11
    go_wp2_with (first | (go_at_call 46; refine (cnCars_any _ _).mono ?_; rintro e w' ⟨rfl, rfl⟩; rw [HG.out]) | (go_at_call 37; refine (cnCount_any _ _ hm).mono ?_; rintro e w' ⟨rfl, rfl⟩))
    go_ret2
    exact postInt HR.out (Below.refl _ _)
  · have HR : Hid (countOf n = (0, false)) := hid (by simp [countOf, hg])
    have HG := hid hg
    clear hg
    go_enter Try.func11, Try.ntmps11
    go_wp2_with (go_at_call 46; refine (cnCars_any _ _).mono ?_; rintro e w' ⟨rfl, rfl⟩; rw [Bool.eq_false_iff.2 HG.out])
    go_ret2
    exact postInt HR.out (Below.refl _ _)

theorem street_small : ∀ c, c < 9 → ∀ p, p < 13 → 1 ≤ c → c ≤ p → (p + 1 - c) * (p + 1) ^ (c - 1) ≤ 815730721 := by decide +kernel

theorem chs_times : ∀ n, n < 17 → ∀ i, i < n → chs n i * (n - i) ≤ 205920 := by decide +kernel

set_option maxHeartbeats 800000 in
theorem cnChoose_any (n k : Nat) (w : World) (hn : n ≤ 16) (hk : k ≤ n) :
    Calls Try.prog 58 #[.int .i64 (n : Int), .int .i64 (k : Int)] w fun e w' => e = .returned (.int .i64 (chs n k : Int)) ∧ w' = w := by
  go_enter Try.func58, Try.ntmps58
  go_wp2_with fail
  go_loop [5, 6] (fun o i => ∃ j : Nat, j ≤ k ∧ i = .int .i64 (j : Int) ∧ o = .int .i64 (chs n j : Int)) (fun _ i => k - (intOf i).toNat)
  case atStart => exact ⟨0, Nat.zero_le _, rfl, by simp [chs_zero]⟩
  case round =>
    obtain ⟨j, hj, rfl, rfl⟩ := hrel
    by_cases hlt : j < k
    · have h1 := chs_next n (by omega) j (by omega)
      have h2 := chs_times n (by omega) j (by omega)
      have h3 := chs_small n (by omega) j (by omega)
      have hi : ((chs n j * (n - j) : Nat) : Int) = (chs n j : Int) * ((n : Int) - (j : Int)) := by rw [Int.natCast_mul]; congr 1; omega
      have hi1 : (chs n j : Int) * ((n : Int) - (j : Int)) ≤ 205920 := by rw [← hi]; omega
      have hi0 : 0 ≤ (chs n j : Int) * ((n : Int) - (j : Int)) := by rw [← hi]; omega
      have HQ : Hid ((chs n j : Int) * ((n : Int) - (j : Int)) / ((j : Int) + 1) = (chs n (j + 1) : Int)) := hid (by
        rw [← hi, h1, show (j : Int) + 1 = ((j + 1 : Nat) : Int) by omega, ← Int.natCast_ediv, Nat.mul_div_cancel _ (by omega)])
      clear h1 h2 hi
      generalize chs n j = c at *
      go_wp2_with fail
      go_round
      case rel => exact ⟨j + 1, by omega, by go_num, congrArg (Value.int .i64) HQ.out⟩
      case measure => simp [intOf]; omega
    · obtain rfl : j = k := by omega
      go_wp2_with fail
      go_ret
      exact ⟨rfl, rfl⟩

theorem cnChoose_at (n k : Nat) (N K : Int) (w : World) (hN : N = (n : Int)) (hK : K = (k : Int)) (hn : n ≤ 16) (hk : k ≤ n) :
    Calls Try.prog 58 #[.int .i64 N, .int .i64 K] w fun e w' => e = .returned (.int .i64 (chs n k : Int)) ∧ w' = w := by
  subst hN hK
  exact cnChoose_any n k w hn hk

set_option maxHeartbeats 400000 in
theorem specCountSorted_any (n : Int) (w : World) : Calls Try.prog 26 #[.int .i64 n] w (PostInt w (countSortedOf n)) := by
  by_cases hg : inB n 0 8 = true
  · obtain ⟨m, rfl⟩ : ∃ m : Nat, n = (m : Int) := ⟨n.toNat, by have := inB_iff.1 hg; omega⟩
    have hm : m ≤ 8 := by have := inB_iff.1 hg; omega
    have h3 := chs_small (2 * m) (by omega) m (by omega)
    have HR : Hid (countSortedOf m = ((chs (2 * m) m : Int) / ((m : Int) + 1), true)) := hid (by
      simp [countSortedOf, hg])
    have hdv : 0 ≤ (chs (2 * m) m : Int) / ((m : Int) + 1) ∧ (chs (2 * m) m : Int) / ((m : Int) + 1) ≤ 12870 := by
      rw [show (m : Int) + 1 = ((m + 1 : Nat) : Int) by omega, ← Int.natCast_ediv]
      have := Nat.div_le_self (chs (2 * m) m) (m + 1)
      generalize chs (2 * m) m / (m + 1) = d at *
      omega
    obtain ⟨hdv0, hdv1⟩ := hdv
    have HG := hid hg
    clear hg
    go_enter Try.func26, Try.ntmps26
    go_wp2_with (go_at_call 46; refine (cnCars_any _ _).mono ?_; rintro e w' ⟨rfl, rfl⟩; rw [HG.out])
    refine (cnChoose_at (2 * m) m _ _ _ (by omega) (by omega) (by omega) (by omega)).mono ?_
    rintro e w' ⟨rfl, rfl⟩
    go_wp2_with fail
    go_ret2
    exact postInt HR.out (Below.refl _ _)
  · have HR : Hid (countSortedOf n = (0, false)) := hid (by simp [countSortedOf, hg])
    have HG := hid hg
    clear hg
    go_enter Try.func26, Try.ntmps26
    go_wp2_with (go_at_call 46; refine (cnCars_any _ _).mono ?_; rintro e w' ⟨rfl, rfl⟩; rw [Bool.eq_false_iff.2 HG.out])
    go_ret2
    exact postInt HR.out (Below.refl _ _)
end Go.Proofs.Ytkkhlkaieohklaa
