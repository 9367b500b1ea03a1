/- The program's functions of chapter 2, by their contracts: powers, choices, counts. -/
import Derived.Test.YtpjgidjkpcbniaaImplG
import Derived.Test.YtpjgidjkpcbniaaSpecN
namespace Go.Proofs.Ytpjgidjkpcbniaa
open Go.RowKit

theorem isCarNumber_any (n : Int) (w : World) :
    Calls Try.prog 72 #[.int .i64 n] w fun e w' => e = .returned (.bool (inB n 0 8)) ∧ w = w' := by
  by_cases h1 : 0 ≤ n
  · by_cases h2 : n ≤ 8
    · have HR : Hid (inB n 0 8 = true) := hid (inB_iff.2 ⟨h1, h2⟩)
      go_enter Try.func72, Try.ntmps72
      go_wp2_with fail
      go_ret
      exact ⟨ret_bool HR.out.symm, rfl⟩
    · have HR : Hid (inB n 0 8 = false) := hid (by rw [inB_not]; omega)
      go_enter Try.func72, Try.ntmps72
      go_wp2_with fail
      go_ret
      exact ⟨ret_bool HR.out.symm, rfl⟩
  · have HR : Hid (inB n 0 8 = false) := hid (by rw [inB_not]; omega)
    go_enter Try.func72, Try.ntmps72
    go_wp2_with fail
    go_ret
    exact ⟨ret_bool HR.out.symm, rfl⟩

set_option maxHeartbeats 800000 in
theorem binomial_any (n k : Nat) (w : World) (hn : n ≤ 16) (hk : k ≤ n) :
    Calls Try.prog 73 #[.int .i64 (n : Int), .int .i64 (k : Int)] w fun e w' => e = .returned (.int .i64 (chs n k : Int)) ∧ w' = w := by
  go_enter Try.func73, Try.ntmps73
  go_wp2_with fail
  go_loop [5, 8] (fun o i => ∃ j : Nat, j ≤ k ∧ i = .int .i64 (j : Int) ∧ o = .int .i64 (chs n j : Int)) (fun _ i => k - (intOf i).toNat)
  case atStart => exact ⟨0, Nat.zero_le _, rfl, by simp [chs_zero]⟩
  case round =>
    obtain ⟨j, hj, rfl, rfl⟩ := hrel
    by_cases hlt : j < k
    · have h1 := chs_next n (by omega) j (by omega)
      have h2 := chs_times n (by omega) j (by omega)
      have h3 := chs_small n (by omega) j (by omega)
      have hi : ((chs n j * (n - j) : Nat) : Int) = (chs n j : Int) * ((n : Int) - (j : Int)) := by rw [Int.natCast_mul]; congr 1; omega
      have hi1 : (chs n j : Int) * ((n : Int) - (j : Int)) ≤ 205920 := by rw [← hi]; omega
      have hi0 : 0 ≤ (chs n j : Int) * ((n : Int) - (j : Int)) := by rw [← hi]; omega
      have HQ : Hid ((chs n j : Int) * ((n : Int) - (j : Int)) / ((j : Int) + 1) = (chs n (j + 1) : Int)) := hid (by
        rw [← hi, h1, show (j : Int) + 1 = ((j + 1 : Nat) : Int) by omega, ← Int.natCast_ediv, Nat.mul_div_cancel _ (by omega)])
      clear h1 h2 hi
      generalize chs n j = c at *
      go_wp2_with fail
      go_round
      case rel => exact ⟨j + 1, by omega, by go_num, congrArg (Value.int .i64) HQ.out⟩
      case measure => simp [intOf]; omega
    · obtain rfl : j = k := by omega
      go_wp2_with fail
      go_ret
      exact ⟨rfl, rfl⟩
theorem binomial_at (n k : Nat) (N K : Int) (w : World) (hN : N = (n : Int)) (hK : K = (k : Int)) (hn : n ≤ 16) (hk : k ≤ n) :
    Calls Try.prog 73 #[.int .i64 N, .int .i64 K] w fun e w' => e = .returned (.int .i64 (chs n k : Int)) ∧ w' = w := by
  subst hN hK
  exact binomial_any n k w hn hk

theorem streetCnt_le {c q : Nat} (hc : c ≤ 8) (hq : q ≤ 12) : streetCnt c q ≤ 815730721 := by
  have : ∀ c, c < 9 → ∀ q, q < 13 → streetCnt c q ≤ 815730721 := by decide +kernel
  exact this c (by omega) q (by omega)
theorem streetCnt_self : ∀ n, n < 9 → streetCnt n n = cnt n := by decide +kernel

set_option maxHeartbeats 400000 in
theorem countSorted_any (n : Int) (w : World) : Calls Try.prog 60 #[.int .i64 n] w (PostInt w (countSortedOf n)) := by
  by_cases hg : inB n 0 8 = true
  · obtain ⟨m, rfl⟩ : ∃ m : Nat, n = (m : Int) := ⟨n.toNat, by have := inB_iff.1 hg; omega⟩
    have hm : m ≤ 8 := by have := inB_iff.1 hg; omega
    have h3 := chs_small (2 * m) (by omega) m (by omega)
    have HR : Hid (countSortedOf m = ((chs (2 * m) m : Int) / ((m : Int) + 1), true)) := hid (by
      simp [countSortedOf, hg])
    have hdv : 0 ≤ (chs (2 * m) m : Int) / ((m : Int) + 1) ∧ (chs (2 * m) m : Int) / ((m : Int) + 1) ≤ 12870 := by
      rw [show (m : Int) + 1 = ((m + 1 : Nat) : Int) by omega, ← Int.natCast_ediv]
      have := Nat.div_le_self (chs (2 * m) m) (m + 1)
      generalize chs (2 * m) m / (m + 1) = d at *
      omega
    obtain ⟨hdv0, hdv1⟩ := hdv
    have HG := hid hg
    clear hg
    go_enter Try.func60, Try.ntmps60
    go_wp2_with (go_at_call 72; refine (isCarNumber_any _ _).mono ?_; rintro e w' ⟨rfl, rfl⟩; rw [HG.out])
    refine (binomial_at (2 * m) m _ _ _ (by omega) (by omega) (by omega) (by omega)).mono ?_
    rintro e w' ⟨rfl, rfl⟩
    go_wp2_with fail
    go_ret2
    exact postInt HR.out (Below.refl _ _)
  · have HR : Hid (countSortedOf n = (0, false)) := hid (by simp [countSortedOf, hg])
    have HG := hid hg
    clear hg
    go_enter Try.func60, Try.ntmps60
    go_wp2_with (go_at_call 72; refine (isCarNumber_any _ _).mono ?_; rintro e w' ⟨rfl, rfl⟩; rw [Bool.eq_false_iff.2 HG.out])
    go_ret2
    exact postInt HR.out (Below.refl _ _)
end Go.Proofs.Ytpjgidjkpcbniaa
