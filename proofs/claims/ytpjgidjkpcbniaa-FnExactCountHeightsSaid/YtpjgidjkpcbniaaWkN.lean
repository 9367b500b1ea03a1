/- Chapter 4: heights are counted, by the contracts of the functions. -/
import Derived.Test.YtpjgidjkpcbniaaSpecA
import Derived.Test.YtpjgidjkpcbniaaMathG
import Derived.Test.YtpjgidjkpcbniaaImplN
namespace Go.Proofs.Ytpjgidjkpcbniaa
open Go.RowKit

def catN (k : Nat) : Nat := chs (2 * k) k / (k + 1)
theorem cat_step : ∀ k, k < 8 → catN (k + 1) = catN k * 2 * (2 * k + 1) / (k + 2) := by decide +kernel
theorem cat_le : ∀ k, k < 9 → catN k ≤ 1430 := by decide +kernel
theorem cat_stepI {k : Nat} (h : k < 8) : ((catN (k + 1) : Nat) : Int) = (catN k : Int) * 2 * (2 * (k : Int) + 1) / ((k : Int) + 2) := by
  rw [cat_step k h]
  simp [Int.natCast_ediv]

set_option maxHeartbeats 1000000 in
theorem specCountHeights_any (n : Int) (w : World) : Calls Try.prog 33 #[.int .i64 n] w (PostInt w (countSortedOf n)) := by
  by_cases hg : inB n 0 8 = true
  · have HG := hid hg
    obtain ⟨m, rfl⟩ : ∃ m : Nat, n = (m : Int) := ⟨n.toNat, by have := inB_iff.1 hg; omega⟩
    have hm : m ≤ 8 := by have := inB_iff.1 hg; omega
    have HR : Hid (countSortedOf (m : Int) = ((catN m : Int), true)) := hid (by simp only [countSortedOf]; rw [if_pos hg]; simp [catN])
    clear hg
    go_enter Try.func33, Try.ntmps33
    go_wp2_with (go_at_call 59; refine (l1In_any _ _ _ _).mono ?_; rintro e w' ⟨rfl, rfl⟩; rw [HG.out])
    go_loop [4, 5] (fun c i => ∃ (k : Nat) (C : Int), k ≤ m ∧ i = .int .i64 k ∧ c = .int .i64 C ∧ Hid ((catN k : Int) = C)) (fun _ i => m - (intOf i).toNat)
    case atStart => exact ⟨0, 1, Nat.zero_le _, rfl, rfl, hid rfl⟩
    case round =>
      obtain ⟨k, C, hk, rfl, rfl, HC⟩ := hrel
      by_cases hlt : k < m
      · have hc : 0 ≤ C ∧ C ≤ 1430 := by have := cat_le k (by omega); have := HC.out; omega
        have HS : Hid (((catN (k + 1) : Nat) : Int) = C * 2 * (2 * (k : Int) + 1) / ((k : Int) + 2)) := hid (by rw [cat_stepI (by omega), HC.out])
        have h0 : 0 ≤ C * 2 * (2 * (k : Int) + 1) := Int.mul_nonneg (by omega) (by omega)
        have h1 : C * 2 * (2 * (k : Int) + 1) ≤ 2860 * 17 := Int.le_trans (Int.mul_le_mul_of_nonneg_right (show C * 2 ≤ 2860 by omega) (by omega)) (Int.mul_le_mul_of_nonneg_left (by omega) (by omega))
        have htd : (C * 2 * (2 * (k : Int) + 1)).tdiv ((k : Int) + 2) = C * 2 * (2 * (k : Int) + 1) / ((k : Int) + 2) := Int.tdiv_eq_ediv_of_nonneg h0
        have hd0 : 0 ≤ C * 2 * (2 * (k : Int) + 1) / ((k : Int) + 2) := Int.ediv_nonneg h0 (by omega)
        have hd1 : C * 2 * (2 * (k : Int) + 1) / ((k : Int) + 2) ≤ C * 2 * (2 * (k : Int) + 1) := Int.ediv_le_self _ h0
        go_wp2_with fail
        go_round
        case rel => exact ⟨k + 1, _, by omega, by go_num, rfl, HS⟩
        case measure => simp [intOf]; omega
      · obtain rfl : k = m := by omega
        go_wp2_with fail
        go_ret2
        exact postInt (HR.out.trans (by rw [HC.out])) (Below.refl _ _)
  · have HG := hid (Bool.eq_false_iff.2 hg)
    have HR : Hid (countSortedOf n = (0, false)) := hid (by simp [countSortedOf, hg])
    clear hg
    go_enter Try.func33, Try.ntmps33
    go_wp2_with (go_at_call 59; refine (l1In_any _ _ _ _).mono ?_; rintro e w' ⟨rfl, rfl⟩; rw [HG.out])
    go_ret2
    exact postInt HR.out (Below.refl _ _)

theorem implCountHeights_any (n : Int) (w : World) : Calls Try.prog 34 #[.int .i64 n] w (PostInt w (countSortedOf n)) := by
  obtain ⟨⟨c, ok⟩, hr⟩ : ∃ r, countSortedOf n = r := ⟨_, rfl⟩
  have HR := hid hr
  clear hr
  go_enter Try.func34, Try.ntmps34
  go_wp2_with fail
  refine (countSorted_any _ _).mono ?_
  rw [HR.out]
  rintro e w1 ⟨rfl, hb⟩
  go_wp2_with fail
  go_ret2
  exact postInt HR.out hb
end Go.Proofs.Ytpjgidjkpcbniaa
