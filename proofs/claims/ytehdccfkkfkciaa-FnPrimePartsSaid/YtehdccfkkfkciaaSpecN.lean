/- The model's functions of chapter 2, by their contracts: counts, ranks. -/
import Derived.Test.YtehdccfkkfkciaaSpecS
import Derived.Test.YtehdccfkkfkciaaMathW
import Derived.StillTailTactics
namespace Go.Proofs.Ytehdccfkkfkciaa
open Go.RowKit

theorem cnCars_any (n : Int) (w : World) :
    Calls Try.prog 48 #[.int .i64 n] w fun e w' => e = .returned (.bool (inB n 0 8)) ∧ w = w' := by
  go_enter Try.func48, Try.ntmps48
  go_wp2_with (go_at_call 42; refine (l1In_any _ _ _ _).mono ?_; rintro e w' ⟨rfl, rfl⟩)
  go_ret
  exact ⟨rfl, rfl⟩

set_option maxHeartbeats 400000 in
theorem cnPower_any (b k : Nat) (w : World) (hb : b ≤ 13) (hk : k ≤ 8) :
    Calls Try.prog 43 #[.int .i64 (b : Int), .int .i64 (k : Int)] w fun e w' => e = .returned (.int .i64 ((b ^ k : Nat) : Int)) ∧ w = w' := by
  go_enter Try.func43, Try.ntmps43
  go_wp2_with fail
  go_loop [1, 5] (fun i o => ∃ j : Nat, j ≤ k ∧ i = .int .i64 ((k - j : Nat) : Int) ∧ o = .int .i64 ((b ^ j : Nat) : Int)) (fun i _ => (intOf i).toNat)
  case atStart => exact ⟨0, Nat.zero_le _, by simp, by simp⟩
  case round =>
    obtain ⟨j, hj, rfl, rfl⟩ := hrel
    have hp := pow_small b (by omega) j (by omega)
    by_cases hlt : j < k
    · have hq := pow_small b (by omega) (j + 1) (by omega)
      have HP : Hid (((b ^ (j + 1) : Nat) : Int) = ((b ^ j : Nat) : Int) * (b : Int)) := hid (by rw [Nat.pow_succ, Int.natCast_mul])
      obtain ⟨q, hqe⟩ : ∃ q, b ^ (j + 1) = q := ⟨_, rfl⟩
      have HQ := hid hqe
      rw [hqe] at hq HP
      clear hqe
      have hq1 : ((b ^ j : Nat) : Int) * (b : Int) ≤ 815730721 := by rw [← HP.out]; exact Int.ofNat_le.2 hq
      have hq0 : 0 ≤ ((b ^ j : Nat) : Int) * (b : Int) := by rw [← HP.out]; exact Int.natCast_nonneg _
      obtain ⟨d, hd⟩ : ∃ d, k - j = d + 1 := ⟨k - j - 1, by omega⟩
      have hd2 : k - (j + 1) = d := by omega
      have hd8 : d ≤ 8 := by omega
      have HD2 := hid hd2
      rw [hd]
      clear hq hd hd2
      generalize b ^ j = p at *
      go_wp2_with fail
      go_round
      case rel => exact ⟨j + 1, by omega, by rw [HD2.out], by rw [HQ.out, HP.out]⟩
      case measure => simp [intOf]
    · obtain rfl : j = k := by omega
      rw [Nat.sub_self]
      go_wp2_with fail
      go_ret
      exact ⟨rfl, rfl⟩

theorem cnPower_at (b k r : Nat) (B K : Int) (w : World) (hB : B = (b : Int)) (hK : K = (k : Int)) (hb : b ≤ 13) (hk : k ≤ 8) (hr : Hid (b ^ k = r)) :
    Calls Try.prog 43 #[.int .i64 B, .int .i64 K] w fun e w' => e = .returned (.int .i64 (r : Int)) ∧ w = w' := by
  subst hB hK
  have := hr.out
  subst this
  exact cnPower_any b k w hb hk

theorem street_small : ∀ c, c < 9 → ∀ p, p < 13 → 1 ≤ c → c ≤ p → (p + 1 - c) * (p + 1) ^ (c - 1) ≤ 815730721 := by decide +kernel

theorem chs_times : ∀ n, n < 17 → ∀ i, i < n → chs n i * (n - i) ≤ 205920 := by decide +kernel

end Go.Proofs.Ytehdccfkkfkciaa
