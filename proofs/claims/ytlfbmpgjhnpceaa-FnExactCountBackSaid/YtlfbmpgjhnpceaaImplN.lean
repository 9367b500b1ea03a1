/- The program's functions of chapter 2, by their contracts: powers, choices, counts. -/
import Derived.Test.YtlfbmpgjhnpceaaImplG
import Derived.Test.YtlfbmpgjhnpceaaSpecN
namespace Go.Proofs.Ytlfbmpgjhnpceaa
open Go.RowKit

set_option maxHeartbeats 400000 in
theorem power_any (b k : Nat) (w : World) (hb : b ≤ 13) (hk : k ≤ 8) :
    Calls Try.prog 78 #[.int .i64 (b : Int), .int .i64 (k : Int)] w fun e w' => e = .returned (.int .i64 ((b ^ k : Nat) : Int)) ∧ w = w' := by
  go_enter Try.func78, Try.ntmps78
  go_wp2_with fail
  go_loop [5, 7] (fun o i => ∃ j : Nat, j ≤ k ∧ i = .int .i64 (j : Int) ∧ o = .int .i64 ((b ^ j : Nat) : Int)) (fun _ i => k - (intOf i).toNat)
  case atStart => exact ⟨0, Nat.zero_le _, rfl, by simp⟩
  case round =>
    obtain ⟨j, hj, rfl, rfl⟩ := hrel
    have hp := pow_small b (by omega) j (by omega)
    by_cases hlt : j < k
    · have hq := pow_small b (by omega) (j + 1) (by omega)
      have HP : Hid (((b ^ (j + 1) : Nat) : Int) = ((b ^ j : Nat) : Int) * (b : Int)) := hid (by rw [Nat.pow_succ, Int.natCast_mul])
      obtain ⟨q, hqe⟩ : ∃ q, b ^ (j + 1) = q := ⟨_, rfl⟩
      have HQ := hid hqe
      rw [hqe] at hq HP
      clear hqe
      have hq1 : ((b ^ j : Nat) : Int) * (b : Int) ≤ 815730721 := by rw [← HP.out]; exact Int.ofNat_le.2 hq
      have hq0 : 0 ≤ ((b ^ j : Nat) : Int) * (b : Int) := by rw [← HP.out]; exact Int.natCast_nonneg _
      clear hq
      generalize b ^ j = p at *
      go_wp2_with fail
      go_round
      case rel => exact ⟨j + 1, by omega, by go_num, by rw [HQ.out, HP.out]⟩
      case measure => simp [intOf]; omega
    · obtain rfl : j = k := by omega
      go_wp2_with fail
      go_ret
      exact ⟨rfl, rfl⟩
theorem power_at (b k r : Nat) (B K : Int) (w : World) (hB : B = (b : Int)) (hK : K = (k : Int)) (hb : b ≤ 13) (hk : k ≤ 8) (hr : Hid (b ^ k = r)) :
    Calls Try.prog 78 #[.int .i64 B, .int .i64 K] w fun e w' => e = .returned (.int .i64 (r : Int)) ∧ w = w' := by
  subst hB hK
  have := hr.out
  subst this
  exact power_any b k w hb hk

theorem streetCnt_le {c q : Nat} (hc : c ≤ 8) (hq : q ≤ 12) : streetCnt c q ≤ 815730721 := by
  have : ∀ c, c < 9 → ∀ q, q < 13 → streetCnt c q ≤ 815730721 := by decide +kernel
  exact this c (by omega) q (by omega)
theorem streetCnt_self : ∀ n, n < 9 → streetCnt n n = cnt n := by decide +kernel

end Go.Proofs.Ytlfbmpgjhnpceaa
