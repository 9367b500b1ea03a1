/- Powers and choices: the program's functions, by their contracts. -/
import Derived.Test.YtehdccfkkfkciaaSpecSl
import Derived.IntWalk
namespace Go.Proofs.Ytehdccfkkfkciaa
open Go.RowKit

set_option maxHeartbeats 400000 in
theorem pow_any (b k : Nat) (B K : Int) (w : World) (hB : B = (b : Int)) (hK : K = (k : Int)) (hb : b ≤ 13) (hk : k ≤ 8) :
    Calls Try.prog 44 #[.int .i64 B, .int .i64 K] w fun e w' => e = .returned (.int .i64 ((b ^ k : Nat) : Int)) ∧ w = w' := by
  subst hB hK
  go_enter Try.func44, Try.ntmps44
  go_wp2_with fail
  go_loop [5, 7] (fun o i => ∃ j : Nat, j ≤ k ∧ i = .int .i64 (j : Int) ∧ o = .int .i64 ((b ^ j : Nat) : Int)) (fun _ i => k - (intOf i).toNat)
  case atStart => exact ⟨0, Nat.zero_le _, rfl, by simp⟩
  case round =>
    obtain ⟨j, hj, rfl, rfl⟩ := hrel
    have hp := pow_small b (by omega) j (by omega)
    by_cases hlt : j < k
    · have hq := pow_small b (by omega) (j + 1) (by omega)
      have HP : Hid (((b ^ (j + 1) : Nat) : Int) = ((b ^ j : Nat) : Int) * (b : Int)) := hid (by rw [Nat.pow_succ, Int.natCast_mul])
      obtain ⟨q, hqe⟩ : ∃ q, b ^ (j + 1) = q := ⟨_, rfl⟩
      have HQ := hid hqe
      rw [hqe] at hq HP
      clear hqe
      have hq1 : ((b ^ j : Nat) : Int) * (b : Int) ≤ 815730721 := by rw [← HP.out]; exact Int.ofNat_le.2 hq
      have hq0 : 0 ≤ ((b ^ j : Nat) : Int) * (b : Int) := by rw [← HP.out]; exact Int.natCast_nonneg _
      clear hq
      generalize b ^ j = p at *
      go_wp2_with fail
      go_round
      case rel => exact ⟨j + 1, by omega, by go_num, by rw [HQ.out, HP.out]⟩
      case measure => simp [intOf]; omega
    · obtain rfl : j = k := by omega
      go_wp2_with fail
      go_ret
      exact ⟨rfl, rfl⟩

end Go.Proofs.Ytehdccfkkfkciaa
