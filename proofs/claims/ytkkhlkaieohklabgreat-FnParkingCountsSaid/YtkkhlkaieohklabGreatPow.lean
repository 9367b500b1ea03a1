/- Powers and choices: the program's functions, by their contracts. -/
import Derived.Test.YtkkhlkaieohklabGreatSpecSl
import Derived.IntWalk
namespace Go.Proofs.YtkkhlkaieohklabGreat
open Go.RowKit

set_option maxHeartbeats 400000 in
theorem pow_any (b k : Nat) (B K : Int) (w : World) (hB : B = (b : Int)) (hK : K = (k : Int)) (hb : b ≤ 13) (hk : k ≤ 8) :
    Calls Tryz.prog 45 #[.int .i64 B, .int .i64 K] w fun e w' => e = .returned (.int .i64 ((b ^ k : Nat) : Int)) ∧ w = w' := by
  subst hB hK
  go_enter Tryz.func45, Tryz.ntmps45
  go_wp2_with fail
  go_loop [5, 7] (fun o i => ∃ j : Nat, j ≤ k ∧ i = .int .i64 (j : Int) ∧ o = .int .i64 ((b ^ j : Nat) : Int)) (fun _ i => k - (intOf i).toNat)
  case atStart => exact ⟨0, Nat.zero_le _, rfl, by simp⟩
  case round =>
    obtain ⟨j, hj, rfl, rfl⟩ := hrel
    have hp := pow_small b (by omega) j (by omega)
    by_cases hlt : j < k
    · have hq := pow_small b (by omega) (j + 1) (by omega)
      have HP : Hid (((b ^ (j + 1) : Nat) : Int) = ((b ^ j : Nat) : Int) * (b : Int)) := hid (by rw [Nat.pow_succ, Int.natCast_mul])
      obtain ⟨q, hqe⟩ : ∃ q, b ^ (j + 1) = q := ⟨_, rfl⟩
      have HQ := hid hqe
      rw [hqe] at hq HP
      clear hqe
      have hq1 : ((b ^ j : Nat) : Int) * (b : Int) ≤ 815730721 := by rw [← HP.out]; exact Int.ofNat_le.2 hq
      have hq0 : 0 ≤ ((b ^ j : Nat) : Int) * (b : Int) := by rw [← HP.out]; exact Int.natCast_nonneg _
      clear hq
      generalize b ^ j = p at *
      go_wp2_with fail
      go_round
      case rel => exact ⟨j + 1, by omega, by go_num, by rw [HQ.out, HP.out]⟩
      case measure => simp [intOf]; omega
    · obtain rfl : j = k := by omega
      go_wp2_with fail
      go_ret
      exact ⟨rfl, rfl⟩

set_option maxHeartbeats 800000 in
theorem bino_any (n k : Nat) (N K : Int) (w : World) (hN : N = (n : Int)) (hK : K = (k : Int)) (hn : n ≤ 18) (hk : k ≤ n) :
    Calls Tryz.prog 71 #[.int .i64 N, .int .i64 K] w fun e w' => e = .returned (.int .i64 (chs n k : Int)) ∧ w' = w := by
  subst hN hK
  go_enter Tryz.func71, Tryz.ntmps71
  go_wp2_with fail
  go_loop [5, 8] (fun o i => ∃ j : Nat, j ≤ k ∧ i = .int .i64 (j : Int) ∧ o = .int .i64 (chs n j : Int)) (fun _ i => k - (intOf i).toNat)
  case atStart => exact ⟨0, Nat.zero_le _, rfl, by simp [chs_zero]⟩
  case round =>
    obtain ⟨j, hj, rfl, rfl⟩ := hrel
    by_cases hlt : j < k
    · have h1 := chs_next18 n (by omega) j (by omega)
      have h2 := chs_times18 n (by omega) j (by omega)
      have h3 := chs_small18 n (by omega) j (by omega)
      have hi : ((chs n j * (n - j) : Nat) : Int) = (chs n j : Int) * ((n : Int) - (j : Int)) := by rw [Int.natCast_mul]; congr 1; omega
      have hi1 : (chs n j : Int) * ((n : Int) - (j : Int)) ≤ 1000000 := by rw [← hi]; omega
      have hi0 : 0 ≤ (chs n j : Int) * ((n : Int) - (j : Int)) := by rw [← hi]; omega
      have HQ : Hid ((chs n j : Int) * ((n : Int) - (j : Int)) / ((j : Int) + 1) = (chs n (j + 1) : Int)) := hid (by
        rw [← hi, h1, show (j : Int) + 1 = ((j + 1 : Nat) : Int) by omega, ← Int.natCast_ediv, Nat.mul_div_cancel _ (by omega)])
      clear h1 h2 hi
      generalize chs n j = c at *
      go_wp2_with fail
      go_round
      case rel => exact ⟨j + 1, by omega, by go_num, congrArg (Value.int .i64) HQ.out⟩
      case measure => simp [intOf]; omega
    · obtain rfl : j = k := by omega
      go_wp2_with fail
      go_ret
      exact ⟨rfl, rfl⟩

end Go.Proofs.YtkkhlkaieohklabGreat
