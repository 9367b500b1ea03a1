/- The number of trees, by the contracts of the model's and of the program's function. -/
import Derived.Test.YtlfbmpgjhnpceabImplN
import Derived.Test.YtlfbmpgjhnpceabSpecA
namespace Go.Proofs.Ytlfbmpgjhnpceab
open Go.RowKit

/-- The product as the model makes it. -/
def trC (n : Nat) (k : Nat) : Nat := (n + 1) ^ (k - 1)
theorem trC_le {n k : Nat} (hn : n ≤ 8) (hk : k ≤ 8) : trC n k ≤ 4782969 := by
  have : ∀ n, n < 9 → ∀ k, k < 9 → (n + 1) ^ (k - 1) ≤ 4782969 := by decide +kernel
  exact this n (by omega) k (by omega)
theorem trC_cnt {n : Nat} : (if n = 0 then trC n 1 else trC n n) = cnt n := by
  unfold cnt trC
  split <;> simp

set_option maxHeartbeats 400000 in
theorem trCount_any (n : Nat) (w : World) (h8 : n ≤ 8) : Calls Try.prog 167 #[.int .i64 (n : Int)] w fun e w' => e = .returned (.int .i64 (cnt n : Int)) ∧ w = w' := by
  have HC := hid (trC_cnt (n := n))
  go_enter Try.func167, Try.ntmps167
  go_wp2_with fail
  go_loop [3, 4] (fun o i => ∃ k : Nat, 1 ≤ k ∧ (k ≤ n ∨ k = 1) ∧ i = .int .i64 k ∧ o = .int .i64 (trC n k : Int)) (fun _ i => n - (intOf i).toNat)
  case atStart => exact ⟨1, by omega, .inr rfl, rfl, by simp [trC]⟩
  case round =>
    obtain ⟨k, hk1, hk2, rfl, rfl⟩ := hrel
    by_cases hlt : k < n
    · have hb := trC_le h8 (k := k) (by omega)
      have HS : Hid (trC n (k + 1) = trC n k * (n + 1)) := hid (by unfold trC; rw [show k + 1 - 1 = (k - 1) + 1 by omega, Nat.pow_succ])
      have hm : (trC n k : Int) * ((n : Int) + 1) = ((trC n (k + 1) : Nat) : Int) := by rw [HS.out]; simp
      have hb2 := trC_le h8 (k := k + 1) (by omega)
      have hw : IntKind.i64.wrap ((trC n k : Int) * ((n : Int) + 1)) = ((trC n (k + 1) : Nat) : Int) := by rw [hm, IntKind.wrap_i64]; omega
      have hw2 : wrap64 ((trC n k : Int) * ((n : Int) + 1)) = ((trC n (k + 1) : Nat) : Int) := by rw [hm]; exact IntWalk.wrap64_in _ ⟨by omega, by omega⟩
      clear hm hb hb2
      go_wp2_with fail
      go_round
      case rel => exact ⟨k + 1, by omega, by omega, by go_num, rfl⟩
      case measure => simp [intOf]; omega
    · have HF : Hid (trC n k = cnt n) := hid (by
        rw [← HC.out]
        by_cases h0 : n = 0
        · rw [if_pos h0]; obtain rfl : k = 1 := by omega
          rfl
        · rw [if_neg h0]; obtain rfl : k = n := by omega
          rfl)
      go_wp2_with fail
      go_ret
      exact ⟨ret_int (by rw [HF.out]), rfl⟩

end Go.Proofs.Ytlfbmpgjhnpceab
