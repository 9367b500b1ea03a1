/- Numbers of up to six digits in the model's texts. -/
import Derived.Test.YtadcmghjhgjeeacDoorText
import Derived.IntWalk
namespace Go.Proofs.YtadcmghjhgjeeacDoor
open Go.RowKit

theorem dig_size : ∀ (k : Nat) (n : Int), 0 ≤ n → n < (10 : Int) ^ (k + 1) → (dig n).length ≤ k + 1
  | 0, n, h0, h1 => by rw [dig_small h0 (by simpa using h1)]; simp
  | k + 1, n, h0, h1 => by
    by_cases h : n < 10
    · rw [dig_small h0 h]; simp
    · have h2 : n / 10 < (10 : Int) ^ (k + 1) := by
        rw [Int.pow_succ] at h1
        omega
      have := dig_size k (n / 10) (by omega) h2
      rw [dig_big (by omega)]
      simp
      omega

theorem byte_drew {W w1 : World} {x : Int} (hb : Below (W.alloc (.cells #[.int .u8 x] 5)).drew.heap.size (W.alloc (.cells #[.int .u8 x] 5)).drew w1) :
    (convert 62 9 (.slice (some ⟨W.heap.size, 0, none⟩) 1 1)).run Tryd.prog w1 = .ok (.string (bs [UInt8.ofNat x.toNat])) w1 := one_byte_later (W := W.drew) hb

theorem one_byteD (W : World) (x : Int) : (convert 62 9 (.slice (some ⟨W.heap.size, 0, none⟩) 1 1)).run Tryd.prog (W.alloc (.cells #[.int .u8 x] 5)).drew = .ok (.string (bs [UInt8.ofNat x.toNat])) (W.alloc (.cells #[.int .u8 x] 5)).drew := one_byte W.drew x

set_option maxRecDepth 100000 in
set_option maxHeartbeats 1600000 in
theorem l1Num_any : ∀ (k : Nat), k ≤ 5 → ∀ (n : Int) (w : World), 0 ≤ n → n < (10 : Int) ^ (k + 1) →
    Calls Tryd.prog 33 #[.int .i64 n] w fun e w' => e = .returned (.string (bs (dig n))) ∧ Below w.heap.size w w' := by
  intro k
  induction k with
  | zero =>
    intro _ n w h0 h1
    exact l1Num_small n w h0 (by simpa using h1)
  | succ k ih =>
    intro hk n w h0 h1
    by_cases hlt : n < 10
    · exact l1Num_small n w h0 hlt
    · have HD := hid (dig_big (by omega : 10 ≤ n))
      have h2 : n / 10 < (10 : Int) ^ (k + 1) := by
        rw [Int.pow_succ] at h1
        omega
      have hs := dig_size k (n / 10) (by omega) h2
      have h6 : (10 : Int) ^ (k + 1 + 1) ≤ 10 ^ 7 := by
        have : k + 1 + 1 ≤ 7 := by omega
        exact_mod_cast Nat.pow_le_pow_right (by omega : 0 < 10) this
      have h7 : n < 10000000 := Int.lt_of_lt_of_le h1 (by simpa using h6)
      have IH := hid (fun w => ih (by omega) (n / 10) w (by omega) h2)
      obtain ⟨m, hm⟩ : ∃ m, n / 10 = m := ⟨_, rfl⟩
      obtain ⟨r, hr⟩ : ∃ r, n % 10 = r := ⟨_, rfl⟩
      rw [hm] at HD IH hs
      rw [hr] at HD
      have hsz : (bs (dig m)).size ≤ 7 := by rw [bs_size]; omega
      have hs1 : (bs [UInt8.ofNat (48 + r).toNat]).size ≤ 1 := by rw [bs_size]; simp
      have hr0 : 0 ≤ r := by omega
      have hr1 : r < 10 := by omega
      have e1 : n.tdiv 10 = m := by rw [Int.tdiv_eq_ediv_of_nonneg h0]; exact hm
      have e2 : n.tmod 10 = r := by rw [Int.tmod_eq_emod_of_nonneg h0]; exact hr
      have e3 : IntKind.i64.wrap m = m := IntWalk.i64_in _ (by omega)
      have e4 : IntKind.i64.wrap r = r := IntWalk.i64_in _ (by omega)
      have e5 : IntKind.i64.wrap (48 + r) = 48 + r := IntWalk.i64_in _ (by omega)
      have e6 : IntKind.u8.wrap (48 + r) = 48 + r := IntWalk.u8_in _ (by omega)
      clear h1 h2 h6 hs ih
      have kb := one_byte
      have kbd := one_byteD
      go_enter Tryd.func33, Tryd.ntmps33
      go_wp2_with fail
      (go_region_with ((go_at_call 33; go_loud (with_reducible refine (IH.out _).mono ?_); rintro e w1 ⟨rfl, hb⟩; (first | (have kb2 : (convert 62 9 (.slice (some ⟨w.heap.size, 0, none⟩) 1 1)).run Tryd.prog w1 = .ok (.string (bs [UInt8.ofNat (48 + r).toNat])) w1 := byte_drew hb) | skip))))
      all_goals
        go_wp2_with fail
        go_ret
        refine ⟨by rw [HD.out, ← bs_append]; rfl, ?_⟩
        first
          | exact ((Below.refl w.heap.size w).drew.trans hb).alloc (by have := hb.size; simpa using this) _
          | exact (((Below.refl w.heap.size w).alloc (Nat.le_refl _) _).drew).trans (hb.mono (by simp))
end Go.Proofs.YtadcmghjhgjeeacDoor
