/- A number picked of many. -/
import Derived.Test.YtfkejkkplafciadCur
namespace Go.Proofs.Ytfkejkkplafciad
open Go.RowKit

set_option maxHeartbeats 800000 in
theorem pick_wide (g t : Nat) (n : Int) (w : World) (h : Cur w g t) (ht : t ≤ 100000) (hn : n ≤ 100000000) :
    Calls Try.prog 54 #[.pointer (some ⟨g, 0, none⟩), .int .i64 n] w fun e w' => ∃ v : Int, e = .returned (.int .i64 v) ∧ 0 ≤ v ∧ (v < n ∨ n ≤ 1 ∧ v = 0) ∧ v ≤ 65535 ∧ (∃ t', t ≤ t' ∧ t' ≤ t + 2 ∧ Cur w' g t') ∧ w.grownBy w' (some g) := by
  by_cases h1 : n ≤ 1
  · go_enter Try.func54, Try.ntmps54
    go_wp2_with fail
    go_ret
    exact ⟨0, rfl, Int.le_refl _, .inr ⟨h1, rfl⟩, by omega, ⟨t, Nat.le_refl _, by omega, h⟩, World.grownBy.refl _ _⟩
  · have h2 : 1 < n := by omega
    by_cases h3 : 200 < n
    · go_enter Try.func54, Try.ntmps54
      go_wp2_with fail
      refine (next_cur g t _ h (by omega)).mono ?_
      rintro e w1 ⟨v, rfl, v0, v1, hc1, hg1⟩
      go_wp2_with fail
      refine (next_cur g (t + 1) _ hc1 (by omega)).mono ?_
      rintro e w2 ⟨u, rfl, u0, u1, hc2, hg2⟩
      have hm0 : 0 ≤ (v * 256 + u) % n := Int.emod_nonneg _ (by omega)
      have hm1 : (v * 256 + u) % n < n := Int.emod_lt_of_pos _ (by omega)
      have hm2 : (v * 256 + u) % n ≤ v * 256 + u := by
        have e1 := Int.mul_ediv_add_emod (v * 256 + u) n
        have e2 : 0 ≤ n * ((v * 256 + u) / n) := Int.mul_nonneg (by omega) (Int.ediv_nonneg (by omega) (by omega))
        omega
      go_wp2_with fail
      go_ret
      exact ⟨_, rfl, hm0, .inl hm1, by omega, ⟨t + 2, by omega, by omega, hc2⟩, ⟨hg2.os.trans hg1.os, hg2.tape.trans hg1.tape, hg2.output.trans hg1.output, Nat.le_trans hg1.size hg2.size, fun j hj hne => (hg2.block j (Nat.lt_of_lt_of_le hj hg1.size) hne).trans (hg1.block j hj hne)⟩⟩
    · go_enter Try.func54, Try.ntmps54
      go_wp2_with fail
      refine (next_cur g t _ h (by omega)).mono ?_
      rintro e w1 ⟨v, rfl, v0, v1, hc1, hg1⟩
      have hm0 : 0 ≤ v % n := Int.emod_nonneg _ (by omega)
      have hm1 : v % n < n := Int.emod_lt_of_pos _ (by omega)
      go_wp2_with fail
      go_ret
      exact ⟨_, rfl, hm0, .inl hm1, by omega, ⟨t + 1, by omega, by omega, hc1⟩, hg1⟩

end Go.Proofs.Ytfkejkkplafciad
