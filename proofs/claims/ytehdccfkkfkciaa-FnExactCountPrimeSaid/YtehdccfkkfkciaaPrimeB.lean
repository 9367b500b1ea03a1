/- Chapter 9: CountPrime, by the contracts of the functions. -/
import Derived.Test.YtehdccfkkfkciaaMathVa
import Derived.Test.YtehdccfkkfkciaaSpecN
import Derived.Test.YtehdccfkkfkciaaPow
namespace Go.Proofs.Ytehdccfkkfkciaa
open Go.RowKit

theorem cntPrime_yes {n : Int} (h : inB n 1 8 = true) : cntPrimeOf n = ((((n.toNat - 1) ^ (n.toNat - 1) : Nat) : Int), true) := by simp [cntPrimeOf, h]
theorem cntPrime_no {n : Int} (h : ¬ inB n 1 8 = true) : cntPrimeOf n = (0, false) := by simp [cntPrimeOf, h]
set_option maxHeartbeats 400000 in
theorem specCntPrime_any (n : Int) (w : World) : Calls Try.prog 19 #[.int .i64 n] w (PostInt w (cntPrimeOf n)) := by
  by_cases hg : inB n 1 8 = true
  · obtain ⟨m, rfl⟩ : ∃ m : Nat, n = (m : Int) + 1 := ⟨(n - 1).toNat, by have := inB_iff.1 hg; omega⟩
    have hm : m ≤ 7 := by have := inB_iff.1 hg; omega
    have HA : Hid (cntPrimeOf ((m : Int) + 1) = (((m ^ m : Nat) : Int), true)) := hid (by rw [cntPrime_yes hg, show ((m : Int) + 1).toNat - 1 = m by omega])
    have hwr : IntKind.i64.wrap ((m : Int) + 1 - 1) = (m : Int) := by rw [IntKind.wrap_i64]; omega
    have he : (m : Int) + 1 - 1 = (m : Int) := by omega
    have HG := hid hg
    clear hg
    go_enter Try.func19, Try.ntmps19
    go_wp2_with (first | (go_at_call 42; refine (l1In_any _ _ _ _).mono ?_; rintro e w' ⟨rfl, rfl⟩; rw [HG.out]) | (go_at_call 43; refine (cnPower_any m m _ (by omega) (by omega)).mono ?_; rintro e w' ⟨rfl, rfl⟩))
    go_ret2
    exact postInt HA.out (Below.refl _ _)
  · have HA := hid (cntPrime_no hg)
    have HG := hid hg
    clear hg
    go_enter Try.func19, Try.ntmps19
    go_wp2_with (go_at_call 42; refine (l1In_any _ _ _ _).mono ?_; rintro e w' ⟨rfl, rfl⟩; rw [Bool.eq_false_iff.2 HG.out])
    go_ret2
    exact postInt HA.out (Below.refl _ _)

set_option maxHeartbeats 400000 in
theorem implCntPrime_any (n : Int) (w : World) : Calls Try.prog 20 #[.int .i64 n] w (PostInt w (cntPrimeOf n)) := by
  by_cases hg : inB n 1 8 = true
  · obtain ⟨m, rfl⟩ : ∃ m : Nat, n = (m : Int) + 1 := ⟨(n - 1).toNat, by have := inB_iff.1 hg; omega⟩
    have hm : m ≤ 7 := by have := inB_iff.1 hg; omega
    have HA : Hid (cntPrimeOf ((m : Int) + 1) = (((m ^ m : Nat) : Int), true)) := hid (by rw [cntPrime_yes hg, show ((m : Int) + 1).toNat - 1 = m by omega])
    have hwr : IntKind.i64.wrap ((m : Int) + 1 - 1) = (m : Int) := by rw [IntKind.wrap_i64]; omega
    have he : (m : Int) + 1 - 1 = (m : Int) := by omega
    have h1 : ¬ (m : Int) + 1 < 1 := by omega
    have h2 : ¬ (8 : Int) < (m : Int) + 1 := by omega
    clear hg
    go_enter Try.func20, Try.ntmps20
    go_wp2_with (go_at_call 44; refine (pow_any m m _ _ _ rfl rfl (by omega) (by omega)).mono ?_; rintro e w' ⟨rfl, rfl⟩)
    go_ret2
    exact postInt HA.out (Below.refl _ _)
  · have HA := hid (cntPrime_no hg)
    have hc := inB_not.1 (Bool.eq_false_iff.2 hg)
    clear hg
    by_cases h1 : n < 1
    · go_enter Try.func20, Try.ntmps20
      go_wp2_with fail
      go_ret2
      exact postInt HA.out (Below.refl _ _)
    · have h2 : (8 : Int) < n := by omega
      go_enter Try.func20, Try.ntmps20
      go_wp2_with fail
      go_ret2
      exact postInt HA.out (Below.refl _ _)

end Go.Proofs.Ytehdccfkkfkciaa
