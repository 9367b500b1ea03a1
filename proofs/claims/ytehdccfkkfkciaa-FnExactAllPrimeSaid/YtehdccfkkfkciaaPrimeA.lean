/- Chapter 9: IsPrime, by the contracts of the functions. -/
import Derived.Test.YtehdccfkkfkciaaMathVa
import Derived.Test.YtehdccfkkfkciaaSpecE
import Derived.Test.YtehdccfkkfkciaaImplG
namespace Go.Proofs.Ytehdccfkkfkciaa
open Go.RowKit

theorem prime_yes {xs : List Int} {n : Nat} (hl : xs.length = n) (hn : 0 < n) {m : Nat} (hm : (idxs (isCut xs) n).length = m) : primeB xs = ((m : Int) == 0) := by
  subst hl
  unfold primeB
  rw [Bool.eq_iff_iff]
  simp only [Bool.and_eq_true, decide_eq_true_eq, beq_iff_eq]
  constructor
  · rintro ⟨_, h⟩; rw [h] at hm; simp at hm; omega
  · intro h; exact ⟨hn, List.eq_nil_of_length_eq_zero (by omega)⟩
theorem prime_no {xs : List Int} (h : xs.length = 0) : primeB xs = false := by simp [primeB, h]

set_option maxHeartbeats 400000 in
theorem vaPrime_any (a : Option Addr) (n cap : Nat) (xs : List Int) (w : World) (h : Has w a n cap xs) :
    Calls Try.prog 35 #[.slice a n cap] w (PostBool w (primeB xs)) := by
  have HL := hid h.len
  by_cases hn : 0 < n
  · have hn' : (0 : Int) < (n : Int) := by omega
    go_enter Try.func35, Try.ntmps35
    go_wp2_with fail
    refine (paCuts_any _ _ _ _ _ h).mono ?_
    rintro e w1 ⟨a1, m, cap1, rfl, hown, hb⟩
    have HR := hid (prime_yes HL.out hn hown.len)
    go_wp2_with fail
    go_ret
    exact postBool HR.out.symm hb
  · have hn' : ¬ (0 : Int) < (n : Int) := by omega
    have HR := hid (prime_no (xs := xs) (by rw [HL.out]; omega))
    go_enter Try.func35, Try.ntmps35
    go_wp2_with fail
    go_ret
    exact postBool HR.out.symm (Below.refl _ _)

set_option maxHeartbeats 400000 in
theorem specPrime_any (a : Option Addr) (n cap : Nat) (xs : List Int) (w : World) (h : Has w a n cap xs) :
    Calls Try.prog 9 #[.slice a n cap] w (PostBools w (primeOf xs)) := by
  by_cases hg : isPark xs = true
  · have HR : Hid (primeOf xs = (primeB xs, true)) := hid (by simp [primeOf, hg])
    have HG := hid hg
    clear hg
    go_enter Try.func9, Try.ntmps9
    go_wp2_with (go_at_call 34; refine (paParking_any _ _ _ _ _ h).mono ?_; rintro e w1 ⟨rfl, hb1⟩; rw [HG.out])
    refine (vaPrime_any _ _ _ _ _ (h.below hb1 (Nat.le_refl _))).mono ?_
    rintro e w2 ⟨rfl, hb2⟩
    go_wp2_with fail
    go_ret2
    exact postBools HR.out (hb1.trans (hb2.mono hb1.size))
  · have HR : Hid (primeOf xs = (false, false)) := hid (by simp [primeOf, hg])
    have HG := hid hg
    clear hg
    go_enter Try.func9, Try.ntmps9
    go_wp2_with (go_at_call 34; refine (paParking_any _ _ _ _ _ h).mono ?_; rintro e w1 ⟨rfl, hb1⟩; rw [Bool.eq_false_iff.2 HG.out])
    go_ret2
    exact postBools HR.out hb1

theorem cuts_yes {xs : List Int} {n : Nat} (h : isPark xs = true) (hl : xs.length = n) : cutsOf xs = (idxs (isCut xs) n, true) := by subst hl; simp [cutsOf, h]
theorem cuts_no {xs : List Int} (h : ¬ isPark xs = true) : cutsOf xs = ([], false) := by simp [cutsOf, h]
set_option maxHeartbeats 400000 in
theorem implPrime_any (a : Option Addr) (n cap : Nat) (xs : List Int) (w : World) (h : Has w a n cap xs) :
    Calls Try.prog 11 #[.slice a n cap] w (PostBools w (primeOf xs)) := by
  have HL := hid h.len
  by_cases hg : isPark xs = true
  · have HR : Hid (primeOf xs = (primeB xs, true)) := hid (by simp [primeOf, hg])
    have HC := hid (cuts_yes hg h.len)
    clear hg
    by_cases hn : 0 < n
    · have hn' : (0 : Int) < (n : Int) := by omega
      go_enter Try.func11, Try.ntmps11
      go_wp2_with fail
      refine (cutsOf_any _ _ _ _ _ h).mono ?_
      rw [HC.out]
      rintro e w1 ⟨a1, m, cap1, rfl, hown, hb⟩
      have HP := hid (prime_yes HL.out hn hown.len)
      go_wp2_with fail
      go_ret2
      exact postBools (by rw [HR.out, HP.out]) hb
    · have hn' : ¬ (0 : Int) < (n : Int) := by omega
      have HP := hid (prime_no (xs := xs) (by rw [HL.out]; omega))
      go_enter Try.func11, Try.ntmps11
      go_wp2_with fail
      refine (cutsOf_any _ _ _ _ _ h).mono ?_
      rw [HC.out]
      rintro e w1 ⟨a1, m, cap1, rfl, hown, hb⟩
      go_wp2_with fail
      go_ret2
      exact postBools (by rw [HR.out, HP.out]) hb
  · have HR : Hid (primeOf xs = (false, false)) := hid (by simp [primeOf, hg])
    have HC := hid (cuts_no hg)
    clear hg
    go_enter Try.func11, Try.ntmps11
    go_wp2_with fail
    refine (cutsOf_any _ _ _ _ _ h).mono ?_
    rw [HC.out]
    rintro e w1 ⟨a1, m, cap1, rfl, hown, hb⟩
    go_wp2_with fail
    go_ret2
    exact postBools HR.out hb

end Go.Proofs.Ytehdccfkkfkciaa
