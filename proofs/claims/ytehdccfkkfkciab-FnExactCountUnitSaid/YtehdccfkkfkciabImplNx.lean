/- The parking function behind one, the sorted one behind one: the program's functions, by their contracts. -/
import Derived.Test.YtehdccfkkfkciabImplE
import Derived.Test.YtehdccfkkfkciabSpecS
import Derived.Test.YtehdccfkkfkciabImplUn
import Derived.Test.YtehdccfkkfkciabIdx
import Derived.Test.YtehdccfkkfkciabMathG
namespace Go.Proofs.Ytehdccfkkfkciab
open Go.RowKit

set_option maxHeartbeats 800000 in
theorem pnext_any (a : Option Addr) (n cap : Nat) (xs : List Int) (w : World) (h : Has w a n cap xs) (h8 : n ≤ 8) (hx : ∀ i, i < n → 0 ≤ nth xs i ∧ nth xs i ≤ 8) :
    Calls Try.prog 62 #[.slice a n cap] w (PostInts w (nextP xs n)) := by
  have HE := hid (nextU_idx h.len h8 n (Nat.le_refl _))
  have HX : Hid (∀ i, i < n → 0 ≤ nth xs i ∧ nth xs i ≤ 13) := hid (fun i hi => by have := hx i hi; omega)
  obtain ⟨⟨ys, ok⟩, hr⟩ : ∃ r, nextP xs n = r := ⟨_, rfl⟩
  have HR := hid hr
  clear hr hx
  go_enter Try.func62, Try.ntmps62
  go_wp2_with fail
  refine (indices_any n _ (by omega)).mono ?_
  rintro e w1 ⟨a1, cap1, rfl, hown1, hb1⟩
  go_wp2_with fail
  refine (nextU_any _ _ _ _ _ _ _ _ (h.below hb1 (Nat.le_refl _)) hown1.has h8 HX.out).mono ?_
  rw [HE.out, HR.out]
  rintro e w2 ⟨a2, m2, cap2, rfl, hown2, hb2⟩
  go_wp2_with fail
  go_ret2
  exact postInts HR.out (hown2.mono hb1.size) (hb1.trans (hb2.mono hb1.size))

theorem parks_small {xs : List Int} {n : Nat} (h : isPark xs = true) (hn : xs.length = n) : n ≤ 8 ∧ ∀ i, i < n → 0 ≤ nth xs i ∧ nth xs i ≤ 8 := by
  obtain ⟨h1, h2⟩ := isPark_bounds h
  refine ⟨by omega, fun i hi => ?_⟩
  have := h2 _ (nth_mem (xs := xs) (i := i) (by omega))
  omega
theorem nextOf_none {xs : List Int} (h : ¬ isPark xs = true) : nextOf xs = ([], false) := by simp [nextOf, h]

end Go.Proofs.Ytehdccfkkfkciab
