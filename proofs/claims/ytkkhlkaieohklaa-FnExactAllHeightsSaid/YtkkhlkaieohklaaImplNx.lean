/- The parking function behind one, the sorted one behind one: the program's functions, by their contracts. -/
import Derived.Test.YtkkhlkaieohklaaImplE
import Derived.Test.YtkkhlkaieohklaaSpecS
import Derived.Test.YtkkhlkaieohklaaImplUn
import Derived.Test.YtkkhlkaieohklaaIdx
import Derived.Test.YtkkhlkaieohklaaMathG
namespace Go.Proofs.Ytkkhlkaieohklaa
open Go.RowKit

set_option maxHeartbeats 800000 in
theorem pnext_any (a : Option Addr) (n cap : Nat) (xs : List Int) (w : World) (h : Has w a n cap xs) (h8 : n ≤ 8) (hx : ∀ i, i < n → 0 ≤ nth xs i ∧ nth xs i ≤ 8) :
    Calls Try.prog 51 #[.slice a n cap] w (PostInts w (nextP xs n)) := by
  have HE := hid (nextU_idx h.len h8 n (Nat.le_refl _))
  have HX : Hid (∀ i, i < n → 0 ≤ nth xs i ∧ nth xs i ≤ 13) := hid (fun i hi => by have := hx i hi; omega)
  obtain ⟨⟨ys, ok⟩, hr⟩ : ∃ r, nextP xs n = r := ⟨_, rfl⟩
  have HR := hid hr
  clear hr hx
  go_enter Try.func51, Try.ntmps51
  go_wp2_with fail
  refine (indices_any n _ (by omega)).mono ?_
  rintro e w1 ⟨a1, cap1, rfl, hown1, hb1⟩
  go_wp2_with fail
  refine (nextU_any _ _ _ _ _ _ _ _ (h.below hb1 (Nat.le_refl _)) hown1.has h8 HX.out).mono ?_
  rw [HE.out, HR.out]
  rintro e w2 ⟨a2, m2, cap2, rfl, hown2, hb2⟩
  go_wp2_with fail
  go_ret2
  exact postInts HR.out (hown2.mono hb1.size) (hb1.trans (hb2.mono hb1.size))

theorem parks_small {xs : List Int} {n : Nat} (h : isPark xs = true) (hn : xs.length = n) : n ≤ 8 ∧ ∀ i, i < n → 0 ≤ nth xs i ∧ nth xs i ≤ 8 := by
  obtain ⟨h1, h2⟩ := isPark_bounds h
  refine ⟨by omega, fun i hi => ?_⟩
  have := h2 _ (nth_mem (xs := xs) (i := i) (by omega))
  omega
theorem nextOf_none {xs : List Int} (h : ¬ isPark xs = true) : nextOf xs = ([], false) := by simp [nextOf, h]

set_option maxHeartbeats 800000 in
theorem nextParking_any (a : Option Addr) (n cap : Nat) (xs : List Int) (w : World) (h : Has w a n cap xs) :
    Calls Try.prog 14 #[.slice a n cap] w (PostInts w (nextOf xs)) := by
  by_cases hg : isPark xs = true
  · obtain ⟨h8, hx⟩ := parks_small hg h.len
    have HN : Hid (nextP xs n = nextOf xs) := hid (by rw [← h.len]; exact nextP_eq hg)
    have HG := hid hg
    clear hg
    go_enter Try.func14, Try.ntmps14
    go_wp2_with (go_at_call 49; refine (isParkingFunction_any _ _ _ _ _ h).mono ?_; rintro e w1 ⟨rfl, hb1⟩; rw [HG.out])
    refine (pnext_any _ _ _ _ _ (h.below hb1 (Nat.le_refl _)) h8 hx).mono ?_
    rw [HN.out]
    obtain ⟨⟨ys, ok⟩, hq⟩ : ∃ r, nextOf xs = r := ⟨_, rfl⟩
    rw [hq]
    have HQ := hid hq
    clear hq
    rintro e w2 ⟨a2, m2, cap2, rfl, hown2, hb2⟩
    go_wp2_with fail
    go_ret2
    exact postInts HQ.out (hown2.mono hb1.size) (hb1.trans (hb2.mono hb1.size))
  · have HN := hid (nextOf_none hg)
    have HG := hid hg
    clear hg
    go_enter Try.func14, Try.ntmps14
    go_wp2_with (go_at_call 49; refine (isParkingFunction_any _ _ _ _ _ h).mono ?_; rintro e w1 ⟨rfl, hb1⟩; rw [Bool.eq_false_iff.2 HG.out])
    go_ret2
    exact postInts_no HN.out hb1

set_option maxHeartbeats 800000 in
theorem pnextSorted_any (a : Option Addr) (n cap : Nat) (xs : List Int) (w : World) (h : Has w a n cap xs) (h8 : n ≤ 8) (hx : ∀ i, i < n → 0 ≤ nth xs i ∧ nth xs i ≤ 8) :
    Calls Try.prog 55 #[.slice a n cap] w (PostInts w (nextS xs n)) := by
  have HE := hid (nextW_idx (xs := xs) n (Nat.le_refl _))
  have HX : Hid (∀ i, i < n → 0 ≤ nth xs i ∧ nth xs i ≤ 13) := hid (fun i hi => by have := hx i hi; omega)
  obtain ⟨⟨ys, ok⟩, hr⟩ : ∃ r, nextS xs n = r := ⟨_, rfl⟩
  have HR := hid hr
  clear hr hx
  go_enter Try.func55, Try.ntmps55
  go_wp2_with fail
  refine (indices_any n _ (by omega)).mono ?_
  rintro e w1 ⟨a1, cap1, rfl, hown1, hb1⟩
  go_wp2_with fail
  refine (nextW_any _ _ _ _ _ _ _ _ (h.below hb1 (Nat.le_refl _)) hown1.has h8 HX.out).mono ?_
  rw [HE.out, HR.out]
  rintro e w2 ⟨a2, m2, cap2, rfl, hown2, hb2⟩
  go_wp2_with fail
  go_ret2
  exact postInts HR.out (hown2.mono hb1.size) (hb1.trans (hb2.mono hb1.size))
end Go.Proofs.Ytkkhlkaieohklaa
