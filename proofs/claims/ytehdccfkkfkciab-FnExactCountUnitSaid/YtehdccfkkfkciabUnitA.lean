/- Chapter 9: IsUnit, by the contracts of the functions. -/
import Derived.Test.YtehdccfkkfkciabMathUa
import Derived.Test.YtehdccfkkfkciabSpecN
import Derived.Test.YtehdccfkkfkciabImplGd
namespace Go.Proofs.Ytehdccfkkfkciab
open Go.RowKit

/-! ### Unit ones -/
set_option maxHeartbeats 400000 in
theorem vaUnit_any (a : Option Addr) (n cap : Nat) (xs : List Int) (m : Int) (w : World) (h : Has w a n cap xs) (hp : isPark xs = true) :
    Calls Try.prog 30 #[.slice a n cap, .int .i64 m] w (PostBool w (unitB xs m)) := by
  have hl := h.len
  obtain ⟨h1, h2, h3⟩ := isPark_iff.1 hp
  have HD : Hid (unitB xs m = allB (dists n xs) 0 m) := hid (by unfold unitB; rw [hl])
  have hge : ∀ i, i < n → 0 ≤ nth xs i ∧ nth xs i ≤ (n : Int) - 1 := fun i hi => by have := h2 _ (nth_mem (xs := xs) (i := i) (by omega)); omega
  have h8 : n ≤ 8 := by omega
  have h12 : (n : Int) ≤ 12 := by omega
  clear hl h1 h2 h3
  go_enter Try.func30, Try.ntmps30
  go_wp2_with fail
  refine (paDistances_any _ _ _ _ _ _ h h8 h12 hge).mono ?_
  rintro e w1 ⟨a1, cap1, rfl, hown1, hb1⟩
  go_wp2_with (go_at_call 58; refine (l1All_any _ _ _ _ _ _ _ hown1.has).mono ?_; rintro e w' ⟨rfl, rfl⟩)
  go_ret
  exact postBool HD.out.symm hb1
/-! ### Unit ones -/
theorem dists12 {xs : List Int} (h : isPark xs = true) : distsOf xs 12 = (dists 12 xs, true) := by
  obtain ⟨g1, g2, _⟩ := park_good h
  simp [distsOf, g1, g2]
theorem isCarNumber9_any (m : Int) (w : World) : Calls Try.prog 60 #[.int .i64 m] w fun e w' => e = .returned (.bool (inB m 0 8)) ∧ w = w' := by
  by_cases h1 : 0 ≤ m
  · by_cases h2 : m ≤ 8
    · have HR : Hid (inB m 0 8 = true) := hid (inB_iff.2 ⟨h1, h2⟩)
      go_enter Try.func60, Try.ntmps60
      go_wp2_with fail
      go_ret
      exact ⟨ret_bool HR.out.symm, rfl⟩
    · have HR : Hid (inB m 0 8 = false) := hid (inB_not.2 (by omega))
      go_enter Try.func60, Try.ntmps60
      go_wp2_with fail
      go_ret
      exact ⟨ret_bool HR.out.symm, rfl⟩
  · have HR : Hid (inB m 0 8 = false) := hid (inB_not.2 (by omega))
    go_enter Try.func60, Try.ntmps60
    go_wp2_with fail
    go_ret
    exact ⟨ret_bool HR.out.symm, rfl⟩
theorem isMost_any (m : Int) (w : World) : Calls Try.prog 31 #[.int .i64 m] w fun e w' => e = .returned (.bool (inB m 0 8)) ∧ w = w' := by
  go_enter Try.func31, Try.ntmps31
  go_wp2_with (go_at_call 60; refine (isCarNumber9_any _ _).mono ?_; rintro e w' ⟨rfl, rfl⟩)
  go_ret
  exact ⟨rfl, rfl⟩
set_option maxHeartbeats 400000 in
theorem implUnitB_any (a : Option Addr) (n cap : Nat) (xs : List Int) (m : Int) (w : World) (h : Has w a n cap xs) (hp : isPark xs = true) (hm : 0 ≤ m) :
    Calls Try.prog 33 #[.slice a n cap, .int .i64 m] w (PostBool w (unitB xs m)) := by
  have HU := hid (unit_great hp hm)
  have HG : Hid (greatOf xs 12 = (greatL (dists 12 xs), true)) := hid (by
    obtain ⟨g1, g2, _⟩ := park_good hp
    simp [greatOf, g1, g2])
  clear hp
  generalize greatL (dists 12 xs) = g at *
  go_enter Try.func33, Try.ntmps33
  go_wp2_with fail
  refine (greatest_any _ _ _ _ _ _ h).mono ?_
  rw [HG.out]
  rintro e w1 ⟨rfl, hb⟩
  go_wp2_with fail
  go_ret
  exact postBool HU.out hb
end Go.Proofs.Ytehdccfkkfkciab
