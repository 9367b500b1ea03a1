/- Chapter 9: IsUnit, by the contracts of the functions. -/
import Derived.Test.YtehdccfkkfkciaaMathUa
import Derived.Test.YtehdccfkkfkciaaSpecN
import Derived.Test.YtehdccfkkfkciaaImplC
namespace Go.Proofs.Ytehdccfkkfkciaa
open Go.RowKit

/-! ### Unit ones -/
set_option maxHeartbeats 400000 in
theorem vaUnit_any (a : Option Addr) (n cap : Nat) (xs : List Int) (m : Int) (w : World) (h : Has w a n cap xs) (hp : isPark xs = true) :
    Calls Try.prog 49 #[.slice a n cap, .int .i64 m] w (PostBool w (unitB xs m)) := by
  have hl := h.len
  obtain ⟨h1, h2, h3⟩ := isPark_iff.1 hp
  have HD : Hid (unitB xs m = allB (dists n xs) 0 m) := hid (by unfold unitB; rw [hl])
  have hge : ∀ i, i < n → 0 ≤ nth xs i ∧ nth xs i ≤ (n : Int) - 1 := fun i hi => by have := h2 _ (nth_mem (xs := xs) (i := i) (by omega)); omega
  have h8 : n ≤ 8 := by omega
  have h12 : (n : Int) ≤ 12 := by omega
  clear hl h1 h2 h3
  go_enter Try.func49, Try.ntmps49
  go_wp2_with fail
  refine (paDistances_any _ _ _ _ _ _ h h8 h12 hge).mono ?_
  rintro e w1 ⟨a1, cap1, rfl, hown1, hb1⟩
  go_wp2_with (go_at_call 58; refine (l1All_any _ _ _ _ _ _ _ hown1.has).mono ?_; rintro e w' ⟨rfl, rfl⟩)
  go_ret
  exact postBool HD.out.symm hb1
set_option maxHeartbeats 400000 in
theorem specUnit_any (a : Option Addr) (n cap : Nat) (xs : List Int) (m : Int) (w : World) (h : Has w a n cap xs) :
    Calls Try.prog 23 #[.slice a n cap, .int .i64 m] w (PostBools w (isUnitOf xs m)) := by
  by_cases hg : isPark xs = true
  · have HG := hid hg
    by_cases hm : inB m 0 8 = true
    · have HR : Hid (isUnitOf xs m = (unitB xs m, true)) := hid (by simp [isUnitOf, hg, hm])
      have HM := hid hm
      clear hg hm
      go_enter Try.func23, Try.ntmps23
      go_wp2_with (first | (go_at_call 34; refine (paParking_any _ _ _ _ _ h).mono ?_; rintro e w1 ⟨rfl, hb1⟩; rw [HG.out]) | (go_at_call 48; refine (cnCars_any _ _).mono ?_; rintro e w' ⟨rfl, rfl⟩; rw [HM.out]))
      refine (vaUnit_any _ _ _ _ _ _ (h.below hb1 (Nat.le_refl _)) HG.out).mono ?_
      rintro e w2 ⟨rfl, hb2⟩
      go_wp2_with fail
      go_ret2
      exact postBools HR.out (hb1.trans (hb2.mono hb1.size))
    · have HR : Hid (isUnitOf xs m = (false, false)) := hid (by simp [isUnitOf, hm])
      have HM := hid hm
      clear hg hm
      go_enter Try.func23, Try.ntmps23
      go_wp2_with (first | (go_at_call 34; refine (paParking_any _ _ _ _ _ h).mono ?_; rintro e w1 ⟨rfl, hb1⟩; rw [HG.out]) | (go_at_call 48; refine (cnCars_any _ _).mono ?_; rintro e w' ⟨rfl, rfl⟩; rw [Bool.eq_false_iff.2 HM.out]))
      go_ret2
      exact postBools HR.out hb1
  · have HR : Hid (isUnitOf xs m = (false, false)) := hid (by simp [isUnitOf, hg])
    have HG := hid hg
    clear hg
    go_enter Try.func23, Try.ntmps23
    go_wp2_with (go_at_call 34; refine (paParking_any _ _ _ _ _ h).mono ?_; rintro e w1 ⟨rfl, hb1⟩; rw [Bool.eq_false_iff.2 HG.out])
    go_ret2
    exact postBools HR.out hb1
/-! ### Unit ones -/
theorem dists12 {xs : List Int} (h : isPark xs = true) : distsOf xs 12 = (dists 12 xs, true) := by
  obtain ⟨g1, g2, _⟩ := park_good h
  simp [distsOf, g1, g2]
theorem isCarNumber9_any (m : Int) (w : World) : Calls Try.prog 70 #[.int .i64 m] w fun e w' => e = .returned (.bool (inB m 0 8)) ∧ w = w' := by
  by_cases h1 : 0 ≤ m
  · by_cases h2 : m ≤ 8
    · have HR : Hid (inB m 0 8 = true) := hid (inB_iff.2 ⟨h1, h2⟩)
      go_enter Try.func70, Try.ntmps70
      go_wp2_with fail
      go_ret
      exact ⟨ret_bool HR.out.symm, rfl⟩
    · have HR : Hid (inB m 0 8 = false) := hid (inB_not.2 (by omega))
      go_enter Try.func70, Try.ntmps70
      go_wp2_with fail
      go_ret
      exact ⟨ret_bool HR.out.symm, rfl⟩
  · have HR : Hid (inB m 0 8 = false) := hid (inB_not.2 (by omega))
    go_enter Try.func70, Try.ntmps70
    go_wp2_with fail
    go_ret
    exact ⟨ret_bool HR.out.symm, rfl⟩
theorem isMost_any (m : Int) (w : World) : Calls Try.prog 50 #[.int .i64 m] w fun e w' => e = .returned (.bool (inB m 0 8)) ∧ w = w' := by
  go_enter Try.func50, Try.ntmps50
  go_wp2_with (go_at_call 70; refine (isCarNumber9_any _ _).mono ?_; rintro e w' ⟨rfl, rfl⟩)
  go_ret
  exact ⟨rfl, rfl⟩
def greatOf (xs : List Int) (p : Int) : Int × Bool := if good xs p && allPark p xs then (greatL (dists p xs), true) else (0, false)
theorem great_bounds {ys : List Int} (h : ∀ i, i < ys.length → 0 ≤ nth ys i ∧ nth ys i ≤ 12) : ∀ k, k ≤ ys.length → 0 ≤ greatL (ys.take k) ∧ greatL (ys.take k) ≤ 12
  | 0, _ => by simp [greatL]
  | k + 1, hk => by
    have := great_bounds h k (by omega)
    have := h k (by omega)
    rw [great_succ (by omega)]
    omega
set_option maxHeartbeats 800000 in
theorem greatest_any (a : Option Addr) (n cap : Nat) (xs : List Int) (p : Int) (w : World) (h : Has w a n cap xs) :
    Calls Try.prog 71 #[.slice a n cap, .int .i64 p] w (PostInt w (greatOf xs p)) := by
  by_cases hg : (good xs p && allPark p xs) = true
  · have HR : Hid (greatOf xs p = (greatL (dists p xs), true)) := hid (by simp only [greatOf, if_pos hg])
    have HD := hid (dists_yes hg)
    clear hg
    go_enter Try.func71, Try.ntmps71
    go_wp2_with fail
    refine (distancesOf_any _ _ _ _ _ _ h).mono ?_
    rw [HD.out]
    rintro e w1 ⟨a1, m, cap1, rfl, hown, hb⟩
    have HS := hid (fun k (hk : k < m) => great_succ (ys := dists p xs) (k := k) (by rw [hown.len]; exact hk))
    have HT := hid (List.take_of_length_le (l := dists p xs) (i := m) (by rw [hown.len]; exact Nat.le_refl _))
    obtain ⟨_, h1, h2, h3, h4⟩ := hown.has
    clear hown HD
    generalize dists p xs = ys at *
    go_wp2_with fail
    go_loop [8, 21] (fun g i => ∃ (k : Nat) (v : Int), k ≤ m ∧ i = .int .i64 (k : Int) ∧ g = .int .i64 v ∧ Hid (v = greatL (ys.take k))) (fun _ i => m - (intOf i).toNat)
    case atStart => exact ⟨0, 0, Nat.zero_le _, rfl, rfl, hid rfl⟩
    case round =>
      obtain ⟨k, v, hk, rfl, rfl, HV⟩ := hrel
      by_cases hlt : k < m
      · obtain ⟨b, off, rfl, hbb, hc⟩ := h4 (by omega)
        have hck := hc k hlt
        have HS' := hid (HS.out k hlt)
        clear hc
        go_wp2_with fail
        go_round
        case rel => exact ⟨k + 1, _, by omega, by go_num, rfl, hid (by rw [HS'.out, HV.out]; split <;> omega)⟩
        case measure => simp [intOf]; omega
      · obtain rfl : k = m := by omega
        go_wp2_with fail
        go_ret2
        exact postInt (by rw [HR.out, HV.out, HT.out]) hb
  · have HR : Hid (greatOf xs p = (0, false)) := hid (by simp only [greatOf, if_neg hg])
    have HD := hid (dists_no hg)
    clear hg
    go_enter Try.func71, Try.ntmps71
    go_wp2_with fail
    refine (distancesOf_any _ _ _ _ _ _ h).mono ?_
    rw [HD.out]
    rintro e w1 ⟨a1, m, cap1, rfl, hown, hb⟩
    go_wp2_with fail
    go_ret2
    exact postInt HR.out hb
set_option maxHeartbeats 400000 in
theorem implUnitB_any (a : Option Addr) (n cap : Nat) (xs : List Int) (m : Int) (w : World) (h : Has w a n cap xs) (hp : isPark xs = true) (hm : 0 ≤ m) :
    Calls Try.prog 51 #[.slice a n cap, .int .i64 m] w (PostBool w (unitB xs m)) := by
  have HU := hid (unit_great hp hm)
  have HG : Hid (greatOf xs 12 = (greatL (dists 12 xs), true)) := hid (by
    obtain ⟨g1, g2, _⟩ := park_good hp
    simp [greatOf, g1, g2])
  clear hp
  generalize greatL (dists 12 xs) = g at *
  go_enter Try.func51, Try.ntmps51
  go_wp2_with fail
  refine (greatest_any _ _ _ _ _ _ h).mono ?_
  rw [HG.out]
  rintro e w1 ⟨rfl, hb⟩
  go_wp2_with fail
  go_ret
  exact postBool HU.out hb
set_option maxHeartbeats 400000 in
theorem implUnit_any (a : Option Addr) (n cap : Nat) (xs : List Int) (m : Int) (w : World) (h : Has w a n cap xs) :
    Calls Try.prog 24 #[.slice a n cap, .int .i64 m] w (PostBools w (isUnitOf xs m)) := by
  by_cases hg : isPark xs = true
  · have HG := hid hg
    by_cases hm : inB m 0 8 = true
    · have HR : Hid (isUnitOf xs m = (unitB xs m, true)) := hid (by simp [isUnitOf, hg, hm])
      have HM := hid hm
      have hm0 : 0 ≤ m := (inB_iff.1 hm).1
      clear hg hm
      go_enter Try.func24, Try.ntmps24
      go_wp2_with (first | (go_at_call 37; refine (isParkingFunction_any _ _ _ _ _ h).mono ?_; rintro e w1 ⟨rfl, hb1⟩; rw [HG.out]) | (go_at_call 50; refine (isMost_any _ _).mono ?_; rintro e w' ⟨rfl, rfl⟩; rw [HM.out]))
      refine (implUnitB_any _ _ _ _ _ _ (h.below hb1 (Nat.le_refl _)) HG.out hm0).mono ?_
      rintro e w2 ⟨rfl, hb2⟩
      go_wp2_with fail
      go_ret2
      exact postBools HR.out (hb1.trans (hb2.mono hb1.size))
    · have HR : Hid (isUnitOf xs m = (false, false)) := hid (by simp [isUnitOf, hm])
      have HM := hid hm
      clear hg hm
      go_enter Try.func24, Try.ntmps24
      go_wp2_with (first | (go_at_call 37; refine (isParkingFunction_any _ _ _ _ _ h).mono ?_; rintro e w1 ⟨rfl, hb1⟩; rw [HG.out]) | (go_at_call 50; refine (isMost_any _ _).mono ?_; rintro e w' ⟨rfl, rfl⟩; rw [Bool.eq_false_iff.2 HM.out]))
      go_ret2
      exact postBools HR.out hb1
  · have HR : Hid (isUnitOf xs m = (false, false)) := hid (by simp [isUnitOf, hg])
    have HG := hid hg
    clear hg
    go_enter Try.func24, Try.ntmps24
    go_wp2_with (go_at_call 37; refine (isParkingFunction_any _ _ _ _ _ h).mono ?_; rintro e w1 ⟨rfl, hb1⟩; rw [Bool.eq_false_iff.2 HG.out])
    go_ret2
    exact postBools HR.out hb1
end Go.Proofs.Ytehdccfkkfkciaa
