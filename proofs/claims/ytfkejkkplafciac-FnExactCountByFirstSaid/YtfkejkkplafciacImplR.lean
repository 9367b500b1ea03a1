/- The program's ranks and counts by first favourites, by their contracts. -/
import Derived.Test.YtfkejkkplafciacImplN
import Derived.Test.YtfkejkkplafciacImplU
import Derived.Test.YtfkejkkplafciacSpecAt
namespace Go.Proofs.Ytfkejkkplafciac
open Go.RowKit

theorem rkB_idx {xs : List Int} {n : Nat} (hl : xs.length = n) : rkB (idx n) xs = rkTo xs n n := by
  unfold rkB rkTo
  rw [rk_idx, List.take_of_length_le (Nat.le_of_eq hl)]
theorem und_park {xs : List Int} {n : Nat} (h : isPark xs = true) (hl : xs.length = n) : und (idx n) xs = true := by
  rw [und_idx hl (by have := (isPark_bounds h).1; omega)]
  exact h

set_option maxHeartbeats 800000 in
theorem rank_any (a : Option Addr) (n cap : Nat) (xs : List Int) (w : World) (h : Has w a n cap xs) :
    Calls Try.prog 13 #[.slice a n cap] w (PostInt w (rankOf xs)) := by
  by_cases hg : isPark xs = true
  · have HR : Hid (rankOf xs = ((rkB (idx n) xs : Int), true)) := hid (by rw [rankOf_yes hg, h.len, rkB_idx h.len])
    have h8 : n ≤ 8 := by have := (isPark_bounds hg).1; have := h.len; omega
    have HU := hid (und_park hg h.len)
    have HS := hid (sml_idx h8)
    have HG := hid hg
    clear hg
    go_enter Try.func13, Try.ntmps13
    go_wp2_with (go_at_call 37; refine (isParkingFunction_any _ _ _ _ _ h).mono ?_; rintro e w0 ⟨rfl, hb0⟩; rw [HG.out])
    refine (indices_any n _ (by omega)).mono ?_
    rintro e w1 ⟨a1, cap1, rfl, hown1, hb1⟩
    have hb01 := hb0.trans (hb1.mono hb0.size)
    go_wp2_with fail
    refine (rankU_any _ _ _ _ _ _ _ _ (h.below hb01 (Nat.le_refl _)) hown1.has HS HU.out).mono ?_
    rintro e w2 ⟨rfl, hb2⟩
    go_wp2_with fail
    go_ret2
    exact postInt HR.out (hb01.trans (hb2.mono hb01.size))
  · have HR := hid (rankOf_no hg)
    have HG := hid hg
    clear hg
    go_enter Try.func13, Try.ntmps13
    go_wp2_with (go_at_call 37; refine (isParkingFunction_any _ _ _ _ _ h).mono ?_; rintro e w0 ⟨rfl, hb0⟩; rw [Bool.eq_false_iff.2 HG.out])
    go_ret2
    exact postInt HR.out hb0

theorem firsts_idx (n : Nat) : nextsU (idx n) [] (numB (idx n)) = firsts n n := by
  rw [numB_idx]
  unfold nextsU firsts
  apply List.map_congr_left
  intro x _
  rw [N_idx]
  rfl

set_option maxHeartbeats 400000 in
theorem countByFirst_any (n : Int) (w : World) : Calls Try.prog 22 #[.int .i64 n] w (PostInts w (firstOf n)) := by
  by_cases h1 : 1 ≤ n
  · by_cases h2 : n ≤ 8
    · obtain ⟨m, rfl⟩ : ∃ m : Nat, n = (m : Int) := ⟨n.toNat, by omega⟩
      have HA : Hid (firstOf m = (nextsU (idx m) [] (numB (idx m)), true)) := hid (by rw [firsts_idx]; exact firstOf_yes (inB_iff.2 ⟨h1, h2⟩))
      have HS := hid (sml_idx (n := m) (by omega))
      go_enter Try.func22, Try.ntmps22
      go_wp2_with fail
      refine (indices_any m _ (by omega)).mono ?_
      rintro e w1 ⟨a1, cap1, rfl, hown1, hb1⟩
      go_wp2_with fail
      refine (cNext_any none _ 0 0 _ _ [] _ _ (Has.nilAt none (by unfold maxLen; omega)) hown1.has HS (by omega)).mono ?_
      rintro e w3 ⟨a3, cap3, rfl, hown3, hb3⟩
      go_wp2_with fail
      go_ret2
      exact postInts HA.out (hown3.mono hb1.size) (hb1.trans (hb3.mono hb1.size))
    · have HA := hid (firstOf_no (n := n) (by rw [Bool.not_eq_true, inB_not]; omega))
      go_enter Try.func22, Try.ntmps22
      go_wp2_with fail
      go_ret2
      exact postInts_no HA.out (Below.refl _ _)
  · have HA := hid (firstOf_no (n := n) (by rw [Bool.not_eq_true, inB_not]; omega))
    go_enter Try.func22, Try.ntmps22
    go_wp2_with fail
    go_ret2
    exact postInts_no HA.out (Below.refl _ _)

theorem atB_idx (n R : Nat) : atB (idx n) R = toI (atL n n [] R) := by
  unfold atB
  rw [length_idx, at_idx]

set_option maxHeartbeats 800000 in
theorem parkingAt_any (n r : Int) (w : World) : Calls Try.prog 16 #[.int .i64 n, .int .i64 r] w (PostInts w (atOf n r)) := by
  by_cases hg : inB n 0 8 = true
  · obtain ⟨m, rfl⟩ : ∃ m : Nat, n = (m : Int) := ⟨n.toNat, by have := inB_iff.1 hg; omega⟩
    have hm : m ≤ 8 := by have := inB_iff.1 hg; omega
    obtain ⟨c1, c2⟩ := cnt_le hm
    have HST := hid (streetCnt_self m (by omega))
    by_cases h0 : 0 ≤ r
    · by_cases hlt : r < (cnt m : Int)
      · obtain ⟨R, rfl⟩ : ∃ R : Nat, r = (R : Int) := ⟨r.toNat, by omega⟩
        have hR : R < cnt m := by omega
        have HA : Hid (atOf m R = (atB (idx m) R, true)) := hid (by rw [atB_idx]; exact atOf_yes hm hR)
        have HRC : Hid (R < cntB (idx m)) := hid (by rw [cnt_idx hm]; exact hR)
        have HS := hid (sml_idx hm)
        have HG := hid hg
        have hnl : ¬ (cnt m : Int) ≤ (R : Int) := by omega
        clear hg
        go_enter Try.func16, Try.ntmps16
        go_wp2_with (first | (go_at_call 44; refine (isCarNumber_any _ _).mono ?_; rintro e w' ⟨rfl, rfl⟩; rw [HG.out]) | (go_at_call 45; refine (streetN_any _ _ _ hm (by omega)).mono ?_; rintro e w' ⟨rfl, rfl⟩; rw [HST.out]))
        refine (indices_any m _ (by omega)).mono ?_
        rintro e w1 ⟨a1, cap1, rfl, hown1, hb1⟩
        go_wp2_with fail
        refine (listU_any R _ _ _ _ _ hown1.has HS HRC.out).mono ?_
        rintro e w2 ⟨a2, cap2, rfl, hown2, hb2⟩
        go_wp2_with fail
        go_ret2
        exact postInts HA.out (hown2.mono hb1.size) (hb1.trans (hb2.mono hb1.size))
      · have HA := hid (atOf_no2 (n := m) (r := r) (by rw [Bool.not_eq_true, inB_not]; omega))
        have HG := hid hg
        have hnl : (cnt m : Int) ≤ r := by omega
        clear hg
        go_enter Try.func16, Try.ntmps16
        go_wp2_with (first | (go_at_call 44; refine (isCarNumber_any _ _).mono ?_; rintro e w' ⟨rfl, rfl⟩; rw [HG.out]) | (go_at_call 45; refine (streetN_any _ _ _ hm (by omega)).mono ?_; rintro e w' ⟨rfl, rfl⟩; rw [HST.out]))
        go_ret2
        exact postInts_no HA.out (Below.refl _ _)
    · have HA := hid (atOf_no2 (n := m) (r := r) (by rw [Bool.not_eq_true, inB_not]; omega))
      have HG := hid hg
      clear hg
      go_enter Try.func16, Try.ntmps16
      go_wp2_with (first | (go_at_call 44; refine (isCarNumber_any _ _).mono ?_; rintro e w' ⟨rfl, rfl⟩; rw [HG.out]))
      go_ret2
      exact postInts_no HA.out (Below.refl _ _)
  · have HA := hid (atOf_no1 (r := r) hg)
    have HG := hid hg
    clear hg
    go_enter Try.func16, Try.ntmps16
    go_wp2_with (go_at_call 44; refine (isCarNumber_any _ _).mono ?_; rintro e w' ⟨rfl, rfl⟩; rw [Bool.eq_false_iff.2 HG.out])
    go_ret2
    exact postInts_no HA.out (Below.refl _ _)
end Go.Proofs.Ytfkejkkplafciac
