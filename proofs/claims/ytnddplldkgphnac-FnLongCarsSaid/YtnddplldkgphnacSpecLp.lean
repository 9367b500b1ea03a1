/- The model's functions of chapter 5, by their contracts: long parking functions, their count. -/
import Derived.Test.YtnddplldkgphnacSpecLo
namespace Go.Proofs.Ytnddplldkgphnac
open Go.RowKit

theorem task_facts {xs ls : List Int} {n m : Nat} (h : taskB xs ls = true) (hn : xs.length = n) (hm : ls.length = m) : lenB ls = true ∧ n = m ∧ ∃ P : Nat, total ls = (P : Int) ∧ ∀ i, i < n → 0 ≤ nth xs i ∧ nth xs i ≤ (P : Int) - 1 := by
  unfold taskB at h
  simp only [Bool.and_eq_true, decide_eq_true_eq] at h
  obtain ⟨h1, h2, h3⟩ := h
  obtain ⟨-, t1, -, -, -, -⟩ := lenB_sum h1
  refine ⟨h1, by omega, (total ls).toNat, by omega, fun i hi => ?_⟩
  have := allB_nth h3 (k := i) (by omega)
  omega

set_option maxHeartbeats 400000 in
theorem specDriveLong_any (a b : Option Addr) (n cap m capl : Nat) (xs ls : List Int) (w : World) (h : Has w a n cap xs) (h' : Has w b m capl ls) :
    Calls Try.prog 15 #[.slice a n cap, .slice b m capl] w (PostInts w (driveLongOf xs ls)) := by
  by_cases hg : taskB xs ls = true
  · obtain ⟨hl, hnm, P, hP, hge⟩ := task_facts hg h.len h'.len
    have hcal := loDrive_any _ _ _ _ _ _ P _ _ _ h h' hnm hl hP hge
    have HCAL := hid hcal
    have HG := hid hg
    have HN := hid h.len
    have HK := hid (longN_ok xs ls)
    have HLE := hid (longN_le xs ls)
    by_cases hm : longOk xs ls = true
    · have HR : Hid (driveLongOf xs ls = (longN xs ls, true)) := hid (by simp [driveLongOf, hg, hm])
      have HM := hid hm
      clear hg hm hl hnm hP hge hcal
      go_enter Try.func15, Try.ntmps15
      go_wp2_with (go_at_call 57; refine (loTask_any _ _ _ _ _ _ _ _ _ h h').mono ?_; rintro e w' ⟨rfl, rfl⟩; rw [HG.out])
      refine HCAL.out.mono ?_
      rintro e w1 ⟨a1, k1, cap1, rfl, hown1, hb1⟩
      have hk : ¬ (k1 : Int) < (n : Int) := by
        have := hown1.len
        have := HK.out.2 HM.out
        have := HN.out
        omega
      go_wp2_with fail
      go_ret2
      exact postInts HR.out hown1 hb1
    · have HR : Hid (driveLongOf xs ls = ([], false)) := hid (by simp [driveLongOf, hm])
      have HM := hid hm
      clear hg hm hl hnm hP hge hcal
      go_enter Try.func15, Try.ntmps15
      go_wp2_with (go_at_call 57; refine (loTask_any _ _ _ _ _ _ _ _ _ h h').mono ?_; rintro e w' ⟨rfl, rfl⟩; rw [HG.out])
      refine HCAL.out.mono ?_
      rintro e w1 ⟨a1, k1, cap1, rfl, hown1, hb1⟩
      have hk : (k1 : Int) < (n : Int) := by
        have h1 := hown1.len
        have h2 := HLE.out
        have h3 := HN.out
        have h4 : (longN xs ls).length ≠ xs.length := fun e => HM.out (HK.out.1 e)
        omega
      go_wp2_with fail
      go_ret2
      exact postInts_no HR.out hb1
  · have HR : Hid (driveLongOf xs ls = ([], false)) := hid (by simp [driveLongOf, hg])
    have HG := hid hg
    clear hg
    go_enter Try.func15, Try.ntmps15
    go_wp2_with (go_at_call 57; refine (loTask_any _ _ _ _ _ _ _ _ _ h h').mono ?_; rintro e w' ⟨rfl, rfl⟩; rw [Bool.eq_false_iff.2 HG.out])
    go_ret2
    exact postInts_no HR.out (Below.refl _ _)

set_option maxHeartbeats 400000 in
theorem specIsLong_any (a b : Option Addr) (n cap m capl : Nat) (xs ls : List Int) (w : World) (h : Has w a n cap xs) (h' : Has w b m capl ls) :
    Calls Try.prog 17 #[.slice a n cap, .slice b m capl] w (PostBools w (isLongOf xs ls)) := by
  by_cases hg : taskB xs ls = true
  · obtain ⟨hl, hnm, P, hP, hge⟩ := task_facts hg h.len h'.len
    have hcal := loDrive_any _ _ _ _ _ _ P _ _ _ h h' hnm hl hP hge
    have HCAL := hid hcal
    have HG := hid hg
    have HN := hid h.len
    have HK := hid (longN_ok xs ls)
    have HR : Hid (isLongOf xs ls = (longOk xs ls, true)) := hid (by simp [isLongOf, hg])
    clear hg hl hnm hP hge hcal
    go_enter Try.func17, Try.ntmps17
    go_wp2_with (go_at_call 57; refine (loTask_any _ _ _ _ _ _ _ _ _ h h').mono ?_; rintro e w' ⟨rfl, rfl⟩; rw [HG.out])
    refine HCAL.out.mono ?_
    rintro e w1 ⟨a1, k1, cap1, rfl, hown1, hb1⟩
    have HKB : Hid (((k1 : Int) == (n : Int)) = longOk xs ls) := hid (by
      have h1 := hown1.len
      have h2 := HK.out
      rw [h1, HN.out] at h2
      by_cases e : longOk xs ls = true
      · have := h2.2 e
        rw [e]
        simp
        omega
      · have : ¬ k1 = n := fun x => e (h2.1 x)
        have e' : longOk xs ls = false := by simpa using e
        rw [e']
        simp
        omega)
    go_wp2_with fail
    go_ret2
    exact postBools (by rw [HR.out, ← HKB.out]) hb1
  · have HR : Hid (isLongOf xs ls = (false, false)) := hid (by simp [isLongOf, hg])
    have HG := hid hg
    clear hg
    go_enter Try.func17, Try.ntmps17
    go_wp2_with (go_at_call 57; refine (loTask_any _ _ _ _ _ _ _ _ _ h h').mono ?_; rintro e w' ⟨rfl, rfl⟩; rw [Bool.eq_false_iff.2 HG.out])
    go_ret2
    exact postBools HR.out (Below.refl _ _)

set_option maxHeartbeats 400000 in
theorem specBlocked_any (a b : Option Addr) (n cap m capl : Nat) (xs ls : List Int) (w : World) (h : Has w a n cap xs) (h' : Has w b m capl ls) :
    Calls Try.prog 19 #[.slice a n cap, .slice b m capl] w (PostInt w (blockedOf xs ls)) := by
  by_cases hg : taskB xs ls = true
  · obtain ⟨hl, hnm, P, hP, hge⟩ := task_facts hg h.len h'.len
    have hcal := loDrive_any _ _ _ _ _ _ P _ _ _ h h' hnm hl hP hge
    have HCAL := hid hcal
    have HG := hid hg
    have HN := hid h.len
    have HK := hid (longN_ok xs ls)
    by_cases hm : longOk xs ls = true
    · have HR : Hid (blockedOf xs ls = (0, false)) := hid (by simp [blockedOf, hm])
      have HM := hid hm
      clear hg hm hl hnm hP hge hcal
      go_enter Try.func19, Try.ntmps19
      go_wp2_with (go_at_call 57; refine (loTask_any _ _ _ _ _ _ _ _ _ h h').mono ?_; rintro e w' ⟨rfl, rfl⟩; rw [HG.out])
      refine HCAL.out.mono ?_
      rintro e w1 ⟨a1, k1, cap1, rfl, hown1, hb1⟩
      have hk : ((k1 : Int) == (n : Int)) = true := by
        have h1 := hown1.len
        have h2 := HK.out.2 HM.out
        have h3 := HN.out
        simp
        omega
      go_wp2_with fail
      go_ret2
      exact postInt HR.out hb1
    · have HR : Hid (blockedOf xs ls = (((longN xs ls).length : Int), true)) := hid (by simp [blockedOf, hg, hm])
      have HM := hid hm
      clear hg hm hl hnm hP hge hcal
      go_enter Try.func19, Try.ntmps19
      go_wp2_with (go_at_call 57; refine (loTask_any _ _ _ _ _ _ _ _ _ h h').mono ?_; rintro e w' ⟨rfl, rfl⟩; rw [HG.out])
      refine HCAL.out.mono ?_
      rintro e w1 ⟨a1, k1, cap1, rfl, hown1, hb1⟩
      have hk : ((k1 : Int) == (n : Int)) = false := by
        have h1 := hown1.len
        have h3 := HN.out
        have h4 : (longN xs ls).length ≠ xs.length := fun e => HM.out (HK.out.1 e)
        simp
        omega
      go_wp2_with fail
      go_ret2
      exact postInt (by rw [HR.out, hown1.len]) hb1
  · have HR : Hid (blockedOf xs ls = (0, false)) := hid (by simp [blockedOf, hg])
    have HG := hid hg
    clear hg
    go_enter Try.func19, Try.ntmps19
    go_wp2_with (go_at_call 57; refine (loTask_any _ _ _ _ _ _ _ _ _ h h').mono ?_; rintro e w' ⟨rfl, rfl⟩; rw [Bool.eq_false_iff.2 HG.out])
    go_ret2
    exact postInt HR.out (Below.refl _ _)

theorem mul_bounds {x y : Int} (h1 : 1 ≤ x) (h2 : x ≤ 37822859361) (h3 : 1 ≤ y) (h4 : y ≤ 21) : 1 ≤ x * y ∧ x * y ≤ 794280046581 := by
  have a := Int.mul_le_mul h1 h3 (by omega) (by omega)
  have b := Int.mul_le_mul h2 h4 (by omega) (by omega)
  omega

set_option maxHeartbeats 800000 in
theorem specCountLong_any (b : Option Addr) (m capl : Nat) (ls : List Int) (w : World) (h' : Has w b m capl ls) :
    Calls Try.prog 28 #[.slice b m capl] w (PostInt w (countLongOf ls)) := by
  by_cases hl : lenB ls = true
  · have HR : Hid (countLongOf ls = (prodLong ls ls.length, true)) := hid (by simp [countLongOf, hl])
    obtain ⟨hs, t1, t2, hl1, hl8, -⟩ := lenB_sum hl
    have HM := hid h'.len
    have HL := hid hl
    rw [h'.len] at hl1 hl8
    have HS := hid (fun k (hk : k ≤ m) => (show Small (ls.take k) from fun i hi => by
      simp at hi
      rw [nth_take (by omega)]
      exact hs i (by omega)))
    clear hl hs
    go_enter Try.func28, Try.ntmps28
    go_wp2_with (go_at_call 50; refine (loLengths_any _ _ _ _ _ h').mono ?_; rintro e w' ⟨rfl, rfl⟩; rw [HL.out])
    go_loop [5, 6] (fun c i => ∃ (k : Nat) (v : Int), 1 ≤ k ∧ k ≤ m ∧ i = .int .i64 k ∧ c = .int .i64 v ∧ Hid (v = prodLong ls k)) (fun _ i => m - (intOf i).toNat)
    case atStart => exact ⟨1, 1, Nat.le_refl _, hl1, rfl, rfl, hid (prodLong_one ls).symm⟩
    case round =>
      obtain ⟨k, v, hk1, hk, rfl, rfl, HV⟩ := hrel
      by_cases hlt : k < m
      · obtain ⟨b1, b2⟩ := prodLong_le HL.out (i := k) (by rw [HM.out]; omega)
        rw [← HV.out] at b1 b2
        obtain ⟨f0, f1, f2, f3⟩ := factor_bounds HL.out (i := k) (by rw [HM.out]; omega)
        have HP := hid (prodLong_succ ls hk1)
        have hsm := HS.out k (by omega)
        have htk := h'.take (k := k) (by omega)
        rw [HM.out] at f2 f3
        obtain ⟨m1, m2⟩ := mul_bounds b1 b2 f2 f3
        have hkc : k ≤ capl := by have := h'.2.1; omega
        have HMM := hid HM.out
        go_wp2_with (go_at_call 51; refine (paSum_any _ _ _ _ _ htk hsm).mono ?_; rintro e w' ⟨rfl, rfl⟩)
        go_round
        case rel => exact ⟨k + 1, v * (total (ls.take k) + m - k + 1), by omega, by omega, by go_num, by go_num, hid (by rw [HP.out, HV.out, HMM.out])⟩
        case measure => simp [intOf]; omega
      · obtain rfl : k = m := by omega
        go_wp2_with fail
        go_ret2
        exact postInt (by rw [HR.out, HV.out, HM.out]) (Below.refl _ _)
  · have HR : Hid (countLongOf ls = (0, false)) := hid (by simp [countLongOf, hl])
    have HL := hid hl
    clear hl
    go_enter Try.func28, Try.ntmps28
    go_wp2_with (go_at_call 50; refine (loLengths_any _ _ _ _ _ h').mono ?_; rintro e w' ⟨rfl, rfl⟩; rw [Bool.eq_false_iff.2 HL.out])
    go_ret2
    exact postInt HR.out (Below.refl _ _)
end Go.Proofs.Ytnddplldkgphnac
