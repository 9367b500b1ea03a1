/- The program's functions of chapter 5 over the places where all cars stand (written by genlt.py). -/
import Derived.Test.YtnddplldkgphnacImplLs
namespace Go.Proofs.Ytnddplldkgphnac
open Go.RowKit

theorem task_good {xs ls : List Int} (h : lenB ls = true) : (good xs (total ls) && decide (ls.length = xs.length)) = taskB xs ls := by
  obtain ⟨h1, h2, h3⟩ := lenB_iff.1 h
  have h4 := total_ge (fun x hx => (h2 x hx).1) ls.length (Nat.le_refl _)
  rw [List.take_of_length_le (Nat.le_refl _)] at h4
  have hi : inB (total ls) 1 12 = true := inB_iff.2 (by omega)
  unfold taskB good
  rw [h, hi, Bool.true_and, Bool.true_and]
  by_cases e : ls.length = xs.length
  · have e1 : xs.length ≤ 8 := by omega
    simp [e, e1]
  · have e1 : ¬ xs.length = ls.length := fun x => e x.symm
    simp [e, e1]

theorem longZ_yes {p : Int} {xs ls zs : List Int} (hl : zs.length = xs.length) (h : LongZ p xs ls zs xs.length) (hb : (longAt p xs ls xs.length).2.2 = true) : zs = (longAt p xs ls xs.length).1 ∧ hasB zs (-1) = false := by
  have e := h.1 hb
  rw [List.take_of_length_le (by omega)] at e
  refine ⟨e, ?_⟩
  rw [e, hasB_not]
  intro hm
  have := (longAt_facts p xs ls xs.length).1 _ hm
  omega
theorem longZ_no {p : Int} {xs ls zs : List Int} (hl : zs.length = xs.length) (h : LongZ p xs ls zs xs.length) (hb : (longAt p xs ls xs.length).2.2 = false) : hasB zs (-1) = true ∧ idxTo zs (-1) xs.length = (longAt p xs ls xs.length).1.length := by
  obtain ⟨h1, h2⟩ := h.2 hb
  have hf := (longAt_facts p xs ls xs.length).1
  generalize (longAt p xs ls xs.length).1 = out at *
  have hm : (-1 : Int) ∈ zs := List.mem_of_mem_take (i := out.length + 1) (by rw [h2]; simp)
  refine ⟨hasB_iff.2 hm, ?_⟩
  have h3 : nth zs out.length = -1 := by
    have : nth (zs.take (out.length + 1)) out.length = nth (out ++ [-1]) out.length := by rw [h2]
    rw [nth_take (by omega), nth_append_at] at this
    exact this
  have h4 : zs.take out.length = out := by
    have : (zs.take (out.length + 1)).take out.length = (out ++ [-1]).take out.length := by rw [h2]
    rw [List.take_take, Nat.min_eq_left (by omega)] at this
    simpa using this
  have h5 : idxTo zs (-1) out.length = -1 := (idxTo_none (by omega)).2 (by
    rw [h4]
    intro hm
    have := hf _ hm
    omega)
  have h6 : idxTo zs (-1) (out.length + 1) = (out.length : Int) := by rw [idxTo, if_pos h5, if_pos h3]
  rw [idxTo_keep (k := out.length + 1) (by rw [h6]; omega) _ (by omega), h6]

theorem backSome_yes {xs : List Int} {p k : Int} (h : backB xs p k = true) : backSomeOf xs p k = (backs p k.toNat xs, true) := by simp [backSomeOf, h]
theorem backSome_no {xs : List Int} {p k : Int} (h : ¬ backB xs p k = true) : backSomeOf xs p k = ([], false) := by simp [backSomeOf, h]
theorem none_has : hasB [] (-1) = false := rfl

set_option maxHeartbeats 400000 in
theorem allStandsB_any (a : Option Addr) (n cap : Nat) (xs : List Int) (p k0 : Int) (w : World) (h : Has w a n cap xs) :
    Calls Try.prog 56 #[.slice a n cap, .int .i64 p, .iface 81 (.agg #[.int .i64 k0])] w (PostInts w (driveBackOf xs p k0)) := by
  by_cases hg : backB xs p k0 = true
  · have HS := hid (backSome_yes hg)
    by_cases hm : hasB (backs p k0.toNat xs) (-1) = true
    · have HM := hid hm
      have HR : Hid (driveBackOf xs p k0 = ([], false)) := hid (by simp [driveBackOf, hg, hm])
      clear hg hm
      go_enter Try.func56, Try.ntmps56
      go_wp2_with fail
      refine (standsB_any _ _ _ _ _ _ _ h).mono ?_
      rw [HS.out]
      rintro e w1 ⟨a1, n1, cap1, rfl, hown1, hb1⟩
      go_wp2_with (go_at_call 95; refine (contains5_any _ _ _ _ _ _ hown1.has).mono ?_; rintro e w' ⟨rfl, rfl⟩; rw [HM.out])
      go_ret2
      exact postInts_no HR.out hb1
    · have hm' : hasB (backs p k0.toNat xs) (-1) = false := by simpa using hm
      have HM := hid hm'
      have HR : Hid (driveBackOf xs p k0 = (backs p k0.toNat xs, true)) := hid (by simp [driveBackOf, hg, hm'])
      clear hg hm hm'
      go_enter Try.func56, Try.ntmps56
      go_wp2_with fail
      refine (standsB_any _ _ _ _ _ _ _ h).mono ?_
      rw [HS.out]
      rintro e w1 ⟨a1, n1, cap1, rfl, hown1, hb1⟩
      go_wp2_with (go_at_call 95; refine (contains5_any _ _ _ _ _ _ hown1.has).mono ?_; rintro e w' ⟨rfl, rfl⟩; rw [HM.out])
      go_ret2
      exact postInts HR.out hown1 hb1
  · have HS := hid (backSome_no hg)
    have HR : Hid (driveBackOf xs p k0 = ([], false)) := hid (by simp [driveBackOf, hg])
    clear hg
    go_enter Try.func56, Try.ntmps56
    go_wp2_with fail
    refine (standsB_any _ _ _ _ _ _ _ h).mono ?_
    rw [HS.out]
    rintro e w1 ⟨a1, n1, cap1, rfl, hown1, hb1⟩
    go_wp2_with fail
    go_ret2
    exact postInts_no HR.out hb1

set_option maxHeartbeats 400000 in
theorem doAllB_any (a : Option Addr) (n cap : Nat) (xs : List Int) (p k0 : Int) (w : World) (h : Has w a n cap xs) :
    Calls Try.prog 59 #[.slice a n cap, .int .i64 p, .iface 81 (.agg #[.int .i64 k0])] w (PostBools w (doBackOf xs p k0)) := by
  by_cases hg : backB xs p k0 = true
  · have HS := hid (backSome_yes hg)
    by_cases hm : hasB (backs p k0.toNat xs) (-1) = true
    · have HM := hid hm
      have HR : Hid (doBackOf xs p k0 = (false, true)) := hid (by simp [doBackOf, hg, hm])
      clear hg hm
      go_enter Try.func59, Try.ntmps59
      go_wp2_with fail
      refine (standsB_any _ _ _ _ _ _ _ h).mono ?_
      rw [HS.out]
      rintro e w1 ⟨a1, n1, cap1, rfl, hown1, hb1⟩
      go_wp2_with (go_at_call 95; refine (contains5_any _ _ _ _ _ _ hown1.has).mono ?_; rintro e w' ⟨rfl, rfl⟩; rw [HM.out])
      go_ret2
      exact postBools HR.out hb1
    · have hm' : hasB (backs p k0.toNat xs) (-1) = false := by simpa using hm
      have HM := hid hm'
      have HR : Hid (doBackOf xs p k0 = (true, true)) := hid (by simp [doBackOf, hg, hm'])
      clear hg hm hm'
      go_enter Try.func59, Try.ntmps59
      go_wp2_with fail
      refine (standsB_any _ _ _ _ _ _ _ h).mono ?_
      rw [HS.out]
      rintro e w1 ⟨a1, n1, cap1, rfl, hown1, hb1⟩
      go_wp2_with (go_at_call 95; refine (contains5_any _ _ _ _ _ _ hown1.has).mono ?_; rintro e w' ⟨rfl, rfl⟩; rw [HM.out])
      go_ret2
      exact postBools HR.out hb1
  · have HS := hid (backSome_no hg)
    have HR : Hid (doBackOf xs p k0 = (false, false)) := hid (by simp [doBackOf, hg])
    clear hg
    go_enter Try.func59, Try.ntmps59
    go_wp2_with fail
    refine (standsB_any _ _ _ _ _ _ _ h).mono ?_
    rw [HS.out]
    rintro e w1 ⟨a1, n1, cap1, rfl, hown1, hb1⟩
    go_wp2_with fail
    go_ret2
    exact postBools HR.out hb1

set_option maxHeartbeats 400000 in
theorem allStandsL_any (a b : Option Addr) (n cap m capl : Nat) (xs ls : List Int) (w : World) (h : Has w a n cap xs) (h' : Has w b m capl ls) (hl : lenB ls = true) :
    Calls Try.prog 56 #[.slice a n cap, .int .i64 (total ls), .iface 69 (.agg #[.slice b m capl])] w (PostInts w (driveLongOf xs ls)) := by
  have HT := hid (task_good (xs := xs) hl)
  by_cases hg : taskB xs ls = true
  · have HG := hid hg
    by_cases hm : longOk xs ls = true
    · have HM := hid hm
      have HR : Hid (driveLongOf xs ls = (longN xs ls, true)) := hid (by simp [driveLongOf, hg, hm])
      have hcal := standsL_any _ _ _ _ (total ls) _ _ _ _ _ h h' hl
      clear hg hm hl
      go_enter Try.func56, Try.ntmps56
      go_wp2_with fail
      refine hcal.mono ?_
      rintro e w1 ⟨a1, n1, cap1, zs, rfl, hown1, hb1, hz, -⟩
      rw [HT.out, HG.out] at hz ⊢
      obtain ⟨hz1, hz2⟩ := hz rfl
      obtain ⟨hz3, hz4⟩ := longZ_yes hz1 hz2 HM.out
      have HZ := hid hz3
      have HC := hid hz4
      clear hcal hz hz1 hz2 hz3 hz4
      go_wp2_with (go_at_call 95; refine (contains5_any _ _ _ _ _ _ hown1.has).mono ?_; rintro e w' ⟨rfl, rfl⟩; rw [HC.out])
      go_ret2
      exact postInts HR.out (by have e := HZ.out; subst e; exact hown1) hb1
    · have hm' : longOk xs ls = false := by simpa using hm
      have HM := hid hm'
      have HR : Hid (driveLongOf xs ls = ([], false)) := hid (by simp [driveLongOf, hg, hm'])
      have hcal := standsL_any _ _ _ _ (total ls) _ _ _ _ _ h h' hl
      clear hg hm hm' hl
      go_enter Try.func56, Try.ntmps56
      go_wp2_with fail
      refine hcal.mono ?_
      rintro e w1 ⟨a1, n1, cap1, zs, rfl, hown1, hb1, hz, -⟩
      rw [HT.out, HG.out] at hz ⊢
      obtain ⟨hz1, hz2⟩ := hz rfl
      obtain ⟨hz3, hz4⟩ := longZ_no hz1 hz2 HM.out
      have HC := hid hz3
      clear hcal hz hz1 hz2 hz3 hz4
      go_wp2_with (go_at_call 95; refine (contains5_any _ _ _ _ _ _ hown1.has).mono ?_; rintro e w' ⟨rfl, rfl⟩; rw [HC.out])
      go_ret2
      exact postInts_no HR.out hb1
  · have hg' : taskB xs ls = false := by simpa using hg
    have HG := hid hg'
    have HR : Hid (driveLongOf xs ls = ([], false)) := hid (by simp [driveLongOf, hg'])
    have hcal := standsL_any _ _ _ _ (total ls) _ _ _ _ _ h h' hl
    clear hg hg' hl
    go_enter Try.func56, Try.ntmps56
    go_wp2_with fail
    refine hcal.mono ?_
    rintro e w1 ⟨a1, n1, cap1, zs, rfl, hown1, hb1, -, -⟩
    rw [HT.out, HG.out]
    clear hcal
    go_wp2_with fail
    go_ret2
    exact postInts_no HR.out hb1

set_option maxHeartbeats 400000 in
theorem doAllL_any (a b : Option Addr) (n cap m capl : Nat) (xs ls : List Int) (w : World) (h : Has w a n cap xs) (h' : Has w b m capl ls) (hl : lenB ls = true) :
    Calls Try.prog 59 #[.slice a n cap, .int .i64 (total ls), .iface 69 (.agg #[.slice b m capl])] w (PostBools w (isLongOf xs ls)) := by
  have HT := hid (task_good (xs := xs) hl)
  by_cases hg : taskB xs ls = true
  · have HG := hid hg
    by_cases hm : longOk xs ls = true
    · have HM := hid hm
      have HR : Hid (isLongOf xs ls = (true, true)) := hid (by simp [isLongOf, hg, hm])
      have hcal := standsL_any _ _ _ _ (total ls) _ _ _ _ _ h h' hl
      clear hg hm hl
      go_enter Try.func59, Try.ntmps59
      go_wp2_with fail
      refine hcal.mono ?_
      rintro e w1 ⟨a1, n1, cap1, zs, rfl, hown1, hb1, hz, -⟩
      rw [HT.out, HG.out] at hz ⊢
      obtain ⟨hz1, hz2⟩ := hz rfl
      obtain ⟨hz3, hz4⟩ := longZ_yes hz1 hz2 HM.out
      have HZ := hid hz3
      have HC := hid hz4
      clear hcal hz hz1 hz2 hz3 hz4
      go_wp2_with (go_at_call 95; refine (contains5_any _ _ _ _ _ _ hown1.has).mono ?_; rintro e w' ⟨rfl, rfl⟩; rw [HC.out])
      go_ret2
      exact postBools HR.out hb1
    · have hm' : longOk xs ls = false := by simpa using hm
      have HM := hid hm'
      have HR : Hid (isLongOf xs ls = (false, true)) := hid (by simp [isLongOf, hg, hm'])
      have hcal := standsL_any _ _ _ _ (total ls) _ _ _ _ _ h h' hl
      clear hg hm hm' hl
      go_enter Try.func59, Try.ntmps59
      go_wp2_with fail
      refine hcal.mono ?_
      rintro e w1 ⟨a1, n1, cap1, zs, rfl, hown1, hb1, hz, -⟩
      rw [HT.out, HG.out] at hz ⊢
      obtain ⟨hz1, hz2⟩ := hz rfl
      obtain ⟨hz3, hz4⟩ := longZ_no hz1 hz2 HM.out
      have HC := hid hz3
      clear hcal hz hz1 hz2 hz3 hz4
      go_wp2_with (go_at_call 95; refine (contains5_any _ _ _ _ _ _ hown1.has).mono ?_; rintro e w' ⟨rfl, rfl⟩; rw [HC.out])
      go_ret2
      exact postBools HR.out hb1
  · have hg' : taskB xs ls = false := by simpa using hg
    have HG := hid hg'
    have HR : Hid (isLongOf xs ls = (false, false)) := hid (by simp [isLongOf, hg'])
    have hcal := standsL_any _ _ _ _ (total ls) _ _ _ _ _ h h' hl
    clear hg hg' hl
    go_enter Try.func59, Try.ntmps59
    go_wp2_with fail
    refine hcal.mono ?_
    rintro e w1 ⟨a1, n1, cap1, zs, rfl, hown1, hb1, -, -⟩
    rw [HT.out, HG.out]
    clear hcal
    go_wp2_with fail
    go_ret2
    exact postBools HR.out hb1

theorem driveBack_any (a : Option Addr) (n cap : Nat) (xs : List Int) (p k0 : Int) (w : World) (h : Has w a n cap xs) :
    Calls Try.prog 30 #[.slice a n cap, .int .i64 p, .int .i64 k0] w (PostInts w (driveBackOf xs p k0)) := by
  go_enter Try.func30, Try.ntmps30
  go_wp2_with fail
  refine (allStandsB_any _ _ _ _ _ _ _ h).mono ?_
  rintro e w1 ⟨a1, n1, cap1, rfl, hown1, hb1⟩
  go_wp2_with fail
  go_ret2
  exact ⟨_, _, _, rfl, hown1, hb1⟩

theorem doParkBack_any (a : Option Addr) (n cap : Nat) (xs : List Int) (p k0 : Int) (w : World) (h : Has w a n cap xs) :
    Calls Try.prog 32 #[.slice a n cap, .int .i64 p, .int .i64 k0] w (PostBools w (doBackOf xs p k0)) := by
  go_enter Try.func32, Try.ntmps32
  go_wp2_with fail
  refine (doAllB_any _ _ _ _ _ _ _ h).mono ?_
  rintro e w1 ⟨rfl, hb1⟩
  go_wp2_with fail
  go_ret2
  exact ⟨rfl, hb1⟩

theorem lens_yes {ls : List Int} (h : lenB ls = true) : lensOf ls = (total ls, true) := by simp [lensOf, h]
theorem lens_no {ls : List Int} (h : ¬ lenB ls = true) : lensOf ls = (0, false) := by simp [lensOf, h]

set_option maxHeartbeats 400000 in
theorem driveLong_any (a b : Option Addr) (n cap m capl : Nat) (xs ls : List Int) (w : World) (h : Has w a n cap xs) (h' : Has w b m capl ls) :
    Calls Try.prog 14 #[.slice a n cap, .slice b m capl] w (PostInts w (driveLongOf xs ls)) := by
  by_cases hl : lenB ls = true
  · have HL := hid hl
    have HS := hid (lens_yes hl)
    clear hl
    go_enter Try.func14, Try.ntmps14
    go_wp2_with (go_at_call 55; refine (totalLength_any _ _ _ _ _ h').mono ?_; rintro e w' ⟨rfl, rfl⟩; rw [HS.out])
    refine (allStandsL_any _ _ _ _ _ _ _ _ _ h h' HL.out).mono ?_
    rintro e w1 ⟨a1, n1, cap1, rfl, hown1, hb1⟩
    go_wp2_with fail
    go_ret2
    exact ⟨_, _, _, rfl, hown1, hb1⟩
  · have HS := hid (lens_no hl)
    have HR : Hid (driveLongOf xs ls = ([], false)) := hid (by simp [driveLongOf, taskB, hl])
    clear hl
    go_enter Try.func14, Try.ntmps14
    go_wp2_with (go_at_call 55; refine (totalLength_any _ _ _ _ _ h').mono ?_; rintro e w' ⟨rfl, rfl⟩; rw [HS.out])
    go_ret2
    exact postInts_no HR.out (Below.refl _ _)

set_option maxHeartbeats 400000 in
theorem isLong_any (a b : Option Addr) (n cap m capl : Nat) (xs ls : List Int) (w : World) (h : Has w a n cap xs) (h' : Has w b m capl ls) :
    Calls Try.prog 16 #[.slice a n cap, .slice b m capl] w (PostBools w (isLongOf xs ls)) := by
  by_cases hl : lenB ls = true
  · have HL := hid hl
    have HS := hid (lens_yes hl)
    clear hl
    go_enter Try.func16, Try.ntmps16
    go_wp2_with (go_at_call 55; refine (totalLength_any _ _ _ _ _ h').mono ?_; rintro e w' ⟨rfl, rfl⟩; rw [HS.out])
    refine (doAllL_any _ _ _ _ _ _ _ _ _ h h' HL.out).mono ?_
    rintro e w1 ⟨rfl, hb1⟩
    go_wp2_with fail
    go_ret2
    exact ⟨rfl, hb1⟩
  · have HS := hid (lens_no hl)
    have HR : Hid (isLongOf xs ls = (false, false)) := hid (by simp [isLongOf, taskB, hl])
    clear hl
    go_enter Try.func16, Try.ntmps16
    go_wp2_with (go_at_call 55; refine (totalLength_any _ _ _ _ _ h').mono ?_; rintro e w' ⟨rfl, rfl⟩; rw [HS.out])
    go_ret2
    exact postBools HR.out (Below.refl _ _)

set_option maxHeartbeats 400000 in
theorem blocked_any (a b : Option Addr) (n cap m capl : Nat) (xs ls : List Int) (w : World) (h : Has w a n cap xs) (h' : Has w b m capl ls) :
    Calls Try.prog 18 #[.slice a n cap, .slice b m capl] w (PostInt w (blockedOf xs ls)) := by
  by_cases hl : lenB ls = true
  · have HS := hid (lens_yes hl)
    have HT := hid (task_good (xs := xs) hl)
    have hcal := standsL_any _ _ _ _ (total ls) _ _ _ _ _ h h' hl
    have HCAL := hid hcal
    clear hl hcal
    by_cases hg : taskB xs ls = true
    · have HG := hid hg
      by_cases hm : longOk xs ls = true
      · have HM := hid hm
        have HR : Hid (blockedOf xs ls = (0, false)) := hid (by simp [blockedOf, hm])
        clear hg hm
        go_enter Try.func18, Try.ntmps18
        go_wp2_with (go_at_call 55; refine (totalLength_any _ _ _ _ _ h').mono ?_; rintro e w' ⟨rfl, rfl⟩; rw [HS.out])
        refine HCAL.out.mono ?_
        rintro e w1 ⟨a1, n1, cap1, zs, rfl, hown1, hb1, hz, -⟩
        rw [HT.out, HG.out] at hz ⊢
        obtain ⟨hz1, hz2⟩ := hz rfl
        obtain ⟨hz3, hz4⟩ := longZ_yes hz1 hz2 HM.out
        have hlt : idxTo zs (-1) n1 < 0 := by
          have := (idxTo_none (xs := zs) (x := -1) (k := n1) (by rw [hown1.len]; exact Nat.le_refl _)).2 (by
            rw [List.take_of_length_le (by rw [hown1.len]; exact Nat.le_refl _)]
            exact hasB_not.1 hz4)
          omega
        clear hz hz1 hz2 hz3 hz4
        go_wp2_with (go_at_call 61; refine (indexOf_any _ _ _ _ _ _ hown1.has).mono ?_; rintro e w' ⟨rfl, rfl⟩)
        go_ret2
        exact postInt HR.out hb1
      · have hm' : longOk xs ls = false := by simpa using hm
        have HM := hid hm'
        have HR : Hid (blockedOf xs ls = (((longN xs ls).length : Int), true)) := hid (by simp [blockedOf, hg, hm'])
        clear hg hm hm'
        go_enter Try.func18, Try.ntmps18
        go_wp2_with (go_at_call 55; refine (totalLength_any _ _ _ _ _ h').mono ?_; rintro e w' ⟨rfl, rfl⟩; rw [HS.out])
        refine HCAL.out.mono ?_
        rintro e w1 ⟨a1, n1, cap1, zs, rfl, hown1, hb1, hz, -⟩
        rw [HT.out, HG.out] at hz ⊢
        obtain ⟨hz1, hz2⟩ := hz rfl
        obtain ⟨hz3, hz4⟩ := longZ_no hz1 hz2 HM.out
        have hn1 : n1 = xs.length := by rw [← hown1.len]; exact hz1
        have hlt : ¬ idxTo zs (-1) n1 < 0 := by rw [hn1, hz4]; omega
        have HI : Hid (idxTo zs (-1) n1 = ((longN xs ls).length : Int)) := hid (by rw [hn1, hz4]; rfl)
        clear hz hz1 hz2 hz3 hz4 hn1
        go_wp2_with (go_at_call 61; refine (indexOf_any _ _ _ _ _ _ hown1.has).mono ?_; rintro e w' ⟨rfl, rfl⟩)
        go_ret2
        exact postInt (by rw [HR.out, HI.out]) hb1
    · have hg' : taskB xs ls = false := by simpa using hg
      have HG := hid hg'
      have HR : Hid (blockedOf xs ls = (0, false)) := hid (by simp [blockedOf, hg'])
      clear hg hg'
      go_enter Try.func18, Try.ntmps18
      go_wp2_with (go_at_call 55; refine (totalLength_any _ _ _ _ _ h').mono ?_; rintro e w' ⟨rfl, rfl⟩; rw [HS.out])
      refine HCAL.out.mono ?_
      rintro e w1 ⟨a1, n1, cap1, zs, rfl, hown1, hb1, -, hz⟩
      rw [HT.out, HG.out] at hz ⊢
      have hn1 := hz rfl
      have hlt : idxTo zs (-1) n1 < 0 := by rw [hn1]; simp [idxTo]
      clear hz hn1
      go_wp2_with (go_at_call 61; refine (indexOf_any _ _ _ _ _ _ hown1.has).mono ?_; rintro e w' ⟨rfl, rfl⟩)
      go_ret2
      exact postInt HR.out hb1
  · have HS := hid (lens_no hl)
    have HR : Hid (blockedOf xs ls = (0, false)) := hid (by simp [blockedOf, taskB, hl])
    clear hl
    go_enter Try.func18, Try.ntmps18
    go_wp2_with (go_at_call 55; refine (totalLength_any _ _ _ _ _ h').mono ?_; rintro e w' ⟨rfl, rfl⟩; rw [HS.out])
    go_ret2
    exact postInt HR.out (Below.refl _ _)
end Go.Proofs.Ytnddplldkgphnac
