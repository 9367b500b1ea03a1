/- UsedCells, KeysOf, CostOf, GreatestCost: the model's and the program's functions. -/
import Derived.Test.YtbmghpgnakbnjabImplTt
import Derived.Test.YtbmghpgnakbnjabSpecPt
import Derived.Test.YtbmghpgnakbnjabImplRh
namespace Go.Proofs.Ytbmghpgnakbnjab
open Go.RowKit

def keysOf' (cs : List Int) : List Int × Bool := if tblB cs then (keysL cs, true) else ([], false)
theorem keysOf_yes {cs : List Int} (h : tblB cs = true) : keysOf' cs = (keysL cs, true) := if_pos h
theorem keysOf_no {cs : List Int} (h : tblB cs = false) : keysOf' cs = ([], false) := if_neg (by simp [h])
def costOf' (cs : List Int) : Int × Bool := if tblB cs then (total (costsL cs), true) else (0, false)
theorem costOf_yes {cs : List Int} (h : tblB cs = true) : costOf' cs = (total (costsL cs), true) := if_pos h
theorem costOf_no {cs : List Int} (h : tblB cs = false) : costOf' cs = (0, false) := if_neg (by simp [h])
/-- The greatest number of a list, 0 at least. -/
def mostL (xs : List Int) : Int := xs.foldl max 0
theorem mostL_succ {xs : List Int} {k : Nat} (h : k < xs.length) : mostL (xs.take (k + 1)) = max (mostL (xs.take k)) (nth xs k) := by
  rw [take_succ_nth h]
  simp [mostL]
def mostOf (cs : List Int) : Int × Bool := if tblB cs then (mostL (costsL cs), true) else (0, false)
theorem mostOf_yes {cs : List Int} (h : tblB cs = true) : mostOf cs = (mostL (costsL cs), true) := if_pos h
theorem mostOf_no {cs : List Int} (h : tblB cs = false) : mostOf cs = (0, false) := if_neg (by simp [h])
theorem costs_bounds {cs : List Int} (h12 : cs.length ≤ 12) (hlo : 1 ≤ cs.length) : ∀ x ∈ costsL cs, 0 ≤ x ∧ x ≤ 12 := by
  intro x hx
  unfold costsL at hx
  obtain ⟨c, h1, h2, rfl⟩ := mem_coll.1 hx
  have : costN cs.length (nth cs c) c < cs.length := way_lt (by omega)
  omega
theorem costs_len {cs : List Int} (h12 : cs.length ≤ 12) : (costsL cs).length ≤ 12 := Nat.le_trans (length_coll _ _ _) h12
theorem small_costs {cs : List Int} (h12 : cs.length ≤ 12) (hlo : 1 ≤ cs.length) : Small (costsL cs) := fun i hi => by have := costs_bounds h12 hlo _ (nth_mem hi); omega
theorem total_small {xs : List Int} (h : ∀ x ∈ xs, 0 ≤ x ∧ x ≤ 12) : ∀ k, k ≤ xs.length → 0 ≤ total (xs.take k) ∧ total (xs.take k) ≤ 12 * (k : Int)
  | 0, _ => by simp [total]
  | k + 1, hk => by
    have ih := total_small h k (by omega)
    have := h _ (nth_mem (show k < xs.length by omega))
    rw [total_succ (by omega)]
    omega

theorem specCost_any (a : Option Addr) (n cap : Nat) (cs : List Int) (w : World) (h : Has w a n cap cs) :
    Calls Try.prog 12 #[.agg #[.slice a n cap]] w (PostInt w (costOf' cs)) := by
  obtain ⟨W, hW, C, hbW, hsW⟩ := boxed w (.slice a n cap) 28
  have hH := h.below hbW (Nat.le_refl _)
  obtain ⟨y1, y2⟩ := id C
  by_cases hg : tblB cs = true
  · have HG := hid hg
    have HR := hid (costOf_yes hg)
    have ht := tb_iff.1 hg
    have h12 := ht.hi
    have hlo := ht.lo
    have HSM : Hid (Small (costsL cs)) := hid (small_costs h12 (by omega))
    clear hg
    go_enter Try.func12, Try.ntmps12
    go_wp2_with (first | (go_at_call 37; refine (prGood_any _ _ _ _ _ hH).mono ?_; rintro e w' ⟨rfl, st⟩; rw [HG.out]; have C2 := C.below st (by omega); have hH2 := hH.below st (Nat.le_refl _); have hb2 := hbW.trans (st.mono hbW.size); clear y1 y2 hH C; obtain ⟨z1, z2⟩ := id C2) | (go_at_call 39; refine (prCosts_any _ _ _ _ _ hH2 ht).mono ?_; rintro e w' ⟨a1, m, cap1, rfl, own, st2⟩) | (go_at_call 38; refine (paSum_any _ _ _ _ _ own.has HSM.out).mono ?_; rintro e w' ⟨rfl, rfl⟩))
    go_ret2
    exact postInt HR.out (hb2.trans (st2.mono hb2.size))
  · have HG := hid (Bool.eq_false_iff.2 hg)
    have HR := hid (costOf_no (Bool.eq_false_iff.2 hg))
    clear hg
    go_enter Try.func12, Try.ntmps12
    go_wp2_with (go_at_call 37; refine (prGood_any _ _ _ _ _ hH).mono ?_; rintro e w' ⟨rfl, st⟩; rw [HG.out])
    go_ret2
    exact postInt HR.out (hbW.trans (st.mono hbW.size))

set_option maxRecDepth 100000 in
set_option maxHeartbeats 2000000 in
theorem specMost_any (a : Option Addr) (n cap : Nat) (cs : List Int) (w : World) (h : Has w a n cap cs) :
    Calls Try.prog 16 #[.agg #[.slice a n cap]] w (PostInt w (mostOf cs)) := by
  obtain ⟨W, hW, C, hbW, hsW⟩ := boxed w (.slice a n cap) 28
  have hH := h.below hbW (Nat.le_refl _)
  obtain ⟨y1, y2⟩ := id C
  by_cases hg : tblB cs = true
  · have HG := hid hg
    have HR := hid (mostOf_yes hg)
    have ht := tb_iff.1 hg
    have h12 := ht.hi
    have hlo := ht.lo
    clear hg
    go_enter Try.func16, Try.ntmps16
    go_wp2_with (first | (go_at_call 37; refine (prGood_any _ _ _ _ _ hH).mono ?_; rintro e w' ⟨rfl, st⟩; rw [HG.out]; have C2 := C.below st (by omega); have hH2 := hH.below st (Nat.le_refl _); have hb2 := hbW.trans (st.mono hbW.size); clear y1 y2 hH C; obtain ⟨z1, z2⟩ := id C2) | (go_at_call 39; refine (prCosts_any _ _ _ _ _ hH2 ht).mono ?_; rintro e WW ⟨a1, m, cap1, rfl, own, st2⟩))
    have hbE := hb2.trans (st2.mono hb2.size)
    clear st2 z1 z2 C2 hW
    have HB := hid (costs_bounds h12 (by omega))
    have hm : (costsL cs).length = m := own.len
    have hm12 : m ≤ 12 := by rw [← hm]; exact costs_len h12
    have HM := hid hm
    clear hm
    go_loopw [4, 13] (fun o i wr => ∃ k : Nat, i = .int .i64 k ∧ o = .int .i64 (mostL ((costsL cs).take k)) ∧ k ≤ m ∧ WW = wr) (fun _ i _ => m - (intOf i).toNat)
    case atStart => exact ⟨0, rfl, rfl, by omega, rfl⟩
    case round =>
      obtain ⟨k, rfl, rfl, hk, rfl⟩ := hrel
      by_cases hlt : k < m
      · obtain ⟨g, rfl, hg1, hg2, hcc, hff⟩ := own.opened (by omega)
        have hck := hcc k hlt
        clear hcc hff
        have HN := hid (mostL_succ (xs := costsL cs) (k := k) (by rw [HM.out]; exact hlt))
        go_wp2_with (first | (go_at_call 42; refine (l1Most_any _ _ _).mono ?_; rintro e w' ⟨rfl, rfl⟩))
        go_roundw
        case rel => exact ⟨k + 1, by go_num, by rw [HN.out], by omega, trivial⟩
        case measure => simp [intOf]; omega
      · obtain rfl : k = m := by omega
        have HT : Hid ((costsL cs).take k = costsL cs) := hid (List.take_of_length_le (by rw [HM.out]; exact Nat.le_refl _))
        rw [HT.out]
        go_wp2_with fail
        go_ret2
        exact postInt HR.out hbE

  · have HG := hid (Bool.eq_false_iff.2 hg)
    have HR := hid (mostOf_no (Bool.eq_false_iff.2 hg))
    clear hg
    go_enter Try.func16, Try.ntmps16
    go_wp2_with (go_at_call 37; refine (prGood_any _ _ _ _ _ hH).mono ?_; rintro e w' ⟨rfl, st⟩; rw [HG.out])
    go_ret2
    exact postInt HR.out (hbW.trans (st.mono hbW.size))

set_option maxRecDepth 100000 in
set_option maxHeartbeats 2000000 in
theorem implCost_any (a : Option Addr) (n cap : Nat) (cs : List Int) (w : World) (h : Has w a n cap cs) :
    Calls Try.prog 14 #[.agg #[.slice a n cap]] w (PostInt w (costOf' cs)) := by
  obtain ⟨W, hW, C, hbW, hsW⟩ := boxed w (.slice a n cap) 28
  have hH := h.below hbW (Nat.le_refl _)
  obtain ⟨y1, y2⟩ := id C
  by_cases hg : tblB cs = true
  · have HR := hid (costOf_yes hg)
    have HRO := hid (rings_yes hg)
    have ht := tb_iff.1 hg
    have h12 := ht.hi
    have hlo := ht.lo
    have hrg : Rg cs := ⟨by omega, h12⟩
    have HV := hid hrg.all
    clear hg
    go_enter Try.func14, Try.ntmps14
    go_wp2_with fail
    refine (ringOf_any _ _ _ _ _ hH).mono ?_
    rintro e w1 ⟨rfl, st⟩
    rw [HRO.out]
    have s1 := st.size
    obtain ⟨V, hV, RV, hbV, hsV⟩ := ring_stored w1 HV.out
    have Zn := ringAt_zero w1
    have hb2 := (hbW.trans (st.mono (by omega))).trans (hbV.mono (by omega))
    have hVs := hb2.size
    clear st hbV hbW y1 y2 C hH hW
    go_wp2_with (first | (refine wpList_store_ring rfl _ _ rfl _ _ _ rfl rfl Zn HV.out ?_) | (refine wpList_load_ring rfl _ rfl _ _ rfl RV ?_) | (go_at_call 41; refine (costs_any cs _ hrg ht.bd).mono ?_; rintro e WW ⟨a1, m, cap1, rfl, own, st⟩))
    have hbE := hb2.trans (st.mono hVs)
    clear st hV RV Zn
    have HB := hid (costs_bounds h12 (by omega))
    have hm : (costsL cs).length = m := own.len
    have hm12 : m ≤ 12 := by rw [← hm]; exact costs_len h12
    have HM := hid hm
    clear hm
    go_loopw [6, 19] (fun o i wr => ∃ k : Nat, i = .int .i64 k ∧ o = .int .i64 (total ((costsL cs).take k)) ∧ k ≤ m ∧ WW = wr) (fun _ i _ => m - (intOf i).toNat)
    case atStart => exact ⟨0, rfl, rfl, by omega, rfl⟩
    case round =>
      obtain ⟨k, rfl, rfl, hk, rfl⟩ := hrel
      by_cases hlt : k < m
      · obtain ⟨g, rfl, hg1, hg2, hcc, hff⟩ := own.opened (by omega)
        have hck := hcc k hlt
        clear hcc hff
        have HN := hid (total_succ (xs := costsL cs) (k := k) (by rw [HM.out]; exact hlt))
        have hbt := total_small HB.out k (by rw [HM.out]; omega)
        have hbx := HB.out _ (nth_mem (xs := costsL cs) (i := k) (by rw [HM.out]; exact hlt))
        go_wp2_with fail
        go_roundw
        case rel => exact ⟨k + 1, by go_num, by rw [HN.out], by omega, trivial⟩
        case measure => simp [intOf]; omega
      · obtain rfl : k = m := by omega
        have HT : Hid ((costsL cs).take k = costsL cs) := hid (List.take_of_length_le (by rw [HM.out]; exact Nat.le_refl _))
        rw [HT.out]
        go_wp2_with fail
        go_ret2
        exact postInt HR.out hbE

  · have HRO := hid (rings_no (Bool.eq_false_iff.2 hg))
    have HR := hid (costOf_no (Bool.eq_false_iff.2 hg))
    clear hg
    go_enter Try.func14, Try.ntmps14
    go_wp2_with fail
    refine (ringOf_any _ _ _ _ _ hH).mono ?_
    rintro e w1 ⟨rfl, st⟩
    rw [HRO.out]
    have s1 := st.size
    obtain ⟨V, hV, RV, hbV, hsV⟩ := ring_stored w1 (xs := zeroR) rfl
    have Zn := ringAt_zero w1
    have hb2 := (hbW.trans (st.mono (by omega))).trans (hbV.mono (by omega))
    clear st hbV hbW
    go_wp2_with (refine wpList_store_ring rfl _ _ rfl _ _ _ rfl rfl Zn rfl ?_)
    go_ret2
    exact postInt HR.out hb2

set_option maxRecDepth 100000 in
set_option maxHeartbeats 2000000 in
theorem implMost_any (a : Option Addr) (n cap : Nat) (cs : List Int) (w : World) (h : Has w a n cap cs) :
    Calls Try.prog 17 #[.agg #[.slice a n cap]] w (PostInt w (mostOf cs)) := by
  obtain ⟨W, hW, C, hbW, hsW⟩ := boxed w (.slice a n cap) 28
  have hH := h.below hbW (Nat.le_refl _)
  obtain ⟨y1, y2⟩ := id C
  by_cases hg : tblB cs = true
  · have HR := hid (mostOf_yes hg)
    have HRO := hid (rings_yes hg)
    have ht := tb_iff.1 hg
    have h12 := ht.hi
    have hlo := ht.lo
    have hrg : Rg cs := ⟨by omega, h12⟩
    have HV := hid hrg.all
    clear hg
    go_enter Try.func17, Try.ntmps17
    go_wp2_with fail
    refine (ringOf_any _ _ _ _ _ hH).mono ?_
    rintro e w1 ⟨rfl, st⟩
    rw [HRO.out]
    have s1 := st.size
    obtain ⟨V, hV, RV, hbV, hsV⟩ := ring_stored w1 HV.out
    have Zn := ringAt_zero w1
    have hb2 := (hbW.trans (st.mono (by omega))).trans (hbV.mono (by omega))
    have hVs := hb2.size
    clear st hbV hbW y1 y2 C hH hW
    go_wp2_with (first | (refine wpList_store_ring rfl _ _ rfl _ _ _ rfl rfl Zn HV.out ?_) | (refine wpList_load_ring rfl _ rfl _ _ rfl RV ?_) | (go_at_call 41; refine (costs_any cs _ hrg ht.bd).mono ?_; rintro e WW ⟨a1, m, cap1, rfl, own, st⟩))
    have hbE := hb2.trans (st.mono hVs)
    clear st hV RV Zn
    have HB := hid (costs_bounds h12 (by omega))
    have hm : (costsL cs).length = m := own.len
    have hm12 : m ≤ 12 := by rw [← hm]; exact costs_len h12
    have HM := hid hm
    clear hm
    go_loopw [6, 19] (fun o i wr => ∃ k : Nat, i = .int .i64 k ∧ o = .int .i64 (mostL ((costsL cs).take k)) ∧ k ≤ m ∧ WW = wr) (fun _ i _ => m - (intOf i).toNat)
    case atStart => exact ⟨0, rfl, rfl, by omega, rfl⟩
    case round =>
      obtain ⟨k, rfl, rfl, hk, rfl⟩ := hrel
      by_cases hlt : k < m
      · obtain ⟨g, rfl, hg1, hg2, hcc, hff⟩ := own.opened (by omega)
        have hck := hcc k hlt
        clear hcc hff
        have HN := hid (mostL_succ (xs := costsL cs) (k := k) (by rw [HM.out]; exact hlt))
        go_wp2_with fail
        go_roundw
        case rel => exact ⟨k + 1, by go_num, by rw [HN.out], by omega, trivial⟩
        case measure => simp [intOf]; omega
      · obtain rfl : k = m := by omega
        have HT : Hid ((costsL cs).take k = costsL cs) := hid (List.take_of_length_le (by rw [HM.out]; exact Nat.le_refl _))
        rw [HT.out]
        go_wp2_with fail
        go_ret2
        exact postInt HR.out hbE

  · have HRO := hid (rings_no (Bool.eq_false_iff.2 hg))
    have HR := hid (mostOf_no (Bool.eq_false_iff.2 hg))
    clear hg
    go_enter Try.func17, Try.ntmps17
    go_wp2_with fail
    refine (ringOf_any _ _ _ _ _ hH).mono ?_
    rintro e w1 ⟨rfl, st⟩
    rw [HRO.out]
    have s1 := st.size
    obtain ⟨V, hV, RV, hbV, hsV⟩ := ring_stored w1 (xs := zeroR) rfl
    have Zn := ringAt_zero w1
    have hb2 := (hbW.trans (st.mono (by omega))).trans (hbV.mono (by omega))
    clear st hbV hbW
    go_wp2_with (refine wpList_store_ring rfl _ _ rfl _ _ _ rfl rfl Zn rfl ?_)
    go_ret2
    exact postInt HR.out hb2
end Go.Proofs.Ytbmghpgnakbnjab
