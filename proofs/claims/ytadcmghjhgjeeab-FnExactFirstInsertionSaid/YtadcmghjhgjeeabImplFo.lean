/- FirstInsertion: the model's and the program's functions. -/
import Derived.Test.YtadcmghjhgjeeabImplTt
import Derived.Test.YtadcmghjhgjeeabImplLt1
import Derived.Test.YtadcmghjhgjeeabImplFj
namespace Go.Proofs.Ytadcmghjhgjeeab
open Go.RowKit

def firOf (cs : List Int) : List Int × Bool := if tblB cs then (firL cs, true) else ([], false)
theorem firOf_yes {cs : List Int} (h : tblB cs = true) : firOf cs = (firL cs, true) := if_pos h
theorem firOf_no {cs : List Int} (h : tblB cs = false) : firOf cs = ([], false) := if_neg (by simp [h])

theorem specFirst_any (a : Option Addr) (n cap : Nat) (cs : List Int) (w : World) (h : Has w a n cap cs) :
    Calls Try.prog 20 #[.agg #[.slice a n cap]] w (PostInts w (firOf cs)) := by
  obtain ⟨W, hW, C, hbW, hsW⟩ := boxed w (.slice a n cap) 35
  have hH := h.below hbW (Nat.le_refl _)
  obtain ⟨y1, y2⟩ := id C
  by_cases hg : tblB cs = true
  · have HG := hid hg
    have HR := hid (firOf_yes hg)
    have ht := tb_iff.1 hg
    have h12 := ht.hi
    have hlo := ht.lo
    clear hg
    go_enter Try.func20, Try.ntmps20
    go_wp2_with (first | (go_at_call 52; refine (prGood_any _ _ _ _ _ hH).mono ?_; rintro e w' ⟨rfl, st⟩; rw [HG.out]; have C2 := C.below st (by omega); have hH2 := hH.below st (Nat.le_refl _); have hb2 := hbW.trans (st.mono hbW.size); clear y1 y2 hH C; obtain ⟨z1, z2⟩ := id C2) | (go_at_call 53; refine (prFirst_any _ _ _ _ _ hH2 ht).mono ?_; rintro e w' ⟨a1, m, cap1, rfl, own, st2⟩))
    go_ret2
    exact postInts HR.out (own.mono hb2.size) (hb2.trans (st2.mono hb2.size))
  · have HG := hid (Bool.eq_false_iff.2 hg)
    have HR := hid (firOf_no (Bool.eq_false_iff.2 hg))
    clear hg
    go_enter Try.func20, Try.ntmps20
    go_wp2_with (go_at_call 52; refine (prGood_any _ _ _ _ _ hH).mono ?_; rintro e w' ⟨rfl, st⟩; rw [HG.out])
    go_ret2
    exact postInts_no HR.out (hbW.trans (st.mono hbW.size))

set_option maxRecDepth 100000 in
set_option maxHeartbeats 2000000 in
theorem implFirst_any (a : Option Addr) (n cap : Nat) (cs : List Int) (w : World) (h : Has w a n cap cs) :
    Calls Try.prog 22 #[.agg #[.slice a n cap]] w (PostInts w (firOf cs)) := by
  obtain ⟨W, hW, C, hbW, hsW⟩ := boxed w (.slice a n cap) 35
  have hH := h.below hbW (Nat.le_refl _)
  obtain ⟨y1, y2⟩ := id C
  by_cases hg : tblB cs = true
  · have HR := hid (firOf_yes hg)
    have HRO := hid (rings_yes hg)
    have ht := tb_iff.1 hg
    have h12 := ht.hi
    have hlo := ht.lo
    have hrg : Rg cs := ⟨by omega, h12⟩
    have HV := hid hrg.all
    clear hg
    go_enter Try.func22, Try.ntmps22
    go_wp2_with fail
    refine (ringOf_any _ _ _ _ _ hH).mono ?_
    rintro e w1 ⟨rfl, st⟩
    rw [HRO.out]
    have s1 := st.size
    obtain ⟨V, hV, RV, hbV, hsV⟩ := ring_stored w1 HV.out
    have Zn := ringAt_zero w1
    have hb2 := (hbW.trans (st.mono (by omega))).trans (hbV.mono (by omega))
    have hVs := hb2.size
    clear st hbV hbW y1 y2 C hH hW
    go_wp2_with (first | (refine wpList_store_ring rfl _ _ rfl _ _ _ rfl rfl Zn HV.out ?_) | (refine wpList_load_ring rfl _ rfl _ _ rfl RV ?_) | (go_at_call 55; refine (firstIns_any cs _ ht).mono ?_; rintro e w' ⟨a1, m, cap1, rfl, own, st⟩))
    go_ret2
    exact postInts HR.out (own.mono hVs) (hb2.trans (st.mono hVs))
  · have HRO := hid (rings_no (Bool.eq_false_iff.2 hg))
    have HR := hid (firOf_no (Bool.eq_false_iff.2 hg))
    clear hg
    go_enter Try.func22, Try.ntmps22
    go_wp2_with fail
    refine (ringOf_any _ _ _ _ _ hH).mono ?_
    rintro e w1 ⟨rfl, st⟩
    rw [HRO.out]
    have s1 := st.size
    obtain ⟨V, hV, RV, hbV, hsV⟩ := ring_stored w1 (xs := zeroR) rfl
    have Zn := ringAt_zero w1
    have hb2 := (hbW.trans (st.mono (by omega))).trans (hbV.mono (by omega))
    clear st hbV hbW
    go_wp2_with (refine wpList_store_ring rfl _ _ rfl _ _ _ rfl rfl Zn rfl ?_)
    go_ret2
    exact postInts_no HR.out hb2

end Go.Proofs.Ytadcmghjhgjeeab
