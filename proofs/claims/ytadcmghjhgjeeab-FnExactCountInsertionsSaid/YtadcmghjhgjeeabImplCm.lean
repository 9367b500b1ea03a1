/- CountInsertions: the program's function. -/
import Derived.Test.YtadcmghjhgjeeabSpecCm
import Derived.Test.YtadcmghjhgjeeabImplCk
namespace Go.Proofs.Ytadcmghjhgjeeab
open Go.RowKit

set_option maxRecDepth 100000 in
set_option maxHeartbeats 4000000 in
theorem implCount_any (a : Option Addr) (n cap : Nat) (cs : List Int) (w : World) (h : Has w a n cap cs) :
    Calls Try.prog 26 #[.agg #[.slice a n cap]] w (PostInt w (cntOf cs)) := by
  obtain ⟨W, hW, C, hbW, hsW⟩ := boxed w (.slice a n cap) 35
  have hH := h.below hbW (Nat.le_refl _)
  obtain ⟨y1, y2⟩ := id C
  by_cases hg : tblB cs = true
  · have HRO := hid (rings_yes hg)
    have ht := tb_iff.1 hg
    have h12 := ht.hi
    have hlo := ht.lo
    have hrg : Rg cs := ⟨by omega, h12⟩
    have HV := hid hrg.all
    by_cases h7 : usedN cs ≤ 7
    · have HR := hid (cntOf_yes hg h7)
      have HM : Hid (missN cs (emptyL cs.length) ≤ cs.length) := hid (firAt_start ht).miss
      have h70 : ¬ (7 : Int) < ((usedN cs : Nat) : Int) := by omega
      have hin : inB (cs.length : Int) 2 12 = true := inB_iff.2 (by omega)
      have HNR := hid (newOf_emptyL hin)
      rw [Int.toNat_natCast] at HNR
      have hrge := rg_empty (m := cs.length) (by omega) (by omega)
      have HVE := hid hrge.all
      have HTB := hid ht
      clear hg hin
      go_enter Try.func26, Try.ntmps26
      go_wp2_with fail
      refine (ringOf_any _ _ _ _ _ hH).mono ?_
      rintro e w1 ⟨rfl, st⟩
      rw [HRO.out]
      have s1 := st.size
      obtain ⟨V, hV, RV, hbV, hsV⟩ := ring_stored w1 HV.out
      have Zn := ringAt_zero w1
      have hb2 := (hbW.trans (st.mono (by omega))).trans (hbV.mono (by omega))
      have hVs := hb2.size
      clear st hbV hbW y1 y2 C hH hW
      obtain ⟨d0, d1, d2, d3, d4, d5, d6, d7, d8, d9, d10, d11, d12⟩ := ring_out RV
      have hv1 := ring_val (m := (cs.length : Int)) hrg.of.len
      go_upto_region 4 with (first | (refine wpList_store_ring rfl _ _ rfl _ _ _ rfl rfl Zn HV.out ?_) | (refine wpList_load_ring rfl _ rfl _ _ rfl RV ?_) | (go_at_call 59; refine (usedCells_any cs _ hrg).mono ?_; rintro e w' ⟨a1, m, cap1, rfl, own, st⟩; obtain rfl : usedN cs = m := (by rw [← length_usedL]; exact own.len)))
      have R2 := RV.below st RV.lt
      have hb3 := hb2.trans (st.mono hVs)
      have q3 := st.size
      clear own st hb2 RV d0 d1 d2 d3 d4 d5 d6 d7 d8 d9 d10 d11 d12
      obtain ⟨d0, d1, d2, d3, d4, d5, d6, d7, d8, d9, d10, d11, d12⟩ := ring_out R2
      go_wp2_with fail
      refine (newRing_any _ _).mono ?_
      rintro e w4 ⟨rfl, st4⟩
      rw [HNR.out]
      have q4 := st4.size
      obtain ⟨X, hX, RX, hbX, hsX⟩ := ring_stored w4 HVE.out
      have ZX := ringAt_zero w4
      have R4 := (R2.below st4 R2.lt).below hbX (by have := R2.lt; omega)
      have hb4 := (hb3.trans (st4.mono (by omega))).trans (hbX.mono (by omega))
      have q5 := hb4.size
      clear st4 hbX hb3 R2 d0 d1 d2 d3 d4 d5 d6 d7 d8 d9 d10 d11 d12
      go_wp2_with (first | (refine wpList_store_ring rfl _ _ rfl _ _ _ rfl rfl ZX HVE.out ?_) | (refine wpList_load_ring rfl _ rfl _ _ rfl R4 ?_) | (refine wpList_load_ring rfl _ rfl _ _ rfl RX ?_) | (go_at_call 61; refine (countIns_any cs HTB.out cs.length h12 _ _ (sub_empty cs) HM.out).mono ?_; rintro e w' ⟨rfl, hb5⟩))
      go_ret2
      exact postInt HR.out (hb4.trans (hb5.mono q5))
    · have HR := hid (cntOf_many (cs := cs) (by omega))
      have h70 : (7 : Int) < ((usedN cs : Nat) : Int) := by omega
      clear hg
      go_enter Try.func26, Try.ntmps26
      go_wp2_with fail
      refine (ringOf_any _ _ _ _ _ hH).mono ?_
      rintro e w1 ⟨rfl, st⟩
      rw [HRO.out]
      have s1 := st.size
      obtain ⟨V, hV, RV, hbV, hsV⟩ := ring_stored w1 HV.out
      have Zn := ringAt_zero w1
      have hb2 := (hbW.trans (st.mono (by omega))).trans (hbV.mono (by omega))
      have hVs := hb2.size
      clear st hbV hbW y1 y2 C hH hW
      obtain ⟨d0, d1, d2, d3, d4, d5, d6, d7, d8, d9, d10, d11, d12⟩ := ring_out RV
      have hv1 := ring_val (m := (cs.length : Int)) hrg.of.len
      go_wp2_with (first | (refine wpList_store_ring rfl _ _ rfl _ _ _ rfl rfl Zn HV.out ?_) | (refine wpList_load_ring rfl _ rfl _ _ rfl RV ?_) | (go_at_call 59; refine (usedCells_any cs _ hrg).mono ?_; rintro e w' ⟨a1, m, cap1, rfl, own, st⟩; obtain rfl : usedN cs = m := (by rw [← length_usedL]; exact own.len)))
      go_ret2
      exact postInt HR.out (hb2.trans (st.mono hVs))
  · have HRO := hid (rings_no (Bool.eq_false_iff.2 hg))
    have HR := hid (cntOf_no (Bool.eq_false_iff.2 hg))
    clear hg
    go_enter Try.func26, Try.ntmps26
    go_wp2_with fail
    refine (ringOf_any _ _ _ _ _ hH).mono ?_
    rintro e w1 ⟨rfl, st⟩
    rw [HRO.out]
    have s1 := st.size
    obtain ⟨V, hV, RV, hbV, hsV⟩ := ring_stored w1 (xs := zeroR) rfl
    have Zn := ringAt_zero w1
    have hb2 := (hbW.trans (st.mono (by omega))).trans (hbV.mono (by omega))
    clear st hbV hbW
    go_wp2_with (refine wpList_store_ring rfl _ _ rfl _ _ _ rfl rfl Zn rfl ?_)
    go_ret2
    exact postInt HR.out hb2
end Go.Proofs.Ytadcmghjhgjeeab
