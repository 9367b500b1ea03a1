/- CountInsertions: the model's function. -/
import Derived.Test.YtadcmghjhgjeeabSpecCk
import Derived.Test.YtadcmghjhgjeeabImplTt
import Derived.Test.YtadcmghjhgjeeabImplLt1
namespace Go.Proofs.Ytadcmghjhgjeeab
open Go.RowKit

def cntOf (cs : List Int) : Int × Bool := if tblB cs && decide (usedN cs ≤ 7) then (((cntL cs : Nat) : Int), true) else (0, false)
theorem cntOf_yes {cs : List Int} (h : tblB cs = true) (h7 : usedN cs ≤ 7) : cntOf cs = (((cntL cs : Nat) : Int), true) := if_pos (by simp [h, h7])
theorem cntOf_no {cs : List Int} (h : tblB cs = false) : cntOf cs = (0, false) := if_neg (by simp [h])
theorem cntOf_many {cs : List Int} (h : 7 < usedN cs) : cntOf cs = (0, false) := if_neg (by simp; intro _; omega)

set_option maxRecDepth 100000 in
set_option maxHeartbeats 2000000 in
theorem specCount_any (a : Option Addr) (n cap : Nat) (cs : List Int) (w : World) (h : Has w a n cap cs) :
    Calls Try.prog 25 #[.agg #[.slice a n cap]] w (PostInt w (cntOf cs)) := by
  obtain rfl := h.len
  obtain ⟨W, hW, C, hbW, hsW⟩ := boxed w (.slice a cs.length cap) 35
  have hH := h.below hbW (Nat.le_refl _)
  obtain ⟨y1, y2⟩ := id C
  by_cases hg : tblB cs = true
  · have HG := hid hg
    have ht := tb_iff.1 hg
    have h12 := ht.hi
    have hlo := ht.lo
    by_cases h7 : usedN cs ≤ 7
    · have HR := hid (cntOf_yes hg h7)
      have HM : Hid (missN cs (emptyL cs.length) ≤ cs.length) := hid (firAt_start ht).miss
      have h70 : ¬ (7 : Int) < ((usedN cs : Nat) : Int) := by omega
      clear hg
      go_enter Try.func25, Try.ntmps25
      go_upto_region 3 with (first | (go_at_call 52; refine (prGood_any _ _ _ _ _ hH).mono ?_; rintro e w' ⟨rfl, st⟩; rw [HG.out]; have C2 := C.below st (by omega); have hH2 := hH.below st (Nat.le_refl _); have hb2 := hbW.trans (st.mono hbW.size); have q2 := st.size; clear y1 y2 hH C; obtain ⟨z1, z2⟩ := id C2) | (go_at_call 56; refine (prMany_any _ _ _ _ _ hH2 h12).mono ?_; rintro e w' ⟨rfl, st2⟩; have q3 := st2.size; have C3 := C2.below st2 (by omega); have hH3 := hH2.below st2 (Nat.le_refl _); have hb3 := hb2.trans (st2.mono hb2.size); clear z1 z2))
      have DD : Below w'.heap.size w' w'.drew := (Below.refl _ _).drew
      have q4 := DD.size
      have hCd := C3.below DD (by omega)
      have hHd := hH3.below DD (Nat.le_refl _)
      have hbd := hb3.drew
      have hwd := hbd.size
      obtain ⟨t1, t2⟩ := id hCd
      have HTB := hid ht
      first | (go_region_with (first | (go_at_call 58; refine (prEmpty_any cs.length _ h12).mono ?_; rintro e w5 ⟨a5, cap5, rfl, own5, hb5⟩; have C5 := hCd.below hb5 (by omega); obtain ⟨x1, x2⟩ := id C5; have hH5 := hHd.below hb5 (Nat.le_refl _)) | (go_at_call 57; refine (prCount_any cs HTB.out cs.length h12 _ _ _ _ _ _ _ _ hH5 own5.has (sub_empty cs) HM.out).mono ?_; rintro e w6 ⟨rfl, hb6⟩))) | fail
      all_goals
        go_wp2_with fail
        go_ret2
        exact postInt HR.out ((hbd.trans (hb5.mono hwd)).trans (hb6.mono (Nat.le_trans hwd hb5.size)))
    · have HR := hid (cntOf_many (cs := cs) (by omega))
      have h70 : (7 : Int) < ((usedN cs : Nat) : Int) := by omega
      clear hg
      go_enter Try.func25, Try.ntmps25
      go_wp2_with (first | (go_at_call 52; refine (prGood_any _ _ _ _ _ hH).mono ?_; rintro e w' ⟨rfl, st⟩; rw [HG.out]; have C2 := C.below st (by omega); have hH2 := hH.below st (Nat.le_refl _); have hb2 := hbW.trans (st.mono hbW.size); clear y1 y2 hH C; obtain ⟨z1, z2⟩ := id C2) | (go_at_call 56; refine (prMany_any _ _ _ _ _ hH2 h12).mono ?_; rintro e w' ⟨rfl, st2⟩; have hb3 := hb2.trans (st2.mono hb2.size)))
      go_ret2
      exact postInt HR.out hb3
  · have HG := hid (Bool.eq_false_iff.2 hg)
    have HR := hid (cntOf_no (Bool.eq_false_iff.2 hg))
    clear hg
    go_enter Try.func25, Try.ntmps25
    go_wp2_with (go_at_call 52; refine (prGood_any _ _ _ _ _ hH).mono ?_; rintro e w' ⟨rfl, st⟩; rw [HG.out])
    go_ret2
    exact postInt HR.out (hbW.trans (st.mono hbW.size))
end Go.Proofs.Ytadcmghjhgjeeab
