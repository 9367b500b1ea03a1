/- StreetOf: the program's function. -/
import Derived.Test.YtadcmghjhgjeeabSpecSn
import Derived.Test.YtadcmghjhgjeeabImplFj
namespace Go.Proofs.Ytadcmghjhgjeeab
open Go.RowKit

set_option maxRecDepth 100000 in
set_option maxHeartbeats 8000000 in
theorem implStreet_any (a : Option Addr) (n cap : Nat) (cs : List Int) (w : World) (h : Has w a n cap cs) :
    Calls Try.prog 28 #[.agg #[.slice a n cap]] w (PostStreet w (streetOf cs)) := by
  obtain ⟨W, hW, C, hbW, hsW⟩ := boxed w (.slice a n cap) 35
  have hH := h.below hbW (Nat.le_refl _)
  obtain ⟨y1, y2⟩ := id C
  by_cases hg : tblB cs = true
  · have HRO := hid (rings_yes hg)
    have ht := tb_iff.1 hg
    have h12 := ht.hi
    have hlo := ht.lo
    have hrg : Rg cs := ⟨by omega, h12⟩
    have HV := hid hrg.all
    by_cases h8 : 1 ≤ usedN cs ∧ usedN cs ≤ 8
    · have HR := hid (street_yes hg h8.1 h8.2)
      have HTB := hid ht
      have g1 : (((usedN cs : Nat) : Int) == 0) = false := by simp; omega
      have g2 : decide ((8 : Int) < ((usedN cs : Nat) : Int)) = false := decide_eq_false (by omega)
      have g3 : ¬ ((8 : Int) < ((usedN cs : Nat) : Int)) := by omega
      have hu0 : ¬ (usedN cs = 0) := by omega
      clear hg h8
      go_enter Try.func28, Try.ntmps28
      go_wp2_with fail
      refine (ringOf_any _ _ _ _ _ hH).mono ?_
      rintro e w1 ⟨rfl, st⟩
      rw [HRO.out]
      have s1 := st.size
      obtain ⟨V, hV, RV, hbV, hsV⟩ := ring_stored w1 HV.out
      have Zn := ringAt_zero w1
      have hb2 := (hbW.trans (st.mono (by omega))).trans (hbV.mono (by omega))
      have hVs := hb2.size
      clear st hbV hbW y1 y2 C hH hW
      obtain ⟨d0, d1, d2, d3, d4, d5, d6, d7, d8, d9, d10, d11, d12⟩ := ring_out RV
      have hv1 := ring_val (m := (cs.length : Int)) hrg.of.len
      go_upto_region 4 with (first | (refine wpList_store_ring rfl _ _ rfl _ _ _ rfl rfl Zn HV.out ?_) | (go_at_call 59; refine (usedCells_any cs _ hrg).mono ?_; rintro e w' ⟨a1, m, cap1, rfl, own, st⟩; obtain rfl : usedN cs = m := (by rw [← length_usedL]; exact own.len); have R2 := RV.below st RV.lt; have q2 := st.size; have hb3 := hb2.trans (st.mono hVs); obtain ⟨e0, e1, e2, e3, e4, e5, e6, e7, e8, e9, e10, e11, e12⟩ := ring_out R2; clear own st RV) | (go_at_call 59; refine (usedCells_any cs _ hrg).mono ?_; rintro e w' ⟨a1, m, cap1, rfl, own, st⟩; obtain rfl : usedN cs = m := (by rw [← length_usedL]; exact own.len); have R3 := R2.below st R2.lt; have q3 := st.size; have hb4 := hb3.trans (st.mono (by omega)); clear own st R2))
      obtain ⟨wo, rfl⟩ : ∃ wo : World, wo = w' := ⟨_, rfl⟩
      clear hV Zn hb2 hb3
      obtain ⟨d0, d1, d2, d3, d4, d5, d6, d7, d8, d9, d10, d11, d12⟩ := ring_out R3
      have hw1 : w1.heap.size < wo.heap.size := R3.lt
      have hw0 : w.heap.size ≤ w1.heap.size := by omega
      obtain ⟨qf, hq1, hq2⟩ := ht.fr
      have HQF : Hid (∃ q, q ≤ cs.length - 1 ∧ nth cs q = -1) := hid ⟨qf, by omega, hq2⟩
      clear hq1 hq2
      go_wp2_with fail
      go_loopw [7] (fun l wr => ∃ j : Nat, l = .int .i64 (j : Int) ∧ j < cs.length ∧ Hid (lastFr cs cs.length = lastFr cs (j + 1)) ∧ Hid (∃ q, q ≤ j ∧ nth cs q = -1) ∧ wo = wr) (fun l _ => (intOf l).toNat)
      case atStart => exact ⟨cs.length - 1, by congr 1; omega, by omega, hid (by rw [show cs.length - 1 + 1 = cs.length by omega]), HQF, rfl⟩
      case round =>
        obtain ⟨j, rfl, hj, HL, HF, rfl⟩ := hrel
        have hcj := ring_cell R3 hj h12
        have hj0 : (0 : Int) ≤ (j : Int) := by omega
        have hj12 : (j : Int) < 12 := by omega
        by_cases he : nth cs j = -1
        · have hb1 : (nth cs j != -1) = false := by simp [he]
          have HLJ := hid (HL.out.trans (lastFr_yes he))
          clear he d0 d1 d2 d3 d4 d5 d6 d7 d8 d9 d10 d11 d12
          go_wp2_with (first | (refine wpList_load_ring rfl _ rfl _ _ rfl R3 ?_) | (go_at_call 55; refine (firstIns_any cs _ HTB.out).mono ?_; rintro e w' ⟨a1, m, cap1, rfl, own, hb5⟩))
          obtain ⟨wk, rfl⟩ : ∃ wk : World, wk = w' := ⟨_, rfl⟩
          have R5 := R3.below hb5 R3.lt
          have hb6 := hb4.trans (hb5.mono (by omega))
          have hm : (firL cs).length = m := own.len
          have hm12 : m ≤ 12 := by have := firL_len cs; omega
          have HM := hid hm
          have q5 := hb5.size
          have hrof := hrg.of
          clear hm hb5 hb4 hcj
          go_loopw [44] (fun i wr => ∃ k : Nat, i = .int .i64 k ∧ k ≤ m ∧ Own wr wo.heap.size a1 m cap1 (mixK (fun key => ((favN cs key : Nat) : Int)) (firL cs) k) ∧ RingAt wr w1.heap.size (ringL cs) ∧ Below w.heap.size w wr) (fun i _ => m - (intOf i).toNat)
          case atStart => exact ⟨0, rfl, by omega, by rw [mixK_zero]; exact own, R5, hb6⟩
          case round =>
            clear own R5 hb6
            obtain ⟨k, rfl, hk, own, R, hb⟩ := hrel
            by_cases hlt : k < m
            · obtain ⟨g, rfl, hg1, hg2, hcc, hff⟩ := own.opened (by omega)
              have hkl : k < (firL cs).length := by rw [HM.out]; exact hlt
              have hck := hcc k hlt
              have hfk := hff k
              rw [nth_mixK hkl] at hck
              obtain ⟨k0, k9⟩ := firL_pos HTB.out (nth_mem hkl)
              have HE := hid (mixK_set (g := fun key => ((favN cs key : Nat) : Int)) (us := firL cs) hkl)
              obtain ⟨key, hkey⟩ : ∃ key, nth (firL cs) k = key := ⟨_, rfl⟩
              rw [hkey] at hck k0 k9 HE
              have ho := own_lt (n := cs.length) (key := key) (by omega)
              have hmm : (j + 1) % cs.length < cs.length := Nat.mod_lt _ (by omega)
              have HFV : Hid (favN cs key = wayN cs.length ((j + 1) % cs.length) (ownN cs.length key)) := hid (by unfold favN; rw [HLJ.out])
              have hkm : (k : Int) < (m : Int) := by omega
              have hk00 : (0 : Int) ≤ (k : Int) := by omega
              have szr := hb.size
              clear hcc hff hkl hkey
              go_upto_region 11 with fail
              have hD : Below wr.heap.size wr wr.drew := (Below.refl _ _).drew
              have hS : RS wr w1.heap.size (ringL cs) wr.drew := RS.drew ⟨R, Below.refl _ _⟩
              have oF := own.below hD (Nat.le_refl _)
              obtain ⟨c0, c1, c2, c3, c4, c5, c6, c7, c8, c9, c10, c11, c12⟩ := ring_out hS.ring
              obtain ⟨p1, p2⟩ := own_cell0 oF hlt
              first | (go_region_with (first | (go_at_call 63; refine (behind_any cs.length (pad cs) j _ hrof hj).mono ?_; rintro e wb ⟨rfl, hb'⟩; have hS := hS.step hb'; have oF := oF.below hb' (Nat.le_refl _); obtain ⟨c0, c1, c2, c3, c4, c5, c6, c7, c8, c9, c10, c11, c12⟩ := ring_out hS.ring; obtain ⟨p1, p2⟩ := own_cell0 oF hlt) | (go_at_call 64; refine (ownCell_any cs.length (pad cs) key _ hrof k0).mono ?_; rintro e wb ⟨rfl, hb'⟩; have hS := hS.step hb'; have oF := oF.below hb' (Nat.le_refl _); obtain ⟨c0, c1, c2, c3, c4, c5, c6, c7, c8, c9, c10, c11, c12⟩ := ring_out hS.ring; obtain ⟨p1, p2⟩ := own_cell0 oF hlt) | (go_at_call 62; refine (way_any cs.length (pad cs) ((j + 1) % cs.length) (ownN cs.length key) _ hrof hmm ho).mono ?_; rw [← HFV.out]; rintro e wb ⟨rfl, hb'⟩; have hS := hS.step hb'; have oF := oF.below hb' (Nat.le_refl _); obtain ⟨c0, c1, c2, c3, c4, c5, c6, c7, c8, c9, c10, c11, c12⟩ := ring_out hS.ring; obtain ⟨p1, p2⟩ := own_cell0 oF hlt))) | fail
              all_goals
                have own3 := (oF.set k ((favN cs key : Nat) : Int)).1
                rw [HE.out] at own3
                have R2 := hS.ring.setOther (a := ⟨g, k, none⟩) (by show w1.heap.size ≠ g; omega) (.int .i64 ((favN cs key : Nat) : Int))
                have hb2 := (hb.trans (hS.st.mono szr)).setCell (p := ⟨g, k, none⟩) (by show w.heap.size ≤ g; omega) (.int .i64 ((favN cs key : Nat) : Int))
                clear c0 c1 c2 c3 c4 c5 c6 c7 c8 c9 c10 c11 c12
                go_wp2_with fail
                go_roundw
                case rel => exact ⟨k + 1, by go_num, by omega, own3, R2, hb2⟩
                case measure => simp [intOf]; omega
            · obtain rfl : k = m := by omega
              have HA : Hid ((mixK (fun key => ((favN cs key : Nat) : Int)) (firL cs) k) = streetL cs) := hid (by rw [← HM.out, mixK_all]; rfl)
              rw [HA.out] at own
              have szr := hb.size
              obtain ⟨c0, c1, c2, c3, c4, c5, c6, c7, c8, c9, c10, c11, c12⟩ := ring_out R
              go_upto_region 13 with fail
              obtain ⟨d0, d1, d2, d3, d4, d5, d6, d7, d8, d9, d10, d11, d12⟩ := ring_out (RS.drew ⟨R, Below.refl _ _⟩).ring
              go_quiet (fail)
              go_wp2_with fail
              refine bodyPost_ret (v := .tuple #[.slice a1 k cap1, .int .i64 ((cs.length : Int) - 1), .bool true]) (by simp [results, Try.results28, go_sem]) rfl ?_
              exact ⟨_, _, _, by rw [HR.out], by rw [HR.out]; exact (own.below (below_drewN (Below.refl wr.heap.size wr) _) (Nat.le_refl _)).mono (by omega), below_drewN hb _⟩
        · have hb1 : (nth cs j != -1) = true := by simp [he]
          have HLJ := hid (HL.out.trans (lastFr_no he))
          have hj1 : 0 < j := by
            obtain ⟨q, q1, q2⟩ := HF.out
            rcases Nat.eq_zero_or_pos j with e | e
            · subst e
              obtain rfl : q = 0 := by omega
              exact absurd q2 he
            · exact e
          have HF2 : Hid (∃ q, q ≤ j - 1 ∧ nth cs q = -1) := hid (by
            obtain ⟨q, q1, q2⟩ := HF.out
            refine ⟨q, ?_, q2⟩
            have : q ≠ j := fun e => he (e ▸ q2)
            omega)
          clear he
          go_wp2_with fail
          go_roundw
          case rel => exact ⟨j - 1, by congr 1; omega, by omega, hid (by rw [show j - 1 + 1 = j by omega]; exact HLJ.out), HF2, trivial⟩
          case measure => simp [intOf]; omega
    · have HR := hid (street_many h8)
      by_cases h0 : usedN cs = 0
      · have g1 : (((usedN cs : Nat) : Int) == 0) = true := by simp [h0]
        clear hg h8 h0
        go_enter Try.func28, Try.ntmps28
        go_wp2_with fail
        refine (ringOf_any _ _ _ _ _ hH).mono ?_
        rintro e w1 ⟨rfl, st⟩
        rw [HRO.out]
        have s1 := st.size
        obtain ⟨V, hV, RV, hbV, hsV⟩ := ring_stored w1 HV.out
        have Zn := ringAt_zero w1
        have hb2 := (hbW.trans (st.mono (by omega))).trans (hbV.mono (by omega))
        have hVs := hb2.size
        clear st hbV hbW y1 y2 C hH hW
        obtain ⟨d0, d1, d2, d3, d4, d5, d6, d7, d8, d9, d10, d11, d12⟩ := ring_out RV
        have hv1 := ring_val (m := (cs.length : Int)) hrg.of.len
        go_wp2_with (first | (refine wpList_store_ring rfl _ _ rfl _ _ _ rfl rfl Zn HV.out ?_) | (go_at_call 59; refine (usedCells_any cs _ hrg).mono ?_; rintro e w' ⟨a1, m, cap1, rfl, own, st⟩; obtain rfl : usedN cs = m := (by rw [← length_usedL]; exact own.len); have hb3 := hb2.trans (st.mono hVs)))
        refine bodyPost_ret (v := .tuple #[.slice none 0 0, .int .i64 0, .bool false]) (by simp [results, Try.results28, go_sem]) rfl ?_
        exact ⟨_, _, _, by rw [HR.out], by rw [HR.out]; exact Own.nil _ _, hb3⟩
      · have g1 : (((usedN cs : Nat) : Int) == 0) = false := by simp; omega
        have g2 : decide ((8 : Int) < ((usedN cs : Nat) : Int)) = true := decide_eq_true (by omega)
        have g3 : (8 : Int) < ((usedN cs : Nat) : Int) := by omega
        clear hg h8
        go_enter Try.func28, Try.ntmps28
        go_wp2_with fail
        refine (ringOf_any _ _ _ _ _ hH).mono ?_
        rintro e w1 ⟨rfl, st⟩
        rw [HRO.out]
        have s1 := st.size
        obtain ⟨V, hV, RV, hbV, hsV⟩ := ring_stored w1 HV.out
        have Zn := ringAt_zero w1
        have hb2 := (hbW.trans (st.mono (by omega))).trans (hbV.mono (by omega))
        have hVs := hb2.size
        clear st hbV hbW y1 y2 C hH hW
        obtain ⟨d0, d1, d2, d3, d4, d5, d6, d7, d8, d9, d10, d11, d12⟩ := ring_out RV
        have hv1 := ring_val (m := (cs.length : Int)) hrg.of.len
        go_wp2_with (first | (refine wpList_store_ring rfl _ _ rfl _ _ _ rfl rfl Zn HV.out ?_) | (go_at_call 59; refine (usedCells_any cs _ hrg).mono ?_; rintro e w' ⟨a1, m, cap1, rfl, own, st⟩; obtain rfl : usedN cs = m := (by rw [← length_usedL]; exact own.len); have R2 := RV.below st RV.lt; have q2 := st.size; have hb3 := hb2.trans (st.mono hVs); obtain ⟨e0, e1, e2, e3, e4, e5, e6, e7, e8, e9, e10, e11, e12⟩ := ring_out R2; clear own st RV) | (go_at_call 59; refine (usedCells_any cs _ hrg).mono ?_; rintro e w' ⟨a1, m, cap1, rfl, own, st⟩; obtain rfl : usedN cs = m := (by rw [← length_usedL]; exact own.len); have hb4 := hb3.trans (st.mono (by omega)); clear own st R2))
        refine bodyPost_ret (v := .tuple #[.slice none 0 0, .int .i64 0, .bool false]) (by simp [results, Try.results28, go_sem]) rfl ?_
        exact ⟨_, _, _, by rw [HR.out], by rw [HR.out]; exact Own.nil _ _, hb4⟩
  · have HRO := hid (rings_no (Bool.eq_false_iff.2 hg))
    have HR := hid (street_no (Bool.eq_false_iff.2 hg))
    clear hg
    go_enter Try.func28, Try.ntmps28
    go_wp2_with fail
    refine (ringOf_any _ _ _ _ _ hH).mono ?_
    rintro e w1 ⟨rfl, st⟩
    rw [HRO.out]
    have s1 := st.size
    obtain ⟨V, hV, RV, hbV, hsV⟩ := ring_stored w1 (xs := zeroR) rfl
    have Zn := ringAt_zero w1
    have hb2 := (hbW.trans (st.mono (by omega))).trans (hbV.mono (by omega))
    clear st hbV hbW
    go_wp2_with (refine wpList_store_ring rfl _ _ rfl _ _ _ rfl rfl Zn rfl ?_)
    refine bodyPost_ret (v := .tuple #[.slice none 0 0, .int .i64 0, .bool false]) (by simp [results, Try.results28, go_sem]) rfl ?_
    exact ⟨_, _, _, by rw [HR.out], by rw [HR.out]; exact Own.nil _ _, hb2⟩
end Go.Proofs.Ytadcmghjhgjeeab
