/- InsertKey, as the program does it. -/
import Derived.Test.YtbmghpgnakbnjaaIco
namespace Go.Proofs.Ytbmghpgnakbnjaa
open Go.RowKit
set_option maxRecDepth 100000 in
set_option maxHeartbeats 8000000 in
theorem implInsert_any (a : Option Addr) (n cap : Nat) (cs : List Int) (key : Int) (w : World) (h : Has w a n cap cs) :
    Calls Try.prog 21 #[.agg #[.slice a n cap], .int .i64 key] w (PostTabInt w (insertOf cs key)) := by
  obtain ⟨W, hW, C, Z, hbW, hsW⟩ := tab_start w (.slice a n cap)
  have hH := h.below hbW (Nat.le_refl _)
  obtain ⟨y1, y2⟩ := id C
  by_cases hg : tblB cs = true
  · have HRO := hid (rings_yes hg)
    have ht := tb_iff.1 hg
    have h12 := ht.hi
    have hlo := ht.lo
    have hrg : Rg cs := ⟨by omega, h12⟩
    have HV := hid hrg.all
    go_enter Try.func21, Try.ntmps21
    go_wp2_with fail
    refine (ringOf_any _ _ _ _ _ hH).mono ?_
    rintro e w1 ⟨rfl, st⟩
    rw [HRO.out]
    have s1 := st.size
    obtain ⟨V, hV, RV, hbV, hsV⟩ := ring_stored w1 HV.out
    have Zn := ringAt_zero w1
    have C2 := (Z.below st (by omega)).below hbV (by omega)
    have hb2 := (hbW.trans (st.mono (by omega))).trans (hbV.mono (by omega))
    have HRS : Hid (RS V w1.heap.size (ringL cs) V) := hid ⟨RV, Below.refl _ _⟩
    have hv := ring_val (m := (cs.length : Int)) hrg.of.len
    clear st hbV hbW hW y1 y2 C hH Z
    by_cases hk : keyB key = true
    · have HK := hid hk
      have HKB : Hid (inB key 0 999 = true) := hid hk
      have h0 := (inB_iff.1 hk).1
      have hU := ht.usedN_lt
      have hwr : IntKind.i64.wrap (((usedN cs : Nat) : Int) + 1) = ((usedN cs : Nat) : Int) + 1 := by rw [IntKind.wrap_i64]; omega
      have hdd : ∀ p : Prop, [Decidable p] → True := fun _ => trivial
      clear hdd
      by_cases hu : usedN cs + 1 < cs.length
      · have hge : ¬ ((cs.length : Int) ≤ ((usedN cs : Nat) : Int) + 1) := by omega
        have hgd : decide ((cs.length : Int) ≤ ((usedN cs : Nat) : Int) + 1) = false := decide_eq_false hge
        obtain ⟨q, hq⟩ := ht.fr
        have HQ : Hid (freeAt cs q) := hid hq
        have hlt := srch_lt (key := key) ⟨q, hq⟩
        have hi1 : ((srch cs key : Nat) : Int) < 12 := by omega
        have hi0 : (0 : Int) ≤ ((srch cs key : Nat) : Int) := by omega
        have hthere := ht.there (key := key) (by omega)
        have HTH := hid hthere
        clear hq hthere
        go_upto_region 2 with (first | (refine wpList_store_ring rfl _ _ rfl _ _ _ rfl rfl Zn HV.out ?_))
        go_cut [30] (fun c wx => c = .bool false ∧ RS V w1.heap.size (ringL cs) wx)
        case first =>
          have hRd := HRS.out.drew
          obtain ⟨c0, c1, c2, c3, c4, c5, c6, c7, c8, c9, c10, c11, c12⟩ := ring_out hRd.ring
          first | (go_region_with (first | (go_at_call 48; refine (isKey_any _ _).mono ?_; rw [HKB.out]; rintro e w' ⟨rfl, rfl⟩) | (go_at_call 49; refine (usedCells_any cs _ hrg).mono ?_; rintro e w2 ⟨a1, m, cap1, rfl, own, hb'⟩; obtain rfl : usedN cs = m := (by rw [← length_usedL]; exact own.len); have hR2 := hRd.step hb'; obtain ⟨d0, d1, d2, d3, d4, d5, d6, d7, d8, d9, d10, d11, d12⟩ := ring_out hR2.ring))) | fail
          all_goals
            go_wp2_with fail
            go_meet
            first | exact ⟨rfl, hR2⟩ | exact ⟨rfl, hRd⟩ | exact ⟨rfl, hBd⟩
        case rest =>
          obtain ⟨rfl, hT⟩ := hcut
          have C3 := C2.below hT.st (by omega)
          have hb3 := hb2.trans (hT.st.mono (by omega))
          obtain ⟨x1, x2⟩ := id C3
          have R3 := hT.ring
          have hs3 := hT.st.size
          by_cases hm : key ∈ cs
          · have HR := hid (insertOf_no (cs := cs) (key := key) (fun hh => hh.2.2.1 hm))
            have heq : (nth cs (srch cs key) == key) = true := by simpa using HTH.out.2 hm
            clear hg hk hm
            go_wp2_with (refine wpList_load_ring rfl _ rfl _ _ rfl R3 ?_)
            refine (search_any cs key q _ hrg h0 HQ.out).mono ?_
            rintro e w4 ⟨rfl, st⟩
            have R4 := R3.below st R3.lt
            have C4 := C3.below st (by omega)
            have hb4 := hb3.trans (st.mono (by omega))
            have hcell := ring_cell R4 hlt h12
            obtain ⟨u1, u2⟩ := id C4
            clear st x1 x2
            go_wp2_with fail
            refine bodyPost_ret (v := .tuple #[.agg #[.slice none 0 0], .int .i64 0, .bool false]) (results_tab3 rfl _ _ _ _ _ _ rfl rfl rfl (C4.set (z := .slice none 0 0))) rfl (postTabInt_no HR.out (hb4.setCell (by simp) _))
          · have HR := hid (insertOf_yes hg hk hm hu)
            have heq : (nth cs (srch cs key) == key) = false := by
              rw [beq_eq_false_iff_ne]
              exact fun e => hm (HTH.out.1 e)
            have HSL := hid (srch_slot hm ⟨q, HQ.out⟩)
            clear hg hk hm
            go_wp2_with (refine wpList_load_ring rfl _ rfl _ _ rfl R3 ?_)
            refine (search_any cs key q _ hrg h0 HQ.out).mono ?_
            rintro e w4 ⟨rfl, st⟩
            have s4 := st.size
            have R4 := R3.below st R3.lt
            have C4 := C3.below st (by omega)
            have hb4 := hb3.trans (st.mono (by omega))
            have hcell := ring_cell R4 hlt h12
            clear st x1 x2 R3 C3 hb3
            go_wp2_with (refine wpList_load_ring rfl _ rfl _ _ rfl R4 ?_)
            refine (with_any cs key q _ hrg h0 HQ.out).mono ?_
            rintro e w5 ⟨rfl, st⟩
            have s5 := st.size
            have C5 := C4.below st (by omega)
            have hb5 := hb4.trans (st.mono (by omega))
            clear st C4 hb4
            go_wp2_with fail
            refine (table_any (cs.set (srch cs key) key) _ (hrg.set _ _)).mono ?_
            rintro e w6 ⟨a6, cap6, rfl, own, st⟩
            rw [List.length_set] at own
            have C6 := C5.below st (by omega)
            have hb6 := hb5.trans (st.mono (by omega))
            obtain ⟨u1, u2⟩ := id C6
            clear st C5 hb5
            go_wp2_with fail
            refine bodyPost_ret (v := .tuple #[.agg #[.slice a6 cs.length cap6], .int .i64 (srch cs key : Nat), .bool true]) (results_tab3 rfl _ _ _ _ _ _ rfl rfl rfl (C6.set (z := .slice a6 cs.length cap6))) rfl ?_
            refine postTabInt (ys := cs.set (srch cs key) key) (by rw [HR.out, HSL.out]; rfl) ((own.cellSet (by omega) _).mono (by omega)) (hb6.setCell (by simp) _)
      · have hge : ((cs.length : Int) ≤ ((usedN cs : Nat) : Int) + 1) := by omega
        have hgd : decide ((cs.length : Int) ≤ ((usedN cs : Nat) : Int) + 1) = true := decide_eq_true hge
        have HR := hid (insertOf_no (cs := cs) (key := key) (fun hh => hu hh.2.2.2))
        go_upto_region 2 with (first | (refine wpList_store_ring rfl _ _ rfl _ _ _ rfl rfl Zn HV.out ?_))
        go_cut [30] (fun c wx => c = .bool true ∧ RS V w1.heap.size (ringL cs) wx)
        case first =>
          have hRd := HRS.out.drew
          obtain ⟨c0, c1, c2, c3, c4, c5, c6, c7, c8, c9, c10, c11, c12⟩ := ring_out hRd.ring
          first | (go_region_with (first | (go_at_call 48; refine (isKey_any _ _).mono ?_; rw [HKB.out]; rintro e w' ⟨rfl, rfl⟩) | (go_at_call 49; refine (usedCells_any cs _ hrg).mono ?_; rintro e w2 ⟨a1, m, cap1, rfl, own, hb'⟩; obtain rfl : usedN cs = m := (by rw [← length_usedL]; exact own.len); have hR2 := hRd.step hb'; obtain ⟨d0, d1, d2, d3, d4, d5, d6, d7, d8, d9, d10, d11, d12⟩ := ring_out hR2.ring))) | fail
          all_goals
            go_wp2_with fail
            go_meet
            first | exact ⟨rfl, hR2⟩ | exact ⟨rfl, hRd⟩ | exact ⟨rfl, hBd⟩
        case rest =>
          obtain ⟨rfl, hT⟩ := hcut
          have C3 := C2.below hT.st (by omega)
          have hb3 := hb2.trans (hT.st.mono (by omega))
          obtain ⟨x1, x2⟩ := id C3
          go_wp2_with fail
          refine bodyPost_ret (v := .tuple #[.agg #[.slice none 0 0], .int .i64 0, .bool false]) (results_tab3 rfl _ _ _ _ _ _ rfl rfl rfl (C3.set (z := .slice none 0 0))) rfl (postTabInt_no HR.out (hb3.setCell (by simp) _))
    · have HK := hid (Bool.eq_false_iff.2 hk)
      have HKB : Hid (inB key 0 999 = false) := hid (Bool.eq_false_iff.2 hk)
      have HR := hid (insertOf_no (cs := cs) (key := key) (fun hh => hk hh.2.1))
      clear hg hk
      go_upto_region 2 with (first | (refine wpList_store_ring rfl _ _ rfl _ _ _ rfl rfl Zn HV.out ?_))
      go_cut [30] (fun c wx => c = .bool true ∧ RS V w1.heap.size (ringL cs) wx)
      case first =>
        have hRd := HRS.out.drew
        obtain ⟨c0, c1, c2, c3, c4, c5, c6, c7, c8, c9, c10, c11, c12⟩ := ring_out hRd.ring
        first | (go_region_with (first | (go_at_call 48; refine (isKey_any _ _).mono ?_; rw [HKB.out]; rintro e w' ⟨rfl, rfl⟩) | (go_at_call 49; refine (usedCells_any cs _ hrg).mono ?_; rintro e w2 ⟨a1, m, cap1, rfl, own, hb'⟩; obtain rfl : usedN cs = m := (by rw [← length_usedL]; exact own.len); have hR2 := hRd.step hb'; obtain ⟨d0, d1, d2, d3, d4, d5, d6, d7, d8, d9, d10, d11, d12⟩ := ring_out hR2.ring))) | fail
        all_goals
          go_wp2_with fail
          go_meet
          first | exact ⟨rfl, hR2⟩ | exact ⟨rfl, hRd⟩ | exact ⟨rfl, hBd⟩
      case rest =>
        obtain ⟨rfl, hT⟩ := hcut
        have C3 := C2.below hT.st (by omega)
        have hb3 := hb2.trans (hT.st.mono (by omega))
        obtain ⟨x1, x2⟩ := id C3
        go_wp2_with fail
        refine bodyPost_ret (v := .tuple #[.agg #[.slice none 0 0], .int .i64 0, .bool false]) (results_tab3 rfl _ _ _ _ _ _ rfl rfl rfl (C3.set (z := .slice none 0 0))) rfl (postTabInt_no HR.out (hb3.setCell (by simp) _))
  · have HRO := hid (rings_no (Bool.eq_false_iff.2 hg))
    have HR := hid (insertOf_no (cs := cs) (key := key) (fun hh => hg hh.1))
    have HV : Hid (zeroR.length = 13) := hid rfl
    have HK : Hid (keyB key = keyB key) := hid rfl
    clear hg
    go_enter Try.func21, Try.ntmps21
    go_wp2_with fail
    refine (ringOf_any _ _ _ _ _ hH).mono ?_
    rintro e w1 ⟨rfl, st⟩
    rw [HRO.out]
    have s1 := st.size
    obtain ⟨V, hV, RV, hbV, hsV⟩ := ring_stored w1 HV.out
    have Zn := ringAt_zero w1
    have C2 := (Z.below st (by omega)).below hbV (by omega)
    have hb2 := (hbW.trans (st.mono (by omega))).trans (hbV.mono (by omega))
    clear st hbV hbW hW y1 y2 C hH Z
    go_upto_region 2 with (first | (refine wpList_store_ring rfl _ _ rfl _ _ _ rfl rfl Zn HV.out ?_))
    go_cut [30] (fun c wx => c = .bool true ∧ Below V.heap.size V wx)
    case first =>
      have hBd : Below V.heap.size V V.drew := (Below.refl _ _).drew
      first | (go_region_with (fail)) | fail
      all_goals
        go_wp2_with fail
        go_meet
        first | exact ⟨rfl, hR2⟩ | exact ⟨rfl, hRd⟩ | exact ⟨rfl, hBd⟩
    case rest =>
      obtain ⟨rfl, hT⟩ := hcut
      have C3 := C2.below hT (by omega)
      have hb3 := hb2.trans (hT.mono (by omega))
      obtain ⟨x1, x2⟩ := id C3
      go_wp2_with fail
      refine bodyPost_ret (v := .tuple #[.agg #[.slice none 0 0], .int .i64 0, .bool false]) (results_tab3 rfl _ _ _ _ _ _ rfl rfl rfl (C3.set (z := .slice none 0 0))) rfl (postTabInt_no HR.out (hb3.setCell (by simp) _))
end Go.Proofs.Ytbmghpgnakbnjaa
