/- InsertKey: the model's function. -/
import Derived.Test.YtbmghpgnakbnjaaIco
import Derived.Test.YtbmghpgnakbnjaaSpecIn
import Derived.Deep.RegionWith
namespace Go.Proofs.Ytbmghpgnakbnjaa
open Go.RowKit

set_option maxRecDepth 100000 in
set_option maxHeartbeats 16000000 in
theorem specInsert_any (a : Option Addr) (n cap : Nat) (cs : List Int) (key : Int) (w : World) (h : Has w a n cap cs) :
    Calls Try.prog 20 #[.agg #[.slice a n cap], .int .i64 key] w (PostTabInt w (insertOf cs key)) := by
  obtain rfl := h.len
  have hle := h.le
  obtain ⟨W, hW, C, Z, hbW, hsW⟩ := tab_start w (.slice a cs.length cap)
  have hH := h.below hbW (Nat.le_refl _)
  have HTS : Hid (TS W w.heap.size a cs.length cap cs W) := hid ⟨C, hH, Below.refl _ _⟩
  by_cases hg : tblB cs = true
  · have HG := hid hg
    have ht := tb_iff.1 hg
    have h12 := ht.hi
    have hlo := ht.lo
    by_cases hk : keyB key = true
    · have HK := hid hk
      have h0 := (inB_iff.1 hk).1
      by_cases hm : hasB cs key = true
      · have HM := hid hm
        have HR := hid (insertOf_no (cs := cs) (key := key) (fun hh => hh.2.2.1 (hasB_iff.1 hm)))
        clear hg hk hm
        go_enter Try.func20, Try.ntmps20
        go_upto_region 1 with fail
        go_cut [31] (fun c wx => c = .bool true ∧ TS W w.heap.size a cs.length cap cs wx)
        case first =>
          have hTd := HTS.out.drew
          obtain ⟨y1, y2⟩ := id hTd.cell
          first | (go_region_with (first | (go_at_call 37; refine (prGood_any _ _ _ _ _ hTd.has).mono ?_; rw [HG.out]; rintro e w1 ⟨rfl, hb'⟩; have hT1 := hTd.step hb'; obtain ⟨z1, z2⟩ := id hT1.cell) | (go_at_call 43; refine (prKey_any _ _).mono ?_; rw [HK.out]; rintro e w' ⟨rfl, rfl⟩) | (go_at_call 44; refine (l1Has_any _ _ _ _ _ _ hT1.has).mono ?_; rw [HM.out]; rintro e w' ⟨rfl, rfl⟩) | (go_at_call 45; refine (prMany_any _ _ _ _ _ hT1.has h12).mono ?_; rintro e w2 ⟨rfl, hb2'⟩; have hT2 := hT1.step hb2'; obtain ⟨t1, t2⟩ := id hT2.cell))) | fail
          all_goals
            go_wp2_with fail
            go_meet
            first | exact ⟨rfl, hT2⟩ | exact ⟨rfl, hT1⟩
        case rest =>
          obtain ⟨rfl, hT⟩ := hcut
          obtain ⟨y1, y2⟩ := id hT.cell
          have C1 := Z.below hT.st (by omega)
          have hb1 := hbW.trans (hT.st.mono (by omega))
          have hs1 := hT.st.size
          obtain ⟨x1, x2⟩ := id C1
          go_wp2_with fail
          refine bodyPost_ret (v := .tuple #[.agg #[.slice none 0 0], .int .i64 0, .bool false]) (results_tab3 rfl _ _ _ _ _ _ rfl rfl rfl (C1.set (z := .slice none 0 0))) rfl (postTabInt_no HR.out (hb1.setCell (by simp) _))
      · have HM := hid (Bool.eq_false_iff.2 hm)
        have hU := ht.usedN_lt
        by_cases hu : usedN cs + 1 < cs.length
        · have hne : ((usedN cs : Nat) : Int) ≠ (cs.length : Int) - 1 := by omega
          have hnb : (((usedN cs : Nat) : Int) == (cs.length : Int) - 1) = false := by simp; omega
          have hwr : IntKind.i64.wrap ((cs.length : Int) - 1) = (cs.length : Int) - 1 := by rw [IntKind.wrap_i64]; omega
          have HR := hid (insertOf_yes hg hk (fun hh => hm (hasB_iff.2 hh)) hu)
          obtain ⟨q, hq⟩ := ht.fr
          have HQ : Hid (freeAt cs q) := hid hq
          clear hg hk hm hq
          go_enter Try.func20, Try.ntmps20
          go_upto_region 1 with fail
          go_cut [31] (fun c wx => c = .bool false ∧ TS W w.heap.size a cs.length cap cs wx)
          case first =>
            have hTd := HTS.out.drew
            obtain ⟨y1, y2⟩ := id hTd.cell
            first | (go_region_with (first | (go_at_call 37; refine (prGood_any _ _ _ _ _ hTd.has).mono ?_; rw [HG.out]; rintro e w1 ⟨rfl, hb'⟩; have hT1 := hTd.step hb'; obtain ⟨z1, z2⟩ := id hT1.cell) | (go_at_call 43; refine (prKey_any _ _).mono ?_; rw [HK.out]; rintro e w' ⟨rfl, rfl⟩) | (go_at_call 44; refine (l1Has_any _ _ _ _ _ _ hT1.has).mono ?_; rw [HM.out]; rintro e w' ⟨rfl, rfl⟩) | (go_at_call 45; refine (prMany_any _ _ _ _ _ hT1.has h12).mono ?_; rintro e w2 ⟨rfl, hb2'⟩; have hT2 := hT1.step hb2'; obtain ⟨t1, t2⟩ := id hT2.cell))) | fail
            all_goals
              go_wp2_with fail
              go_meet
              first | exact ⟨rfl, hT2⟩ | exact ⟨rfl, hT1⟩
          case rest =>
            obtain ⟨rfl, hT⟩ := hcut
            obtain ⟨y1, y2⟩ := id hT.cell
            have C1 := Z.below hT.st (by omega)
            have hb1 := hbW.trans (hT.st.mono (by omega))
            have hs1 := hT.st.size
            obtain ⟨x1, x2⟩ := id C1
            have hT' := hT.has
            clear hnb hwr hne hW
            go_wp2_with fail
            refine (l1Own_any _ _ _ _ _ hT').mono ?_
            rintro e w2 ⟨a2, cap2, rfl, own, st⟩
            have s2 := st.size
            have C2 := C1.below st (by omega)
            have hb2 := hb1.trans (st.mono (by have := hb1.size; omega))
            have D := cellAt_new w2 (.slice none 0 0) 27
            obtain ⟨V, hV, DV, hbV, hsV⟩ : ∃ V, (w2.alloc (.cells #[.slice none 0 0] 27)).setCell ⟨w2.heap.size, 0, none⟩ (.slice a2 cs.length cap2) = V ∧ CellAt V w2.heap.size (.slice a2 cs.length cap2) ∧ Below w2.heap.size w2 V ∧ V.heap.size = w2.heap.size + 1 :=
              ⟨_, rfl, D.set, ((Below.refl _ w2).alloc (Nat.le_refl _) _).setCell (Nat.le_refl _) _, by simp⟩
            have C3 := C2.below hbV (by omega)
            have own3 := (own.below hbV (Nat.le_refl _)).mono (B' := w.heap.size + 2) (by omega)
            have hb3 := hb2.trans (hbV.mono (by omega))
            have hlA := own.lt
            obtain ⟨u1, u2⟩ := id D
            obtain ⟨t1, t2⟩ := id DV
            clear st hbV y1 y2 x1 x2 own C1 hT hT' hb1 hb2
            go_wp2_with fail
            refine (prInsert_any (w.heap.size + 2) _ _ _ _ _ q _ own3 h0 HQ.out (by omega)).mono ?_
            rintro e w4 ⟨rfl, own4, hm⟩
            have stm := hm.below own3.ge (by omega)
            have D4 := DV.unmarked hm (fun p hp => by have := hlA p hp; omega)
            have C4 := C3.below stm (by omega)
            have hb4 := hb3.trans (stm.mono (by omega))
            obtain ⟨p1, p2⟩ := id D4
            obtain ⟨x1, x2⟩ := id C4
            clear t1 t2 u1 u2
            go_wp2_with fail
            refine bodyPost_ret (v := .tuple #[.agg #[.slice a2 cs.length cap2], .int .i64 (slot cs key : Nat), .bool true]) (results_tab3 rfl _ _ _ _ _ _ rfl rfl rfl (C4.set (z := .slice a2 cs.length cap2))) rfl (postTabInt HR.out ((own4.cellSet (by omega) _).mono (by omega)) (hb4.setCell (by simp) _))
        · have heq : ((usedN cs : Nat) : Int) = (cs.length : Int) - 1 := by omega
          have HR := hid (insertOf_no (cs := cs) (key := key) (fun hh => hu hh.2.2.2))
          have hnb : (((usedN cs : Nat) : Int) == (cs.length : Int) - 1) = true := by simp; omega
          have hwr : IntKind.i64.wrap ((cs.length : Int) - 1) = (cs.length : Int) - 1 := by rw [IntKind.wrap_i64]; omega
          clear hg hk hm heq
          go_enter Try.func20, Try.ntmps20
          go_upto_region 1 with fail
          go_cut [31] (fun c wx => c = .bool true ∧ TS W w.heap.size a cs.length cap cs wx)
          case first =>
            have hTd := HTS.out.drew
            obtain ⟨y1, y2⟩ := id hTd.cell
            first | (go_region_with (first | (go_at_call 37; refine (prGood_any _ _ _ _ _ hTd.has).mono ?_; rw [HG.out]; rintro e w1 ⟨rfl, hb'⟩; have hT1 := hTd.step hb'; obtain ⟨z1, z2⟩ := id hT1.cell) | (go_at_call 43; refine (prKey_any _ _).mono ?_; rw [HK.out]; rintro e w' ⟨rfl, rfl⟩) | (go_at_call 44; refine (l1Has_any _ _ _ _ _ _ hT1.has).mono ?_; rw [HM.out]; rintro e w' ⟨rfl, rfl⟩) | (go_at_call 45; refine (prMany_any _ _ _ _ _ hT1.has h12).mono ?_; rintro e w2 ⟨rfl, hb2'⟩; have hT2 := hT1.step hb2'; obtain ⟨t1, t2⟩ := id hT2.cell))) | fail
            all_goals
              go_wp2_with fail
              go_meet
              first | exact ⟨rfl, hT2⟩ | exact ⟨rfl, hT1⟩
          case rest =>
            obtain ⟨rfl, hT⟩ := hcut
            obtain ⟨y1, y2⟩ := id hT.cell
            have C1 := Z.below hT.st (by omega)
            have hb1 := hbW.trans (hT.st.mono (by omega))
            have hs1 := hT.st.size
            obtain ⟨x1, x2⟩ := id C1
            go_wp2_with fail
            refine bodyPost_ret (v := .tuple #[.agg #[.slice none 0 0], .int .i64 0, .bool false]) (results_tab3 rfl _ _ _ _ _ _ rfl rfl rfl (C1.set (z := .slice none 0 0))) rfl (postTabInt_no HR.out (hb1.setCell (by simp) _))
    · have HK := hid (Bool.eq_false_iff.2 hk)
      have HR := hid (insertOf_no (cs := cs) (key := key) (fun hh => hk hh.2.1))
      have HM : Hid (hasB cs key = hasB cs key) := hid rfl
      clear hg hk
      go_enter Try.func20, Try.ntmps20
      go_upto_region 1 with fail
      go_cut [31] (fun c wx => c = .bool true ∧ TS W w.heap.size a cs.length cap cs wx)
      case first =>
        have hTd := HTS.out.drew
        obtain ⟨y1, y2⟩ := id hTd.cell
        first | (go_region_with (first | (go_at_call 37; refine (prGood_any _ _ _ _ _ hTd.has).mono ?_; rw [HG.out]; rintro e w1 ⟨rfl, hb'⟩; have hT1 := hTd.step hb'; obtain ⟨z1, z2⟩ := id hT1.cell) | (go_at_call 43; refine (prKey_any _ _).mono ?_; rw [HK.out]; rintro e w' ⟨rfl, rfl⟩) | (go_at_call 44; refine (l1Has_any _ _ _ _ _ _ hT1.has).mono ?_; rw [HM.out]; rintro e w' ⟨rfl, rfl⟩) | (go_at_call 45; refine (prMany_any _ _ _ _ _ hT1.has h12).mono ?_; rintro e w2 ⟨rfl, hb2'⟩; have hT2 := hT1.step hb2'; obtain ⟨t1, t2⟩ := id hT2.cell))) | fail
        all_goals
          go_wp2_with fail
          go_meet
          first | exact ⟨rfl, hT2⟩ | exact ⟨rfl, hT1⟩
      case rest =>
        obtain ⟨rfl, hT⟩ := hcut
        obtain ⟨y1, y2⟩ := id hT.cell
        have C1 := Z.below hT.st (by omega)
        have hb1 := hbW.trans (hT.st.mono (by omega))
        have hs1 := hT.st.size
        obtain ⟨x1, x2⟩ := id C1
        go_wp2_with fail
        refine bodyPost_ret (v := .tuple #[.agg #[.slice none 0 0], .int .i64 0, .bool false]) (results_tab3 rfl _ _ _ _ _ _ rfl rfl rfl (C1.set (z := .slice none 0 0))) rfl (postTabInt_no HR.out (hb1.setCell (by simp) _))
  · have HG := hid (Bool.eq_false_iff.2 hg)
    have HR := hid (insertOf_no (cs := cs) (key := key) (fun hh => hg hh.1))
    have HM : Hid (hasB cs key = hasB cs key) := hid rfl
    have HK : Hid (keyB key = keyB key) := hid rfl
    have h12 : Hid True := hid trivial
    clear hg
    go_enter Try.func20, Try.ntmps20
    go_upto_region 1 with fail
    go_cut [31] (fun c wx => c = .bool true ∧ TS W w.heap.size a cs.length cap cs wx)
    case first =>
      have hTd := HTS.out.drew
      obtain ⟨y1, y2⟩ := id hTd.cell
      first | (go_region_with (first | (go_at_call 37; refine (prGood_any _ _ _ _ _ hTd.has).mono ?_; rw [HG.out]; rintro e w1 ⟨rfl, hb'⟩; have hT1 := hTd.step hb'; obtain ⟨z1, z2⟩ := id hT1.cell) | (go_at_call 43; refine (prKey_any _ _).mono ?_; rw [HK.out]; rintro e w' ⟨rfl, rfl⟩) | (go_at_call 44; refine (l1Has_any _ _ _ _ _ _ hT1.has).mono ?_; rw [HM.out]; rintro e w' ⟨rfl, rfl⟩) | (go_at_call 45; refine (prMany_any _ _ _ _ _ hT1.has h12).mono ?_; rintro e w2 ⟨rfl, hb2'⟩; have hT2 := hT1.step hb2'; obtain ⟨t1, t2⟩ := id hT2.cell))) | fail
      all_goals
        go_wp2_with fail
        go_meet
        first | exact ⟨rfl, hT2⟩ | exact ⟨rfl, hT1⟩
    case rest =>
      obtain ⟨rfl, hT⟩ := hcut
      obtain ⟨y1, y2⟩ := id hT.cell
      have C1 := Z.below hT.st (by omega)
      have hb1 := hbW.trans (hT.st.mono (by omega))
      have hs1 := hT.st.size
      obtain ⟨x1, x2⟩ := id C1
      go_wp2_with fail
      refine bodyPost_ret (v := .tuple #[.agg #[.slice none 0 0], .int .i64 0, .bool false]) (results_tab3 rfl _ _ _ _ _ _ rfl rfl rfl (C1.set (z := .slice none 0 0))) rfl (postTabInt_no HR.out (hb1.setCell (by simp) _))
end Go.Proofs.Ytbmghpgnakbnjaa
