/- A table without a key: both ways. -/
import Derived.Test.YtbmghpgnakbnjaaImplRv
import Derived.Test.YtbmghpgnakbnjaaSpecIn
namespace Go.Proofs.Ytbmghpgnakbnjaa
open Go.RowKit

/-- The table without a key. -/
def removeOf (cs : List Int) (key : Int) : List Int × Bool := if (tblB cs && (keyB key && hasB cs key)) = true then (rmL cs (findL cs key), true) else ([], false)
theorem removeOf_no1 {cs : List Int} {key : Int} (h : tblB cs = false) : removeOf cs key = ([], false) := by simp [removeOf, h]
theorem removeOf_no2 {cs : List Int} {key : Int} (h : keyB key = false) : removeOf cs key = ([], false) := by simp [removeOf, h]
theorem removeOf_no3 {cs : List Int} {key : Int} (h : hasB cs key = false) : removeOf cs key = ([], false) := by simp [removeOf, h]
theorem removeOf_yes {cs : List Int} {key : Int} (h1 : tblB cs = true) (h2 : keyB key = true) (h3 : hasB cs key = true) : removeOf cs key = (rmL cs (findL cs key), true) := by simp [removeOf, h1, h2, h3]
/-- A free cell that is not where the key is. -/
theorem Tb.other {cs : List Int} {key : Int} (h : Tb cs) (hk : keyB key = true) (hm : hasB cs key = true) : ∃ q, freeAt cs q ∧ q ≠ findL cs key := by
  obtain ⟨q, hq, e⟩ := h.fr
  refine ⟨q, ⟨hq, e⟩, fun hh => ?_⟩
  have := (findL_spec (hasB_iff.1 hm)).2.1
  rw [← hh, e] at this
  have := (inB_iff.1 hk).1
  omega

set_option maxRecDepth 100000 in
set_option maxHeartbeats 1000000 in
theorem implRemove_any (a : Option Addr) (n cap : Nat) (cs : List Int) (key : Int) (w : World) (h : Has w a n cap cs) :
    Calls Try.prog 25 #[.agg #[.slice a n cap], .int .i64 key] w (PostTab w (removeOf cs key)) := by
  obtain ⟨W, hW, C, Z, hbW, hsW⟩ : ∃ W, (w.alloc (.cells #[.slice a n cap] 27)).alloc (.cells #[.slice none 0 0] 27) = W ∧ CellAt W w.heap.size (.slice a n cap) ∧ CellAt W (w.heap.size + 1) (.slice none 0 0) ∧ Below w.heap.size w W ∧ W.heap.size = w.heap.size + 2 := by
    refine ⟨_, rfl, (cellAt_new _ _ _).alloc _, ?_, ((Below.refl _ w).alloc (Nat.le_refl _) _).alloc (by simp) _, by simp⟩
    have := cellAt_new (w.alloc (.cells #[.slice a n cap] 27)) (.slice none 0 0) 27
    simpa using this
  have hH := h.below hbW (Nat.le_refl _)
  obtain ⟨y1, y2⟩ := id C
  have HL := hid (find_len cs key)
  by_cases hg : (tblB cs && (keyB key && hasB cs key)) = true
  · have hg2 := hg
    simp only [Bool.and_eq_true] at hg2
    have HF := hid (findOf_found hg2.1 hg2.2.1 hg2.2.2)
    have HR := hid (removeOf_yes hg2.1 hg2.2.1 hg2.2.2)
    have ht := tb_iff.1 hg2.1
    have hrg : Rg cs := ⟨by have := ht.lo; omega, ht.hi⟩
    have hc := (findL_spec (hasB_iff.1 hg2.2.2)).1
    obtain ⟨q, hq, hne⟩ := ht.other hg2.2.1 hg2.2.2
    have HQ : Hid (freeAt cs q) := hid hq
    have HV := hid hrg.all
    have hrm : Rg (rmL cs (findL cs key)) := ⟨by rw [length_rmL]; exact hrg.lo, by rw [length_rmL]; exact hrg.hi⟩
    clear hg hg2 hq
    go_enter Try.func25, Try.ntmps25
    go_wp2_with fail
    refine (findIn_any _ _ _ _ _ _ hH).mono ?_
    rintro e w1 ⟨rfl, st⟩
    rw [HF.out]
    obtain ⟨V, hV, RV, hbV, hsV⟩ := ring_stored w1 HV.out
    have Zn := ringAt_zero w1
    have s1 := st.size
    have C2 := (Z.below st (by omega)).below hbV (by omega)
    have hb2 := (hbW.trans (st.mono (by omega))).trans (hbV.mono (by omega))
    clear st hbV hbW hW y1 y2 C hH HL Z
    go_wp2_with (first | (refine wpList_store_ring rfl _ _ rfl _ _ _ rfl rfl Zn HV.out ?_) | (refine wpList_load_ring rfl _ rfl _ _ rfl RV ?_))
    refine (without_any cs (findL cs key) q _ hrg hc HQ.out hne (fun i hi => (ht.bd i hi).1)).mono ?_
    rintro e w3 ⟨rfl, st⟩
    have s3 := st.size
    have C3 := C2.below st (by omega)
    have hb3 := hb2.trans (st.mono (by omega))
    clear st C2 hb2
    go_wp2_with fail
    refine (table_any (rmL cs (findL cs key)) _ hrm).mono ?_
    rintro e w4 ⟨a4, cap4, rfl, own, st⟩
    have C4 := C3.below st (by omega)
    have hb4 := hb3.trans (st.mono (by omega))
    obtain ⟨u1, u2⟩ := id C4
    clear st C3 hb3
    go_wp2_with fail
    refine bodyPost_ret (v := .tuple #[.agg #[.slice a4 (rmL cs (findL cs key)).length cap4], .bool true]) (results_tab2 rfl _ _ _ _ _ rfl rfl (C4.set (z := .slice a4 (rmL cs (findL cs key)).length cap4))) rfl (postTab HR.out ((own.cellSet (by omega) _).mono (by omega)) (hb4.setCell (by simp) _))
  · have HF := hid (findOf_not (Bool.eq_false_iff.2 hg))
    have HR : Hid (removeOf cs key = ([], false)) := hid (by unfold removeOf; rw [if_neg hg])
    clear hg
    obtain ⟨⟨rs, z, ok⟩, hr⟩ : ∃ r, findOf' cs key = r := ⟨_, rfl⟩
    rw [hr] at HF HL
    have HRR := hid hr
    have HF2 : Hid (ok = false) := HF
    clear hr HF
    obtain rfl := HF2.out
    have HL2 : Hid (rs.length = 13) := HL
    go_enter Try.func25, Try.ntmps25
    go_wp2_with fail
    refine (findIn_any _ _ _ _ _ _ hH).mono ?_
    rintro e w1 ⟨rfl, st⟩
    rw [HRR.out]
    obtain ⟨V, hV, RV, hbV, hsV⟩ := ring_stored w1 HL2.out
    have Zn := ringAt_zero w1
    have s1 := st.size
    have C2 := (Z.below st (by omega)).below hbV (by omega)
    have hb2 := (hbW.trans (st.mono (by omega))).trans (hbV.mono (by omega))
    obtain ⟨u1, u2⟩ := id C2
    clear st hbV hbW hW y1 y2 C hH
    go_wp2_with (refine wpList_store_ring rfl _ _ rfl _ _ _ rfl rfl Zn HL2.out ?_)
    refine bodyPost_ret (v := .tuple #[.agg #[.slice none 0 0], .bool false]) (results_tab2 rfl _ _ _ _ _ rfl rfl (C2.set (z := .slice none 0 0))) rfl (postTab_no HR.out (hb2.setCell (by simp) _))

set_option maxRecDepth 100000 in
set_option maxHeartbeats 4000000 in
theorem specRemove_any (a : Option Addr) (n cap : Nat) (cs : List Int) (key : Int) (w : World) (h : Has w a n cap cs) :
    Calls Try.prog 24 #[.agg #[.slice a n cap], .int .i64 key] w (PostTab w (removeOf cs key)) := by
  obtain ⟨W, hW, C, Z, hbW, hsW⟩ : ∃ W, (w.alloc (.cells #[.slice a n cap] 27)).alloc (.cells #[.slice none 0 0] 27) = W ∧ CellAt W w.heap.size (.slice a n cap) ∧ CellAt W (w.heap.size + 1) (.slice none 0 0) ∧ Below w.heap.size w W ∧ W.heap.size = w.heap.size + 2 := by
    refine ⟨_, rfl, (cellAt_new _ _ _).alloc _, ?_, ((Below.refl _ w).alloc (Nat.le_refl _) _).alloc (by simp) _, by simp⟩
    have := cellAt_new (w.alloc (.cells #[.slice a n cap] 27)) (.slice none 0 0) 27
    simpa using this
  have hH := h.below hbW (Nat.le_refl _)
  obtain ⟨y1, y2⟩ := id C
  by_cases hg : tblB cs = true
  · have HG := hid hg
    have ht := tb_iff.1 hg
    have h12 := ht.hi
    have hlo := ht.lo
    by_cases hk : keyB key = true
    · have HK := hid hk
      have h0 := (inB_iff.1 hk).1
      by_cases hm : hasB cs key = true
      · have HR := hid (removeOf_yes hg hk hm)
        have hc := (findL_spec (hasB_iff.1 hm)).1
        have HP := hid (placeI_yes (hasB_iff.1 hm))
        have hpn : ¬ ((findL cs key : Nat) : Int) < 0 := by omega
        obtain ⟨q, hq, hne⟩ := ht.other hk hm
        have HS0 := hid (Rm.start hc hq hne (fun i hi => (ht.bd i hi).1))
        obtain rfl := h.len
        clear hg hk hm hq hne
        go_enter Try.func24, Try.ntmps24
        go_wp2_with fail
        refine (prGood_any _ _ _ _ _ hH).mono ?_
        rintro e w1 ⟨rfl, st⟩
        rw [HG.out]
        have s1 := st.size
        replace C := C.below st (by omega)
        replace Z := Z.below st (by omega)
        replace hH := hH.below st (Nat.le_refl _)
        replace hbW := hbW.trans (st.mono (by omega))
        clear st y1 y2 hW
        obtain ⟨y1, y2⟩ := id C
        go_wp2_with (go_at_call 43; refine (prKey_any _ _).mono ?_; rintro e w' ⟨rfl, rfl⟩; rw [HK.out])
        refine (prPlace_any _ _ _ _ _ _ hH).mono ?_
        rintro e w2 ⟨rfl, st⟩
        rw [HP.out]
        have s2 := st.size
        replace C := C.below st (by omega)
        replace Z := Z.below st (by omega)
        replace hH := hH.below st (Nat.le_refl _)
        replace hbW := hbW.trans (st.mono (by omega))
        clear st y1 y2
        obtain ⟨y1, y2⟩ := id C
        go_wp2_with fail
        refine (l1Own_any _ _ _ _ _ hH).mono ?_
        rintro e w3 ⟨a3, cap3, rfl, own, st⟩
        have s3 := st.size
        have D := cellAt_new w3 (.slice none 0 0) 27
        obtain ⟨V, hV, DV, hbV, hsV⟩ : ∃ V, (w3.alloc (.cells #[.slice none 0 0] 27)).setCell ⟨w3.heap.size, 0, none⟩ (.slice a3 cs.length cap3) = V ∧ CellAt V w3.heap.size (.slice a3 cs.length cap3) ∧ Below w3.heap.size w3 V ∧ V.heap.size = w3.heap.size + 1 :=
          ⟨_, rfl, D.set, ((Below.refl _ w3).alloc (Nat.le_refl _) _).setCell (Nat.le_refl _) _, by simp⟩
        have hlA := own.lt
        replace C := (C.below st (by omega)).below hbV (by omega)
        replace Z := (Z.below st (by omega)).below hbV (by omega)
        replace hH := (hH.below st (Nat.le_refl _)).below hbV (Nat.le_refl _)
        replace hbW := (hbW.trans (st.mono (by omega))).trans (hbV.mono (by omega))
        have ownV := (own.below hbV (Nat.le_refl _)).mono (B' := w.heap.size + 2) (by omega)
        clear st y1 y2 own hbV
        obtain ⟨y1, y2⟩ := id C
        obtain ⟨v1, v2⟩ := id DV
        obtain ⟨u1, u2⟩ := id D
        go_wp2_with fail
        refine (prPlace_any _ _ _ _ _ _ hH).mono ?_
        rintro e w4 ⟨rfl, st⟩
        rw [HP.out]
        have s4 := st.size
        replace Z := Z.below st (by omega)
        replace DV := DV.below st (by omega)
        replace hbW := hbW.trans (st.mono (by omega))
        have own4 := ownV.below st (Nat.le_refl _)
        clear st y1 y2 v1 v2 u1 u2 D hV C hH ownV
        obtain ⟨g, hag, hg1, hg2, hcc, hff⟩ := own4.opened (by omega)
        have hbl : g < w3.heap.size := hlA _ hag
        subst hag
        have hcell := hcc _ hc
        have hfr := hff (findL cs key)
        have own5 := (own4.set (findL cs key) (-1)).1
        have D5 := DV.setOther' (g' := g) (i := findL cs key) (z := .int .i64 (-1)) (by omega)
        have Z5 := Z.setOther' (g' := g) (i := findL cs key) (z := .int .i64 (-1)) (by omega)
        have hb5 := hbW.setCell (p := ⟨g, findL cs key, none⟩) (by show w.heap.size ≤ g; omega) (.int .i64 (-1))
        have hi0 : (0 : Int) ≤ ((findL cs key : Nat) : Int) := by omega
        have hin : ((findL cs key : Nat) : Int) < (cs.length : Int) := by omega
        have hz : ¬ ((cs.length : Int) = 0) := by omega
        obtain ⟨v1, v2⟩ := id DV
        clear hcc hff
        go_wp2_with fail
        clear v1 v2 hcell hfr own4 DV Z hbW
        go_loopw [8, 9] (fun s t wr => ∃ (cs' : List Int) (free c : Nat), s = .int .i64 (free : Int) ∧ t = .int .i64 (c : Int) ∧ Hid (Rm cs.length q (rmL cs (findL cs key)) cs' free c) ∧ Own wr (w.heap.size + 2) (some ⟨g, 0, none⟩) cs.length cap3 cs' ∧ CellAt wr w3.heap.size (.slice (some ⟨g, 0, none⟩) cs.length cap3) ∧ CellAt wr (w.heap.size + 1) (.slice none 0 0) ∧ Below w.heap.size w wr) (fun _ t _ => wayN cs.length (intOf t).toNat q)
        case atStart => exact ⟨_, _, _, rfl, rfl, HS0, own5, D5, Z5, hb5⟩
        case round =>
          clear own5 D5 Z5 hb5
          obtain ⟨cs', free, c, rfl, rfl, HB, own, D, Z, hb⟩ := hrel
          have hlen := HB.out.len
          have hcl := HB.out.lt
          have hfl := HB.out.fl
          have hbs := hb.size
          obtain ⟨v1, v2⟩ := id D
          obtain ⟨g', hag', -, -, hcc, hff⟩ := own.opened (by omega)
          cases hag'
          have hcell := hcc c hcl
          have hfr := hff c
          have hcellF := hcc free hfl
          have hfrF := hff free
          have hcI : (c : Int) < (cs.length : Int) := by omega
          have hcI0 : (0 : Int) ≤ (c : Int) := by omega
          have hfI : (free : Int) < (cs.length : Int) := by omega
          have hfI0 : (0 : Int) ≤ (free : Int) := by omega
          clear hcc hff
          by_cases he : nth cs' c = -1
          · have hb1 : (nth cs' c != -1) = false := by simp [he]
            have hset := HB.out.stop he
            rw [hset] at own
            obtain ⟨x1, x2⟩ := id Z
            clear he hset hlen
            go_wp2_with fail
            refine bodyPost_ret (v := .tuple #[.agg #[.slice (some ⟨g, 0, none⟩) cs.length cap3], .bool true]) (results_tab2 rfl _ _ _ _ _ rfl rfl (Z.set (z := .slice (some ⟨g, 0, none⟩) cs.length cap3))) rfl (postTab HR.out ((own.cellSet (by omega) _).mono (by omega)) (hb.setCell (by simp) _))
          · have hb1 : (nth cs' c != -1) = true := by simp [he]
            have hy : 0 ≤ nth cs' c := by have := HB.out.bd c hcl; omega
            have hst := HB.out.step he
            have HE := hid he
            obtain ⟨x, hx⟩ : ∃ x, costN cs.length (nth cs' c) c = x := ⟨_, rfl⟩
            obtain ⟨y, hy2⟩ : ∃ y, wayN cs.length free c = y := ⟨_, rfl⟩
            have HX := hid hx
            have HY := hid hy2
            have hwe : ((c : Int) - (free : Int) + (cs.length : Int)) % (cs.length : Int) = (y : Int) := by rw [way_emod hfl, hy2]
            have hwt : ((c : Int) - (free : Int) + (cs.length : Int)).tmod (cs.length : Int) = (y : Int) := by rw [Int.tmod_eq_emod_of_nonneg (by omega), hwe]
            have cq : ∀ j, Calls Try.prog 53 #[.int .i64 (nth cs' c), .int .i64 (c : Int), .int .i64 (cs.length : Int)] (wr.drewN j) fun e w' => e = .returned (.int .i64 (x : Int)) ∧ w' = wr.drewN j := fun j => (prCost_any (nth cs' c) c cs.length (wr.drewN j) hy (by omega) (by omega) (by omega)).mono (fun e w' ⟨h1, h2⟩ => ⟨by rw [h1, hx], h2.symm⟩)
            obtain ⟨wo, hwo⟩ : ∃ wo : World, wo = wr := ⟨_, rfl⟩
            subst hwo
            have CQ := hid cq
            clear he hlen hx hy2 cq
            go_wp2_with fail
            go_quiet ((go_at_call 53; exact Calls.quiet_of_same (CQ.out _)))
            by_cases hyx : (y : Int) ≤ (x : Int)
            · have HS := hid (HB.out.move HE.out (by rw [HX.out, HY.out]; omega))
              have Zq : CellAt (wo.drewN nq) (w.heap.size + 1) (.slice none 0 0) := ⟨Z.c0, Z.f0⟩
              have Dq : CellAt (wo.drewN nq) w3.heap.size (.slice (some ⟨g, 0, none⟩) cs.length cap3) := ⟨D.c0, D.f0⟩
              have ownq : Own (wo.drewN nq) (w.heap.size + 2) (some ⟨g, 0, none⟩) cs.length cap3 cs' := (own.below (below_drewN (Below.refl wo.heap.size wo) nq) (Nat.le_refl _))
              have hbq := below_drewN hb nq
              obtain ⟨g', hag', -, -, hccq, hffq⟩ := ownq.opened (by omega)
              cases hag'
              have own1 := (ownq.set free (nth cs' c)).1
              have D1 := Dq.setOther' (g' := g) (i := free) (z := .int .i64 (nth cs' c)) (by omega)
              have Z1 := Zq.setOther' (g' := g) (i := free) (z := .int .i64 (nth cs' c)) (by omega)
              have hb1q := hbq.setCell (p := ⟨g, free, none⟩) (by show w.heap.size ≤ g; omega) (.int .i64 (nth cs' c))
              obtain ⟨g', hag', -, -, hcc1, hff1⟩ := own1.opened (by omega)
              cases hag'
              have own2 := (own1.set c (-1)).1
              have D2 := D1.setOther' (g' := g) (i := c) (z := .int .i64 (-1)) (by omega)
              have Z2 := Z1.setOther' (g' := g) (i := c) (z := .int .i64 (-1)) (by omega)
              have hb2q := hb1q.setCell (p := ⟨g, c, none⟩) (by show w.heap.size ≤ g; omega) (.int .i64 (-1))
              have hcellq := hccq c hcl
              have hcellFq := hccq free hfl
              have hfrFq := hffq free
              have hcellC := hcc1 c hcl
              have hfrC := hff1 c
              obtain ⟨m1, m2⟩ := id Dq
              obtain ⟨n1, n2⟩ := id D1
              clear hccq hffq hcc1 hff1 hcell hfr hcellF hfrF own D Z hb v1 v2 ownq own1 Zq Dq Z1 D1 hbq hb1q
              go_wp2_with fail
              go_roundw
              case rel => exact ⟨_, _, _, rfl, rfl, HS, own2, D2, Z2, hb2q⟩
              case measure => simp only [intOf, Int.toNat_natCast, next_toNat]; omega
            · have HS := hid (HB.out.keep HE.out (by rw [HX.out, HY.out]; omega))
              go_wp2_with fail
              go_roundw
              case rel => exact ⟨_, _, _, rfl, rfl, HS, own, ⟨D.c0, D.f0⟩, ⟨Z.c0, Z.f0⟩, below_drewN hb _⟩
              case measure => simp only [intOf, Int.toNat_natCast, next_toNat]; omega
      · have HR := hid (removeOf_no3 (key := key) (Bool.eq_false_iff.2 hm))
        have HP := hid (placeI_no (cs := cs) (key := key) (fun h => hm (hasB_iff.2 h)))
        clear hg hk hm
        go_enter Try.func24, Try.ntmps24
        go_wp2_with fail
        refine (prGood_any _ _ _ _ _ hH).mono ?_
        rintro e w1 ⟨rfl, st⟩
        rw [HG.out]
        have s1 := st.size
        replace C := C.below st (by omega)
        replace Z := Z.below st (by omega)
        replace hH := hH.below st (Nat.le_refl _)
        replace hbW := hbW.trans (st.mono (by omega))
        clear st y1 y2 hW
        obtain ⟨y1, y2⟩ := id C
        go_wp2_with (go_at_call 43; refine (prKey_any _ _).mono ?_; rintro e w' ⟨rfl, rfl⟩; rw [HK.out])
        refine (prPlace_any _ _ _ _ _ _ hH).mono ?_
        rintro e w2 ⟨rfl, st⟩
        rw [HP.out]
        replace Z := Z.below st (by omega)
        replace hbW := hbW.trans (st.mono (by omega))
        obtain ⟨x1, x2⟩ := id Z
        clear st
        go_wp2_with fail
        refine bodyPost_ret (v := .tuple #[.agg #[.slice none 0 0], .bool false]) (results_tab2 rfl _ _ _ _ _ rfl rfl (Z.set (z := .slice none 0 0))) rfl (postTab_no HR.out (hbW.setCell (by simp) _))
    · have HK := hid (Bool.eq_false_iff.2 hk)
      have HR := hid (removeOf_no2 (cs := cs) (Bool.eq_false_iff.2 hk))
      clear hg hk
      go_enter Try.func24, Try.ntmps24
      go_wp2_with fail
      refine (prGood_any _ _ _ _ _ hH).mono ?_
      rintro e w1 ⟨rfl, st⟩
      rw [HG.out]
      replace Z := Z.below st (by omega)
      replace hbW := hbW.trans (st.mono (by omega))
      obtain ⟨x1, x2⟩ := id Z
      clear st hW
      go_wp2_with (go_at_call 43; refine (prKey_any _ _).mono ?_; rintro e w' ⟨rfl, rfl⟩; rw [HK.out])
      refine bodyPost_ret (v := .tuple #[.agg #[.slice none 0 0], .bool false]) (results_tab2 rfl _ _ _ _ _ rfl rfl (Z.set (z := .slice none 0 0))) rfl (postTab_no HR.out (hbW.setCell (by simp) _))
  · have HG := hid (Bool.eq_false_iff.2 hg)
    have HR := hid (removeOf_no1 (key := key) (Bool.eq_false_iff.2 hg))
    clear hg
    go_enter Try.func24, Try.ntmps24
    go_wp2_with fail
    refine (prGood_any _ _ _ _ _ hH).mono ?_
    rintro e w1 ⟨rfl, st⟩
    rw [HG.out]
    replace Z := Z.below st (by omega)
    replace hbW := hbW.trans (st.mono (by omega))
    obtain ⟨x1, x2⟩ := id Z
    clear st hW
    go_wp2_with fail
    refine bodyPost_ret (v := .tuple #[.agg #[.slice none 0 0], .bool false]) (results_tab2 rfl _ _ _ _ _ rfl rfl (Z.set (z := .slice none 0 0))) rfl (postTab_no HR.out (hbW.setCell (by simp) _))
end Go.Proofs.Ytbmghpgnakbnjaa
