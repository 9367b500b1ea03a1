/- FindKey: the model's and the program's function. -/
import Derived.Test.YtbmghpgnakbnjaaImplFi
namespace Go.Proofs.Ytbmghpgnakbnjaa
open Go.RowKit

/-- Where a key is, as the program looks for it. -/
def findOf' (cs : List Int) (key : Int) : List Int × Int × Bool := if (tblB cs && keyB key) = true then (ringL cs, (srch cs key : Int), decide (nth cs (srch cs key) = key)) else (zeroR, 0, false)
theorem cell_drewRow {w : World} {g k i : Nat} {xs : List Int} {v : Value} (h : w.cell? ⟨g, i, none⟩ = some v) (hne : g ≠ k) : (w.drew.setRow k (ivals xs)).cell? ⟨g, i, none⟩ = some v := by
  rw [cell_setRow_other _ _ _ _ hne]
  exact h

set_option maxRecDepth 100000 in
set_option maxHeartbeats 4000000 in
theorem findIn_any (a : Option Addr) (n cap : Nat) (cs : List Int) (key : Int) (w : World) (h : Has w a n cap cs) :
    Calls Try.prog 54 #[.agg #[.slice a n cap], .int .i64 key] w fun e w' => e = .returned (.tuple #[.agg (ivals (findOf' cs key).1), .int .i64 (findOf' cs key).2.1, .bool (findOf' cs key).2.2]) ∧ Below w.heap.size w w' := by
  obtain ⟨W, hW, C, Z, hbW, hsW⟩ : ∃ W, (w.alloc (.cells #[.slice a n cap] 27)).alloc (.cells #[.int .i64 0, .int .i64 0, .int .i64 0, .int .i64 0, .int .i64 0, .int .i64 0, .int .i64 0, .int .i64 0, .int .i64 0, .int .i64 0, .int .i64 0, .int .i64 0, .int .i64 0] 50) = W ∧ CellAt W w.heap.size (.slice a n cap) ∧ RingAt W (w.heap.size + 1) zeroR ∧ Below w.heap.size w W ∧ W.heap.size = w.heap.size + 2 := by
    refine ⟨_, rfl, (cellAt_new _ _ _).alloc _, ?_, ((Below.refl _ w).alloc (Nat.le_refl _) _).alloc (by simp) _, by simp⟩
    have := ringAt_zero (w.alloc (.cells #[.slice a n cap] 27))
    simpa using this
  have hH := h.below hbW (Nat.le_refl _)
  obtain ⟨y1, y2⟩ := id C
  by_cases hg : tblB cs = true
  · have HG := hid hg
    have HRO := hid (rings_yes hg)
    have ht := tb_iff.1 hg
    have h12 := ht.hi
    have hlo := ht.lo
    have hrg : Rg cs := ⟨by omega, h12⟩
    have HV := hid hrg.all
    clear hg
    go_enter Try.func54, Try.ntmps54
    go_wp2_with fail
    refine (ringOf_any _ _ _ _ _ hH).mono ?_
    rintro e w1 ⟨rfl, st⟩
    rw [HRO.out]
    have s1 := st.size
    obtain ⟨V, hV, RV, hbV, hsV⟩ := ring_stored w1 HV.out
    have Zn := ringAt_zero w1
    have Z2 := (Z.below st Z.lt).below hbV (by omega)
    have hb2 := (hbW.trans (st.mono (by omega))).trans (hbV.mono (by omega))
    clear st hbV hbW hW y1 y2 C hH Z
    by_cases hk : inB key 0 999 = true
    · have HK := hid hk
      have h0 := (inB_iff.1 hk).1
      clear hk
      obtain ⟨q, hq⟩ := ht.fr
      have HQ : Hid (freeAt cs q) := hid hq
      have hlt := srch_lt (key := key) ⟨q, hq⟩
      have hi1 : ((srch cs key : Nat) : Int) < 12 := by omega
      have hi0 : (0 : Int) ≤ ((srch cs key : Nat) : Int) := by omega
      clear hq
      go_wp2_with (first | (refine wpList_store_ring rfl _ _ rfl _ _ _ rfl rfl Zn HV.out ?_) | (refine wpList_load_ring rfl _ rfl _ _ rfl RV ?_) | (go_at_call 48; refine (isKey_any _ _).mono ?_; rintro e w' ⟨rfl, rfl⟩; rw [HK.out]) | (go_at_call 50; refine (search_any cs key q _ hrg h0 HQ.out).mono ?_; rintro e w2 ⟨rfl, st⟩))
      have s2 := st.size
      have R3 := RV.below st RV.lt
      have Z3 := Z2.below st Z2.lt
      have hb3 := hb2.trans (st.mono (by have := hb2.size; omega))
      have hcell := ring_cell R3 hlt h12
      have hcell2 := cell_drewRow (k := w.heap.size + 1) (xs := ringL cs) hcell (by omega)
      have hv := ring_val (m := (cs.length : Int)) hrg.of.len
      obtain ⟨c0, c1, c2, c3, c4, c5, c6, c7, c8, c9, c10, c11, c12⟩ := ring_out R3
      have hst : (storeCells ⟨w.heap.size + 1, 0, none⟩ (ivals ((cs.length : Int) :: pad cs)).toList 0).run Try.prog w2.drew = .ok () (w2.drew.setRow (w.heap.size + 1) (ivals (ringL cs))) := RingAt.store (w := w2.drew) ⟨Z3.hp, Z3.len⟩ HV.out
      have hsz : (ivals ((cs.length : Int) :: pad cs)).size = 13 := by rw [size_ivals]; exact HV.out
      clear hV RV Zn Z2 st
      go_region_law (fail)
      all_goals
        have HR : Hid (findOf' cs key = (ringL cs, (srch cs key : Int), nth cs (srch cs key) == key)) := hid (by
          unfold findOf'
          rw [if_pos (by rw [HG.out, Bool.true_and]; exact HK.out)]
          rfl)
        have Z4 := RingAt.row (w := w2.drew) ⟨Z3.hp, Z3.len⟩ HV.out
        have hb4 := below_row hb3.drew (show w.heap.size ≤ w.heap.size + 1 by omega) (ivals (ringL cs))
        clear c0 c1 c2 c3 c4 c5 c6 c7 c8 c9 c10 c11 c12 hst hsz hcell2
        simp [Act.put]
        go_wp2_with fail
        refine bodyPost_ret (v := .tuple #[.agg (ivals (ringL cs)), .int .i64 (srch cs key : Nat), .bool (nth cs (srch cs key) == key)]) (results_ring3 rfl _ _ _ _ _ _ rfl rfl rfl Z4) rfl ⟨by rw [HR.out], hb4⟩
    · have HK := hid (Bool.eq_false_iff.2 hk)
      have HR : Hid (findOf' cs key = (zeroR, 0, false)) := hid (by unfold findOf' keyB; rw [HK.out]; simp)
      clear hk
      go_wp2_with (first | (refine wpList_store_ring rfl _ _ rfl _ _ _ rfl rfl Zn HV.out ?_) | (refine wpList_store_ring rfl _ _ rfl _ _ zeroR rfl rfl Z2 rfl ?_) | (go_at_call 48; refine (isKey_any _ _).mono ?_; rintro e w' ⟨rfl, rfl⟩; rw [HK.out]))
      refine bodyPost_ret (v := .tuple #[.agg (ivals zeroR), .int .i64 0, .bool false]) (results_ring3 rfl _ _ _ _ _ _ rfl rfl rfl (Z2.row (ys := zeroR) rfl)) rfl ⟨by rw [HR.out], below_row hb2 (by omega) _⟩
  · have HRO := hid (rings_no (Bool.eq_false_iff.2 hg))
    have HR : Hid (findOf' cs key = (zeroR, 0, false)) := hid (by unfold findOf'; rw [Bool.eq_false_iff.2 hg]; simp)
    clear hg
    go_enter Try.func54, Try.ntmps54
    go_wp2_with fail
    refine (ringOf_any _ _ _ _ _ hH).mono ?_
    rintro e w1 ⟨rfl, st⟩
    rw [HRO.out]
    have s1 := st.size
    obtain ⟨V, hV, RV, hbV, hsV⟩ := ring_stored w1 (xs := zeroR) rfl
    have Zn := ringAt_zero w1
    have Z2 := (Z.below st Z.lt).below hbV (by omega)
    have hb2 := (hbW.trans (st.mono (by omega))).trans (hbV.mono (by omega))
    clear st hbV hbW hW y1 y2 C hH Z
    go_wp2_with (first | (refine wpList_store_ring rfl _ _ rfl _ _ _ rfl rfl Zn rfl ?_) | (refine wpList_store_ring rfl _ _ rfl _ _ zeroR rfl rfl Z2 rfl ?_))
    refine bodyPost_ret (v := .tuple #[.agg (ivals zeroR), .int .i64 0, .bool false]) (results_ring3 rfl _ _ _ _ _ _ rfl rfl rfl (Z2.row (ys := zeroR) rfl)) rfl ⟨by rw [HR.out], below_row hb2 (by omega) _⟩

/-- Where a key is, and its cost. -/
def foundOf (cs : List Int) (key : Int) : Int × Int × Bool := if (tblB cs && (keyB key && hasB cs key)) = true then ((findL cs key : Int), (costN cs.length key (findL cs key) : Int), true) else (0, 0, false)
theorem foundOf_no1 {cs : List Int} {key : Int} (h : tblB cs = false) : foundOf cs key = (0, 0, false) := by simp [foundOf, h]
theorem foundOf_no2 {cs : List Int} {key : Int} (h : keyB key = false) : foundOf cs key = (0, 0, false) := by simp [foundOf, h]
theorem foundOf_no3 {cs : List Int} {key : Int} (h : hasB cs key = false) : foundOf cs key = (0, 0, false) := by simp [foundOf, h]
theorem foundOf_yes {cs : List Int} {key : Int} (h1 : tblB cs = true) (h2 : keyB key = true) (h3 : hasB cs key = true) : foundOf cs key = ((findL cs key : Int), (costN cs.length key (findL cs key) : Int), true) := by simp [foundOf, h1, h2, h3]
theorem findOf_found {cs : List Int} {key : Int} (h1 : tblB cs = true) (h2 : keyB key = true) (h3 : hasB cs key = true) : findOf' cs key = (ringL cs, (findL cs key : Int), true) := by
  have ht := tb_iff.1 h1
  have hm := hasB_iff.1 h3
  have hk : key ≠ -1 := by have := (inB_iff.1 h2).1; omega
  unfold findOf'
  rw [if_pos (by rw [h1, h2]; rfl), ← ht.find hk hm, (findL_spec hm).2.1]
  simp
theorem findOf_not {cs : List Int} {key : Int} (h3 : (tblB cs && (keyB key && hasB cs key)) = false) : (findOf' cs key).2.2 = false := by
  unfold findOf'
  split
  · rename_i h
    simp only [Bool.and_eq_true] at h
    have ht := tb_iff.1 h.1
    have hk : key ≠ -1 := by have := (inB_iff.1 h.2).1; omega
    rw [h.1, h.2] at h3
    simp only [decide_eq_false_iff_not]
    intro e
    have := hasB_iff.2 ((ht.there hk).1 e)
    rw [this] at h3
    simp at h3
  · rfl
theorem find_len (cs : List Int) (key : Int) : (findOf' cs key).1.length = 13 := by
  unfold findOf'
  split
  · rename_i h
    simp only [Bool.and_eq_true] at h
    have ht := tb_iff.1 h.1
    exact (Rg.mk (by have := ht.lo; omega) ht.hi).all
  · rfl
theorem postIntInt {w w' : World} {r : Int × Int × Bool} {x y : Int} {ok : Bool} (hr : r = (x, y, ok)) (hb : Below w.heap.size w w') : PostIntInt w r (.returned (.tuple #[.int .i64 x, .int .i64 y, .bool ok])) w' := by subst hr; exact ⟨rfl, hb⟩
set_option maxRecDepth 100000 in
set_option maxHeartbeats 1000000 in
theorem implFind_any (a : Option Addr) (n cap : Nat) (cs : List Int) (key : Int) (w : World) (h : Has w a n cap cs) :
    Calls Try.prog 23 #[.agg #[.slice a n cap], .int .i64 key] w (PostIntInt w (foundOf cs key)) := by
  obtain ⟨W, hW, C, hbW, hsW⟩ := boxed w (.slice a n cap) 27
  have hH := h.below hbW (Nat.le_refl _)
  obtain ⟨y1, y2⟩ := id C
  have HL := hid (find_len cs key)
  by_cases hg : (tblB cs && (keyB key && hasB cs key)) = true
  · have hg2 := hg
    simp only [Bool.and_eq_true] at hg2
    have HF := hid (findOf_found hg2.1 hg2.2.1 hg2.2.2)
    have HR := hid (foundOf_yes hg2.1 hg2.2.1 hg2.2.2)
    have ht := tb_iff.1 hg2.1
    have hrg : Rg cs := ⟨by have := ht.lo; omega, ht.hi⟩
    have h0 := (inB_iff.1 hg2.2.1).1
    have hc := (findL_spec (hasB_iff.1 hg2.2.2)).1
    have HV := hid hrg.all
    clear hg hg2
    go_enter Try.func23, Try.ntmps23
    go_wp2_with fail
    refine (findIn_any _ _ _ _ _ _ hH).mono ?_
    rintro e w1 ⟨rfl, st⟩
    rw [HF.out]
    obtain ⟨V, hV, RV, hbV, hsV⟩ := ring_stored w1 HV.out
    have Zn := ringAt_zero w1
    have s1 := st.size
    have hb2 := (hbW.trans (st.mono (by omega))).trans (hbV.mono (by omega))
    clear st hbV hbW hW y1 y2 C hH HL
    go_wp2_with (first | (refine wpList_store_ring rfl _ _ rfl _ _ _ rfl rfl Zn HV.out ?_) | (refine wpList_load_ring rfl _ rfl _ _ rfl RV ?_) | (go_at_call 55; refine (costAt_any cs.length (pad cs) (findL cs key) key _ hrg.of hc h0).mono ?_; rintro e w' ⟨rfl, st⟩))
    refine bodyPost_ret (v := .tuple #[.int .i64 (findL cs key : Nat), .int .i64 (costN cs.length key (findL cs key) : Nat), .bool true]) (by simp [results, Try.results23, go_sem]) rfl (postIntInt HR.out (hb2.trans (st.mono (by have := hb2.size; omega))))
  · have HF := hid (findOf_not (Bool.eq_false_iff.2 hg))
    have HR : Hid (foundOf cs key = (0, 0, false)) := hid (by unfold foundOf; rw [if_neg hg])
    clear hg
    obtain ⟨⟨rs, z, ok⟩, hr⟩ : ∃ r, findOf' cs key = r := ⟨_, rfl⟩
    rw [hr] at HF HL
    have HRR := hid hr
    have HF2 : Hid (ok = false) := HF
    clear hr HF
    obtain rfl := HF2.out
    have HL2 : Hid (rs.length = 13) := HL
    go_enter Try.func23, Try.ntmps23
    go_wp2_with fail
    refine (findIn_any _ _ _ _ _ _ hH).mono ?_
    rintro e w1 ⟨rfl, st⟩
    rw [HRR.out]
    obtain ⟨V, hV, RV, hbV, hsV⟩ := ring_stored w1 HL2.out
    have Zn := ringAt_zero w1
    have s1 := st.size
    have hb2 := (hbW.trans (st.mono (by omega))).trans (hbV.mono (by omega))
    clear st hbV hbW hW y1 y2 C hH
    go_wp2_with (refine wpList_store_ring rfl _ _ rfl _ _ _ rfl rfl Zn HL2.out ?_)
    refine bodyPost_ret (v := .tuple #[.int .i64 0, .int .i64 0, .bool false]) (by simp [results, Try.results23, go_sem]) rfl (postIntInt HR.out hb2)

set_option maxRecDepth 100000 in
set_option maxHeartbeats 1000000 in
theorem specFind_any (a : Option Addr) (n cap : Nat) (cs : List Int) (key : Int) (w : World) (h : Has w a n cap cs) :
    Calls Try.prog 22 #[.agg #[.slice a n cap], .int .i64 key] w (PostIntInt w (foundOf cs key)) := by
  obtain ⟨W, hW, C, hbW, hsW⟩ := boxed w (.slice a n cap) 27
  have hH := h.below hbW (Nat.le_refl _)
  obtain ⟨y1, y2⟩ := id C
  by_cases hg : tblB cs = true
  · have HG := hid hg
    have ht := tb_iff.1 hg
    have h12 := ht.hi
    have hlo := ht.lo
    by_cases hk : keyB key = true
    · have HK := hid hk
      have h0 := (inB_iff.1 hk).1
      by_cases hm : hasB cs key = true
      · have HR := hid (foundOf_yes hg hk hm)
        have hc := (findL_spec (hasB_iff.1 hm)).1
        have HP := hid (placeI_yes (hasB_iff.1 hm))
        have hpn : ¬ ((findL cs key : Nat) : Int) < 0 := by omega
        have hn := h.len
        clear hg hk hm
        go_enter Try.func22, Try.ntmps22
        go_wp2_with fail
        refine (prGood_any _ _ _ _ _ hH).mono ?_
        rintro e w1 ⟨rfl, st⟩
        rw [HG.out]
        have s1 := st.size
        replace C := C.below st (by omega)
        replace hH := hH.below st (Nat.le_refl _)
        replace hbW := hbW.trans (st.mono (by omega))
        clear st y1 y2 hW
        obtain ⟨y1, y2⟩ := id C
        go_wp2_with (go_at_call 43; refine (prKey_any _ _).mono ?_; rintro e w' ⟨rfl, rfl⟩; rw [HK.out])
        refine (prPlace_any _ _ _ _ _ _ hH).mono ?_
        rintro e w2 ⟨rfl, st⟩
        rw [HP.out]
        have s2 := st.size
        replace C := C.below st (by omega)
        replace hH := hH.below st (Nat.le_refl _)
        replace hbW := hbW.trans (st.mono (by omega))
        clear st y1 y2
        obtain ⟨y1, y2⟩ := id C
        go_wp2_with fail
        refine (prPlace_any _ _ _ _ _ _ hH).mono ?_
        rintro e w3 ⟨rfl, st⟩
        rw [HP.out]
        replace C := C.below st (by omega)
        replace hbW := hbW.trans (st.mono (by omega))
        clear st y1 y2
        obtain ⟨y1, y2⟩ := id C
        obtain rfl := hn
        go_wp2_with (go_at_call 53; refine (prCost_any key (findL cs key) cs.length _ h0 (by omega) (by omega) (by omega)).mono ?_; rintro e w' ⟨rfl, rfl⟩)
        refine bodyPost_ret (v := .tuple #[.int .i64 (findL cs key : Nat), .int .i64 (costN cs.length key (findL cs key) : Nat), .bool true]) (by simp [results, Try.results22, go_sem]) rfl (postIntInt HR.out hbW)
      · have HR := hid (foundOf_no3 (key := key) (Bool.eq_false_iff.2 hm))
        have HP := hid (placeI_no (cs := cs) (key := key) (fun h => hm (hasB_iff.2 h)))
        clear hg hk hm
        go_enter Try.func22, Try.ntmps22
        go_wp2_with fail
        refine (prGood_any _ _ _ _ _ hH).mono ?_
        rintro e w1 ⟨rfl, st⟩
        rw [HG.out]
        have s1 := st.size
        replace C := C.below st (by omega)
        replace hH := hH.below st (Nat.le_refl _)
        replace hbW := hbW.trans (st.mono (by omega))
        clear st y1 y2 hW
        obtain ⟨y1, y2⟩ := id C
        go_wp2_with (go_at_call 43; refine (prKey_any _ _).mono ?_; rintro e w' ⟨rfl, rfl⟩; rw [HK.out])
        refine (prPlace_any _ _ _ _ _ _ hH).mono ?_
        rintro e w2 ⟨rfl, st⟩
        rw [HP.out]
        replace hbW := hbW.trans (st.mono (by omega))
        clear st
        go_wp2_with fail
        refine bodyPost_ret (v := .tuple #[.int .i64 0, .int .i64 0, .bool false]) (by simp [results, Try.results22, go_sem]) rfl (postIntInt HR.out hbW)
    · have HK := hid (Bool.eq_false_iff.2 hk)
      have HR := hid (foundOf_no2 (cs := cs) (Bool.eq_false_iff.2 hk))
      clear hg hk
      go_enter Try.func22, Try.ntmps22
      go_wp2_with (first | (go_at_call 37; refine (prGood_any _ _ _ _ _ hH).mono ?_; rintro e w' ⟨rfl, st⟩; rw [HG.out]) | (go_at_call 43; refine (prKey_any _ _).mono ?_; rintro e w' ⟨rfl, rfl⟩; rw [HK.out]))
      refine bodyPost_ret (v := .tuple #[.int .i64 0, .int .i64 0, .bool false]) (by simp [results, Try.results22, go_sem]) rfl (postIntInt HR.out (hbW.trans (st.mono hbW.size)))
  · have HG := hid (Bool.eq_false_iff.2 hg)
    have HR := hid (foundOf_no1 (key := key) (Bool.eq_false_iff.2 hg))
    clear hg
    go_enter Try.func22, Try.ntmps22
    go_wp2_with (go_at_call 37; refine (prGood_any _ _ _ _ _ hH).mono ?_; rintro e w' ⟨rfl, st⟩; rw [HG.out])
    refine bodyPost_ret (v := .tuple #[.int .i64 0, .int .i64 0, .bool false]) (by simp [results, Try.results22, go_sem]) rfl (postIntInt HR.out (hbW.trans (st.mono hbW.size)))
end Go.Proofs.Ytbmghpgnakbnjaa
