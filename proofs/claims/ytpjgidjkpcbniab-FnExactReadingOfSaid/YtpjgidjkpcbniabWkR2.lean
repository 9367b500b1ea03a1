/- Chapter 4: readings of walks, by the contracts of the functions. -/
import Derived.Test.YtpjgidjkpcbniabWkR
import Derived.Test.YtpjgidjkpcbniabShelfB
namespace Go.Proofs.Ytpjgidjkpcbniab
open Go.RowKit Go.Sort

set_option maxHeartbeats 1000000 in
theorem sortReading_any (B g m cap bx : Nat) (al : Option Addr) (cl : Nat) (hs : List Int) (w : World) (h8 : m + 1 ≤ 8) (hl : hs.length = m + 1) (hbd : ∀ i, i < m + 1 → 0 ≤ nth hs i ∧ nth hs i ≤ ((m + 1 : Nat) : Int))
    (h : Own w B (some ⟨g, 0, none⟩) (m + 1) cap (upto (m + 1))) (hx : Has w al (m + 1) cl hs) (hal : ∀ p, al = some p → p.block ≠ g) (hbx : w.cell? ⟨bx, 0, none⟩ = some (.slice al (m + 1) cl)) (hbg : bx ≠ g) :
    Calls Try.prog 67 #[.slice (some ⟨g, 0, none⟩) (m + 1) cap, .func (.func 68) #[] #[.pointer (some ⟨bx, 0, none⟩)]] w fun e w' =>
      e = .returned (.tuple #[]) ∧ Own w' B (some ⟨g, 0, none⟩) (m + 1) cap (rdL hs) ∧ w.grownBy w' (some g) := by
  obtain ⟨⟨h1, h2⟩, h3, h4⟩ := h
  rcases h2 with ⟨hv, _⟩ | ⟨g', cap', cur, hv, hg, hh, hnc, hcm, hcs, htake⟩
  · simp at hv
  · simp at hv
    obtain ⟨rfl, rfl⟩ := hv
    have hlen : (allFin m).length = m + 1 := by simp [allFin]
    have hH : Holds (encF m) w g 0 (allFin m).toArray := holds_of_cells hh (by rw [hlen, allFin_enc]; simpa using htake)
    have hlt : g < w.heap.size := (Array.getElem?_eq_some_iff.1 hh).1
    have eg : ∀ args w, (callFunc 68 args).run Try.prog w = .ok (.enter 68 args) w := by intro args w; go_simp
    have hcmp : CmpLays1 Try.prog 68 #[.pointer (some ⟨bx, 0, none⟩)] (encF m) (fun x y => rcmp hs x.val y.val) g 0 (allFin m).toArray.size w := by
      intro q os dk _ x y
      have hgr : w.grownBy (sortWorld (encF m) w g 0 q dk os) (some g) := grownBy_sortedE (encF m) dk
      have hx' := hx.kept hgr hal
      have hb' : (sortWorld (encF m) w g 0 q dk os).cell? ⟨bx, 0, none⟩ = some (.slice al (m + 1) cl) := hgr.cell hbx (by simpa using hbg)
      refine (rcmp_any bx al (m + 1) cl hs x.val y.val _ hb' hx' x.isLt y.isLt).mono ?_
      rintro e w' ⟨rfl, q2, os2, rfl⟩
      exact ⟨rfl, q2, os2, rfl⟩
    have hlt' : ∀ x y : Fin (m + 1), (ltOf fun x y : Fin (m + 1) => rcmp hs x.val y.val) x y = decide (keyR hs x.val < keyR hs y.val) := fun x y => by
      have h1 := x.isLt
      have h2 := y.isLt
      exact rcmp_key (by omega) (by omega)
    have hswo : SWO (ltOf fun x y : Fin (m + 1) => rcmp hs x.val y.val) := ⟨fun x => by simp [hlt'], fun x y z h1 h2 => by simp [hlt'] at *; omega, fun x y z h1 h2 => by simp [hlt'] at *; omega⟩
    have hs' := Try.slices_SortFunc_f67 (encF m) (fun _ => rfl) (fun x y => rcmp hs x.val y.val) hswo 68 #[.pointer (some ⟨bx, 0, none⟩)] g 0 cap (allFin m).toArray w eg hcmp hH hlt (by simp [allFin]; omega)
    have hsz : (allFin m).toArray.size = m + 1 := by simp [allFin]
    simp only [hsz] at hs'
    refine hs'.mono ?_
    rintro e w' ⟨rfl, d', q, os, hp, hst, rfl⟩
    have hsort := sort_rows hl (by omega) hbd hlt' hp hst
    have hcl : (rdL hs).length = m + 1 := length_rdL hl (by omega) hbd
    have hdl : d'.toList.length = m + 1 := by
      have h5 := congrArg List.length hsort
      rw [List.length_map, hcl] at h5
      exact h5
    have henc : d'.toList.map (encF m) = (rdL hs).map (Value.int .i64) := by
      rw [← hsort, List.map_map]
      rfl
    refine ⟨rfl, ⟨⟨by simp [hcl], .inr ⟨g, cap, _, rfl, hg, heap_sortedE _ d' hh, hnc, hcm, by simpa [putCells] using hcs, ?_⟩⟩, hcl, h4⟩, grownBy_sortedE _ d'⟩
    rw [Nat.mul_one, ← henc]
    have := take_putCellsE (encF m) cur d'.toList (by omega)
    rw [toArr, hdl] at this
    exact this

set_option maxHeartbeats 1000000 in
theorem sortNone_any (a : Option Addr) (cap : Nat) (fv : Value) (w : World) :
    Calls Try.prog 67 #[.slice a 0 cap, fv] w fun e w' => e = .returned (.tuple #[]) ∧ w' = w := by
  have hst : ∀ L : Int, Calls Try.prog 115 #[.slice a 0 cap, .int .i64 0, .int .i64 0, .int .i64 L, fv] w fun e w' => e = .returned (.tuple #[]) ∧ w' = w := fun L => by
    go_enter Try.func115, Try.ntmps115
    go_wp2
    refine wp_loop_rounds 1 ?_
    rw [rounds_succ]
    go_wp2_with (go_at_call 140; refine (insNone_any _ _ _ _).mono ?_; rintro e w1 ⟨rfl, rfl⟩)
    refine bodyPost_ret (results_none rfl _ _ _) rfl ⟨rfl, rfl⟩
  go_enter Try.func67, Try.ntmps67
  go_wp2_with fail
  refine (Try.bits_Len 0 w (by omega) (by omega)).mono ?_
  rintro e w1 ⟨rfl, rfl⟩
  go_wp2_with fail
  refine (hst _).mono ?_
  rintro e w1 ⟨rfl, rfl⟩
  go_wp2_with fail
  go_end0
  exact ⟨rfl, rfl⟩
theorem rd_none {hs : List Int} (h : hs.length = 0) : rdL hs = [] := by obtain rfl := List.eq_nil_of_length_eq_zero h; rfl
theorem sortRd_any (B n : Nat) (a al : Option Addr) (cap cl bx : Nat) (hs : List Int) (w : World) (h8 : n ≤ 8) (hl : hs.length = n) (hbd : ∀ i, i < n → 0 ≤ nth hs i ∧ nth hs i ≤ (n : Int)) (hBw : B ≤ w.heap.size)
    (h : Own w B a n cap (upto n)) (hx : Has w al n cl hs) (hal : 0 < n → BlkLt al B) (hbx : w.cell? ⟨bx, 0, none⟩ = some (.slice al n cl)) (hbg : bx < B) :
    Calls Try.prog 67 #[.slice a n cap, .func (.func 68) #[] #[.pointer (some ⟨bx, 0, none⟩)]] w fun e w' =>
      e = .returned (.tuple #[]) ∧ Own w' B a n cap (rdL hs) ∧ Below B w w' := by
  by_cases hn : n = 0
  · subst hn
    refine (sortNone_any _ _ _ _).mono ?_
    rintro e w1 ⟨rfl, rfl⟩
    exact ⟨rfl, by rw [rd_none hl]; exact h, Below.refl _ _⟩
  · obtain ⟨m, rfl⟩ : ∃ m, n = m + 1 := ⟨n - 1, by omega⟩
    obtain ⟨g, rfl, hg1, hg2, _, _⟩ := h.opened (by omega)
    refine (sortReading_any B g m cap bx al cl hs w h8 hl hbd h hx ((hal (by omega)).ne hg1) hbx (by omega)).mono ?_
    rintro e w1 ⟨rfl, ho, hgr⟩
    exact ⟨rfl, ho, below_grown hgr hBw (fun k hk => by simp at hk; omega)⟩

/-- The labels of the first rows that are read. -/
def RdAt (ls rs ys : List Int) (k : Nat) : Prop := ∀ i, i < k → nth ys i = nth ls (nth rs i).toNat
theorem rda_all {ls rs ys : List Int} {n : Nat} (h : RdAt ls rs ys n) (hl : ys.length = n) (hn : rs.length = n) : ys = rs.map (fun v => nth ls v.toNat) := ext_nth (by simp; omega) fun i hi => by
  rw [h i (by omega)]
  simp [nth, show i < rs.length by omega]
theorem rda_step {ls rs ys : List Int} {k c n : Nat} (h : RdAt ls rs ys k) (hl : ys.length = n) (hk : k < n) (hc : nth rs k = (c : Int)) : RdAt ls rs (ys.set k (nth ls c)) (k + 1) := fun i hi => by
  rw [nth_set (by omega)]
  split
  · subst_vars; rw [hc, Int.toNat_natCast]
  · exact h i (by omega)
theorem rdL_nth {hs : List Int} {n : Nat} (hl : hs.length = n) (h8 : n ≤ 8) (hb : ∀ i, i < n → 0 ≤ nth hs i ∧ nth hs i ≤ (n : Int)) {k : Nat} (hk : k < n) : ∃ c : Nat, nth (rdL hs) k = (c : Int) ∧ c < n := by
  have hp := rdL_perm hl (by omega) hb
  have hm : nth (rdL hs) k ∈ rdL hs := nth_mem (by rw [length_rdL hl (by omega) hb]; exact hk)
  have := hp.subset hm
  unfold upto at this
  obtain ⟨c, hc, e⟩ := List.mem_map.1 this
  exact ⟨c, e.symm, List.mem_range.1 hc⟩

set_option maxHeartbeats 2000000 in
theorem implReading_any (a b : Option Addr) (n cap m cap' : Nat) (hs ls : List Int) (w : World) (h : Has w a n cap hs) (h' : Has w b m cap' ls) :
    Calls Try.prog 18 #[.agg #[.slice a n cap, .slice b m cap']] w (PostInts w (readOf hs ls)) := by
  have HL := hid h.len
  have HL' := hid h'.len
  have hle := h.le
  have hle' := h'.le
  go_enter Try.func18, Try.ntmps18
  go_wp2_with fail
  generalize hW : w.alloc (.cells #[.slice a n cap, .slice b m cap'] 28) = W
  have hbW : Below w.heap.size w W := by rw [← hW]; exact (Below.refl _ w).alloc (Nat.le_refl _) _
  have B1 : BoxAt W w.heap.size (.slice a n cap) (.slice b m cap') := by rw [← hW]; exact boxAt_new _ _ _ _
  clear hW
  refine (rowsOf_any _ _ _ _ _ _ _ _ _ (h.below hbW (Nat.le_refl _)) (h'.below hbW (Nat.le_refl _))).mono ?_
  rintro e w1 ⟨⟨hw, rfl⟩ | ⟨hw, rfl⟩, st⟩
  · have hb1 := hbW.trans (st.mono hbW.size)
    clear st hbW B1
    have HR : Hid (readOf hs ls = ((rdL hs).map (fun v => nth ls v.toNat), true)) := hid (by simp only [readOf]; rw [if_pos hw])
    have hnm : n = m := by have := (walkB_iff.1 hw).2.1; rw [HL.out, HL'.out] at this; exact this
    subst hnm
    have HW := hid (walkB_iff.1 hw)
    obtain ⟨h8, hbd⟩ := hgt_of HW.out.1 HL.out
    have C1 := boxAt_new w1 (.slice a n cap) (.slice b n cap') 58
    have hb2 := hb1.alloc hb1.size (.cells #[.slice a n cap, .slice b n cap'] 58)
    have g1 := h.below hb2 (Nat.le_refl _)
    have g2 := h'.below hb2 (Nat.le_refl _)
    have hsz : (w1.alloc (.cells #[.slice a n cap, .slice b n cap'] 58)).heap.size = w1.heap.size + 1 := by simp
    have hs1 := hb1.size
    clear hw
    have HBN : Hid (∀ i, i < n → 0 ≤ nth hs i ∧ nth hs i ≤ (n : Int)) := hid (fun i hi => by have := hbd i hi; omega)
    have HN : Hid (∀ k, k < n → ∃ c : Nat, nth (rdL hs) k = (c : Int) ∧ c < n) := hid (fun k hk => rdL_nth HL.out h8 HBN.out hk)
    have HCL := hid (length_rdL HL.out (by omega) HBN.out)
    clear hbd
    obtain ⟨x1, x2, x3, x4⟩ := id C1
    go_wp2_with fail
    generalize w1.alloc (.cells #[.slice a n cap, .slice b n cap'] 58) = V at *
    refine (indicesOf_any n _ (by omega)).mono ?_
    rintro e w2 ⟨a2, c2, rfl, own2, st⟩
    have hs2 := st.size
    replace C1 := C1.below st (boxAt_lt C1)
    have hb3 := hb2.trans (st.mono hb2.size)
    clear st x1 x2 x3 x4
    obtain ⟨x1, x2, x3, x4⟩ := id C1
    go_wp2_with fail
    refine (sortRd_any V.heap.size n a2 a c2 cap w1.heap.size hs w2 h8 HL.out HBN.out hs2 own2 (h.below hb3 (Nat.le_refl _)) (fun hn => (h.lt hn).mono (by omega)) x1 (by omega)).mono ?_
    rintro e w3 ⟨rfl, own3, st⟩
    have hs3 := st.size
    replace C1 := C1.below st (by omega)
    have hb4 := hb3.trans (st.mono (by omega))
    clear st own2 hb3 x1 x2 x3 x4
    obtain ⟨x1, x2, x3, x4⟩ := id C1
    go_wp2_with (at_make; refine wpList_make_ints _ rfl _ _ rfl n rfl rfl (by omega) ?_; intro a4 c4 w4 own4 st4)
    have lt3 := own3.lt
    replace C1 := C1.below st4 (by omega)
    replace own3 := own3.below st4 (Nat.le_refl _)
    have hb5 := hb4.trans (st4.mono hb4.size)
    clear st4 hb4 x1 x2 x3 x4
    go_loopw [29] (fun i wr => ∃ (k : Nat) (ys : List Int), k ≤ n ∧ i = .int .i64 k ∧ Own wr w3.heap.size a4 n c4 ys ∧ Hid (RdAt ls (rdL hs) ys k) ∧ Own wr V.heap.size a2 n c2 (rdL hs) ∧ BoxAt wr w1.heap.size (.slice a n cap) (.slice b n cap') ∧ Below w.heap.size w wr) (fun i _ => n - (intOf i).toNat)
    case atStart => exact ⟨0, _, Nat.zero_le _, rfl, own4, hid (fun i hi => by omega), own3, C1, hb5⟩
    case round =>
      obtain ⟨k, ys, hk, rfl, oh, HH, oc, CX, hb⟩ := hrel
      clear own3 own4 hb5 C1
      by_cases hlt : k < n
      · obtain ⟨b1, off1, rfl, hbb1, hc1⟩ := h'.2.2.2.2 (by omega)
        obtain ⟨c, hcv, hcn⟩ := HN.out k hlt
        have hck : wr.cell? ⟨b1, off1 + c, none⟩ = some (.int .i64 (nth ls c)) := by rw [hb.cell (p := ⟨b1, off1 + c, none⟩) hbb1]; exact hc1 c hcn
        obtain ⟨q, rfl, hq1, hq2, hq3, hq4⟩ := oc.opened (by omega)
        have hqk := hq3 k hlt
        rw [hcv] at hqk
        obtain ⟨g, rfl, hg1, hg2, hg3, hg4⟩ := oh.opened (by omega)
        have hgx := hg3 k hlt
        have hgf := hg4 k
        have HH2 := hid (rda_step HH.out oh.len hlt hcv)
        obtain ⟨s1, s2⟩ := oh.set k (nth ls c)
        have oc2 := oc.setNe (g := g) (i := k) (lt3.ne hg1) (.int .i64 (nth ls c))
        have CX2 := CX.apart (g' := g) (i := k) (z := .int .i64 (nth ls c)) (by omega)
        have hb6 := hb.setCell (p := ⟨g, k, none⟩) (by simp; omega) (.int .i64 (nth ls c))
        have z1 : (c : Int) < (n : Int) := by omega
        obtain ⟨y1, y2, y3, y4⟩ := id CX
        clear hc1 hq3 hq4 hg3 hg4
        go_wp2_with fail
        go_roundw
        case rel => exact ⟨k + 1, _, by omega, by go_num, s1, HH2, oc2, CX2, hb6⟩
        case measure => simp [intOf]; omega
      · obtain rfl : k = n := by omega
        have HE := hid (rda_all HH.out oh.len HCL.out)
        go_wp2_with fail
        go_ret2
        exact postInts (HR.out.trans (by rw [HE.out])) (oh.mono (by omega)) hb
  · have hb1 := hbW.trans (st.mono hbW.size)
    clear st hbW B1
    have HR : Hid (readOf hs ls = ([], false)) := hid (by simp only [readOf]; rw [if_neg (by rw [hw]; decide)])
    go_wp2_with fail
    go_ret2
    exact postInts_no HR.out (hb1.alloc hb1.size _)

set_option maxHeartbeats 4000000 in
theorem specReading_any (a b : Option Addr) (n cap m cap' : Nat) (hs ls : List Int) (w : World) (h : Has w a n cap hs) (h' : Has w b m cap' ls) :
    Calls Try.prog 16 #[.agg #[.slice a n cap, .slice b m cap']] w (PostInts w (readOf hs ls)) := by
  have HL := hid h.len
  have HL' := hid h'.len
  have hle := h.le
  have hle' := h'.le
  go_enter Try.func16, Try.ntmps16
  go_wp2_with fail
  generalize hW : w.alloc (.cells #[.slice a n cap, .slice b m cap'] 28) = W
  have hbW : Below w.heap.size w W := by rw [← hW]; exact (Below.refl _ w).alloc (Nat.le_refl _) _
  have B1 : BoxAt W w.heap.size (.slice a n cap) (.slice b m cap') := by rw [← hW]; exact boxAt_new _ _ _ _
  clear hW
  refine (waGood_any _ _ _ _ _ _ _ _ _ (h.below hbW (Nat.le_refl _)) (h'.below hbW (Nat.le_refl _))).mono ?_
  rintro e w1 ⟨rfl, st⟩
  replace B1 := B1.below st (boxAt_lt B1)
  have hb1 := hbW.trans (st.mono hbW.size)
  clear st hbW
  have g1 := h.below hb1 (Nat.le_refl _)
  have g2 := h'.below hb1 (Nat.le_refl _)
  obtain ⟨x1, x2, x3, x4⟩ := id B1
  by_cases hw : walkB hs ls = true
  · rw [hw]
    have HR : Hid (readOf hs ls = ((rdL hs).map (fun v => nth ls v.toNat), true)) := hid (by simp only [readOf]; rw [if_pos hw])
    have hnm : n = m := by have := (walkB_iff.1 hw).2.1; rw [HL.out, HL'.out] at this; exact this
    subst hnm
    have HW := hid (walkB_iff.1 hw)
    obtain ⟨h8, hbd⟩ := hgt_of HW.out.1 HL.out
    clear hw
    have HBN : Hid (∀ i, i < n → 0 ≤ nth hs i ∧ nth hs i ≤ (n : Int)) := hid (fun i hi => by have := hbd i hi; omega)
    have hlB := boxAt_lt B1
    have hs1 := hb1.size
    clear hbd
    go_wp2_with fail
    go_loopw [4, 5] (fun o hv wr => ∃ (t q : Nat) (a' : Option Addr) (cq : Nat), t ≤ n + 1 ∧ q ≤ 8 * t ∧ hv = .int .i64 ((n : Int) - (t : Int)) ∧ o = .slice a' q cq ∧ Own wr w1.heap.size a' q cq ((rdTo hs n t).map (fun v => nth ls v.toNat)) ∧ BoxAt wr w.heap.size (.slice a n cap) (.slice b n cap') ∧ w1.heap.size ≤ wr.heap.size ∧ Below w.heap.size w wr) (fun _ hv _ => (intOf hv + 1).toNat)
    case atStart => exact ⟨0, 0, none, 0, by omega, by omega, by go_num, rfl, Own.nil _ _, B1, Nat.le_refl _, hb1⟩
    case round =>
      obtain ⟨wo, rfl⟩ : ∃ wo : World, wo = wr := ⟨_, rfl⟩
      obtain ⟨t, q, a', cq, ht, hq, rfl, rfl, hown, BX, hsz, hb⟩ := hrel
      clear B1 x1 x2 x3 x4
      by_cases hlt : t ≤ n
      · obtain ⟨hh, hhv⟩ : ∃ hh : Nat, (n : Int) - (t : Int) = (hh : Int) := ⟨n - t, by omega⟩
        have HHV := hid hhv
        have hh8 : hh ≤ 8 := by omega
        rw [hhv]
        clear hhv
        obtain ⟨x1, x2, x3, x4⟩ := id BX
        go_wp2_with fail
        clear x1 x2 x3 x4
        go_loopw [4, 6] (fun o iv wr => ∃ (c q : Nat) (a' : Option Addr) (cq : Nat), c ≤ n ∧ q ≤ 8 * t + c ∧ iv = .int .i64 ((n : Int) - 1 - (c : Int)) ∧ o = .slice a' q cq ∧ Own wr w1.heap.size a' q cq ((rdTo hs n t ++ dnTo (fun i => decide (nth hs i = (n : Int) - (t : Int))) n c).map (fun v => nth ls v.toNat)) ∧ BoxAt wr w.heap.size (.slice a n cap) (.slice b n cap') ∧ w1.heap.size ≤ wr.heap.size ∧ Below w.heap.size w wr) (fun _ iv _ => (intOf iv + 1).toNat)
        case atStart => exact ⟨0, q, a', cq, by omega, by omega, by go_num, rfl, by simpa [dnTo] using hown, BX, hsz, hb⟩
        case round =>
          obtain ⟨c, q1, a1, cq1, hc, hq1, rfl, rfl, hown1, BX1, hsz1, hb1'⟩ := hrel
          clear hown BX hsz hb
          by_cases hlc : c < n
          · obtain ⟨j, hj⟩ : ∃ j : Nat, (n : Int) - 1 - (c : Int) = (j : Int) := ⟨n - 1 - c, by omega⟩
            have HJ : Hid (n - 1 - c = j) := hid (by omega)
            have hjn : j < n := by omega
            rw [hj]
            have HJI := hid hj
            have HJC : Hid ((j : Int) - 1 = (n : Int) - 1 - ((c + 1 : Nat) : Int)) := hid (by omega)
            clear hj
            obtain ⟨b1, off1, rfl, hbb1, hc1⟩ := h.2.2.2.2 (by omega)
            obtain ⟨b2, off2, rfl, hbb2, hc2⟩ := h'.2.2.2.2 (by omega)
            have hck1 : wr.cell? ⟨b1, off1 + j, none⟩ = some (.int .i64 (nth hs j)) := by rw [hb1'.cell (p := ⟨b1, off1 + j, none⟩) hbb1]; exact hc1 j hjn
            have hck2 : wr.cell? ⟨b2, off2 + j, none⟩ = some (.int .i64 (nth ls j)) := by rw [hb1'.cell (p := ⟨b2, off2 + j, none⟩) hbb2]; exact hc2 j hjn
            obtain ⟨x1, x2, x3, x4⟩ := id BX1
            clear hc1 hc2
            by_cases he : nth hs j = (hh : Int)
            · have hbe : (nth hs j == (hh : Int)) = true := by simp [he]
              have HS : Hid ((rdTo hs n t ++ dnTo (fun i => decide (nth hs i = (n : Int) - (t : Int))) n (c + 1)).map (fun v => nth ls v.toNat) = (rdTo hs n t ++ dnTo (fun i => decide (nth hs i = (n : Int) - (t : Int))) n c).map (fun v => nth ls v.toNat) ++ [nth ls j]) := hid (by
                simp only [dnTo, HJ.out]
                rw [if_pos (by rw [HHV.out]; simp [he]), ← List.append_assoc, List.map_append (l₂ := [_])]
                simp)
              clear he
              go_wp2_with (at_builtin; refine wpList_append_int _ rfl _ _ rfl w1.heap.size _ _ _ _ _ rfl rfl hown1 (by omega) hsz1 ?_; intro a3 c3 w3 hown3 hb3)
              go_roundw
              case rel => exact ⟨c + 1, q1 + 1, a3, c3, by omega, by omega, by rw [← HJC.out], rfl, by rw [HS.out]; exact hown3, BX1.below hb3 hlB, Nat.le_trans hsz1 hb3.size, hb1'.trans (hb3.mono hs1)⟩
              case measure => simp [intOf]
            · have hbe : (nth hs j == (hh : Int)) = false := by simp [he]
              have HS : Hid ((rdTo hs n t ++ dnTo (fun i => decide (nth hs i = (n : Int) - (t : Int))) n (c + 1)) = (rdTo hs n t ++ dnTo (fun i => decide (nth hs i = (n : Int) - (t : Int))) n c)) := hid (by
                simp only [dnTo, HJ.out]
                rw [if_neg (by rw [HHV.out]; simp [he]), List.append_nil])
              clear he
              go_wp2_with fail
              go_roundw
              case rel => exact ⟨c + 1, q1, a1, cq1, by omega, by omega, by rw [← HJC.out], rfl, by rw [HS.out]; exact hown1, BX1, hsz1, hb1'⟩
              case measure => simp [intOf]
          · have hcn : Hid (c = n) := hid (by omega)
            have hz : ¬ (0 : Int) ≤ (n : Int) - 1 - (c : Int) := by omega
            have HRD : Hid (rdTo hs n (t + 1) = rdTo hs n t ++ dnTo (fun i => decide (nth hs i = (n : Int) - (t : Int))) n c) := hid (by rw [hcn.out]; rfl)
            have HHC : Hid ((hh : Int) - 1 = (n : Int) - ((t + 1 : Nat) : Int)) := hid (by have := HHV.out; omega)
            have hqt : q1 ≤ 8 * (t + 1) := by omega
            clear hcn
            go_wp2_with fail
            go_roundw
            case rel => exact ⟨t + 1, q1, a1, cq1, by omega, hqt, by rw [← HHC.out], rfl, by rw [HRD.out]; exact hown1, BX1, hsz1, hb1'⟩
            case measure => simp [intOf]
      · have hte : t = n + 1 := by omega
        have HRL : Hid ((rdTo hs n t).map (fun v => nth ls v.toNat) = (rdL hs).map (fun v => nth ls v.toNat)) := hid (by unfold rdL; rw [HL.out, hte])
        have hz : ¬ (0 : Int) ≤ (n : Int) - (t : Int) := by omega
        clear hte
        go_wp2_with fail
        go_ret2
        exact postInts (HR.out.trans (by rw [← HRL.out])) (hown.mono hs1) hb
  · rw [Bool.eq_false_iff.2 hw]
    have HR : Hid (readOf hs ls = ([], false)) := hid (by simp only [readOf]; rw [if_neg hw])
    go_wp2_with fail
    go_ret2
    exact postInts_no HR.out hb1
end Go.Proofs.Ytpjgidjkpcbniab
