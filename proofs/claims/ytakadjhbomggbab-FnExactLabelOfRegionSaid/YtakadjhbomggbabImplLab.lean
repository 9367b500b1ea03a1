/- Labels of points: the program's functions, by contract. -/
import Derived.Test.YtakadjhbomggbabImplGrx
namespace Go.Proofs.Ytakadjhbomggbab
open Go.RowKit

theorem OwnP.setOther {w : World} {B g k i : Nat} {n cap : Nat} {ps : List Pl} (h : OwnP w B (some ⟨g, 0, none⟩) n cap ps) (hne : k ≠ g) (v : Value) : OwnP (w.setCell ⟨k, i, none⟩ v) B (some ⟨g, 0, none⟩) n cap ps := by
  obtain ⟨⟨h1, h2⟩, h3⟩ := h
  refine ⟨⟨h1, ?_⟩, h3⟩
  rcases h2 with h2 | ⟨g', cap', cur, hv, hg, hh, r⟩
  · exact .inl h2
  · have hv' := hv
    simp at hv'
    obtain ⟨rfl, rfl⟩ := hv'
    exact .inr ⟨g, cap, cur, hv, hg, by rw [heap_setCell_other w _ g v (fun e => hne e.symm)]; exact hh, r⟩
theorem grX_at {xs : List Int} {p : Pl} {i s : Nat} {c : Int} (h1 : p.1 = (i : Int)) (h2 : p.2.1 = (s : Int)) (h3 : p.2.2 = c) : grX xs p = decide (c < nth xs i - nth xs s) := by unfold grX; rw [h1, h2, h3, Int.toNat_natCast, Int.toNat_natCast]
theorem lab_yes0 {gr : Pl → Bool} {L : List Int} {p : Pl} {i : Nat} (h1 : p.1 = (i : Int)) (h3 : p.2.2 = 0) (hg : gr p = false) : labS gr L p = L.set i (nth L i + 1) := by unfold labS bump1; rw [if_pos h3, hg, h1, Int.toNat_natCast]; simp
theorem lab_no0 {gr : Pl → Bool} {L : List Int} {p : Pl} (h3 : p.2.2 = 0) (hg : gr p = true) : labS gr L p = L := by unfold labS; rw [if_pos h3, if_pos hg]
theorem lab_yes1 {gr : Pl → Bool} {L : List Int} {p : Pl} {s : Nat} (h2 : p.2.1 = (s : Int)) (h3 : p.2.2 = 100) (hg : gr p = true) : labS gr L p = L.set s (nth L s + 1) := by unfold labS bump1; rw [if_neg (by omega), if_pos hg, h2, Int.toNat_natCast]
theorem lab_no1 {gr : Pl → Bool} {L : List Int} {p : Pl} (h3 : p.2.2 = 100) (hg : gr p = false) : labS gr L p = L := by unfold labS; rw [if_neg (by omega), hg]; simp
theorem labelPt_planes {xs : List Int} {n : Nat} (hn : xs.length = n) (hp : pointB xs = true) : labTo (grX xs) (plAll n) (List.replicate n 0) (plAll n).length = labPt xs := by
  subst hn
  rw [lab_whole]
  unfold labPt
  refine List.map_congr_left fun i hi => ?_
  rw [List.mem_range] at hi
  exact (labX_same (pointB_iff.1 hp).2.2 hi xs.length (Nat.le_refl _)).symm
set_option maxRecDepth 100000 in
set_option maxHeartbeats 4000000 in
theorem labelX_any (a : Option Addr) (n cap : Nat) (xs : List Int) (w : World) (h : Has w a n cap xs) (hp : pointB xs = true) :
    Calls Try.prog 67 #[.agg #[.slice a n cap, .int .i64 (n : Int)]] w fun e w' => ∃ a' c', e = .returned (.slice a' n c') ∧ Own w' w.heap.size a' n c' (labPt xs) ∧ Below w.heap.size w w' := by
  have hL := h.len
  obtain ⟨p1, p2, p3⟩ := pointB_iff.1 hp
  have hbd : ∀ i, i < n → -100000 ≤ nth xs i ∧ nth xs i ≤ 100000 := fun i hi => allB_nth p2 (by omega)
  have h8 : n ≤ 8 := by omega
  have HE := hid (labelPt_planes hL hp)
  have HBD := hid hbd
  clear p1 p2 p3 hp hbd hL
  have BX := boxAt_new w (.slice a n cap) (.int .i64 (n : Int)) 81
  have hbW : Below w.heap.size w (w.alloc (.cells #[.slice a n cap, .int .i64 (n : Int)] 81)) := (Below.refl _ _).alloc (Nat.le_refl _) _
  have hsW : (w.alloc (.cells #[.slice a n cap, .int .i64 (n : Int)] 81)).heap.size = w.heap.size + 1 := by simp
  obtain ⟨y1, y2, y3, y4⟩ := id BX
  go_enter Try.func67, Try.ntmps67
  go_wp2_with (at_make; refine wpList_make_ints _ rfl _ _ rfl n rfl rfl (by omega) ?_; intro a1 c1 w1 own1 hb1; have BX1 := BX.below hb1 (by rw [hsW]; exact Nat.lt_succ_self _); obtain ⟨z1, z2, z3, z4⟩ := id BX1)
  refine (planesOf_any n _ h8).mono ?_
  rintro e w2 ⟨a2, m, c2, rfl, oP, hb2⟩
  have s1 := hb1.size
  rw [hsW] at s1
  have BX2 := BX1.below hb2 (by omega)
  have o1 := own1.below hb2 (Nat.le_refl _)
  rw [hsW] at o1
  have hb3 := (hbW.trans (hb1.mono (by rw [hsW]; omega))).trans (hb2.mono (by omega))
  have s2 := hb2.size
  have hm := hid oP.len
  have hm56 : m ≤ 56 := by rw [← oP.len]; exact length_plAll n h8
  have HM := hid (fun j (hj : j < m) => plane_at (n := n) (k := j) (by rw [hm.out]; exact hj))
  have HST := hid (fun j (hj : j < m) => labTo_succ (gr := grX xs) (ps := plAll n) (L := List.replicate n 0) (k := j) (by rw [hm.out]; exact hj))
  have HLB := hid (fun j (hj : j ≤ m) => labS_bounds (gr := grX xs) (ps := plAll n) (n := n) j (by rw [hm.out]; exact hj))
  rw [show (List.replicate n (0 : Int)) = labTo (grX xs) (plAll n) (List.replicate n 0) 0 from rfl] at o1
  have hltA := own1.lt
  clear z1 z2 z3 z4 y1 y2 y3 y4 own1 hb1 hb2 BX BX1 hbW
  obtain ⟨z1, z2, z3, z4⟩ := id BX2
  go_wp2_with fail
  go_loopw [14] (fun i wr => ∃ j : Nat, j ≤ m ∧ i = .int .i64 (j : Int) ∧ Own wr (w.heap.size + 1) a1 n c1 (labTo (grX xs) (plAll n) (List.replicate n 0) j) ∧ OwnP wr w1.heap.size a2 m c2 (plAll n) ∧ BoxAt wr w.heap.size (.slice a n cap) (.int .i64 (n : Int)) ∧ w2.heap.size ≤ wr.heap.size ∧ Below w.heap.size w wr) (fun i _ => m - (intOf i).toNat)
  case atStart => exact ⟨0, by omega, rfl, o1, oP, BX2, Nat.le_refl _, hb3⟩
  case round =>
    clear o1 oP BX2 hb3 z1 z2 z3 z4
    obtain ⟨j, hj, rfl, o1, oP, B, hsz, hb⟩ := hrel
    obtain ⟨z1, z2, z3, z4⟩ := id B
    by_cases hjm : j < m
    · obtain ⟨i, s, q1, q2, p3, p4, p5⟩ := HM.out j hjm
      obtain ⟨g, e2, hg1, hg2, hcc⟩ := oP.cell (by omega)
      subst e2
      obtain ⟨c0, c1', c2'⟩ := hcc j hjm
      obtain ⟨c, hc⟩ : ∃ c, (nthP (plAll n) j).2.2 = c := ⟨_, rfl⟩
      have HG := hid (grX_at (xs := xs) p3 p4 hc)
      have HS := hid (HST.out j hjm)
      have HLJ := hid (HLB.out j hj)
      rw [p3] at c0
      rw [p4] at c1'
      rw [hc] at c2'
      have hx := h.below hb (Nat.le_refl _)
      obtain ⟨V, hV, hbV, hsV, BV, oV, oPV, hxV, v0, v1, v2⟩ : ∃ V, wr.alloc (.cells #[.int .i64 (i : Int), .int .i64 (s : Int), .int .i64 c] 89) = V ∧ Below wr.heap.size wr V ∧ V.heap.size = wr.heap.size + 1 ∧ BoxAt V w.heap.size (.slice a n cap) (.int .i64 (n : Int)) ∧ Own V (w.heap.size + 1) a1 n c1 (labTo (grX xs) (plAll n) (List.replicate n 0) j) ∧ OwnP V w1.heap.size (some ⟨g, 0, none⟩) m c2 (plAll n) ∧ Has V a n cap xs ∧
          V.cell? ⟨wr.heap.size, 0, none⟩ = some (.int .i64 (i : Int)) ∧ V.cell? ⟨wr.heap.size, 1, none⟩ = some (.int .i64 (s : Int)) ∧ V.cell? ⟨wr.heap.size, 2, none⟩ = some (.int .i64 c) := by
        have hbA := (Below.refl wr.heap.size wr).alloc (Nat.le_refl _) (.cells #[.int .i64 (i : Int), .int .i64 (s : Int), .int .i64 c] 89)
        refine ⟨_, rfl, hbA, by simp, B.below hbA (boxAt_lt B), o1.below hbA (Nat.le_refl _), oP.below hbA (Nat.le_refl _), hx.below hbA (Nat.le_refl _), ?_, ?_, ?_⟩
        · rw [World.cell?_alloc_at _ _ _ _ rfl]; rfl
        · rw [World.cell?_alloc_at _ _ _ _ rfl]; rfl
        · rw [World.cell?_alloc_at _ _ _ _ rfl]; rfl
      have hbw := hb.trans (hbV.mono hb.size)
      obtain ⟨t1, t2, t3, t4⟩ := id BV
      go_wp2_with fail
      clear hV z1 z2 z3 z4 c0 c1' c2' hcc HM
      refine (greaterX_any a n cap xs i s c _ hxV (by omega) q2 HBD.out).mono ?_
      rintro e V2 ⟨rfl, hb4⟩
      have B2 := BV.below hb4 (by omega)
      have o2 := oV.below hb4 (Nat.le_refl _)
      have oP2 := oPV.below hb4 (Nat.le_refl _)
      have hb5 := hbw.trans (hb4.mono hbw.size)
      have k0 := (hb4.cell (p := ⟨wr.heap.size, 0, none⟩) (by show wr.heap.size < V.heap.size; omega)).trans v0
      have k1 := (hb4.cell (p := ⟨wr.heap.size, 1, none⟩) (by show wr.heap.size < V.heap.size; omega)).trans v1
      have k2 := (hb4.cell (p := ⟨wr.heap.size, 2, none⟩) (by show wr.heap.size < V.heap.size; omega)).trans v2
      have hsz2 : w2.heap.size ≤ V2.heap.size := by have := hb4.size; omega
      obtain ⟨r, hr⟩ : ∃ r, decide (c < nth xs i - nth xs s) = r := ⟨_, rfl⟩
      rw [hr] at HG ⊢
      have hlt1 := hltA
      obtain ⟨ga, ea, ga1, ga2, ga3, ga4⟩ := o2.opened (by omega)
      subst ea
      have hne : ga ≠ wr.heap.size := by have := hlt1 _ rfl; simp at this; omega
      have hgP : ga ≠ g := by have := hlt1 _ rfl; simp at this; omega
      clear hr BV oV oPV hxV v0 v1 v2 t1 t2 t3 t4 hb4 hbw hbV hsV B o1 oP hb hx
      rw [hc] at p5
      rcases p5 with rfl | rfl
      · cases r with
        | true =>
          have HN := hid ((HS.out).trans (lab_no0 hc HG.out))
          go_wp2_with fail
          go_roundw
          case rel => exact ⟨j + 1, by omega, by go_num, by rw [HN.out]; exact o2, oP2, B2, hsz2, hb5⟩
          case measure => simp [intOf]; omega
        | false =>
          have HN := hid ((HS.out).trans (lab_yes0 p3 hc HG.out))
          have hlb := HLJ.out i
          have x1 := ga3 i (by omega)
          have x2 := ga4 i
          have hq1 : (i : Int) < (n : Int) := by omega
          have hq0 : (0 : Int) ≤ (i : Int) := by omega
          obtain ⟨y, hy⟩ : ∃ y, nth (labTo (grX xs) (plAll n) (List.replicate n 0) j) i = y := ⟨_, rfl⟩
          rw [hy] at x1 hlb HN
          have s3 := o2.set i (y + 1)
          have o3 := s3.1
          rw [← HN.out] at o3
          have B3 := B2.apart (g' := ga) (i := i) (z := .int .i64 (y + 1)) (by omega)
          have oP3 : OwnP (V2.setCell ⟨ga, i, none⟩ (.int .i64 (y + 1))) w1.heap.size (some ⟨g, 0, none⟩) m c2 (plAll n) := oP2.setOther hgP _
          have m2 : (V2.setCell ⟨ga, i, none⟩ (.int .i64 (y + 1))).cell? ⟨wr.heap.size, 2, none⟩ = some (.int .i64 0) := by rw [World.cell?_setCell_other _ _ _ _ (by intro hh; injection hh with h5; exact hne h5)]; exact k2
          have hb6 := hb5.setCell (p := ⟨ga, i, none⟩) (by show w.heap.size ≤ ga; omega) (.int .i64 (y + 1))
          clear ga3 ga4 hy s3
          go_wp2_with fail
          go_roundw
          case rel => exact ⟨j + 1, by omega, by go_num, o3, oP3, B3, by simpa using hsz2, hb6⟩
          case measure => simp [intOf]; omega
      · cases r with
        | true =>
          have HN := hid ((HS.out).trans (lab_yes1 p4 hc HG.out))
          have hlb := HLJ.out s
          have x1 := ga3 s (by omega)
          have x2 := ga4 s
          have hq1 : (s : Int) < (n : Int) := by omega
          have hq0 : (0 : Int) ≤ (s : Int) := by omega
          obtain ⟨y, hy⟩ : ∃ y, nth (labTo (grX xs) (plAll n) (List.replicate n 0) j) s = y := ⟨_, rfl⟩
          rw [hy] at x1 hlb HN
          have s3 := o2.set s (y + 1)
          have o3 := s3.1
          rw [← HN.out] at o3
          have B3 := B2.apart (g' := ga) (i := s) (z := .int .i64 (y + 1)) (by omega)
          have oP3 : OwnP (V2.setCell ⟨ga, s, none⟩ (.int .i64 (y + 1))) w1.heap.size (some ⟨g, 0, none⟩) m c2 (plAll n) := oP2.setOther hgP _
          have m2 : (V2.setCell ⟨ga, s, none⟩ (.int .i64 (y + 1))).cell? ⟨wr.heap.size, 2, none⟩ = some (.int .i64 100) := by rw [World.cell?_setCell_other _ _ _ _ (by intro hh; injection hh with h5; exact hne h5)]; exact k2
          have hb6 := hb5.setCell (p := ⟨ga, s, none⟩) (by show w.heap.size ≤ ga; omega) (.int .i64 (y + 1))
          clear ga3 ga4 hy s3
          go_wp2_with fail
          go_roundw
          case rel => exact ⟨j + 1, by omega, by go_num, o3, oP3, B3, by simpa using hsz2, hb6⟩
          case measure => simp [intOf]; omega
        | false =>
          have HN := hid ((HS.out).trans (lab_no1 hc HG.out))
          go_wp2_with fail
          go_roundw
          case rel => exact ⟨j + 1, by omega, by go_num, by rw [HN.out]; exact o2, oP2, B2, hsz2, hb5⟩
          case measure => simp [intOf]; omega
    · obtain rfl : j = m := by omega
      rw [← hm.out, HE.out] at o1
      go_wp2_with fail
      go_ret
      exact ⟨_, _, rfl, o1.mono (Nat.le_succ _), hb⟩
set_option maxHeartbeats 800000 in
theorem implLabelPt_any (a : Option Addr) (n cap : Nat) (xs : List Int) (w : World) (h : Has w a n cap xs) :
    Calls Try.prog 37 #[.slice a n cap] w (PostInts w (labelPtOf xs)) := by
  by_cases hp : pointB xs = true
  · have HP := hid hp
    have HR : Hid (labelPtOf xs = (labPt xs, true)) := hid (by unfold labelPtOf; rw [if_pos hp])
    clear hp
    go_enter Try.func37, Try.ntmps37
    go_wp2_with fail
    refine (isPoint_any _ _ _ _ _ h).mono ?_
    rintro e w1 ⟨rfl, hb1⟩
    rw [HP.out]
    have h1 := h.below hb1 (Nat.le_refl _)
    go_wp2_with fail
    refine (labelX_any _ _ _ _ _ h1 HP.out).mono ?_
    rintro e w2 ⟨a2, c2, rfl, o2, hb2⟩
    go_wp2_with fail
    go_ret2
    exact postInts HR.out (o2.mono hb1.size) (hb1.trans (hb2.mono hb1.size))
  · have HP := hid (Bool.eq_false_iff.2 hp)
    have HR : Hid (labelPtOf xs = ([], false)) := hid (by unfold labelPtOf; rw [if_neg hp])
    clear hp
    go_enter Try.func37, Try.ntmps37
    go_wp2_with fail
    refine (isPoint_any _ _ _ _ _ h).mono ?_
    rintro e w1 ⟨rfl, hb1⟩
    rw [HP.out]
    go_wp2_with fail
    go_ret2
    exact postInts HR.out (Own.nil _ _) hb1
end Go.Proofs.Ytakadjhbomggbab
