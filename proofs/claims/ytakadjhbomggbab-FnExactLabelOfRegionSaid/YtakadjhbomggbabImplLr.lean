/- Labels of regions: the program's side. -/
import Derived.Test.YtakadjhbomggbabMathLr
import Derived.Test.YtakadjhbomggbabRgn
import Derived.Handy
import Derived.Test.YtakadjhbomggbabImplLab
namespace Go.Proofs.Ytakadjhbomggbab
open Go.RowKit

set_option maxRecDepth 100000 in
set_option maxHeartbeats 1600000 in
theorem greaterR_any (p0 p1 p2 p3 p4 p5 p6 p7 : Int) (b : Option Addr) (m cap : Nat) (fs : List Int) (i s q : Nat) (c : Int) (w : World) (h : Has w b m cap fs) (hi : i < 8) (hs : s < 8) (hc : c = 0 ∨ c = 100)
    (hq : nth [p0, p1, p2, p3, p4, p5, p6, p7] s = (q : Int)) (hqm : q < m) :
    Calls Try.prog 156 #[.agg #[.int .i64 p0, .int .i64 p1, .int .i64 p2, .int .i64 p3, .int .i64 p4, .int .i64 p5, .int .i64 p6, .int .i64 p7, .slice b m cap], .agg #[.int .i64 (i : Int), .int .i64 (s : Int), .int .i64 c]] w fun e w' =>
      e = .returned (.bool (if c = 0 then decide (nth [p0, p1, p2, p3, p4, p5, p6, p7] i < (q : Int)) else decide (nth [p0, p1, p2, p3, p4, p5, p6, p7] i < nth fs q))) ∧ Below w.heap.size w w' := by
  obtain ⟨V, hV⟩ : ∃ V, w.alloc (.cells #[.int .i64 p0, .int .i64 p1, .int .i64 p2, .int .i64 p3, .int .i64 p4, .int .i64 p5, .int .i64 p6, .int .i64 p7, .slice b m cap] 63) = V := ⟨_, rfl⟩
  have hbV : Below w.heap.size w V := by rw [← hV]; exact (Below.refl _ _).alloc (Nat.le_refl _) _
  have hsV : V.heap.size = w.heap.size + 1 := by rw [← hV]; simp
  have hc8 : V.cell? ⟨w.heap.size, 8, none⟩ = some (.slice b m cap) := by rw [← hV, World.cell?_alloc_at _ _ _ _ rfl]; rfl
  have hcp : ∀ j, j < 8 → V.cell? ⟨w.heap.size, j, none⟩ = some (.int .i64 (nth [p0, p1, p2, p3, p4, p5, p6, p7] j)) := fun j hj => by
    rw [← hV]
    rcases (by omega : j = 0 ∨ j = 1 ∨ j = 2 ∨ j = 3 ∨ j = 4 ∨ j = 5 ∨ j = 6 ∨ j = 7) with rfl | rfl | rfl | rfl | rfl | rfl | rfl | rfl <;> (rw [World.cell?_alloc_at _ _ _ _ rfl]; rfl)
  have hbU := hbV.alloc (by omega) (.cells #[.int .i64 (i : Int), .int .i64 (s : Int), .int .i64 c] 89)
  have stU : Below V.heap.size V (V.alloc (.cells #[.int .i64 (i : Int), .int .i64 (s : Int), .int .i64 c] 89)) := (Below.refl _ _).alloc (Nat.le_refl _) _
  have e0 : (V.alloc (.cells #[.int .i64 (i : Int), .int .i64 (s : Int), .int .i64 c] 89)).cell? ⟨w.heap.size + 1, 0, none⟩ = some (.int .i64 (i : Int)) := by rw [← hsV, World.cell?_alloc_at _ _ _ _ rfl]; rfl
  have e1 : (V.alloc (.cells #[.int .i64 (i : Int), .int .i64 (s : Int), .int .i64 c] 89)).cell? ⟨w.heap.size + 1, 1, none⟩ = some (.int .i64 (s : Int)) := by rw [← hsV, World.cell?_alloc_at _ _ _ _ rfl]; rfl
  have e2 : (V.alloc (.cells #[.int .i64 (i : Int), .int .i64 (s : Int), .int .i64 c] 89)).cell? ⟨w.heap.size + 1, 2, none⟩ = some (.int .i64 c) := by rw [← hsV, World.cell?_alloc_at _ _ _ _ rfl]; rfl
  have k1 := (stU.cell (p := ⟨w.heap.size, i, none⟩) (show w.heap.size < V.heap.size by omega)).trans (hcp i hi)
  have k2 := (stU.cell (p := ⟨w.heap.size, s, none⟩) (show w.heap.size < V.heap.size by omega)).trans (hcp s hs)
  have k8 := (stU.cell (p := ⟨w.heap.size, 8, none⟩) (show w.heap.size < V.heap.size by omega)).trans hc8
  obtain ⟨bb, ob, rfl, hbb, hcb⟩ := h.2.2.2.2 (by omega)
  have kf := (hbU.cell (p := ⟨bb, ob + q, none⟩) hbb).trans (hcb q hqm)
  rw [hq] at k2
  have hi1 : (i : Int) < 8 := by omega
  have hs1 : (s : Int) < 8 := by omega
  have hq1 : (q : Int) < (m : Int) := by omega
  clear hcb hcp hc8 hbV stU h hq
  generalize nth [p0, p1, p2, p3, p4, p5, p6, p7] i = pi at *
  generalize nth fs q = f at *
  generalize hU : V.alloc (.cells #[.int .i64 (i : Int), .int .i64 (s : Int), .int .i64 c] 89) = U at *
  go_enter Try.func156, Try.ntmps156
  go_wp2_with fail
  try rw [hV]
  try rw [hU]
  clear hV hU
  go_quiet (fail)
  rcases hc with rfl | rfl
  · go_wp2_with fail
    go_ret
    exact ⟨rfl, below_drewN hbU _⟩
  · go_wp2_with fail
    go_ret
    exact ⟨rfl, below_drewN hbU _⟩

structure SidesAt (w : World) (g : Nat) (p0 p1 p2 p3 p4 p5 p6 p7 : Int) (b : Option Addr) (m cap n : Nat) : Prop where
  c0 : w.cell? ⟨g, 0, none⟩ = some (.int .i64 p0)
  c1 : w.cell? ⟨g, 1, none⟩ = some (.int .i64 p1)
  c2 : w.cell? ⟨g, 2, none⟩ = some (.int .i64 p2)
  c3 : w.cell? ⟨g, 3, none⟩ = some (.int .i64 p3)
  c4 : w.cell? ⟨g, 4, none⟩ = some (.int .i64 p4)
  c5 : w.cell? ⟨g, 5, none⟩ = some (.int .i64 p5)
  c6 : w.cell? ⟨g, 6, none⟩ = some (.int .i64 p6)
  c7 : w.cell? ⟨g, 7, none⟩ = some (.int .i64 p7)
  c8 : w.cell? ⟨g, 8, none⟩ = some (.slice b m cap)
  c9 : w.cell? ⟨g, 9, none⟩ = some (.int .i64 (n : Int))
theorem sidesAt_lt {w : World} {g : Nat} {p0 p1 p2 p3 p4 p5 p6 p7 : Int} {b : Option Addr} {m cap n : Nat} (h : SidesAt w g p0 p1 p2 p3 p4 p5 p6 p7 b m cap n) : g < w.heap.size := by
  have := h.c0
  unfold World.cell? at this
  by_cases hg : g < w.heap.size
  · exact hg
  · simp [Array.getElem?_eq_none (show w.heap.size ≤ g by omega)] at this
theorem SidesAt.below {w w' : World} {g K : Nat} {p0 p1 p2 p3 p4 p5 p6 p7 : Int} {b : Option Addr} {m cap n : Nat} (h : SidesAt w g p0 p1 p2 p3 p4 p5 p6 p7 b m cap n) (hb : Below K w w') (hg : g < K) : SidesAt w' g p0 p1 p2 p3 p4 p5 p6 p7 b m cap n :=
  ⟨(hb.cell (p := ⟨g, 0, none⟩) hg).trans h.c0, (hb.cell (p := ⟨g, 1, none⟩) hg).trans h.c1, (hb.cell (p := ⟨g, 2, none⟩) hg).trans h.c2, (hb.cell (p := ⟨g, 3, none⟩) hg).trans h.c3, (hb.cell (p := ⟨g, 4, none⟩) hg).trans h.c4, (hb.cell (p := ⟨g, 5, none⟩) hg).trans h.c5, (hb.cell (p := ⟨g, 6, none⟩) hg).trans h.c6, (hb.cell (p := ⟨g, 7, none⟩) hg).trans h.c7, (hb.cell (p := ⟨g, 8, none⟩) hg).trans h.c8, (hb.cell (p := ⟨g, 9, none⟩) hg).trans h.c9⟩
theorem SidesAt.apart {w : World} {g g' i : Nat} {z : Value} {p0 p1 p2 p3 p4 p5 p6 p7 : Int} {b : Option Addr} {m cap n : Nat} (h : SidesAt w g p0 p1 p2 p3 p4 p5 p6 p7 b m cap n) (hne : g' ≠ g) : SidesAt (w.setCell ⟨g', i, none⟩ z) g p0 p1 p2 p3 p4 p5 p6 p7 b m cap n :=
  ⟨(World.cell?_setCell_other _ _ _ _ (by intro hh; injection hh with h5; exact hne h5)).trans h.c0, (World.cell?_setCell_other _ _ _ _ (by intro hh; injection hh with h5; exact hne h5)).trans h.c1, (World.cell?_setCell_other _ _ _ _ (by intro hh; injection hh with h5; exact hne h5)).trans h.c2, (World.cell?_setCell_other _ _ _ _ (by intro hh; injection hh with h5; exact hne h5)).trans h.c3, (World.cell?_setCell_other _ _ _ _ (by intro hh; injection hh with h5; exact hne h5)).trans h.c4, (World.cell?_setCell_other _ _ _ _ (by intro hh; injection hh with h5; exact hne h5)).trans h.c5, (World.cell?_setCell_other _ _ _ _ (by intro hh; injection hh with h5; exact hne h5)).trans h.c6, (World.cell?_setCell_other _ _ _ _ (by intro hh; injection hh with h5; exact hne h5)).trans h.c7, (World.cell?_setCell_other _ _ _ _ (by intro hh; injection hh with h5; exact hne h5)).trans h.c8, (World.cell?_setCell_other _ _ _ _ (by intro hh; injection hh with h5; exact hne h5)).trans h.c9⟩
theorem sidesAt_new (w : World) (p0 p1 p2 p3 p4 p5 p6 p7 : Int) (b : Option Addr) (m cap n : Nat) : SidesAt (w.alloc (.cells #[.int .i64 p0, .int .i64 p1, .int .i64 p2, .int .i64 p3, .int .i64 p4, .int .i64 p5, .int .i64 p6, .int .i64 p7, .slice b m cap, .int .i64 (n : Int)] 66)) w.heap.size p0 p1 p2 p3 p4 p5 p6 p7 b m cap n :=
  ⟨(by rw [World.cell?_alloc_at _ _ _ _ rfl]; rfl), (by rw [World.cell?_alloc_at _ _ _ _ rfl]; rfl), (by rw [World.cell?_alloc_at _ _ _ _ rfl]; rfl), (by rw [World.cell?_alloc_at _ _ _ _ rfl]; rfl), (by rw [World.cell?_alloc_at _ _ _ _ rfl]; rfl), (by rw [World.cell?_alloc_at _ _ _ _ rfl]; rfl), (by rw [World.cell?_alloc_at _ _ _ _ rfl]; rfl), (by rw [World.cell?_alloc_at _ _ _ _ rfl]; rfl), (by rw [World.cell?_alloc_at _ _ _ _ rfl]; rfl), (by rw [World.cell?_alloc_at _ _ _ _ rfl]; rfl)⟩
theorem grR_at {os fs : List Int} {p : Pl} {p0 p1 p2 p3 p4 p5 p6 p7 : Int} {i s : Nat} {c : Int} (h1 : p.1 = (i : Int)) (h2 : p.2.1 = (s : Int)) (h3 : p.2.2 = c) (hi : nth [p0, p1, p2, p3, p4, p5, p6, p7] i = (plN os (i : Int) : Int)) : grR os fs p = (if c = 0 then decide (nth [p0, p1, p2, p3, p4, p5, p6, p7] i < (plN os (s : Int) : Int)) else decide (nth [p0, p1, p2, p3, p4, p5, p6, p7] i < nth fs (plN os (s : Int)))) := by
  unfold grR
  rw [h1, h2, h3, hi]
  split
  · exact decide_eq_decide.2 (by omega)
  · rfl
set_option maxRecDepth 100000 in
set_option maxHeartbeats 4000000 in
theorem labelR_any (p0 p1 p2 p3 p4 p5 p6 p7 : Int) (b : Option Addr) (n cap : Nat) (os fs : List Int) (w : World) (h : Has w b n cap fs) (h8 : n ≤ 8) (hL : os.length = n) (hPL : ∀ i, i < n → nth [p0, p1, p2, p3, p4, p5, p6, p7] i = (plN os (i : Int) : Int)) (hPT : ∀ i, i < n → plN os (i : Int) < n) :
    Calls Try.prog 53 #[.agg #[.int .i64 p0, .int .i64 p1, .int .i64 p2, .int .i64 p3, .int .i64 p4, .int .i64 p5, .int .i64 p6, .int .i64 p7, .slice b n cap, .int .i64 (n : Int)]] w fun e w' => ∃ a' c', e = .returned (.slice a' n c') ∧ Own w' w.heap.size a' n c' (labRg os fs) ∧ Below w.heap.size w w' := by
  have HE := hid (show labTo (grR os fs) (plAll n) (List.replicate n 0) (plAll n).length = labRg os fs from by rw [lab_whole]; unfold labRg; rw [hL])
  have HPL := hid hPL
  have HPT := hid hPT
  clear hPL hPT hL
  have BX := sidesAt_new w p0 p1 p2 p3 p4 p5 p6 p7 b n cap n
  have hbW : Below w.heap.size w (w.alloc (.cells #[.int .i64 p0, .int .i64 p1, .int .i64 p2, .int .i64 p3, .int .i64 p4, .int .i64 p5, .int .i64 p6, .int .i64 p7, .slice b n cap, .int .i64 (n : Int)] 66)) := (Below.refl _ _).alloc (Nat.le_refl _) _
  have hsW : (w.alloc (.cells #[.int .i64 p0, .int .i64 p1, .int .i64 p2, .int .i64 p3, .int .i64 p4, .int .i64 p5, .int .i64 p6, .int .i64 p7, .slice b n cap, .int .i64 (n : Int)] 66)).heap.size = w.heap.size + 1 := by simp
  obtain ⟨y0, y1, y2, y3, y4, y5, y6, y7, y8, y9⟩ := id BX
  go_enter Try.func53, Try.ntmps53
  go_wp2_with (at_make; refine wpList_make_ints _ rfl _ _ rfl n rfl rfl (by omega) ?_; intro a1 c1 w1 own1 hb1; have BX1 := BX.below hb1 (by rw [hsW]; exact Nat.lt_succ_self _); obtain ⟨z0, z1, z2, z3, z4, z5, z6, z7, z8, z9⟩ := id BX1)
  refine (planesOf_any n _ h8).mono ?_
  rintro e w2 ⟨a2, m, c2, rfl, oP, hb2⟩
  have s1 := hb1.size
  rw [hsW] at s1
  have BX2 := BX1.below hb2 (by omega)
  have o1 := own1.below hb2 (Nat.le_refl _)
  rw [hsW] at o1
  have hb3 := (hbW.trans (hb1.mono (by rw [hsW]; omega))).trans (hb2.mono (by omega))
  have s2 := hb2.size
  have hm := hid oP.len
  have hm56 : m ≤ 56 := by rw [← oP.len]; exact length_plAll n h8
  have HM := hid (fun j (hj : j < m) => plane_at (n := n) (k := j) (by rw [hm.out]; exact hj))
  have HST := hid (fun j (hj : j < m) => labTo_succ (gr := grR os fs) (ps := plAll n) (L := List.replicate n 0) (k := j) (by rw [hm.out]; exact hj))
  have HLB := hid (fun j (hj : j ≤ m) => labS_bounds (gr := grR os fs) (ps := plAll n) (n := n) j (by rw [hm.out]; exact hj))
  rw [show (List.replicate n (0 : Int)) = labTo (grR os fs) (plAll n) (List.replicate n 0) 0 from rfl] at o1
  have hltA := own1.lt
  clear z0 z1 z2 z3 z4 z5 z6 z7 z8 z9 y0 y1 y2 y3 y4 y5 y6 y7 y8 y9 own1 hb1 hb2 BX BX1 hbW
  obtain ⟨z0, z1, z2, z3, z4, z5, z6, z7, z8, z9⟩ := id BX2
  go_wp2_with fail
  go_loopw [14] (fun i wr => ∃ j : Nat, j ≤ m ∧ i = .int .i64 (j : Int) ∧ Own wr (w.heap.size + 1) a1 n c1 (labTo (grR os fs) (plAll n) (List.replicate n 0) j) ∧ OwnP wr w1.heap.size a2 m c2 (plAll n) ∧ SidesAt wr w.heap.size p0 p1 p2 p3 p4 p5 p6 p7 b n cap n ∧ w2.heap.size ≤ wr.heap.size ∧ Below w.heap.size w wr) (fun i _ => m - (intOf i).toNat)
  case atStart => exact ⟨0, by omega, rfl, o1, oP, BX2, Nat.le_refl _, hb3⟩
  case round =>
    clear o1 oP BX2 hb3 z0 z1 z2 z3 z4 z5 z6 z7 z8 z9
    obtain ⟨j, hj, rfl, o1, oP, B, hsz, hb⟩ := hrel
    obtain ⟨z0, z1, z2, z3, z4, z5, z6, z7, z8, z9⟩ := id B
    by_cases hjm : j < m
    · obtain ⟨i, s, q1, q2, ee3, ee4, ee5⟩ := HM.out j hjm
      obtain ⟨g, e2, hg1, hg2, hcc⟩ := oP.cell (by omega)
      subst e2
      obtain ⟨c0, c1', c2'⟩ := hcc j hjm
      obtain ⟨c, hc⟩ : ∃ c, (nthP (plAll n) j).2.2 = c := ⟨_, rfl⟩
      have HG := hid (grR_at (os := os) (fs := fs) ee3 ee4 hc (HPL.out i (by omega)))
      have HS := hid (HST.out j hjm)
      have HLJ := hid (HLB.out j hj)
      rw [ee3] at c0
      rw [ee4] at c1'
      rw [hc] at c2'
      have hx := h.below hb (Nat.le_refl _)
      obtain ⟨V, hV, hbV, hsV, BV, oV, oPV, hxV, v0, v1, v2⟩ : ∃ V, wr.alloc (.cells #[.int .i64 (i : Int), .int .i64 (s : Int), .int .i64 c] 89) = V ∧ Below wr.heap.size wr V ∧ V.heap.size = wr.heap.size + 1 ∧ SidesAt V w.heap.size p0 p1 p2 p3 p4 p5 p6 p7 b n cap n ∧ Own V (w.heap.size + 1) a1 n c1 (labTo (grR os fs) (plAll n) (List.replicate n 0) j) ∧ OwnP V w1.heap.size (some ⟨g, 0, none⟩) m c2 (plAll n) ∧ Has V b n cap fs ∧
          V.cell? ⟨wr.heap.size, 0, none⟩ = some (.int .i64 (i : Int)) ∧ V.cell? ⟨wr.heap.size, 1, none⟩ = some (.int .i64 (s : Int)) ∧ V.cell? ⟨wr.heap.size, 2, none⟩ = some (.int .i64 c) := by
        have hbA := (Below.refl wr.heap.size wr).alloc (Nat.le_refl _) (.cells #[.int .i64 (i : Int), .int .i64 (s : Int), .int .i64 c] 89)
        refine ⟨_, rfl, hbA, by simp, B.below hbA (sidesAt_lt B), o1.below hbA (Nat.le_refl _), oP.below hbA (Nat.le_refl _), hx.below hbA (Nat.le_refl _), ?_, ?_, ?_⟩
        · rw [World.cell?_alloc_at _ _ _ _ rfl]; rfl
        · rw [World.cell?_alloc_at _ _ _ _ rfl]; rfl
        · rw [World.cell?_alloc_at _ _ _ _ rfl]; rfl
      have hbw := hb.trans (hbV.mono hb.size)
      obtain ⟨t0, t1, t2, t3, t4, t5, t6, t7, t8, t9⟩ := id BV
      go_wp2_with fail
      clear hV z0 z1 z2 z3 z4 z5 z6 z7 z8 z9 c0 c1' c2' hcc HM
      refine (greaterR_any p0 p1 p2 p3 p4 p5 p6 p7 b n cap fs i s (plN os (s : Int)) c _ hxV (by omega) (by omega) (hc ▸ ee5) (HPL.out s q2) (HPT.out s q2)).mono ?_
      rintro e V2 ⟨rfl, hb4⟩
      have B2 := BV.below hb4 (by omega)
      have o2 := oV.below hb4 (Nat.le_refl _)
      have oP2 := oPV.below hb4 (Nat.le_refl _)
      have hb5 := hbw.trans (hb4.mono hbw.size)
      have k0 := (hb4.cell (p := ⟨wr.heap.size, 0, none⟩) (by show wr.heap.size < V.heap.size; omega)).trans v0
      have k1 := (hb4.cell (p := ⟨wr.heap.size, 1, none⟩) (by show wr.heap.size < V.heap.size; omega)).trans v1
      have k2 := (hb4.cell (p := ⟨wr.heap.size, 2, none⟩) (by show wr.heap.size < V.heap.size; omega)).trans v2
      have hsz2 : w2.heap.size ≤ V2.heap.size := by have := hb4.size; omega
      obtain ⟨r, hr⟩ : ∃ r, (if c = 0 then decide (nth [p0, p1, p2, p3, p4, p5, p6, p7] i < (plN os (s : Int) : Int)) else decide (nth [p0, p1, p2, p3, p4, p5, p6, p7] i < nth fs (plN os (s : Int)))) = r := ⟨_, rfl⟩
      rw [hr] at HG ⊢
      have hlt1 := hltA
      obtain ⟨ga, ea, ga1, ga2, ga3, ga4⟩ := o2.opened (by omega)
      subst ea
      have hne : ga ≠ wr.heap.size := by have := hlt1 _ rfl; simp at this; omega
      have hgP : ga ≠ g := by have := hlt1 _ rfl; simp at this; omega
      clear hr BV oV oPV hxV v0 v1 v2 t0 t1 t2 t3 t4 t5 t6 t7 t8 t9 hb4 hbw hbV hsV B o1 oP hb hx
      rw [hc] at ee5
      rcases ee5 with rfl | rfl
      · cases r with
        | true =>
          have HN := hid ((HS.out).trans (lab_no0 hc HG.out))
          go_wp2_with fail
          go_roundw
          case rel => exact ⟨j + 1, by omega, by go_num, by rw [HN.out]; exact o2, oP2, B2, hsz2, hb5⟩
          case measure => simp [intOf]; omega
        | false =>
          have HN := hid ((HS.out).trans (lab_yes0 ee3 hc HG.out))
          have hlb := HLJ.out i
          have x1 := ga3 i (by omega)
          have x2 := ga4 i
          have hq1 : (i : Int) < (n : Int) := by omega
          have hq0 : (0 : Int) ≤ (i : Int) := by omega
          obtain ⟨y, hy⟩ : ∃ y, nth (labTo (grR os fs) (plAll n) (List.replicate n 0) j) i = y := ⟨_, rfl⟩
          rw [hy] at x1 hlb HN
          have s3 := o2.set i (y + 1)
          have o3 := s3.1
          rw [← HN.out] at o3
          have B3 := B2.apart (g' := ga) (i := i) (z := .int .i64 (y + 1)) (by omega)
          have oP3 : OwnP (V2.setCell ⟨ga, i, none⟩ (.int .i64 (y + 1))) w1.heap.size (some ⟨g, 0, none⟩) m c2 (plAll n) := oP2.setOther hgP _
          have m2 : (V2.setCell ⟨ga, i, none⟩ (.int .i64 (y + 1))).cell? ⟨wr.heap.size, 2, none⟩ = some (.int .i64 0) := by rw [World.cell?_setCell_other _ _ _ _ (by intro hh; injection hh with h5; exact hne h5)]; exact k2
          have hb6 := hb5.setCell (p := ⟨ga, i, none⟩) (by show w.heap.size ≤ ga; omega) (.int .i64 (y + 1))
          clear ga3 ga4 hy s3
          go_wp2_with fail
          go_roundw
          case rel => exact ⟨j + 1, by omega, by go_num, o3, oP3, B3, by simpa using hsz2, hb6⟩
          case measure => simp [intOf]; omega
      · cases r with
        | true =>
          have HN := hid ((HS.out).trans (lab_yes1 ee4 hc HG.out))
          have hlb := HLJ.out s
          have x1 := ga3 s (by omega)
          have x2 := ga4 s
          have hq1 : (s : Int) < (n : Int) := by omega
          have hq0 : (0 : Int) ≤ (s : Int) := by omega
          obtain ⟨y, hy⟩ : ∃ y, nth (labTo (grR os fs) (plAll n) (List.replicate n 0) j) s = y := ⟨_, rfl⟩
          rw [hy] at x1 hlb HN
          have s3 := o2.set s (y + 1)
          have o3 := s3.1
          rw [← HN.out] at o3
          have B3 := B2.apart (g' := ga) (i := s) (z := .int .i64 (y + 1)) (by omega)
          have oP3 : OwnP (V2.setCell ⟨ga, s, none⟩ (.int .i64 (y + 1))) w1.heap.size (some ⟨g, 0, none⟩) m c2 (plAll n) := oP2.setOther hgP _
          have m2 : (V2.setCell ⟨ga, s, none⟩ (.int .i64 (y + 1))).cell? ⟨wr.heap.size, 2, none⟩ = some (.int .i64 100) := by rw [World.cell?_setCell_other _ _ _ _ (by intro hh; injection hh with h5; exact hne h5)]; exact k2
          have hb6 := hb5.setCell (p := ⟨ga, s, none⟩) (by show w.heap.size ≤ ga; omega) (.int .i64 (y + 1))
          clear ga3 ga4 hy s3
          go_wp2_with fail
          go_roundw
          case rel => exact ⟨j + 1, by omega, by go_num, o3, oP3, B3, by simpa using hsz2, hb6⟩
          case measure => simp [intOf]; omega
        | false =>
          have HN := hid ((HS.out).trans (lab_no1 hc HG.out))
          go_wp2_with fail
          go_roundw
          case rel => exact ⟨j + 1, by omega, by go_num, by rw [HN.out]; exact o2, oP2, B2, hsz2, hb5⟩
          case measure => simp [intOf]; omega
    · obtain rfl : j = m := by omega
      rw [← hm.out, HE.out] at o1
      go_wp2_with fail
      go_ret
      exact ⟨_, _, rfl, o1.mono (Nat.le_succ _), hb⟩
end Go.Proofs.Ytakadjhbomggbab
