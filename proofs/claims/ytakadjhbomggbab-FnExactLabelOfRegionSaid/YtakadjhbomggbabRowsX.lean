/- Rows of a region. -/
import Derived.Test.YtakadjhbomggbabImplLr
import Derived.Test.YtakadjhbomggbabSpecLr
import Derived.Test.YtakadjhbomggbabImplRi
import Derived.Deep.RegionWith
namespace Go.Proofs.Ytakadjhbomggbab
open Go.RowKit

structure RowsAt (w : World) (X : Nat) (P : List Int) (b : Option Addr) (m cap : Nat) : Prop where
  len : P.length = 8
  c : ∀ j, j < 8 → w.cell? ⟨X, j, none⟩ = some (.int .i64 (nth P j))
  c8 : w.cell? ⟨X, 8, none⟩ = some (.slice b m cap)
  f : ∀ j, j < 9 → w.frozen? ⟨X, j, none⟩ = false
theorem RowsAt.set {w : World} {X : Nat} {P : List Int} {b : Option Addr} {m cap : Nat} (h : RowsAt w X P b m cap) {c : Nat} (hc : c < 8) (v : Int) : RowsAt (w.setCell ⟨X, c, none⟩ (.int .i64 v)) X (P.set c v) b m cap := by
  refine ⟨by simp [h.len], fun j hj => ?_, ?_, fun j hj => by rw [World.frozen?_setCell]; exact h.f j hj⟩
  · rw [nth_set (by rw [h.len]; exact hc)]
    by_cases e : c = j
    · subst e
      rw [if_pos rfl]
      exact World.cell?_setCell_same' _ _ _ (by rw [h.c c hc]; rfl)
    · rw [if_neg e, World.cell?_setCell_other _ _ _ _ (by intro hh; injection hh with _ h5 _; exact e h5)]
      exact h.c j hj
  · rw [World.cell?_setCell_other _ _ _ _ (by intro hh; injection hh with _ h5 _; omega)]
    exact h.c8
theorem rowsAt_new (w : World) (b : Option Addr) (m cap : Nat) : RowsAt (w.alloc (.cells #[.int .i64 0, .int .i64 0, .int .i64 0, .int .i64 0, .int .i64 0, .int .i64 0, .int .i64 0, .int .i64 0, .slice b m cap] 63)) w.heap.size [0, 0, 0, 0, 0, 0, 0, 0] b m cap := by
  refine ⟨rfl, fun j hj => ?_, by rw [World.cell?_alloc_at _ _ _ _ rfl]; rfl, fun j hj => World.frozen?_alloc_at _ _ _ _ rfl⟩
  rcases (by omega : j = 0 ∨ j = 1 ∨ j = 2 ∨ j = 3 ∨ j = 4 ∨ j = 5 ∨ j = 6 ∨ j = 7) with rfl | rfl | rfl | rfl | rfl | rfl | rfl | rfl <;> (rw [World.cell?_alloc_at _ _ _ _ rfl]; rfl)
theorem RowsAt.below {w w' : World} {X K : Nat} {P : List Int} {b : Option Addr} {m cap : Nat} (h : RowsAt w X P b m cap) (hb : Below K w w') (hg : X < K) : RowsAt w' X P b m cap :=
  ⟨h.len, fun j hj => (hb.cell (p := ⟨X, j, none⟩) hg).trans (h.c j hj), (hb.cell (p := ⟨X, 8, none⟩) hg).trans h.c8, fun j hj => (hb.frozen (p := ⟨X, j, none⟩) hg).trans (h.f j hj)⟩
theorem RowsAt.apart {w : World} {X g i : Nat} {z : Value} {P : List Int} {b : Option Addr} {m cap : Nat} (h : RowsAt w X P b m cap) (hne : g ≠ X) : RowsAt (w.setCell ⟨g, i, none⟩ z) X P b m cap :=
  ⟨h.len, fun j hj => (World.cell?_setCell_other _ _ _ _ (by intro hh; injection hh with h5; exact hne h5)).trans (h.c j hj), (World.cell?_setCell_other _ _ _ _ (by intro hh; injection hh with h5; exact hne h5)).trans h.c8, fun j hj => by rw [World.frozen?_setCell]; exact h.f j hj⟩
theorem RowsAt.set8 {w : World} {X : Nat} {P : List Int} {b b' : Option Addr} {m cap m' cap' : Nat} (h : RowsAt w X P b m cap) : RowsAt (w.setCell ⟨X, 8, none⟩ (.slice b' m' cap')) X P b' m' cap' :=
  ⟨h.len, fun j hj => (World.cell?_setCell_other _ _ _ _ (by intro hh; injection hh with _ h5 _; omega)).trans (h.c j hj), World.cell?_setCell_same' _ _ _ (by rw [h.c8]; rfl), fun j hj => by rw [World.frozen?_setCell]; exact h.f j hj⟩
theorem eightR {P : List Int} (h : P.length = 8) : ∃ p0 p1 p2 p3 p4 p5 p6 p7, P = [p0, p1, p2, p3, p4, p5, p6, p7] := by
  match P, h with
  | [p0, p1, p2, p3, p4, p5, p6, p7], _ => exact ⟨p0, p1, p2, p3, p4, p5, p6, p7, rfl⟩
theorem RowsAt.all {w : World} {X : Nat} {p0 p1 p2 p3 p4 p5 p6 p7 : Int} {b : Option Addr} {m cap : Nat} (h : RowsAt w X [p0, p1, p2, p3, p4, p5, p6, p7] b m cap) : w.cell? ⟨X, 0, none⟩ = some (.int .i64 p0) ∧ w.cell? ⟨X, 1, none⟩ = some (.int .i64 p1) ∧ w.cell? ⟨X, 2, none⟩ = some (.int .i64 p2) ∧ w.cell? ⟨X, 3, none⟩ = some (.int .i64 p3) ∧ w.cell? ⟨X, 4, none⟩ = some (.int .i64 p4) ∧ w.cell? ⟨X, 5, none⟩ = some (.int .i64 p5) ∧ w.cell? ⟨X, 6, none⟩ = some (.int .i64 p6) ∧ w.cell? ⟨X, 7, none⟩ = some (.int .i64 p7) :=
  ⟨h.c 0 (by decide), h.c 1 (by decide), h.c 2 (by decide), h.c 3 (by decide), h.c 4 (by decide), h.c 5 (by decide), h.c 6 (by decide), h.c 7 (by decide)⟩
def PlAt (os P : List Int) (k : Nat) : Prop := ∀ q, q < k → nth P (nth os q).toNat = (q : Int)
set_option maxRecDepth 100000 in
set_option maxHeartbeats 4000000 in
theorem rowsOfR_any (a b : Option Addr) (n cap m capb : Nat) (os : List Int) (w : World) (h : Has w a n cap os) (ho : outB os = true) :
    Calls Try.prog 52 #[.agg #[.slice a n cap, .slice b m capb]] w fun e w' => ∃ p0 p1 p2 p3 p4 p5 p6 p7 : Int, e = .returned (.agg #[.int .i64 p0, .int .i64 p1, .int .i64 p2, .int .i64 p3, .int .i64 p4, .int .i64 p5, .int .i64 p6, .int .i64 p7, .slice b m capb]) ∧ Below w.heap.size w w' ∧ PlAt os [p0, p1, p2, p3, p4, p5, p6, p7] n := by
  have h8 : n ≤ 8 := by have := out_le ho; have := h.len; omega
  have HL := hid h.len
  have HO := hid ho
  clear ho
  go_enter Try.func52, Try.ntmps52
  go_wp2_with fail
  generalize hW : ((w.alloc (.cells #[.slice a n cap, .slice b m capb] 24)).alloc (.cells #[.int .i64 0, .int .i64 0, .int .i64 0, .int .i64 0, .int .i64 0, .int .i64 0, .int .i64 0, .int .i64 0, .slice none 0 0] 63)).alloc (.cells #[.int .i64 0, .int .i64 0, .int .i64 0, .int .i64 0, .int .i64 0, .int .i64 0, .int .i64 0, .int .i64 0, .slice b m capb] 63) = W
  have hbW : Below w.heap.size w W := by rw [← hW]; exact (((Below.refl _ w).alloc (Nat.le_refl _) _).alloc (by simp) _).alloc (by simp; omega) _
  have RX : RowsAt W (w.heap.size + 2) [0, 0, 0, 0, 0, 0, 0, 0] b m capb := by
    rw [← hW]
    have := rowsAt_new ((w.alloc (.cells #[.slice a n cap, .slice b m capb] 24)).alloc (.cells #[.int .i64 0, .int .i64 0, .int .i64 0, .int .i64 0, .int .i64 0, .int .i64 0, .int .i64 0, .int .i64 0, .slice none 0 0] 63)) b m capb
    simpa using this
  have RR : RowsAt W (w.heap.size + 1) [0, 0, 0, 0, 0, 0, 0, 0] none 0 0 := by
    rw [← hW]
    have h1 := rowsAt_new (w.alloc (.cells #[.slice a n cap, .slice b m capb] 24)) none 0 0
    have h2 := h1.below ((Below.refl (w.heap.size + 2) _).alloc (by simp) (.cells #[.int .i64 0, .int .i64 0, .int .i64 0, .int .i64 0, .int .i64 0, .int .i64 0, .int .i64 0, .int .i64 0, .slice b m capb] 63)) (by simp)
    simpa using h2
  clear hW
  go_loopw [12] (fun i wr => ∃ (k : Nat) (P : List Int), k ≤ n ∧ i = .int .i64 (k : Int) ∧ RowsAt wr (w.heap.size + 2) P b m capb ∧ Hid (PlAt os P k) ∧ RowsAt wr (w.heap.size + 1) [0, 0, 0, 0, 0, 0, 0, 0] none 0 0 ∧ Below w.heap.size w wr) (fun i _ => n - (intOf i).toNat)
  case atStart => exact ⟨0, _, Nat.zero_le _, rfl, RX, hid (fun q hq => by omega), RR, hbW⟩
  case round =>
    clear RX RR hbW
    obtain ⟨k, P, hk, rfl, RX, HP, RR, hb⟩ := hrel
    by_cases hlt : k < n
    · have h1 := h.below hb (Nat.le_refl _)
      have hon := out_nth HO.out (i := k) (by rw [HL.out]; exact hlt)
      rw [HL.out] at hon
      obtain ⟨c, hc⟩ : ∃ c : Nat, nth os k = (c : Int) := ⟨(nth os k).toNat, by omega⟩
      have hcn : c < 8 := by omega
      obtain ⟨ba, oa, rfl, hba, ca⟩ := h1.2.2.2.2 (by omega)
      have k1 := ca k hlt
      rw [hc] at k1
      have kc := RX.c c hcn
      have kf := RX.f c (by omega)
      have hc8 : (c : Int) < 8 := by omega
      have hc0 : (0 : Int) ≤ (c : Int) := by omega
      have HP2 : Hid (PlAt os (P.set c (k : Int)) (k + 1)) := hid (fun q hq => by
        rw [nth_set (by rw [RX.len]; exact hcn)]
        by_cases e : q = k
        · subst e; rw [hc, Int.toNat_natCast, if_pos rfl]
        · rw [if_neg (fun h2 => e (out_inj HO.out (by rw [HL.out]; omega) (by rw [HL.out]; omega) (by have := out_nth HO.out (i := q) (by rw [HL.out]; omega); omega)))]
          exact HP.out q (by omega))
      have RX2 := RX.set hcn (k : Int)
      have RR2 := RR.apart (g := w.heap.size + 2) (i := c) (z := .int .i64 (k : Int)) (by omega)
      have hb2 := hb.setCell (p := ⟨w.heap.size + 2, c, none⟩) (by simp) (.int .i64 (k : Int))
      clear ca hc
      go_wp2_with fail
      go_roundw
      case rel => exact ⟨k + 1, _, by omega, by go_num, RX2, HP2, RR2, hb2⟩
      case measure => simp [intOf]; omega
    · obtain rfl : k = n := by omega
      obtain ⟨p0, p1, p2, p3, p4, p5, p6, p7, rfl⟩ := eightR RX.len
      have k0 : wr.cell? ⟨w.heap.size + 2, 0, none⟩ = some (.int .i64 p0) := RX.c 0 (by decide)
      have k1 : wr.cell? ⟨w.heap.size + 2, 1, none⟩ = some (.int .i64 p1) := RX.c 1 (by decide)
      have k2 : wr.cell? ⟨w.heap.size + 2, 2, none⟩ = some (.int .i64 p2) := RX.c 2 (by decide)
      have k3 : wr.cell? ⟨w.heap.size + 2, 3, none⟩ = some (.int .i64 p3) := RX.c 3 (by decide)
      have k4 : wr.cell? ⟨w.heap.size + 2, 4, none⟩ = some (.int .i64 p4) := RX.c 4 (by decide)
      have k5 : wr.cell? ⟨w.heap.size + 2, 5, none⟩ = some (.int .i64 p5) := RX.c 5 (by decide)
      have k6 : wr.cell? ⟨w.heap.size + 2, 6, none⟩ = some (.int .i64 p6) := RX.c 6 (by decide)
      have k7 : wr.cell? ⟨w.heap.size + 2, 7, none⟩ = some (.int .i64 p7) := RX.c 7 (by decide)
      have k8 := RX.c8
      have r0 : wr.cell? ⟨w.heap.size + 1, 0, none⟩ = some (.int .i64 0) := RR.c 0 (by decide)
      have r1 : wr.cell? ⟨w.heap.size + 1, 1, none⟩ = some (.int .i64 0) := RR.c 1 (by decide)
      have r2 : wr.cell? ⟨w.heap.size + 1, 2, none⟩ = some (.int .i64 0) := RR.c 2 (by decide)
      have r3 : wr.cell? ⟨w.heap.size + 1, 3, none⟩ = some (.int .i64 0) := RR.c 3 (by decide)
      have r4 : wr.cell? ⟨w.heap.size + 1, 4, none⟩ = some (.int .i64 0) := RR.c 4 (by decide)
      have r5 : wr.cell? ⟨w.heap.size + 1, 5, none⟩ = some (.int .i64 0) := RR.c 5 (by decide)
      have r6 : wr.cell? ⟨w.heap.size + 1, 6, none⟩ = some (.int .i64 0) := RR.c 6 (by decide)
      have r7 : wr.cell? ⟨w.heap.size + 1, 7, none⟩ = some (.int .i64 0) := RR.c 7 (by decide)
      have r8 := RR.c8
      have f0 := RR.f 0 (by decide)
      have f1 := RR.f 1 (by decide)
      have f2 := RR.f 2 (by decide)
      have f3 := RR.f 3 (by decide)
      have f4 := RR.f 4 (by decide)
      have f5 := RR.f 5 (by decide)
      have f6 := RR.f 6 (by decide)
      have f7 := RR.f 7 (by decide)
      have f8 := RR.f 8 (by decide)
      have RF := ((((((((RR.set (c := 0) (by decide) p0).set (c := 1) (by decide) p1).set (c := 2) (by decide) p2).set (c := 3) (by decide) p3).set (c := 4) (by decide) p4).set (c := 5) (by decide) p5).set (c := 6) (by decide) p6).set (c := 7) (by decide) p7).set8 (b' := b) (m' := m) (cap' := capb)
      go_wp2_with fail
      have hbf := ((((((((hb.setCell (p := ⟨w.heap.size + 1, 0, none⟩) (by simp) (.int .i64 p0)).setCell (p := ⟨w.heap.size + 1, 1, none⟩) (by simp) (.int .i64 p1)).setCell (p := ⟨w.heap.size + 1, 2, none⟩) (by simp) (.int .i64 p2)).setCell (p := ⟨w.heap.size + 1, 3, none⟩) (by simp) (.int .i64 p3)).setCell (p := ⟨w.heap.size + 1, 4, none⟩) (by simp) (.int .i64 p4)).setCell (p := ⟨w.heap.size + 1, 5, none⟩) (by simp) (.int .i64 p5)).setCell (p := ⟨w.heap.size + 1, 6, none⟩) (by simp) (.int .i64 p6)).setCell (p := ⟨w.heap.size + 1, 7, none⟩) (by simp) (.int .i64 p7)).setCell (p := ⟨w.heap.size + 1, 8, none⟩) (by simp) (.slice b m capb)
      obtain ⟨y0, y1, y2, y3, y4, y5, y6, y7⟩ := RowsAt.all (p0 := p0) (p1 := p1) (p2 := p2) (p3 := p3) (p4 := p4) (p5 := p5) (p6 := p6) (p7 := p7) RF
      have y8 := RF.c8
      refine bodyPost_ret (v := .agg #[.int .i64 p0, .int .i64 p1, .int .i64 p2, .int .i64 p3, .int .i64 p4, .int .i64 p5, .int .i64 p6, .int .i64 p7, .slice b m capb]) (by simp [results, Try.results52, go_sem, y0, y1, y2, y3, y4, y5, y6, y7, y8]) rfl ⟨p0, p1, p2, p3, p4, p5, p6, p7, rfl, hbf, HP.out⟩

theorem pl_places {os P : List Int} {n : Nat} (ho : outB os = true) (hl : os.length = n) (h : PlAt os P n) : (∀ i, i < n → nth P i = (plN os (i : Int) : Int)) ∧ ∀ i, i < n → plN os (i : Int) < n := by
  subst hl
  have key : ∀ i, i < os.length → nth P i = (plN os (i : Int) : Int) ∧ plN os (i : Int) < os.length := fun i hi => by
    obtain ⟨q, hq, e⟩ := mem_nth (out_all ho (z := i) hi)
    have h1 := h q hq
    have h2 := plN_at ho hq
    rw [e] at h1 h2
    rw [Int.toNat_natCast] at h1
    rw [h2]
    exact ⟨h1, hq⟩
  exact ⟨fun i hi => (key i hi).1, fun i hi => (key i hi).2⟩
set_option maxRecDepth 100000 in
set_option maxHeartbeats 4000000 in
theorem implLabelRg_any (a b : Option Addr) (n cap m capb : Nat) (os fs : List Int) (w : World) (h : Has w a n cap os) (h' : Has w b m capb fs) :
    Calls Try.prog 19 #[.agg #[.slice a n cap, .slice b m capb]] w (PostInts w (labelRgOf os fs)) := by
  have BX := boxAt_new w (.slice a n cap) (.slice b m capb) 24
  have hbW : Below w.heap.size w (w.alloc (.cells #[.slice a n cap, .slice b m capb] 24)) := (Below.refl _ _).alloc (Nat.le_refl _) _
  have hsW : (w.alloc (.cells #[.slice a n cap, .slice b m capb] 24)).heap.size = w.heap.size + 1 := by simp
  have h1 := h.below hbW (Nat.le_refl _)
  have h2 := h'.below hbW (Nat.le_refl _)
  obtain ⟨y1, y2, y3, y4⟩ := id BX
  go_enter Try.func19, Try.ntmps19
  go_wp2_with fail
  refine (implIsRegion_any _ _ _ _ _ _ _ _ _ h1 h2).mono ?_
  rintro e w1 ⟨rfl, hb1⟩
  have BX1 := BX.below hb1 (by rw [hsW]; exact Nat.lt_succ_self _)
  have g1 := h1.below hb1 (Nat.le_refl _)
  have g2 := h2.below hb1 (Nat.le_refl _)
  have hb2 := hbW.trans (hb1.mono (by rw [hsW]; exact Nat.le_succ _))
  have hs1 := hb1.size
  rw [hsW] at hs1
  clear y1 y2 y3 y4 BX h1 h2 hbW hb1
  by_cases hr : regB os fs = true
  · rw [hr]
    have HR : Hid (labelRgOf os fs = (labRg os fs, true)) := hid (by unfold labelRgOf; rw [if_pos hr])
    obtain ⟨h8, hfl, ho, -⟩ := reg_facts hr h.len
    obtain rfl : n = m := by have := h'.len; omega
    have HO := hid ho
    have HL := hid h.len
    have std : Below w1.heap.size w1 w1.drew := (Below.refl _ _).drew
    have BXd := BX1.below std (by omega)
    have hltd : w.heap.size < w1.drew.heap.size := hs1
    have CR := hid (rowsOfR_any a b n cap n capb os w1.drew (g1.below std (Nat.le_refl _)) HO.out)
    have hbd := hb2.trans (std.mono hb2.size)
    have g1d := g1.below std (Nat.le_refl _)
    have g2d := g2.below std (Nat.le_refl _)
    clear hr ho hfl
    obtain ⟨y1, y2, y3, y4⟩ := id BX1
    go_wp2_with fail
    clear y1 y2 y3 y4
    obtain ⟨y1, y2, y3, y4⟩ := id BXd
    go_region_with (first
      | (go_at_call 52; refine CR.out.mono ?_; rintro e w3 ⟨p0, p1, p2, p3, p4, p5, p6, p7, rfl, st3, hP⟩; have BX3 := BXd.below st3 hltd; have hb3 := hbd.trans (st3.mono hbd.size); have g3 := g2d.below st3 (Nat.le_refl _); have hpl := pl_places HO.out HL.out hP; obtain ⟨z1, z2, z3, z4⟩ := id BX3)
      | (go_at_call 53; refine (labelR_any p0 p1 p2 p3 p4 p5 p6 p7 _ _ _ os fs _ g3 h8 HL.out hpl.1 hpl.2).mono ?_; rintro e w4 ⟨a4, c4, rfl, o4, hb4⟩))
    all_goals (go_wp2_with fail; go_ret2; exact postInts HR.out (o4.mono hb3.size) (hb3.trans (hb4.mono hb3.size)))
  · rw [Bool.eq_false_iff.2 hr]
    have HR : Hid (labelRgOf os fs = ([], false)) := hid (by unfold labelRgOf; rw [if_neg hr])
    clear hr
    go_wp2_with fail
    go_ret2
    exact postInts HR.out (Own.nil _ _) hb2
end Go.Proofs.Ytakadjhbomggbab
