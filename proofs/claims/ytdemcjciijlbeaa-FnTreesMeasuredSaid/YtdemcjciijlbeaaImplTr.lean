/- The program's IsTree. -/
import Derived.Test.YtdemcjciijlbeaaUp
import Derived.Test.YtdemcjciijlbeaaSpecTr
namespace Go.Proofs.Ytdemcjciijlbeaa
open Go.RowKit Go.Shelf

attribute [local go_sem] Oper.semAt_some

/-- What a loop over an iterator leaves among the deferred calls. -/
def mark (D : Nat) : Deferred := { target := .collected D, args := #[] }
/-- Marks that are open. -/
structure Marks (W : World) (B : Nat) (Ds : List Nat) : Prop where
  nodup : Ds.Nodup
  ge : ∀ D ∈ Ds, B ≤ D
  isOpen : ∀ D ∈ Ds, W.heap[D]? = some (.deferred (some []))
theorem Marks.nil (W : World) (B : Nat) : Marks W B [] := ⟨by simp, by simp, by simp⟩
theorem Marks.lt {W : World} {B D : Nat} {Ds : List Nat} (h : Marks W B Ds) (hD : D ∈ Ds) : D < W.heap.size := (Array.getElem?_eq_some_iff.1 (h.isOpen D hD)).1
theorem Marks.below {W W' : World} {B K : Nat} {Ds : List Nat} (h : Marks W B Ds) (hb : Below K W W') (hK : W.heap.size ≤ K) : Marks W' B Ds :=
  ⟨h.nodup, h.ge, fun D hD => by rw [hb.block D (by have := h.lt hD; omega)]; exact h.isOpen D hD⟩
theorem Marks.setCell {W : World} {B : Nat} {Ds : List Nat} (h : Marks W B Ds) (p : Addr) (v : Value) : Marks (W.setCell p v) B Ds :=
  ⟨h.nodup, h.ge, fun D hD => (KeepsOthers.setCell W p v).same D _ (h.isOpen D hD) rfl⟩
theorem Marks.cons {W : World} {B L D : Nat} {Ds : List Nat} (h : Marks W B Ds) (hl : ∀ D ∈ Ds, D < L) (hD : L ≤ D) (hB : B ≤ L) (ho : W.heap[D]? = some (.deferred (some []))) : Marks W B (D :: Ds) := by
  refine ⟨List.nodup_cons.2 ⟨fun hm => ?_, h.nodup⟩, fun E hE => ?_, fun E hE => ?_⟩
  · have := hl D hm; omega
  · rcases List.mem_cons.1 hE with rfl | hE
    · omega
    · exact h.ge E hE
  · rcases List.mem_cons.1 hE with rfl | hE
    · exact ho
    · exact h.isOpen E hE
/-- Cells that were, are. -/
def Cells (w w' : World) : Prop := ∀ p v, w.cell? p = some v → w'.cell? p = some v
/-- Blocks of cells lie as they lay. -/
def Blocks (w w' : World) : Prop := ∀ (g : Nat) (c : Array Value) (t : TypeId), w.heap[g]? = some (.cells c t) → w'.heap[g]? = some (.cells c t)
theorem leaves_marks {m : Nat} {fn : Func} {tmps : Array Value} {R : Ending → World → Prop} {B : Nat} : ∀ (Ds : List Nat) (w : World), Marks w B Ds → B ≤ w.heap.size →
    (∀ w', Cells w w' → Blocks w w' → Below B w w' → LeavesInM Fence.wide m Try.prog fn tmps R [] .returning w') → LeavesInM Fence.wide m Try.prog fn tmps R (Ds.map mark) .returning w
  | [], w, _, _, h => h w (fun _ _ h => h) (fun _ _ _ h => h) (Below.refl _ _)
  | D :: Ds, w, hm, hB, h => by
    have hK := hm.isOpen D (by simp)
    have hD := hm.ge D (by simp)
    refine ⟨by simp, .inl ⟨D, w.putObj D (.deferred none), rfl, run_takeDeferred hK, ?_⟩⟩
    have hb : Below B w (w.putObj D (.deferred none)) := (Below.refl B w).grown (grownBy_putObj' w D _) hB (fun k e => by cases e; exact hD)
    refine leaves_marks Ds _ ⟨(List.nodup_cons.1 hm.nodup).2, fun E hE => hm.ge E (by simp [hE]), fun E hE => ?_⟩ (Nat.le_trans hB hb.size) fun w' hc hbk hb' => h w' (fun p v hp => hc p v (cell_kept hp (grownBy_putObj' w D _) (fun r e => by cases e; exact ⟨_, hK, rfl⟩))) (fun g c t hg => hbk g c t (by rw [World.putObj_heap_other (fun e => by subst e; rw [hK] at hg; cases hg)]; exact hg)) (hb.trans hb')
    rw [World.putObj_heap_other (fun e => (List.nodup_cons.1 hm.nodup).1 (by subst e; exact hE))]
    exact hm.isOpen E (by simp [hE])

/-- What IsTree keeps, behind k nodes: the argument's box, the result's box, the marks. -/
structure Judged (w wr : World) (a : Option Addr) (n cap : Nat) (xs : List Int) (k : Nat) (Ds : List Nat) : Prop where
  below : Below w.heap.size w wr
  size : w.heap.size + 2 ≤ wr.heap.size
  c0 : wr.cell? ⟨w.heap.size, 0, none⟩ = some (.slice a n cap)
  c1 : wr.cell? ⟨w.heap.size + 1, 0, none⟩ = some (.bool false)
  f1 : wr.frozen? ⟨w.heap.size + 1, 0, none⟩ = false
  marks : Marks wr w.heap.size Ds
  top : ∀ j, j < k → up xs ((j : Int) + 1) n = 0
theorem Judged.later {w wr wr' : World} {a : Option Addr} {n cap : Nat} {xs : List Int} {k : Nat} {Ds : List Nat} (h : Judged w wr a n cap xs k Ds) {K : Nat} (hb : Below K wr wr') (hK : wr.heap.size ≤ K) : Judged w wr' a n cap xs k Ds := by
  have hs := h.size
  refine ⟨h.below.trans (hb.mono (by omega)), Nat.le_trans h.size hb.size, ?_, ?_, ?_, h.marks.below hb hK, h.top⟩
  · rw [hb.cell (p := ⟨w.heap.size, 0, none⟩) (by simp; omega)]; exact h.c0
  · rw [hb.cell (p := ⟨w.heap.size + 1, 0, none⟩) (by simp; omega)]; exact h.c1
  · rw [hb.frozen (p := ⟨w.heap.size + 1, 0, none⟩) (by simp; omega)]; exact h.f1

theorem three_cells (w : World) (x y z : Value) (t u v : TypeId) :
    (((w.alloc (.cells #[x] t)).alloc (.cells #[y] u)).alloc (.cells #[z] v)).cell? ⟨w.heap.size, 0, none⟩ = some x ∧
    (((w.alloc (.cells #[x] t)).alloc (.cells #[y] u)).alloc (.cells #[z] v)).cell? ⟨w.heap.size + 1, 0, none⟩ = some y ∧
    (((w.alloc (.cells #[x] t)).alloc (.cells #[y] u)).alloc (.cells #[z] v)).cell? ⟨w.heap.size + 1 + 1, 0, none⟩ = some z ∧
    (((w.alloc (.cells #[x] t)).alloc (.cells #[y] u)).alloc (.cells #[z] v)).frozen? ⟨w.heap.size, 0, none⟩ = false ∧
    (((w.alloc (.cells #[x] t)).alloc (.cells #[y] u)).alloc (.cells #[z] v)).heap.size = w.heap.size + 3 := by
  refine ⟨?_, ?_, ?_, ?_, by simp⟩
  · rw [World.cell?_alloc_past _ _ _ (by simp; omega), World.cell?_alloc_past _ _ _ (by simp), World.cell?_alloc_at _ _ _ _ rfl]; rfl
  · rw [World.cell?_alloc_past _ _ _ (by simp), World.cell?_alloc_at _ _ _ _ (by simp)]; rfl
  · rw [World.cell?_alloc_at _ _ _ _ (by simp)]; rfl
  · rw [World.frozen?_alloc_past _ _ _ (by simp; omega), World.frozen?_alloc_past _ _ _ (by simp), World.frozen?_alloc_at _ _ _ _ rfl]

set_option maxRecDepth 100000 in
set_option maxHeartbeats 2000000 in
theorem isTree_any (a : Option Addr) (n cap : Nat) (xs : List Int) (w : World) (h : Has w a n cap xs) :
    Calls Try.prog 18 #[.slice a n cap] w (PostBool w (treeB xs)) := by
  have HT := hid (treeB_cars xs n h.len)
  have HL := hid h.len
  have hb1 : Below w.heap.size w (w.alloc (.cells #[.slice a n cap] 24)) := (Below.refl _ _).alloc (Nat.le_refl _) _
  have hb2 : Below w.heap.size w ((w.alloc (.cells #[.slice a n cap] 24)).alloc (.cells #[.bool false] 4)) := hb1.alloc (by simp) _
  have hh2 := h.below hb2 (Nat.le_refl _)
  refine (callsIn_wide (n := 8)).1 ?_
  refine callsIn_of_wp_marks Try.func18 rfl trivial ?_ rfl
  simp only [Try.ntmps18, List.size_toArray, List.length_cons, List.length_nil, Nat.reduceAdd, Nat.reduceSub, Array.replicate_succ, Array.replicate_zero, List.push_toArray, List.append_toArray, List.nil_append, List.cons_append]
  have hn := h.le
  by_cases hc : carsB xs ((n : Int) + 1) = true
  · have hcc := carsB_iff.1 hc
    have h8 : n ≤ 8 := by have := hcc.1; rw [HL.out] at this; exact this
    have HB : Hid (∀ i, i < n → 0 ≤ nth xs i ∧ nth xs i ≤ (n : Int)) := hid (fun i hi => by have := hcc.2 _ (nth_mem (xs := xs) (i := i) (by rw [HL.out]; exact hi)); omega)
    have HC := hid hc
    clear hc hcc
    gi_wp2_with fail
    refine ⟨trivial, (callsIn_wide.2 (areCarsBelow_any _ _ _ _ _ _ hh2)).mono ?_⟩
    rintro e w' ⟨rfl, rfl⟩
    rw [HC.out]
    have hJ : Judged w ((w.alloc (.cells #[.slice a n cap] 24)).alloc (.cells #[.bool false] 4)) a n cap xs 0 [] := ⟨hb2, by simp, by simp, by simp, by simp, Marks.nil _ _, by omega⟩
    have c0 := hJ.c0
    generalize (w.alloc (.cells #[.slice a n cap] 24)).alloc (.cells #[.bool false] 4) = W0 at *
    clear hb1 hb2 hh2
    gi_wp2_with fail
    refine wpIn_loop (fun a' wr => ∃ (k : Nat) (Ds : List Nat) (u3 u4 u5 u6 u7 u8 u9 u10 u11 u14 u15 u16 u17 u18 u19 u20 u21 u22 u23 u24 u25 u26 u27 : Value), k ≤ n ∧ a' = { tmps := #[.slice a n cap, .pointer (some ⟨w.heap.size, 0, none⟩), .pointer (some ⟨w.heap.size + 1, 0, none⟩), u3, u4, u5, u6, u7, u8, u9, u10, u11, .int .i64 (n : Int), .int .i64 (k : Int), u14, u15, u16, u17, u18, u19, u20, u21, u22, u23, u24, u25, u26, u27], defers := Ds.map mark } ∧ Judged w wr a n cap xs k Ds)
      (fun a' _ => n - (intOf (a'.tmps.getD 13 undef)).toNat) ?_ ?_
    · exact ⟨0, [], _, _, _, _, _, _, _, _, _, _, _, _, _, _, _, _, _, _, _, _, _, _, _, Nat.zero_le _, rfl, hJ⟩
    · clear hJ c0
      rintro _ wr ⟨k, Ds, u3, u4, u5, u6, u7, u8, u9, u10, u11, u14, u15, u16, u17, u18, u19, u20, u21, u22, u23, u24, u25, u26, u27, hk, rfl, hJ⟩
      by_cases hlt : k < n
      · have c0 : (wr.alloc (.cells #[.int .i64 0] 3)).cell? ⟨w.heap.size, 0, none⟩ = some (.slice a n cap) := (Below.refl wr.heap.size wr |>.alloc (Nat.le_refl _) _).cell (p := ⟨w.heap.size, 0, none⟩) (by have := hJ.size; simp; omega) |>.trans hJ.c0
        gi_wp2_with (refine ⟨trivial, ?_⟩; gi_at_call 19; refine (callsIn_wide.2 (above_any _ _ _ _ _)).mono ?_; rintro e w' ⟨rfl, rfl⟩)
        have hsw := hJ.size
        have hbw := hJ.below.size
        have hh : Has wr a n cap xs := h.below hJ.below (Nat.le_refl _)
        have hbl : Below wr.heap.size wr (((wr.alloc (.cells #[.int .i64 0] 3)).alloc (.cells #[.slice a n cap] 24)).alloc (.cells #[.int .i64 ((k : Int) + 1)] 3)) := (((Below.refl wr.heap.size wr).alloc (Nat.le_refl _) _).alloc (by simp) _).alloc (by simp; omega) _
        obtain ⟨s0, s1, s2, sf, sz⟩ := three_cells wr (.int .i64 0) (.slice a n cap) (.int .i64 ((k : Int) + 1)) 3 24 3
        generalize (((wr.alloc (.cells #[.int .i64 0] 3)).alloc (.cells #[.slice a n cap] 24)).alloc (.cells #[.int .i64 ((k : Int) + 1)] 3)) = W1 at *
        have hJ1 := hJ.later hbl (Nat.le_refl _)
        clear c0
        refine wpIn_above 8 (wr.heap.size + 1 + 1) (wr.heap.size + 1) a n cap xs (k + 1) n rfl HB.out (by omega) h8
          (fun q W => Below wr.heap.size wr W ∧ (W.cell? ⟨wr.heap.size, 0, none⟩ = some (.int .i64 (q : Int)) ∧ W.frozen? ⟨wr.heap.size, 0, none⟩ = false ∧ W.cell? ⟨wr.heap.size + 1 + 1, 0, none⟩ = some (.int .i64 ((k : Int) + 1)) ∧ W.cell? ⟨wr.heap.size + 1, 0, none⟩ = some (.slice a n cap) ∧ q ≤ n))
          (fun _ W => Below w.heap.size w W ∧ ((W.cell? ⟨w.heap.size + 1, 0, none⟩ = some (.bool false) ∧ ∀ D ∈ Ds, W.heap[D]? = some (.deferred (some []))) ∧ up xs ((k : Int) + 1) n ≠ 0))
          (fun q W hi => ⟨hi.2.2.2.2.2, ⟨hi.2.2.2.1, hi.2.2.2.2.1, hh.below hi.1 (Nat.le_refl _)⟩⟩) ?_ ?_ ⟨hbl, s0, sf, s2, s1, by omega⟩ (fun x => { tmps := #[.slice a n cap, .pointer (some ⟨w.heap.size, 0, none⟩), .pointer (some ⟨w.heap.size + 1, 0, none⟩), .int .i64 (k : Int), .pointer (some ⟨wr.heap.size, 0, none⟩), u5, u6, u7, u8, u9, u10, u11, .int .i64 (n : Int), .int .i64 (k : Int), .bool true, .int .i64 (k : Int), .slice a n cap, .int .i64 (k : Int), .int .i64 ((k : Int) + 1), UpFn (wr.heap.size + 1 + 1) (wr.heap.size + 1), .int .i64 x, u21, u22, u23, u24, u25, u26, u27], defers := [] }) ?_ ?_ ?_ ?_
        · exact OwnFrom.and (ownFrom_below (Nat.le_refl _) (by omega)) (Own.from (fun s A B row hs hg hr => ⟨cell_kept hs.1 hg hr, (frozen_kept hs.1 hg hr).trans hs.2.1, cell_kept hs.2.2.1 hg hr, cell_kept hs.2.2.2.1 hg hr, hs.2.2.2.2⟩) _)
        · refine OwnFrom.and (ownFrom_below (Nat.le_refl _) (by omega)) (fun s A B row hs hg hr => ⟨⟨cell_kept hs.1.1 hg (fun r e => (hr r e).2), fun D hD => ?_⟩, hs.2⟩)
          have hlt := hJ.marks.lt hD
          rw [hg.block D ((Array.getElem?_eq_some_iff.1 (hs.1.2 D hD)).1) (fun e => by have := (hr D e.symm).1; omega)]
          exact hs.1.2 D hD
        · intro l x W K hK
          gi_wp2
          exact hK
        · rintro l q W ⟨hB, d1, d2, d3, d4, d5⟩ hne
          have e0 : W.cell? ⟨w.heap.size, 0, none⟩ = some (.slice a n cap) := by rw [hB.cell (p := ⟨w.heap.size, 0, none⟩) (by simp; omega)]; exact hJ.c0
          have e1 : W.cell? ⟨w.heap.size + 1, 0, none⟩ = some (.bool false) := by rw [hB.cell (p := ⟨w.heap.size + 1, 0, none⟩) (by simp; omega)]; exact hJ.c1
          have ef : W.frozen? ⟨w.heap.size + 1, 0, none⟩ = false := by rw [hB.frozen (p := ⟨w.heap.size + 1, 0, none⟩) (by simp; omega)]; exact hJ.f1
          by_cases hq : q < n
          · gi_wp2
            have eq1 : ((q + 1 : Nat) : Int) = (q : Int) + 1 := by omega
            refine ⟨(KeepsOthers.setCell _ _ _).from _, hB.setCell (p := ⟨wr.heap.size, 0, none⟩) (Nat.le_refl _) _, ?_, ?_, ?_, ?_, by omega⟩
            · rw [eq1]; exact World.cell?_setCell_same' _ _ _ (by rw [d1]; rfl)
            · rw [World.frozen?_setCell]; exact d2
            · rw [cell_other (by omega)]; exact d3
            · rw [cell_other (by omega)]; exact d4
          · obtain rfl : q = n := by omega
            gi_wp2
            refine ⟨((KeepsOthers.setCell _ _ _).from _).trans ((KeepsOthers.setCell _ _ _).from _), ((hJ.below.trans (hB.mono hbw)).setCell (p := ⟨wr.heap.size, 0, none⟩) hbw _).setCell (p := ⟨w.heap.size + 1, 0, none⟩) (by simp) _, ⟨?_, fun D hD => ?_⟩, ?_⟩
            · exact World.cell?_setCell_same' _ _ _ (by rw [cell_other (by omega), e1]; rfl)
            · have := (hJ.marks.below hB (Nat.le_refl _)).isOpen D hD
              exact (KeepsOthers.setCell _ _ _).same D _ ((KeepsOthers.setCell _ _ _).same D _ this rfl) rfl
            · have eq1 : ((k + 1 : Nat) : Int) = (k : Int) + 1 := by omega
              rw [eq1] at hne; exact hne
        · rintro D q W hD hz hne ⟨hB, d1, d2, d3, d4, d5⟩ hK
          have eq1 : ((k + 1 : Nat) : Int) = (k : Int) + 1 := by omega
          have hJ2 := hJ.later hB (Nat.le_refl _)
          have hm := hJ2.marks.cons (L := W1.heap.size) (D := D) (fun E hE => by have := hJ.marks.lt hE; omega) hD (by omega) hK
          have hup : up xs ((k : Int) + 1) n = 0 := by rw [eq1] at hz; exact up_zero hz n d5
          gi_wp2
          refine ⟨⟨k + 1, D :: Ds, _, _, _, _, _, _, _, _, _, _, _, _, _, _, _, _, _, _, _, _, _, _, _, by omega, by rw [eq1]; rfl, ⟨hJ2.below, hJ2.size, hJ2.c0, hJ2.c1, hJ2.f1, hm, fun j hj => ?_⟩⟩, ?_⟩
          · rcases Nat.lt_succ_iff_lt_or_eq.1 hj with h1 | rfl
            · exact hJ.top j h1
            · exact hup
          · simp [intOf]; omega
        · rintro D q W hD ⟨hB, ⟨d1, d2⟩, d3⟩ hK
          have hF : treeB xs = false := treeB_no (i := k) (by rw [HL.out]; exact hlt) (by rw [HL.out]; exact d3)
          have hm := (Marks.mk hJ.marks.nodup hJ.marks.ge d2).cons (L := W1.heap.size) (D := D) (fun E hE => by have := hJ.marks.lt hE; omega) hD (by omega) hK
          gi_wp2
          refine leaves_marks (D :: Ds) _ hm hB.size fun w' hc _ hb => ⟨.bool false, ?_, postBool hF.symm (hB.trans hb)⟩
          simp [results, Try.results18, go_sem, hc _ _ d1]
      · obtain rfl : k = n := by omega
        have HY : Hid (treeB xs = true) := hid (by
          rw [HT.out, HC.out, Bool.true_and, List.all_eq_true]
          intro i hi
          rw [List.mem_range] at hi
          simpa using hJ.top i hi)
        have c1 := hJ.c1
        have f1 := hJ.f1
        gi_wp2_with fail
        refine leaves_marks Ds _ (hJ.marks.setCell _ _) (by have := hJ.below.size; simpa using this) fun w' hc _ hb => ⟨.bool true, ?_, postBool HY.out.symm ((hJ.below.setCell (p := ⟨w.heap.size + 1, 0, none⟩) (by simp) _).trans hb)⟩
        have hc2 := hc _ _ (World.cell?_setCell_same' wr ⟨w.heap.size + 1, 0, none⟩ (.bool true) (by rw [c1]; rfl))
        simp [results, Try.results18, go_sem, hc2]
  · have HC := hid (Bool.eq_false_iff.2 hc)
    have HF : Hid (treeB xs = false) := hid (by rw [HT.out, HC.out]; rfl)
    clear hc
    gi_wp2_with (refine ⟨trivial, ?_⟩; gi_at_call 32; refine (callsIn_wide.2 (areCarsBelow_any _ _ _ _ _ _ hh2)).mono ?_; rintro e w' ⟨rfl, rfl⟩; rw [HC.out])
    refine ⟨.bool false, ?_, postBool HF.out.symm hb2⟩
    simp [results, Try.results18, go_sem]
end Go.Proofs.Ytdemcjciijlbeaa
