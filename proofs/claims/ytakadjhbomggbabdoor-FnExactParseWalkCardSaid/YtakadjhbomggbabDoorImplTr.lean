/- The program's IsTree. -/
import Derived.Test.YtakadjhbomggbabDoorUp
import Derived.Test.YtakadjhbomggbabDoorSpecTr
namespace Go.Proofs.YtakadjhbomggbabDoor
open Go.RowKit Go.Shelf

attribute [local go_sem] Oper.semAt_some

/-- What a loop over an iterator leaves among the deferred calls. -/
def mark (D : Nat) : Deferred := { target := .collected D, args := #[] }
/-- Marks that are open. -/
structure Marks (W : World) (B : Nat) (Ds : List Nat) : Prop where
  nodup : Ds.Nodup
  ge : ∀ D ∈ Ds, B ≤ D
  isOpen : ∀ D ∈ Ds, W.heap[D]? = some (.deferred (some []))
theorem Marks.nil (W : World) (B : Nat) : Marks W B [] := ⟨by simp, by simp, by simp⟩
theorem Marks.lt {W : World} {B D : Nat} {Ds : List Nat} (h : Marks W B Ds) (hD : D ∈ Ds) : D < W.heap.size := (Array.getElem?_eq_some_iff.1 (h.isOpen D hD)).1
theorem Marks.below {W W' : World} {B K : Nat} {Ds : List Nat} (h : Marks W B Ds) (hb : Below K W W') (hK : W.heap.size ≤ K) : Marks W' B Ds :=
  ⟨h.nodup, h.ge, fun D hD => by rw [hb.block D (by have := h.lt hD; omega)]; exact h.isOpen D hD⟩
theorem Marks.setCell {W : World} {B : Nat} {Ds : List Nat} (h : Marks W B Ds) (p : Addr) (v : Value) : Marks (W.setCell p v) B Ds :=
  ⟨h.nodup, h.ge, fun D hD => (KeepsOthers.setCell W p v).same D _ (h.isOpen D hD) rfl⟩
theorem Marks.cons {W : World} {B L D : Nat} {Ds : List Nat} (h : Marks W B Ds) (hl : ∀ D ∈ Ds, D < L) (hD : L ≤ D) (hB : B ≤ L) (ho : W.heap[D]? = some (.deferred (some []))) : Marks W B (D :: Ds) := by
  refine ⟨List.nodup_cons.2 ⟨fun hm => ?_, h.nodup⟩, fun E hE => ?_, fun E hE => ?_⟩
  · have := hl D hm; omega
  · rcases List.mem_cons.1 hE with rfl | hE
    · omega
    · exact h.ge E hE
  · rcases List.mem_cons.1 hE with rfl | hE
    · exact ho
    · exact h.isOpen E hE
/-- Cells that were, are. -/
def Cells (w w' : World) : Prop := ∀ p v, w.cell? p = some v → w'.cell? p = some v
/-- Blocks of cells lie as they lay. -/
def Blocks (w w' : World) : Prop := ∀ (g : Nat) (c : Array Value) (t : TypeId), w.heap[g]? = some (.cells c t) → w'.heap[g]? = some (.cells c t)
theorem leaves_marks {m : Nat} {fn : Func} {tmps : Array Value} {R : Ending → World → Prop} {B : Nat} : ∀ (Ds : List Nat) (w : World), Marks w B Ds → B ≤ w.heap.size →
    (∀ w', Cells w w' → Blocks w w' → Below B w w' → LeavesInM Fence.wide m Tryd.prog fn tmps R [] .returning w') → LeavesInM Fence.wide m Tryd.prog fn tmps R (Ds.map mark) .returning w
  | [], w, _, _, h => h w (fun _ _ h => h) (fun _ _ _ h => h) (Below.refl _ _)
  | D :: Ds, w, hm, hB, h => by
    have hK := hm.isOpen D (by simp)
    have hD := hm.ge D (by simp)
    refine ⟨by simp, .inl ⟨D, w.putObj D (.deferred none), rfl, run_takeDeferred hK, ?_⟩⟩
    have hb : Below B w (w.putObj D (.deferred none)) := (Below.refl B w).grown (grownBy_putObj' w D _) hB (fun k e => by cases e; exact hD)
    refine leaves_marks Ds _ ⟨(List.nodup_cons.1 hm.nodup).2, fun E hE => hm.ge E (by simp [hE]), fun E hE => ?_⟩ (Nat.le_trans hB hb.size) fun w' hc hbk hb' => h w' (fun p v hp => hc p v (cell_kept hp (grownBy_putObj' w D _) (fun r e => by cases e; exact ⟨_, hK, rfl⟩))) (fun g c t hg => hbk g c t (by rw [World.putObj_heap_other (fun e => by subst e; rw [hK] at hg; cases hg)]; exact hg)) (hb.trans hb')
    rw [World.putObj_heap_other (fun e => (List.nodup_cons.1 hm.nodup).1 (by subst e; exact hE))]
    exact hm.isOpen E (by simp [hE])

/-- What IsTree keeps, behind k nodes: the argument's box, the result's box, the marks. -/
structure Judged (w wr : World) (a : Option Addr) (n cap : Nat) (xs : List Int) (k : Nat) (Ds : List Nat) : Prop where
  below : Below w.heap.size w wr
  size : w.heap.size + 2 ≤ wr.heap.size
  c0 : wr.cell? ⟨w.heap.size, 0, none⟩ = some (.slice a n cap)
  c1 : wr.cell? ⟨w.heap.size + 1, 0, none⟩ = some (.bool false)
  f1 : wr.frozen? ⟨w.heap.size + 1, 0, none⟩ = false
  marks : Marks wr w.heap.size Ds
  top : ∀ j, j < k → up xs ((j : Int) + 1) n = 0
theorem Judged.later {w wr wr' : World} {a : Option Addr} {n cap : Nat} {xs : List Int} {k : Nat} {Ds : List Nat} (h : Judged w wr a n cap xs k Ds) {K : Nat} (hb : Below K wr wr') (hK : wr.heap.size ≤ K) : Judged w wr' a n cap xs k Ds := by
  have hs := h.size
  refine ⟨h.below.trans (hb.mono (by omega)), Nat.le_trans h.size hb.size, ?_, ?_, ?_, h.marks.below hb hK, h.top⟩
  · rw [hb.cell (p := ⟨w.heap.size, 0, none⟩) (by simp; omega)]; exact h.c0
  · rw [hb.cell (p := ⟨w.heap.size + 1, 0, none⟩) (by simp; omega)]; exact h.c1
  · rw [hb.frozen (p := ⟨w.heap.size + 1, 0, none⟩) (by simp; omega)]; exact h.f1

theorem three_cells (w : World) (x y z : Value) (t u v : TypeId) :
    (((w.alloc (.cells #[x] t)).alloc (.cells #[y] u)).alloc (.cells #[z] v)).cell? ⟨w.heap.size, 0, none⟩ = some x ∧
    (((w.alloc (.cells #[x] t)).alloc (.cells #[y] u)).alloc (.cells #[z] v)).cell? ⟨w.heap.size + 1, 0, none⟩ = some y ∧
    (((w.alloc (.cells #[x] t)).alloc (.cells #[y] u)).alloc (.cells #[z] v)).cell? ⟨w.heap.size + 1 + 1, 0, none⟩ = some z ∧
    (((w.alloc (.cells #[x] t)).alloc (.cells #[y] u)).alloc (.cells #[z] v)).frozen? ⟨w.heap.size, 0, none⟩ = false ∧
    (((w.alloc (.cells #[x] t)).alloc (.cells #[y] u)).alloc (.cells #[z] v)).heap.size = w.heap.size + 3 := by
  refine ⟨?_, ?_, ?_, ?_, by simp⟩
  · rw [World.cell?_alloc_past _ _ _ (by simp; omega), World.cell?_alloc_past _ _ _ (by simp), World.cell?_alloc_at _ _ _ _ rfl]; rfl
  · rw [World.cell?_alloc_past _ _ _ (by simp), World.cell?_alloc_at _ _ _ _ (by simp)]; rfl
  · rw [World.cell?_alloc_at _ _ _ _ (by simp)]; rfl
  · rw [World.frozen?_alloc_past _ _ _ (by simp; omega), World.frozen?_alloc_past _ _ _ (by simp), World.frozen?_alloc_at _ _ _ _ rfl]

end Go.Proofs.YtakadjhbomggbabDoor
