/- Rings as tables. -/
import Derived.Test.YtadcmghjhgjeeacDoorImplRc
import Derived.Test.YtadcmghjhgjeeacDoorSrt
namespace Go.Proofs.YtadcmghjhgjeeacDoor
open Go.RowKit

/-- A ring's cells as a slice. -/
theorem ring_has {w : World} {g : Nat} {cs : List Int} (h : RingAt w g (ringL cs)) (h12 : cs.length ≤ 12) : Has w (some ⟨g, 1, none⟩) cs.length 12 cs :=
  ⟨rfl, h12, by unfold maxLen; omega, by omega, fun _ => ⟨g, 1, rfl, h.lt, fun i hi => ring_cell h hi h12⟩⟩

/-- A variable of one cell. -/
structure CellAt (w : World) (g : Nat) (x : Value) : Prop where
  c0 : w.cell? ⟨g, 0, none⟩ = some x
  f0 : w.frozen? ⟨g, 0, none⟩ = false
theorem CellAt.below {w w' : World} {g K : Nat} {x : Value} (h : CellAt w g x) (hb : Below K w w') (hg : g < K) : CellAt w' g x :=
  ⟨by rw [hb.cell (p := ⟨g, 0, none⟩) hg]; exact h.c0, by rw [hb.frozen (p := ⟨g, 0, none⟩) hg]; exact h.f0⟩
theorem CellAt.set {w : World} {g : Nat} {x z : Value} (h : CellAt w g x) : CellAt (w.setCell ⟨g, 0, none⟩ z) g z :=
  ⟨World.cell?_setCell_same' _ _ _ (by rw [h.c0]; rfl), by rw [World.frozen?_setCell]; exact h.f0⟩
theorem CellAt.setOther' {w : World} {g g' i : Nat} {x z : Value} (h : CellAt w g x) (hne : g' ≠ g) : CellAt (w.setCell ⟨g', i, none⟩ z) g x :=
  ⟨by rw [World.cell?_setCell_other _ _ _ _ (by intro hh; injection hh with h5; exact hne h5)]; exact h.c0, by rw [World.frozen?_setCell]; exact h.f0⟩
theorem cellAt_new (w : World) (x : Value) (t : TypeId) : CellAt (w.alloc (.cells #[x] t)) w.heap.size x :=
  ⟨by rw [World.cell?_alloc_at _ _ _ _ rfl]; rfl, World.frozen?_alloc_at _ _ _ _ rfl⟩
theorem CellAt.lt {w : World} {g : Nat} {x : Value} (h : CellAt w g x) : g < w.heap.size := by
  have := h.c0
  unfold World.cell? at this
  by_cases hg : g < w.heap.size
  · exact hg
  · simp [Array.getElem?_eq_none (show w.heap.size ≤ g by omega)] at this
theorem CellAt.alloc {w : World} {g : Nat} {x : Value} (h : CellAt w g x) (o : Obj) : CellAt (w.alloc o) g x :=
  h.below ((Below.refl (g + 1) w).alloc h.lt o) (Nat.lt_succ_self g)
theorem Own.cellSet {w : World} {B g i n cap : Nat} {a : Option Addr} {xs : List Int} (h : Own w B a n cap xs) (hg : g < B) (u : Value) : Own (w.setCell ⟨g, i, none⟩ u) B a n cap xs :=
  ⟨ownsRow_setCell_below h.1 hg u, h.2⟩

end Go.Proofs.YtadcmghjhgjeeacDoor
