/- Rings as tables. -/
import Derived.Test.YtnddplldkgphnaaImplRc
import Derived.Test.YtnddplldkgphnaaSrt
namespace Go.Proofs.Ytnddplldkgphnaa
open Go.RowKit

/-- A ring's cells as a slice. -/
theorem ring_has {w : World} {g : Nat} {cs : List Int} (h : RingAt w g (ringL cs)) (h12 : cs.length ≤ 12) : Has w (some ⟨g, 1, none⟩) cs.length 12 cs :=
  ⟨rfl, h12, by unfold maxLen; omega, by omega, fun _ => ⟨g, 1, rfl, h.lt, fun i hi => ring_cell h hi h12⟩⟩

/-- A variable of one cell. -/
structure CellAt (w : World) (g : Nat) (x : Value) : Prop where
  c0 : w.cell? ⟨g, 0, none⟩ = some x
  f0 : w.frozen? ⟨g, 0, none⟩ = false
theorem CellAt.below {w w' : World} {g K : Nat} {x : Value} (h : CellAt w g x) (hb : Below K w w') (hg : g < K) : CellAt w' g x :=
  ⟨by rw [hb.cell (p := ⟨g, 0, none⟩) hg]; exact h.c0, by rw [hb.frozen (p := ⟨g, 0, none⟩) hg]; exact h.f0⟩
theorem CellAt.set {w : World} {g : Nat} {x z : Value} (h : CellAt w g x) : CellAt (w.setCell ⟨g, 0, none⟩ z) g z :=
  ⟨World.cell?_setCell_same' _ _ _ (by rw [h.c0]; rfl), by rw [World.frozen?_setCell]; exact h.f0⟩
theorem CellAt.setOther' {w : World} {g g' i : Nat} {x z : Value} (h : CellAt w g x) (hne : g' ≠ g) : CellAt (w.setCell ⟨g', i, none⟩ z) g x :=
  ⟨by rw [World.cell?_setCell_other _ _ _ _ (by intro hh; injection hh with h5; exact hne h5)]; exact h.c0, by rw [World.frozen?_setCell]; exact h.f0⟩
theorem cellAt_new (w : World) (x : Value) (t : TypeId) : CellAt (w.alloc (.cells #[x] t)) w.heap.size x :=
  ⟨by rw [World.cell?_alloc_at _ _ _ _ rfl]; rfl, World.frozen?_alloc_at _ _ _ _ rfl⟩
theorem CellAt.lt {w : World} {g : Nat} {x : Value} (h : CellAt w g x) : g < w.heap.size := by
  have := h.c0
  unfold World.cell? at this
  by_cases hg : g < w.heap.size
  · exact hg
  · simp [Array.getElem?_eq_none (show w.heap.size ≤ g by omega)] at this
theorem CellAt.alloc {w : World} {g : Nat} {x : Value} (h : CellAt w g x) (o : Obj) : CellAt (w.alloc o) g x :=
  h.below ((Below.refl (g + 1) w).alloc h.lt o) (Nat.lt_succ_self g)
theorem Own.cellSet {w : World} {B g i n cap : Nat} {a : Option Addr} {xs : List Int} (h : Own w B a n cap xs) (hg : g < B) (u : Value) : Own (w.setCell ⟨g, i, none⟩ u) B a n cap xs :=
  ⟨ownsRow_setCell_below h.1 hg u, h.2⟩

set_option maxHeartbeats 2000000 in
theorem table_any (cs : List Int) (w : World) (hr : Rg cs) :
    Calls Try.prog 30 #[.agg (ivals (ringL cs))] w fun e w' => ∃ a' cap', e = .returned (.agg #[.slice a' cs.length cap']) ∧ Own w' w.heap.size a' cs.length cap' cs ∧ Below w.heap.size w w' := by
  have h12 := hr.hi
  have R := (ringAt_new w hr.all).alloc (.cells #[.slice none 0 0] 24)
  have Z := cellAt_new (w.alloc (.cells (ivals (ringL cs)) 52)) (.slice none 0 0) 24
  have hb : Below w.heap.size w ((w.alloc (.cells (ivals (ringL cs)) 52)).alloc (.cells #[.slice none 0 0] 24)) := ((Below.refl w.heap.size w).alloc (Nat.le_refl _) _).alloc (by simp) _
  have hz1 : (w.alloc (.cells (ivals (ringL cs)) 52)).heap.size = w.heap.size + 1 := by simp
  rw [hz1] at Z
  have hH := ring_has R h12
  have hs : ((w.alloc (.cells (ivals (ringL cs)) 52)).alloc (.cells #[.slice none 0 0] 24)).heap.size = w.heap.size + 2 := by simp
  have hc : (ivals (ringL cs))[0]? = some (.int .i64 (cs.length : Int)) := ivals_at (xs := ringL cs) (i := 0) (by rw [hr.all]; omega)
  have hc0 : (0 : Int) ≤ (cs.length : Int) := by omega
  have hc12 : (cs.length : Int) ≤ 12 := by omega
  clear hz1
  go_enter Try.func30, Try.ntmps30
  go_wp2_with (go_at_call 37; refine (clone_any _ _ _ _ _ hH).mono ?_; rintro e w' ⟨a', cap', rfl, own, st⟩; have Z2 := Z.below st Z.lt; have hb2 := hb.trans (st.mono (by omega)); clear Z hb R hH hc st; obtain ⟨z1, z2⟩ := id Z2)
  have hb3 := hb2.setCell (p := ⟨w.heap.size + 1, 0, none⟩) (by simp) (.slice a' cs.length cap')
  have hZ := Z2.set (z := .slice a' cs.length cap')
  have own2 := (own.cellSet (g := w.heap.size + 1) (i := 0) (by omega) (.slice a' cs.length cap')).mono (B' := w.heap.size) (by omega)
  obtain ⟨y1, y2⟩ := id hZ
  refine bodyPost_ret (v := .agg #[.slice a' cs.length cap']) (by simp [results, Try.results30, go_sem, *]) rfl ⟨_, _, rfl, own2, hb3⟩
end Go.Proofs.Ytnddplldkgphnaa
