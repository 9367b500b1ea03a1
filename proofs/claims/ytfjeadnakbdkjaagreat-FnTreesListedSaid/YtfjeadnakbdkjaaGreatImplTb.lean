/- The program's BelowCounts. -/
import Derived.Test.YtfjeadnakbdkjaaGreatImplTw
namespace Go.Proofs.YtfjeadnakbdkjaaGreat
open Go.RowKit Go.Shelf

attribute [local go_sem] Oper.semAt_some

theorem two_cells (w : World) (x y : Value) (t u : TypeId) :
    ((w.alloc (.cells #[x] t)).alloc (.cells #[y] u)).cell? ⟨w.heap.size, 0, none⟩ = some x ∧
    ((w.alloc (.cells #[x] t)).alloc (.cells #[y] u)).cell? ⟨w.heap.size + 1, 0, none⟩ = some y ∧
    ((w.alloc (.cells #[x] t)).alloc (.cells #[y] u)).heap.size = w.heap.size + 2 := by
  refine ⟨?_, ?_, by simp⟩
  · rw [World.cell?_alloc_past _ _ _ (by simp), World.cell?_alloc_at _ _ _ _ rfl]; rfl
  · rw [World.cell?_alloc_at _ _ _ _ (by simp)]; rfl

/-- The array in memory. -/
def ArrAt (W : World) (T : Nat) (ys : List Int) : Prop := ∀ v, v < 9 → W.cell? ⟨T, v, none⟩ = some (.int .i64 (nth ys v)) ∧ W.frozen? ⟨T, v, none⟩ = false
theorem ArrAt.below {W W' : World} {T K : Nat} {ys : List Int} (h : ArrAt W T ys) (hb : Below K W W') (hT : T < K) : ArrAt W' T ys := fun v hv => by
  rw [hb.cell (p := ⟨T, v, none⟩) hT, hb.frozen (p := ⟨T, v, none⟩) hT]; exact h v hv
theorem ArrAt.set {W : World} {T u : Nat} {ys : List Int} (h : ArrAt W T ys) (hu : u < 9) (hl : ys.length = 9) (y : Int) : ArrAt (W.setCell ⟨T, u, none⟩ (.int .i64 y)) T (ys.set u y) := fun v hv => by
  rw [World.frozen?_setCell, nth_set (by omega)]
  refine ⟨?_, (h v hv).2⟩
  by_cases e : u = v
  · subst e
    rw [if_pos rfl]
    exact World.cell?_setCell_same' _ _ _ (by rw [(h u hu).1]; rfl)
  · rw [if_neg e, World.cell?_setCell_other _ _ _ _ (by intro hh; injection hh with _ h5 _; exact e h5)]
    exact (h v hv).1
theorem ArrAt.turn {A B : World} {T : Nat} {ys : List Int} {row : Option Nat} (h : ArrAt A T ys) (hg : A.grownBy B row) (hr : ∀ r, row = some r → ∃ o : Obj, A.heap[r]? = some o ∧ o.isCells = false) : ArrAt B T ys := fun v hv =>
  ⟨cell_kept (h v hv).1 hg hr, (frozen_kept (h v hv).1 hg hr).trans (h v hv).2⟩
theorem ArrAt.has {W : World} {T n : Nat} {ys : List Int} (h : ArrAt W T ys) (hT : T < W.heap.size) (hl : ys.length = 9) (hn : n ≤ 9) : Has W (some ⟨T, 0, none⟩) n 9 (ys.take n) :=
  ⟨by simp; omega, hn, by unfold maxLen; omega, by omega, fun _ => ⟨T, 0, rfl, hT, fun i hi => by rw [Nat.zero_add, (h i (by omega)).1, nth_take hi]⟩⟩

structure Beneath (w wr : World) (T : Nat) (xs ys : List Int) (k : Nat) (Ds : List Nat) : Prop where
  below : Below w.heap.size w wr
  lo : w.heap.size ≤ T ∧ T < wr.heap.size
  arr : ArrAt wr T ys
  marks : Marks wr w.heap.size Ds
  found : BelAt xs ys 9 k 0

end Go.Proofs.YtfjeadnakbdkjaaGreat
