/- Walks as values: structures of two slices in memory, and the laws' helpers over them. -/
import Derived.Test.YtakadjhbomggbaaGreatHelp
import Derived.Test.YtakadjhbomggbaaGreatLawKit
namespace Go.Proofs.YtakadjhbomggbaaGreat
open Go.RowKit

/-- Two slices lie in different blocks. -/
def Apart2 (a b : Option Addr) : Prop := ∀ p q, a = some p → b = some q → p.block ≠ q.block
theorem apart_lt {a b : Option Addr} {K : Nat} (h : BlkLt a K) (h' : BlkGe b K) : Apart2 a b := fun p q hp hq => by
  have := h p hp
  have := h' q hq
  omega
theorem Apart2.symm {a b : Option Addr} (h : Apart2 a b) : Apart2 b a := fun p q hp hq e => h q p hq hp e.symm
theorem apart_none (b : Option Addr) : Apart2 none b := fun p q hp => by cases hp

/-- A variable of two cells. -/
structure BoxAt (w : World) (g : Nat) (x y : Value) : Prop where
  c0 : w.cell? ⟨g, 0, none⟩ = some x
  c1 : w.cell? ⟨g, 1, none⟩ = some y
  f0 : w.frozen? ⟨g, 0, none⟩ = false
  f1 : w.frozen? ⟨g, 1, none⟩ = false
theorem BoxAt.below {w w' : World} {g K : Nat} {x y : Value} (h : BoxAt w g x y) (hb : Below K w w') (hg : g < K) : BoxAt w' g x y :=
  ⟨by rw [hb.cell (p := ⟨g, 0, none⟩) hg]; exact h.c0, by rw [hb.cell (p := ⟨g, 1, none⟩) hg]; exact h.c1, by rw [hb.frozen (p := ⟨g, 0, none⟩) hg]; exact h.f0, by rw [hb.frozen (p := ⟨g, 1, none⟩) hg]; exact h.f1⟩
theorem BoxAt.set0 {w : World} {g : Nat} {x y z : Value} (h : BoxAt w g x y) : BoxAt (w.setCell ⟨g, 0, none⟩ z) g z y :=
  ⟨World.cell?_setCell_same' _ _ _ (by rw [h.c0]; rfl), by rw [World.cell?_setCell_other _ _ _ _ (by intro hh; injection hh with _ h5 _; exact absurd h5 (by decide))]; exact h.c1, by rw [World.frozen?_setCell]; exact h.f0, by rw [World.frozen?_setCell]; exact h.f1⟩
theorem BoxAt.set1 {w : World} {g : Nat} {x y z : Value} (h : BoxAt w g x y) : BoxAt (w.setCell ⟨g, 1, none⟩ z) g x z :=
  ⟨by rw [World.cell?_setCell_other _ _ _ _ (by intro hh; injection hh with _ h5 _; exact absurd h5 (by decide))]; exact h.c0, World.cell?_setCell_same' _ _ _ (by rw [h.c1]; rfl), by rw [World.frozen?_setCell]; exact h.f0, by rw [World.frozen?_setCell]; exact h.f1⟩
theorem BoxAt.apart {w : World} {g g' i : Nat} {x y z : Value} (h : BoxAt w g x y) (hne : g' ≠ g) : BoxAt (w.setCell ⟨g', i, none⟩ z) g x y :=
  ⟨by rw [World.cell?_setCell_other _ _ _ _ (by intro hh; injection hh with h5; exact hne h5)]; exact h.c0, by rw [World.cell?_setCell_other _ _ _ _ (by intro hh; injection hh with h5; exact hne h5)]; exact h.c1, by rw [World.frozen?_setCell]; exact h.f0, by rw [World.frozen?_setCell]; exact h.f1⟩
theorem boxAt_new (w : World) (x y : Value) (t : TypeId) : BoxAt (w.alloc (.cells #[x, y] t)) w.heap.size x y :=
  ⟨by rw [World.cell?_alloc_at _ _ _ _ rfl]; rfl, by rw [World.cell?_alloc_at _ _ _ _ rfl]; rfl, World.frozen?_alloc_at _ _ _ _ rfl, World.frozen?_alloc_at _ _ _ _ rfl⟩
theorem boxAt_lt {w : World} {g : Nat} {x y : Value} (h : BoxAt w g x y) : g < w.heap.size := by
  have := h.c0
  unfold World.cell? at this
  by_cases hg : g < w.heap.size
  · exact hg
  · simp [Array.getElem?_eq_none (show w.heap.size ≤ g by omega)] at this
theorem BoxAt.alloc {w : World} {g : Nat} {x y : Value} (h : BoxAt w g x y) (o : Obj) : BoxAt (w.alloc o) g x y :=
  h.below ((Below.refl (g + 1) w).alloc (boxAt_lt h) o) (Nat.lt_succ_self g)

theorem BoxAt.kept {w w' : World} {g : Nat} {x y : Value} {row : Option Nat} (h : BoxAt w g x y) (hg : w.grownBy w' row) (hne : row ≠ some g) : BoxAt w' g x y := by
  have hlt := boxAt_lt h
  have hb : w'.heap[g]? = w.heap[g]? := hg.block g hlt (fun e => hne e.symm)
  refine ⟨?_, ?_, ?_, ?_⟩
  · have := h.c0; unfold World.cell? at this ⊢; rw [hb]; exact this
  · have := h.c1; unfold World.cell? at this ⊢; rw [hb]; exact this
  · have := h.f0; unfold World.frozen? at this ⊢; rw [hb]; exact this
  · have := h.f1; unfold World.frozen? at this ⊢; rw [hb]; exact this
theorem Own.keptR {w w' : World} {B : Nat} {a : Option Addr} {n cap : Nat} {xs : List Int} {row : Option Nat} (h : Own w B a n cap xs) (hg : w.grownBy w' row) (hne : ∀ g, row = some g → ∀ p, a = some p → p.block ≠ g) : Own w' B a n cap xs := by
  refine ⟨⟨by simpa using h.1.1, ?_⟩, h.2⟩
  rcases h.1.2 with h2 | ⟨k, cap', cur, hv, hk, hh, r⟩
  · exact .inl h2
  · refine .inr ⟨k, cap', cur, hv, hk, ?_, r⟩
    simp at hv
    rw [hg.block k (Array.getElem?_eq_some_iff.1 hh).1 (fun e => hne k e.symm _ hv.1 rfl)]
    exact hh
theorem Own.setBelow {w : World} {B g i n cap : Nat} {a : Option Addr} {xs : List Int} (h : Own w B a n cap xs) (hg : g < B) (u : Value) : Own (w.setCell ⟨g, i, none⟩ u) B a n cap xs :=
  ⟨ownsRow_setCell_below h.1 hg u, h.2⟩

theorem Own.setBelow' {w : World} {B g i n cap : Nat} {a : Option Addr} {xs : List Int} (h : Own w B a n cap xs) (hg : BlkGe a (g + 1)) (u : Value) : Own (w.setCell ⟨g, i, none⟩ u) B a n cap xs := by
  refine ⟨?_, h.2⟩
  have h1 := h.1
  refine ⟨by simpa using h1.1, ?_⟩
  rcases h1.2 with h2 | ⟨k, cap', cur, hv, hk, hh, r⟩
  · exact .inl h2
  · refine .inr ⟨k, cap', cur, hv, hk, ?_, r⟩
    simp at hv
    have := hg _ hv.1
    rw [Below.heap_setCell _ _ _ _ (by simp at this ⊢; omega)]
    exact hh

theorem row_len {w : World} {a : Option Addr} {len cap : Nat} {zs : List Int}
    (h : (a = none ∧ len = 0 ∧ cap = 0 ∧ zs = []) ∨ ∃ x, a = some x ∧ len ≤ cap ∧ cap ≤ maxLen ∧ zs.length = cap ∧ (∀ i, i < zs.length → w.cell? (x.add i) = some (.int .i64 (zs.getD i 0))) ∧ ∀ n ∈ zs, (Lit.int .i64 n).wf = true) : (len : Int) ≤ 9223372036854775807 := by
  rcases h with ⟨_, rfl, _, _⟩ | ⟨x, _, h1, h2, _⟩
  · omega
  · unfold maxLen at h2
    omega
/-- How much may still be read. -/
def szLeft (n : Nat) (l : Int) : Int := if (n : Int) ≤ l then l - (n : Int) else -1
def szTwo (n m : Nat) (l : Int) : Int := if (n : Int) + (m : Int) ≤ l then l - (n : Int) - (m : Int) else -1
/-- The blocks of two slices are written. -/
def MarkedTwo (w w' : World) (a b : Option Addr) : Prop := ∃ w0 w1, Below w.heap.size w w0 ∧ Marked w0 w1 a ∧ Marked w1 w' b
/-- Behind a mark of another slice. -/
theorem Own.unmarked {w w' : World} {B : Nat} {a a' : Option Addr} {n cap : Nat} {xs : List Int} (h : Own w B a n cap xs) (hm : Marked w w' a') (hap : Apart2 a a') : Own w' B a n cap xs := by
  obtain ⟨row, hg, hr⟩ := hm
  refine h.keptR hg fun g e p hp => ?_
  obtain ⟨q, hq, e'⟩ := hr g e
  have := hap p q hp hq
  omega
theorem BoxAt.unmarked {w w' : World} {g : Nat} {x y : Value} {a' : Option Addr} (h : BoxAt w g x y) (hm : Marked w w' a') (hne : ∀ p, a' = some p → p.block ≠ g) : BoxAt w' g x y := by
  obtain ⟨row, hg, hr⟩ := hm
  refine h.kept hg fun e => ?_
  obtain ⟨q, hq, e'⟩ := hr g e
  exact hne q hq e'
theorem box_new {w : World} {g K : Nat} {x y : Value} {a : Option Addr} (h : BoxAt w g x y) (hg : BlkGe a K) (hK : w.heap.size ≤ K) : ∀ p, a = some p → p.block ≠ g := fun p hp e => by
  have := hg p hp
  have := boxAt_lt h
  omega
theorem box_old {a : Option Addr} {K : Nat} (h : BlkLt a K) : ∀ p, a = some p → p.block ≠ K := fun p hp e => by
  have := h p hp
  omega
theorem Marked.belowAt {w w' : World} {a : Option Addr} {B : Nat} (hm : Marked w w' a) (hg : BlkGe a B) (hB : B ≤ w.heap.size) : Below B w w' := hm.below hg hB
end Go.Proofs.YtakadjhbomggbaaGreat
