/- Keys put in: what comes of it. -/
import Derived.Test.YtbmghpgnakbnjabImplFn
import Derived.Deep.DeepCutAuto
namespace Go.Proofs.Ytbmghpgnakbnjab
open Go.RowKit

/-- A world in which a table lies in its variable, and what was there before. -/
structure TS (w0 : World) (g : Nat) (a : Option Addr) (n cap : Nat) (cs : List Int) (w : World) : Prop where
  cell : CellAt w g (.slice a n cap)
  has : Has w a n cap cs
  st : Below w0.heap.size w0 w
theorem TS.drew {w0 w : World} {g : Nat} {a : Option Addr} {n cap : Nat} {cs : List Int} (h : TS w0 g a n cap cs w) : TS w0 g a n cap cs w.drew := ⟨⟨h.cell.c0, h.cell.f0⟩, h.has, h.st.drew⟩
theorem TS.step {w0 w w' : World} {g : Nat} {a : Option Addr} {n cap : Nat} {cs : List Int} (h : TS w0 g a n cap cs w) (hb : Below w.heap.size w w') : TS w0 g a n cap cs w' := ⟨h.cell.below hb h.cell.lt, h.has.below hb (Nat.le_refl _), h.st.trans (hb.mono h.st.size)⟩
theorem TS.first {w0 w : World} {g : Nat} {a : Option Addr} {n cap : Nat} {cs : List Int} (h : TS w0 g a n cap cs w) : TS w0 g a n cap cs w.drew ∧ w.drew.cell? ⟨g, 0, none⟩ = some (.slice a n cap) := ⟨h.drew, h.cell.c0⟩
theorem TS.next {w0 w w' : World} {g : Nat} {a : Option Addr} {n cap : Nat} {cs : List Int} {p : Prop} (h : TS w0 g a n cap cs w ∧ p) (hb : Below w.heap.size w w') : TS w0 g a n cap cs w' ∧ w'.cell? ⟨g, 0, none⟩ = some (.slice a n cap) := ⟨h.1.step hb, (h.1.step hb).cell.c0⟩

def insertOf (cs : List Int) (key : Int) : List Int × Int × Bool := if tblB cs = true ∧ keyB key = true ∧ key ∉ cs ∧ usedN cs + 1 < cs.length then (insL cs key, (slot cs key : Int), true) else ([], 0, false)
theorem insertOf_yes {cs : List Int} {key : Int} (h1 : tblB cs = true) (h2 : keyB key = true) (h3 : key ∉ cs) (h4 : usedN cs + 1 < cs.length) : insertOf cs key = (insL cs key, (slot cs key : Int), true) := if_pos ⟨h1, h2, h3, h4⟩
theorem insertOf_no {cs : List Int} {key : Int} (h : ¬ (tblB cs = true ∧ keyB key = true ∧ key ∉ cs ∧ usedN cs + 1 < cs.length)) : insertOf cs key = ([], 0, false) := if_neg h
theorem Tb.usedN_lt {cs : List Int} (h : Tb cs) : usedN cs < cs.length := by
  obtain ⟨q, hq, e⟩ := h.fr
  have h1 := usedN_le cs
  rcases Nat.lt_or_ge (usedN cs) cs.length with h2 | h2
  · exact h2
  · exfalso
    have : usedN cs = cs.length := by omega
    unfold usedN at this
    rw [List.countP_eq_length] at this
    have := this _ (nth_mem hq)
    simp [e] at this
theorem postTabInt {w w' : World} {r : List Int × Int × Bool} {ys : List Int} {x : Int} {ok : Bool} {a : Option Addr} {m cap : Nat} (hr : r = (ys, x, ok)) (h : Own w' w.heap.size a m cap ys) (hb : Below w.heap.size w w') : PostTabInt w r (.returned (.tuple #[.agg #[.slice a m cap], .int .i64 x, .bool ok])) w' := by subst hr; exact ⟨_, _, _, rfl, h, hb⟩
theorem postTabInt_no {w w' : World} {r : List Int × Int × Bool} (hr : r = ([], 0, false)) (hb : Below w.heap.size w w') : PostTabInt w r (.returned (.tuple #[.agg #[.slice none 0 0], .int .i64 0, .bool false])) w' := postTabInt hr (Own.nil _ _) hb

/-- The start of a function of a table that gives a table back. -/
theorem tab_start (w : World) (v : Value) : ∃ W, (w.alloc (.cells #[v] 28)).alloc (.cells #[.slice none 0 0] 28) = W ∧ CellAt W w.heap.size v ∧ CellAt W (w.heap.size + 1) (.slice none 0 0) ∧ Below w.heap.size w W ∧ W.heap.size = w.heap.size + 2 := by
  refine ⟨_, rfl, (cellAt_new _ _ _).alloc _, ?_, ((Below.refl _ w).alloc (Nat.le_refl _) _).alloc (by simp) _, by simp⟩
  have := cellAt_new (w.alloc (.cells #[v] 28)) (.slice none 0 0) 28
  simpa using this

end Go.Proofs.Ytbmghpgnakbnjab
