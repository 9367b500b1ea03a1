/- The helpers of the laws: copies, comparisons, marks. -/
import Derived.Test.YtakadjhbomggbaaGreatBase
namespace Go.Proofs.YtakadjhbomggbaaGreat
open Go.RowKit

/-- A call that only reads: the world is as it was, but for draws. -/
def Quiet (w w' : World) : Prop := ∃ k, w' = w.drewN k
theorem Quiet.rfl' (w : World) : Quiet w w := ⟨0, rfl⟩
theorem Quiet.more {w w' : World} (h : Quiet w w') (k : Nat) : Quiet w (w'.drewN k) := by
  obtain ⟨j, rfl⟩ := h
  exact ⟨j + k, by simp⟩
theorem Quiet.below {w w' : World} (h : Quiet w w') (B : Nat) : Below B w w' := by
  obtain ⟨j, rfl⟩ := h
  exact below_drewN (Below.refl _ _) _

def FromTo (xs ys : List Int) (k : Nat) : Prop := ∀ i, i < k → nth ys i = nth xs i

/-- Whether two lists are the same. -/
def same (xs ys : List Int) : Bool := decide (xs = ys)

theorem same_no {xs ys : List Int} {k : Nat} (h : nth xs k ≠ nth ys k) : same xs ys = false := by
  unfold same
  rw [decide_eq_false_iff_not]
  rintro rfl
  exact h rfl
theorem same_yes {xs ys : List Int} (hl : xs.length = ys.length) (h : FromTo xs ys xs.length) : same xs ys = true := by
  unfold same
  rw [decide_eq_true_iff]
  exact ext_nth hl fun i hi => (h i hi).symm

/-- The marks k, k + 1, .. -/
def marks (k : Int) (n : Nat) : List Int := (List.range n).map fun (i : Nat) => k + (i : Int)
theorem length_marks (k : Int) (n : Nat) : (marks k n).length = n := by simp [marks]
theorem nth_marks {k : Int} {n i : Nat} (h : i < n) : nth (marks k n) i = k + i := by simp [nth, marks, h]

/-- Behind marking: the block of the slice alone may have been written. -/
def Marked (w w' : World) (a : Option Addr) : Prop := ∃ row, w.grownBy w' row ∧ ∀ g, row = some g → ∃ p, a = some p ∧ p.block = g

/-! ### What calls come to -/
/-- A slice of the call's own and a bool. -/
def PostInts (w : World) (r : List Int × Bool) (e : Ending) (w' : World) : Prop :=
  ∃ a m cap, e = .returned (.tuple #[.slice a m cap, .bool r.2]) ∧ Own w' w.heap.size a m cap r.1 ∧ Below w.heap.size w w'
theorem postInts {w w' : World} {r : List Int × Bool} {ys : List Int} {ok : Bool} {a : Option Addr} {m cap : Nat} (hr : r = (ys, ok)) (h : Own w' w.heap.size a m cap ys) (hb : Below w.heap.size w w') :
    PostInts w r (.returned (.tuple #[.slice a m cap, .bool ok])) w' := by subst hr; exact ⟨_, _, _, rfl, h, hb⟩
theorem postInts_no {w w' : World} {r : List Int × Bool} (hr : r = ([], false)) (hb : Below w.heap.size w w') : PostInts w r (.returned (.tuple #[.slice none 0 0, .bool false])) w' :=
  postInts hr (Own.nil _ _) hb
/-- Two bools. -/
def PostBools (w : World) (r : Bool × Bool) (e : Ending) (w' : World) : Prop := e = .returned (.tuple #[.bool r.1, .bool r.2]) ∧ Below w.heap.size w w'
theorem postBools {w w' : World} {r : Bool × Bool} {x ok : Bool} (hr : r = (x, ok)) (hb : Below w.heap.size w w') : PostBools w r (.returned (.tuple #[.bool x, .bool ok])) w' := by subst hr; exact ⟨rfl, hb⟩
/-- A number and a bool. -/
def PostInt (w : World) (r : Int × Bool) (e : Ending) (w' : World) : Prop := e = .returned (.tuple #[.int .i64 r.1, .bool r.2]) ∧ Below w.heap.size w w'
theorem postInt {w w' : World} {r : Int × Bool} {x : Int} {ok : Bool} (hr : r = (x, ok)) (hb : Below w.heap.size w w') : PostInt w r (.returned (.tuple #[.int .i64 x, .bool ok])) w' := by subst hr; exact ⟨rfl, hb⟩
/-- A bool. -/
def PostBool (w : World) (x : Bool) (e : Ending) (w' : World) : Prop := e = .returned (.bool x) ∧ Below w.heap.size w w'
theorem postBool {w w' : World} {x y : Bool} (h : y = x) (hb : Below w.heap.size w w') : PostBool w x (.returned (.bool y)) w' := ⟨ret_bool h, hb⟩
end Go.Proofs.YtakadjhbomggbaaGreat
