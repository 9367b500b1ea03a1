/- Chapter 1's draws: favourites from the cursor. -/
import Derived.Test.YtakadjhbomggbabCur
import Derived.Test.YtakadjhbomggbabSpecS
import Derived.Deep.LoopGhost
namespace Go.Proofs.Ytakadjhbomggbab
open Go.RowKit

/-- The cursor stands, and below its block all is as it was. -/
structure At (w0 w : World) (g t : Nat) : Prop where
  cur : Cur w g t
  below : Below g w0 w

theorem At.pick {w0 w w' : World} {g t t' : Nat} (h : At w0 w g t) (hc : Cur w' g t') (hg : w.grownBy w' (some g)) : At w0 w' g t' :=
  ⟨hc, h.below.trans (below_grown hg (Nat.le_of_lt h.cur.lt) (by intro k hk; cases hk; exact Nat.le_refl _))⟩
theorem At.later {w0 w w' : World} {g t K : Nat} (h : At w0 w g t) (hb : Below K w w') (hK : g < K) : At w0 w' g t :=
  ⟨h.cur.below hb hK, h.below.trans (hb.mono (Nat.le_of_lt hK))⟩
theorem At.size {w0 w : World} {g t : Nat} (h : At w0 w g t) : w0.heap.size ≤ w.heap.size := h.below.size

theorem has_lit (w : World) (xs : List Int) (hx : xs.length ≤ 100) : Has (w.alloc (.cells (xs.map (Value.int .i64)).toArray 3)) (some ⟨w.heap.size, 0, none⟩) xs.length xs.length xs := by
  have := World.ownsRow_lit (base := w.heap.size) (e := 3) (size := 1) w (xs.map (Value.int .i64)).toArray xs.length (Nat.le_refl _) (by unfold maxLen; omega) (by simp)
  exact Own.has (B := w.heap.size) ⟨by simpa using this, rfl, by omega⟩
theorem has_lit3 (w : World) (a b c : Int) : Has (w.alloc (.cells #[.int .i64 a, .int .i64 b, .int .i64 c] 3)) (some ⟨w.heap.size, 0, none⟩) 3 3 [a, b, c] := has_lit w [a, b, c] (by simp)
theorem has_lit4 (w : World) (a b c d : Int) : Has (w.alloc (.cells #[.int .i64 a, .int .i64 b, .int .i64 c, .int .i64 d] 3)) (some ⟨w.heap.size, 0, none⟩) 4 4 [a, b, c, d] := has_lit w [a, b, c, d] (by simp)
theorem has_lit6 (w : World) (a b c d e f : Int) : Has (w.alloc (.cells #[.int .i64 a, .int .i64 b, .int .i64 c, .int .i64 d, .int .i64 e, .int .i64 f] 3)) (some ⟨w.heap.size, 0, none⟩) 6 6 [a, b, c, d, e, f] := has_lit w [a, b, c, d, e, f] (by simp)
theorem alloc_below (w : World) (o : Obj) : Below w.heap.size w (w.alloc o) := (Below.refl _ _).alloc (Nat.le_refl _) _
theorem lit_ne {w : World} {g t : Nat} (h : Cur w g t) : ∀ p, (some ⟨w.heap.size, 0, none⟩ : Option Addr) = some p → p.block ≠ g := by
  intro p hp
  cases hp
  have := h.lt
  simp
  omega

/-- Favourites and a number of places, whatever they are. -/
def DrewFav (w : World) (g : Nat) (e : Ending) (w' : World) : Prop :=
  ∃ a n cap xs p, e = .returned (.tuple #[.slice a n cap, .int .i64 p]) ∧ Own w' w.heap.size a n cap xs ∧ n ≤ 10 ∧ -1 ≤ p ∧ p ≤ 13 ∧ Below g w w'

/-- The same, and the cursor stands. -/
def DrewFavC (w : World) (g : Nat) (e : Ending) (w' : World) : Prop :=
  ∃ a n cap xs p, e = .returned (.tuple #[.slice a n cap, .int .i64 p]) ∧ Own w' w.heap.size a n cap xs ∧ n ≤ 10 ∧ -1 ≤ p ∧ p ≤ 13 ∧ ∃ t', At w w' g t' ∧ t' ≤ 4000

/-- A slice of bytes that came in. -/
theorem cur_new {w : World} {a : Option Addr} {n cap : Nat} (h : HasB w a n w.heap.size) : Cur (w.alloc (.cells #[.slice a n cap, .int .i64 0, .int .u64 0] 76)) w.heap.size 0 := by
  refine ⟨⟨a, n, cap, ?_, h.1, fun hp => ?_⟩, ?_, ⟨0, by omega, by omega, ?_⟩, fun i => ?_, by simp⟩
  · rw [World.cell?_alloc_at _ _ _ _ rfl]; rfl
  · obtain ⟨b, off, ha, hb, hc⟩ := h.2 hp
    refine ⟨b, off, ha, hb, fun i hi => ?_⟩
    obtain ⟨u, u0, u1, hu⟩ := hc i hi
    exact ⟨u, u0, u1, by rw [World.cell?_alloc_past _ _ _ hb]; exact hu⟩
  · rw [World.cell?_alloc_at _ _ _ _ rfl]; rfl
  · rw [World.cell?_alloc_at _ _ _ _ rfl]; rfl
  · rw [World.frozen?_alloc_at _ _ _ _ rfl]

/-- What a draw of favourites leaves to its caller. -/
def DrewFav' (w : World) (e : Ending) (w' : World) : Prop :=
  ∃ a n cap xs p, e = .returned (.tuple #[.slice a n cap, .int .i64 p]) ∧ Own w' w.heap.size a n cap xs ∧ n ≤ 10 ∧ -1 ≤ p ∧ p ≤ 13 ∧ Below w.heap.size w w'

end Go.Proofs.Ytakadjhbomggbab
