/- Draws of numbers of cars, ranks, circle lists. -/
import Derived.Test.YtkkhlkaieohklabDraw2
import Derived.Test.YtkkhlkaieohklabSpecN
namespace Go.Proofs.Ytkkhlkaieohklab
open Go.RowKit

/-- A number that was drawn, for the caller of a draw. -/
def DrewNum (lo hi : Int) (w : World) (e : Ending) (w' : World) : Prop := ∃ v, e = .returned (.int .i64 v) ∧ lo ≤ v ∧ v ≤ hi ∧ Below w.heap.size w w'
/-- Two numbers. -/
def DrewNums (lo hi : Int) (w : World) (e : Ending) (w' : World) : Prop := ∃ v u, e = .returned (.tuple #[.int .i64 v, .int .i64 u]) ∧ lo ≤ v ∧ v ≤ hi ∧ lo ≤ u ∧ u ≤ hi ∧ Below w.heap.size w w'
/-- A list with any numbers. -/
def DrewAny (w : World) (e : Ending) (w' : World) : Prop := ∃ a n cap xs, e = .returned (.slice a n cap) ∧ Own w' w.heap.size a n cap xs ∧ n ≤ 20 ∧ Below w.heap.size w w'

theorem has_lit7 (w : World) (a b c d e f g : Int) : Has (w.alloc (.cells #[.int .i64 a, .int .i64 b, .int .i64 c, .int .i64 d, .int .i64 e, .int .i64 f, .int .i64 g] 3)) (some ⟨w.heap.size, 0, none⟩) 7 7 [a, b, c, d, e, f, g] := has_lit w [a, b, c, d, e, f, g] (by simp)
theorem has_lit8 (w : World) (a b c d e f g h : Int) : Has (w.alloc (.cells #[.int .i64 a, .int .i64 b, .int .i64 c, .int .i64 d, .int .i64 e, .int .i64 f, .int .i64 g, .int .i64 h] 3)) (some ⟨w.heap.size, 0, none⟩) 8 8 [a, b, c, d, e, f, g, h] := has_lit w [a, b, c, d, e, f, g, h] (by simp)
theorem has_lit9 (w : World) (a b c d e f g h i : Int) : Has (w.alloc (.cells #[.int .i64 a, .int .i64 b, .int .i64 c, .int .i64 d, .int .i64 e, .int .i64 f, .int .i64 g, .int .i64 h, .int .i64 i] 3)) (some ⟨w.heap.size, 0, none⟩) 9 9 [a, b, c, d, e, f, g, h, i] := has_lit w [a, b, c, d, e, f, g, h, i] (by simp)

theorem fresh_below (w : World) (a : Option Addr) (n cap : Nat) : Below w.heap.size w (w.alloc (.cells #[.slice a n cap, .int .i64 0, .int .u64 0] 52)) := alloc_below _ _

end Go.Proofs.Ytkkhlkaieohklab
