/- Chapter 1's draws of outcomes, of pairs of lists, and what the laws draw. -/
import Derived.Test.YtnddplldkgphnacDraw2
namespace Go.Proofs.Ytnddplldkgphnac
open Go.RowKit

/-- A list of nn numbers that was drawn. -/
def DrewListN (nn : Nat) (w : World) (g t : Nat) (e : Ending) (w' : World) : Prop :=
  ∃ a n cap xs t', e = .returned (.slice a n cap) ∧ Own w' w.heap.size a n cap xs ∧ n = nn ∧ Within xs (-1) 100 ∧ AtG w w' g t' ∧ t' ≤ t + 100
/-- A list that was drawn, for the caller of a draw. -/
def DrewList' (w : World) (e : Ending) (w' : World) : Prop :=
  ∃ a n cap xs, e = .returned (.slice a n cap) ∧ Own w' w.heap.size a n cap xs ∧ n ≤ 10 ∧ Within xs (-1) 100 ∧ Below w.heap.size w w'

/-- Two lists that were drawn. -/
def DrewTwo (w : World) (e : Ending) (w' : World) : Prop :=
  ∃ a n cap xs a' n' cap' ys, e = .returned (.tuple #[.slice a n cap, .slice a' n' cap']) ∧ Own w' w.heap.size a n cap xs ∧ Own w' w.heap.size a' n' cap' ys ∧ n ≤ 10 ∧ n' ≤ 10 ∧ Below w.heap.size w w'

/-- Two lists and a bool that were drawn. -/
def DrewTwoB (w : World) (e : Ending) (w' : World) : Prop :=
  ∃ a n cap xs a' n' cap' ys b, e = .returned (.tuple #[.slice a n cap, .slice a' n' cap', .bool b]) ∧ Own w' w.heap.size a n cap xs ∧ Own w' w.heap.size a' n' cap' ys ∧ n ≤ 10 ∧ n' ≤ 10 ∧ Below w.heap.size w w'

end Go.Proofs.Ytnddplldkgphnac
