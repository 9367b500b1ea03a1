/- 'for x := range above(parents, node)': the program's iterator over what is above a node, and a loop over it. -/
import Derived.RangeFuncNested
import Derived.RangeFuncBound
import Derived.RangeFuncCalls
import Derived.RangeFuncLeaves
import Derived.Shelf.Abstract
import Derived.WalkKit
import Derived.OwnWalkIn
import Derived.TacticsInMore
import Derived.LoopNIn
import Derived.LoopIn
import Derived.Test.YtakadjhbomggbabDoorImplA
import Derived.Test.YtakadjhbomggbabDoorMathTr
import Derived.Deep.LoopGhost
namespace Go.Proofs.YtakadjhbomggbabDoor
open Go.RowKit Go.Shelf

attribute [local go_sem] Oper.semAt_some

/-- What the iterator reads. -/
structure UpAt (W : World) (bn bp : Nat) (sl : Option Addr) (n cap : Nat) (xs : List Int) (v : Nat) : Prop where
  node : W.cell? ⟨bn, 0, none⟩ = some (.int .i64 v)
  parents : W.cell? ⟨bp, 0, none⟩ = some (.slice sl n cap)
  has : Has W sl n cap xs
theorem up_nat {xs : List Int} {n v : Nat} (hb : ∀ i, i < n → 0 ≤ nth xs i ∧ nth xs i ≤ (n : Int)) (hv : v ≤ n) : ∀ k, ∃ u : Nat, up xs v k = (u : Int) ∧ u ≤ n
  | 0 => ⟨v, rfl, hv⟩
  | k + 1 => by
    obtain ⟨u, h1, h2⟩ := up_nat hb hv k
    by_cases e : up xs v k = 0
    · exact ⟨0, by simp [up, e], by omega⟩
    · rw [up_succ e, h1]
      have := hb (u - 1) (by omega)
      unfold par
      rw [Int.toNat_natCast]
      exact ⟨(nth xs (u - 1)).toNat, by omega, by omega⟩

/-- How a round of such a loop may end: it goes on, or returns. -/
def upPost (B : Nat) (I Ix : Nat → World → Prop) (k : Nat) (W : World) : Exit → Act → World → Prop
  | .normal, _, W' => KeepsFrom B W W' ∧ I (k + 1) W'
  | .ret, _, W' => KeepsFrom B W W' ∧ Ix (k + 1) W'
  | _, _, _ => False

end Go.Proofs.YtakadjhbomggbabDoor
