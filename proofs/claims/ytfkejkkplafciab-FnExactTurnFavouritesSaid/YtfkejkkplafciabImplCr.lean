/- The program's circles, by their contracts. -/
import Derived.Test.YtfkejkkplafciabImplE
import Derived.Test.YtfkejkkplafciabSpecCr
namespace Go.Proofs.Ytfkejkkplafciab
open Go.RowKit

theorem total_le {xs : List Int} {p : Int} (h : ∀ y ∈ xs, 0 ≤ y ∧ y < p) : ∀ k, k ≤ xs.length → 0 ≤ total (xs.take k) ∧ total (xs.take k) ≤ k * p
  | 0, _ => by simp [total]
  | k + 1, hk => by
    have ih := total_le h k (by omega)
    have hy := h _ (nth_mem (xs := xs) (i := k) (by omega))
    rw [total_succ (by omega), show ((k + 1 : Nat) : Int) = (k : Int) + 1 by omega, Int.add_mul]
    omega
theorem circle_free {xs : List Int} {n : Nat} (h8 : n ≤ 8) (hn : xs.length = n) (hg : circB xs = true) : circleOf xs ((n : Int) + 1) = (cdrive ((n : Int) + 1) xs, true) := by
  subst hn
  have := circ_good h8
  rw [hg] at this
  simp [circleOf, ← this, show (xs.length : Int) ≤ (xs.length : Int) + 1 by omega]
theorem circle_nofree {xs : List Int} {n : Nat} (hn : xs.length = n) (hg : ¬ circB xs = true) : circleOf xs ((n : Int) + 1) = ([], false) := by
  subst hn
  have : ¬ good xs ((xs.length : Int) + 1) = true := by
    intro h
    apply hg
    rw [circ_good (good_iff.1 h).2.1]
    exact h
  simp [circleOf, this]

end Go.Proofs.Ytfkejkkplafciab
