/- The model's ranks, by their contracts. -/
import Derived.Test.YtakadjhbomggbaaGreatSpecW
import Derived.Test.YtakadjhbomggbaaGreatMathV
namespace Go.Proofs.YtakadjhbomggbaaGreat
open Go.RowKit

/-- A list and one number more. -/
theorem nth_snoc_nonneg {ys : List Int} {k j : Nat} (hl : ys.length = k) (h : ∀ i, i < k → 0 ≤ nth ys i) : ∀ i, i < k + 1 → 0 ≤ nth (ys ++ [(j : Int)]) i := by
  intro i hi
  by_cases e : i < k
  · rw [nth_append_left (by omega)]; exact h i e
  · obtain rfl : i = ys.length := by omega
    rw [nth_append_at]; omega

end Go.Proofs.YtakadjhbomggbaaGreat
