/- The model's count of beginnings, by its contract. -/
import Derived.Test.YtakadjhbomggbaaGreatSpecN
import Derived.IntWalk
namespace Go.Proofs.YtakadjhbomggbaaGreat
open Go.RowKit

/-- How many favourites there are up to a place. -/
def upB (xs : List Int) (P : Nat) : Nat := below xs ((P : Int) + 1)
theorem upB_le (xs : List Int) (P : Nat) : upB xs P ≤ xs.length := below_le _ _
theorem N_upB (xs : List Int) (n : Nat) : N xs n = V (upB xs) n (n - xs.length) := rfl
/-- Those that are asked for at a place, among the first. -/
theorem count_at {xs : List Int} {P k : Nat} (h : k < xs.length) : (below (xs.take (k + 1)) ((P : Int) + 1) : Int) - below (xs.take (k + 1)) P = (below (xs.take k) ((P : Int) + 1) : Int) - below (xs.take k) P + if nth xs k = P then 1 else 0 := by
  rw [below_succ h, below_succ h]
  split <;> split <;> split <;> omega
theorem below_mono (xs : List Int) (P : Int) : below xs P ≤ below xs (P + 1) := by
  unfold below
  exact List.countP_mono_left fun x _ h => by simp at *; omega

end Go.Proofs.YtakadjhbomggbaaGreat
