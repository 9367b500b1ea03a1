/- The model's functions of chapter 3, by their contracts: degrees, leaves, depths, numbers below. -/
import Derived.Test.YtakadjhbomggbaaSpecTu
namespace Go.Proofs.Ytakadjhbomggbaa
open Go.RowKit

theorem degL_succ {xs : List Int} {v : Nat} (h : v ≤ xs.length) : (degL xs).take (v + 1) = (degL xs).take v ++ [(deg xs v : Int)] := by
  rw [take_succ_nth (by rw [length_degL]; omega), nth_degL h]
theorem deg_le {xs : List Int} (v : Nat) (h : xs.length ≤ 8) : deg xs v ≤ 9 := by
  unfold deg
  have : xs.count (v : Int) ≤ xs.length := List.count_le_length
  split <;> omega

theorem leaves_nth {xs : List Int} {k : Nat} (h : k < xs.length) : nth (List.drop 1 (degL xs)) k = (deg xs (k + 1) : Int) := by
  rw [nth_dropP, Nat.add_comm, nth_degL (by omega)]

end Go.Proofs.Ytakadjhbomggbaa
