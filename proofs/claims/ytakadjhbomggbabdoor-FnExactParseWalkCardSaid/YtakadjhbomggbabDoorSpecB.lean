/- The model's functions of chapter 1, by their contracts: driving. -/
import Derived.Test.YtakadjhbomggbabDoorSpecA
namespace Go.Proofs.YtakadjhbomggbabDoor
open Go.RowKit

theorem good_nth {xs : List Int} {p : Int} {n : Nat} (h : good xs p = true) (hn : xs.length = n) : n ≤ 8 ∧ 1 ≤ p ∧ p ≤ 12 ∧ ∀ i, i < n → 0 ≤ nth xs i ∧ nth xs i ≤ p - 1 := by
  obtain ⟨h1, h2, h3⟩ := good_iff.1 h
  exact ⟨by omega, h1.1, h1.2, fun i hi => h3 _ (nth_mem (by omega))⟩

theorem park_nth {xs : List Int} {n : Nat} (h : allB xs 0 ((n : Int) - 1) = true) (hn : xs.length = n) : ∀ i, i < n → 0 ≤ nth xs i ∧ nth xs i ≤ (n : Int) - 1 :=
  fun i hi => allB_nth h (by omega)

end Go.Proofs.YtakadjhbomggbabDoor
