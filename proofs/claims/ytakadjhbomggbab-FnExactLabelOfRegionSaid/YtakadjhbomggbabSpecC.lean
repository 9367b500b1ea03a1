/- The model's functions of chapter 1, by their contracts: places that refuse, distances, lucky cars. -/
import Derived.Test.YtakadjhbomggbabSpecB
namespace Go.Proofs.Ytakadjhbomggbab
open Go.RowKit

theorem dists_succ {p : Int} {xs : List Int} {k : Nat} (h : k < xs.length) : (dists p xs).take (k + 1) = (dists p xs).take k ++ [nth (drive p xs) k - nth xs k] := by
  rw [take_succ_nth (by rw [length_dists]; exact h), nth_dists h]

theorem drive_nth_bounds {p : Int} {xs : List Int} {n : Nat} (hn : xs.length = n) (hge : ∀ i, i < n → 0 ≤ nth xs i ∧ nth xs i ≤ p - 1) (hp : p ≤ 12) {k : Nat} (h : k < n) : -1 ≤ nth (drive p xs) k ∧ nth (drive p xs) k ≤ 12 := by
  rw [drive_get (by omega)]
  have := place_bounds (p := p) (out := drive p (xs.take k)) (x := nth xs k) (hge k h).1
  omega

/-- Distances are small numbers. -/
def Small (ys : List Int) : Prop := ∀ i, i < ys.length → -1000 ≤ nth ys i ∧ nth ys i ≤ 1000
theorem total_bounds {ys : List Int} (h : Small ys) : ∀ k, k ≤ ys.length → -1000 * (k : Int) ≤ total (ys.take k) ∧ total (ys.take k) ≤ 1000 * (k : Int)
  | 0, _ => by simp [total]
  | k + 1, hk => by
    have ih := total_bounds h k (by omega)
    have := h k (by omega)
    rw [total_succ (by omega)]
    omega
theorem small_dists {xs : List Int} {p : Int} (hg : good xs p = true) : Small (dists p xs) := by
  obtain ⟨g1, g2, g3, g4⟩ := good_nth hg rfl
  intro i hi
  rw [length_dists] at hi
  rw [nth_dists hi]
  have := drive_nth_bounds rfl g4 g3 hi
  have := g4 i hi
  omega

theorem dists_yes {xs : List Int} {p : Int} (h : (good xs p && allPark p xs) = true) : distsOf xs p = (dists p xs, true) := by simp [distsOf, h]
theorem dists_no {xs : List Int} {p : Int} (h : ¬ (good xs p && allPark p xs) = true) : distsOf xs p = ([], false) := by simp only [distsOf, if_neg h]

end Go.Proofs.Ytakadjhbomggbab
