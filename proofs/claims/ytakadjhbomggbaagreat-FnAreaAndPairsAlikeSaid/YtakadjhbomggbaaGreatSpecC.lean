/- The model's functions of chapter 1, by their contracts: places that refuse, distances, lucky cars. -/
import Derived.Test.YtakadjhbomggbaaGreatSpecB
namespace Go.Proofs.YtakadjhbomggbaaGreat
open Go.RowKit

theorem dists_succ {p : Int} {xs : List Int} {k : Nat} (h : k < xs.length) : (dists p xs).take (k + 1) = (dists p xs).take k ++ [nth (drive p xs) k - nth xs k] := by
  rw [take_succ_nth (by rw [length_dists]; exact h), nth_dists h]

theorem drive_nth_bounds {p : Int} {xs : List Int} {n : Nat} (hn : xs.length = n) (hge : ∀ i, i < n → 0 ≤ nth xs i ∧ nth xs i ≤ p - 1) (hp : p ≤ 12) {k : Nat} (h : k < n) : -1 ≤ nth (drive p xs) k ∧ nth (drive p xs) k ≤ 12 := by
  rw [drive_get (by omega)]
  have := place_bounds (p := p) (out := drive p (xs.take k)) (x := nth xs k) (hge k h).1
  omega

/-- Distances are small numbers. -/
def Small (ys : List Int) : Prop := ∀ i, i < ys.length → -1000 ≤ nth ys i ∧ nth ys i ≤ 1000
theorem total_bounds {ys : List Int} (h : Small ys) : ∀ k, k ≤ ys.length → -1000 * (k : Int) ≤ total (ys.take k) ∧ total (ys.take k) ≤ 1000 * (k : Int)
  | 0, _ => by simp [total]
  | k + 1, hk => by
    have ih := total_bounds h k (by omega)
    have := h k (by omega)
    rw [total_succ (by omega)]
    omega
theorem small_dists {xs : List Int} {p : Int} (hg : good xs p = true) : Small (dists p xs) := by
  obtain ⟨g1, g2, g3, g4⟩ := good_nth hg rfl
  intro i hi
  rw [length_dists] at hi
  rw [nth_dists hi]
  have := drive_nth_bounds rfl g4 g3 hi
  have := g4 i hi
  omega

set_option maxHeartbeats 400000 in
theorem paSum_any (a : Option Addr) (n cap : Nat) (ys : List Int) (w : World) (h : Has w a n cap ys) (hs : Small ys) :
    Calls Tryz.prog 31 #[.slice a n cap] w fun e w' => e = .returned (.int .i64 (total ys)) ∧ w = w' := by
  obtain ⟨h0, h1, h2, h3, h4⟩ := h
  go_enter Tryz.func31, Tryz.ntmps31
  go_wp2_with fail
  go_loop [3, 8] (fun c i => ∃ k : Nat, k ≤ n ∧ i = .int .i64 k ∧ c = .int .i64 (total (ys.take k))) (fun _ i => n - (intOf i).toNat)
  case atStart => exact ⟨0, Nat.zero_le _, rfl, rfl⟩
  case round =>
    obtain ⟨k, hk, rfl, rfl⟩ := hrel
    by_cases hlt : k < n
    · obtain ⟨b, off, rfl, hb, hc⟩ := h4 (by omega)
      have hck := hc k hlt
      have ht := total_bounds hs k (by omega)
      obtain ⟨hv0, hv1⟩ := hs k (by omega)
      have HS := hid (total_succ (xs := ys) (k := k) (by omega))
      clear hc h4 hs
      go_wp2_with fail
      go_round
      case rel => exact ⟨k + 1, by omega, by go_num, by rw [HS.out]⟩
      case measure => simp [intOf]; omega
    · obtain rfl : k = n := by omega
      go_wp2_with fail
      go_ret
      exact ⟨ret_int (by rw [List.take_of_length_le (by omega)]), rfl⟩

theorem dists_yes {xs : List Int} {p : Int} (h : (good xs p && allPark p xs) = true) : distsOf xs p = (dists p xs, true) := by simp [distsOf, h]
theorem dists_no {xs : List Int} {p : Int} (h : ¬ (good xs p && allPark p xs) = true) : distsOf xs p = ([], false) := by simp only [distsOf, if_neg h]

end Go.Proofs.YtakadjhbomggbaaGreat
