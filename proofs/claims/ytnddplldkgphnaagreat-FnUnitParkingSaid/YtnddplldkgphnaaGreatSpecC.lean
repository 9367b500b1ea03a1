/- The model's functions of chapter 1, by their contracts: places that refuse, distances, lucky cars. -/
import Derived.Test.YtnddplldkgphnaaGreatSpecB
namespace Go.Proofs.YtnddplldkgphnaaGreat
open Go.RowKit

theorem dists_succ {p : Int} {xs : List Int} {k : Nat} (h : k < xs.length) : (dists p xs).take (k + 1) = (dists p xs).take k ++ [nth (drive p xs) k - nth xs k] := by
  rw [take_succ_nth (by rw [length_dists]; exact h), nth_dists h]

theorem drive_nth_bounds {p : Int} {xs : List Int} {n : Nat} (hn : xs.length = n) (hge : ∀ i, i < n → 0 ≤ nth xs i ∧ nth xs i ≤ p - 1) (hp : p ≤ 12) {k : Nat} (h : k < n) : -1 ≤ nth (drive p xs) k ∧ nth (drive p xs) k ≤ 12 := by
  rw [drive_get (by omega)]
  have := place_bounds (p := p) (out := drive p (xs.take k)) (x := nth xs k) (hge k h).1
  omega

set_option maxHeartbeats 400000 in
theorem paDistances_any (a : Option Addr) (n cap : Nat) (xs : List Int) (p : Int) (w : World) (h : Has w a n cap xs) (h8 : n ≤ 8) (hp : p ≤ 12) (hge : ∀ i, i < n → 0 ≤ nth xs i ∧ nth xs i ≤ p - 1) :
    Calls Tryz.prog 61 #[.slice a n cap, .int .i64 p] w fun e w' => ∃ a' cap', e = .returned (.slice a' n cap') ∧ Own w' w.heap.size a' n cap' (dists p xs) ∧ Below w.heap.size w w' := by
  have hlen := h.len
  go_enter Tryz.func61, Tryz.ntmps61
  go_wp2_with fail
  refine (paDrive_any _ _ _ _ _ _ h h8 hp hge).mono ?_
  rintro e w1 ⟨a1, cap1, rfl, hown1, hb1⟩
  go_wp2_with fail
  obtain ⟨h0, h1, h2, h3, h4⟩ := h.below hb1 (Nat.le_refl _)
  obtain ⟨k0, k1, k2, k3, k4⟩ := hown1.has
  have hsz := hb1.size
  clear h0 k0
  go_loopw [5, 12] (fun o i wr => ∃ (k : Nat) (a' : Option Addr) (cap' : Nat), k ≤ n ∧ i = .int .i64 k ∧ o = .slice a' k cap' ∧ Own wr w1.heap.size a' k cap' ((dists p xs).take k) ∧ Below w1.heap.size w1 wr) (fun _ i _ => n - (intOf i).toNat)
  case atStart => exact ⟨0, none, 0, Nat.zero_le _, rfl, rfl, Own.nil _ _, Below.refl _ _⟩
  case round =>
    obtain ⟨k, a', cap', hk, rfl, rfl, hown, hb⟩ := hrel
    by_cases hlt : k < n
    · obtain ⟨b, off, rfl, hbb, hc⟩ := h4 (by omega)
      obtain ⟨b', off', rfl, hbb', hc'⟩ := k4 (by omega)
      have hck : wr.cell? ⟨b, off + k, none⟩ = some (.int .i64 (nth xs k)) := by rw [hb.cell (p := ⟨b, off + k, none⟩) hbb]; exact hc k hlt
      have hdk : wr.cell? ⟨b', off' + k, none⟩ = some (.int .i64 (nth (drive p xs) k)) := by rw [hb.cell (p := ⟨b', off' + k, none⟩) hbb']; exact hc' k hlt
      obtain ⟨hx0, hx1⟩ := hge k hlt
      obtain ⟨hd0, hd1⟩ := drive_nth_bounds hlen hge hp hlt
      have HS := hid (dists_succ (p := p) (xs := xs) (k := k) (by omega))
      clear hc h4 hge hc' k4 hlen
      go_wp2_with (at_builtin; refine wpList_append_int _ rfl _ _ rfl w1.heap.size _ _ _ _ _ rfl rfl hown (by omega) hb.size ?_; intro a2 cap2 w2 hown2 hb2)
      go_roundw
      case rel => exact ⟨k + 1, a2, cap2, by omega, by go_num, rfl, by rw [HS.out]; exact hown2, hb.trans hb2⟩
      case measure => simp [intOf]; omega
    · obtain rfl : k = n := by omega
      go_wp2_with fail
      go_ret
      exact ⟨_, _, rfl, by rw [List.take_of_length_le (by rw [length_dists]; omega)] at hown; exact hown.mono hsz, hb1.trans (hb.mono hsz)⟩

/-- Distances are small numbers. -/
def Small (ys : List Int) : Prop := ∀ i, i < ys.length → -1000 ≤ nth ys i ∧ nth ys i ≤ 1000
theorem total_bounds {ys : List Int} (h : Small ys) : ∀ k, k ≤ ys.length → -1000 * (k : Int) ≤ total (ys.take k) ∧ total (ys.take k) ≤ 1000 * (k : Int)
  | 0, _ => by simp [total]
  | k + 1, hk => by
    have ih := total_bounds h k (by omega)
    have := h k (by omega)
    rw [total_succ (by omega)]
    omega
theorem small_dists {xs : List Int} {p : Int} (hg : good xs p = true) : Small (dists p xs) := by
  obtain ⟨g1, g2, g3, g4⟩ := good_nth hg rfl
  intro i hi
  rw [length_dists] at hi
  rw [nth_dists hi]
  have := drive_nth_bounds rfl g4 g3 hi
  have := g4 i hi
  omega

theorem dists_yes {xs : List Int} {p : Int} (h : (good xs p && allPark p xs) = true) : distsOf xs p = (dists p xs, true) := by simp [distsOf, h]
theorem dists_no {xs : List Int} {p : Int} (h : ¬ (good xs p && allPark p xs) = true) : distsOf xs p = ([], false) := by simp only [distsOf, if_neg h]

end Go.Proofs.YtnddplldkgphnaaGreat
