/- The model's functions of chapter 1, by their contracts: places that refuse, distances, lucky cars. -/
import Derived.Test.YtkkhlkaieohklabSpecB
namespace Go.Proofs.Ytkkhlkaieohklab
open Go.RowKit

set_option maxHeartbeats 400000 in
theorem specRefusing_any (a : Option Addr) (n cap : Nat) (xs : List Int) (p : Int) (w : World) (h : Has w a n cap xs) :
    Calls Try.prog 24 #[.slice a n cap, .int .i64 p] w (PostInt w (refusing xs p)) := by
  by_cases hg : good xs p = true
  · have HR : Hid (refusing xs p = refuseAt xs p p.toNat) := hid (by simp [refusing, hg])
    obtain ⟨g1, g2, g3, g4⟩ := good_nth hg h.len
    have HG := hid hg
    clear hg
    go_enter Try.func24, Try.ntmps24
    go_wp2_with (go_at_call 44; refine (paGood_any _ _ _ _ _ _ h).mono ?_; rintro e w' ⟨rfl, rfl⟩; rw [HG.out])
    go_loop [6] (fun j => ∃ k : Nat, (k : Int) ≤ p ∧ j = .int .i64 ((k : Int) - 1) ∧ Hid (refuseAt xs p p.toNat = refuseAt xs p k)) (fun j => (intOf j + 1).toNat)
    case atStart => exact ⟨p.toNat, by omega, by rw [Int.toNat_of_nonneg (by omega)], hid rfl⟩
    case round =>
      obtain ⟨k, hk, rfl, HQ⟩ := hrel
      match k, hk, HQ with
      | 0, hk, HQ =>
        go_wp2_with fail
        go_ret2
        exact postInt (by rw [HR.out, HQ.out]; rfl) (Below.refl _ _)
      | k + 1, hk, HQ =>
        have e : ((k + 1 : Nat) : Int) - 1 = (k : Int) := by omega
        rw [e]
        have hfl := from_le xs k
        rw [h.len] at hfl
        by_cases ht : p - (k : Int) < (from' xs k : Int)
        · have HS : Hid (refuseAt xs p (k + 1) = ((k : Int), true)) := hid (by simp [refuseAt, ht])
          clear e
          go_wp2_with (go_at_call 51; refine (paFrom_any _ _ _ _ _ _ h).mono ?_; rintro e w' ⟨rfl, rfl⟩)
          go_ret2
          exact postInt (by rw [HR.out, HQ.out, HS.out]) (Below.refl _ _)
        · have HS : Hid (refuseAt xs p (k + 1) = refuseAt xs p k) := hid (by simp [refuseAt, ht])
          clear e
          go_wp2_with (go_at_call 51; refine (paFrom_any _ _ _ _ _ _ h).mono ?_; rintro e w' ⟨rfl, rfl⟩)
          go_round
          case rel => exact ⟨k, by omega, by go_num, hid (by rw [HQ.out, HS.out])⟩
          case measure => simp [intOf]
  · have HR : Hid (refusing xs p = (0, false)) := hid (by simp [refusing, hg])
    have HG := hid hg
    clear hg
    go_enter Try.func24, Try.ntmps24
    go_wp2_with (go_at_call 44; refine (paGood_any _ _ _ _ _ _ h).mono ?_; rintro e w' ⟨rfl, rfl⟩; rw [Bool.eq_false_iff.2 HG.out])
    go_ret2
    exact postInt HR.out (Below.refl _ _)

theorem dists_succ {p : Int} {xs : List Int} {k : Nat} (h : k < xs.length) : (dists p xs).take (k + 1) = (dists p xs).take k ++ [nth (drive p xs) k - nth xs k] := by
  rw [take_succ_nth (by rw [length_dists]; exact h), nth_dists h]

theorem drive_nth_bounds {p : Int} {xs : List Int} {n : Nat} (hn : xs.length = n) (hge : ∀ i, i < n → 0 ≤ nth xs i ∧ nth xs i ≤ p - 1) (hp : p ≤ 12) {k : Nat} (h : k < n) : -1 ≤ nth (drive p xs) k ∧ nth (drive p xs) k ≤ 12 := by
  rw [drive_get (by omega)]
  have := place_bounds (p := p) (out := drive p (xs.take k)) (x := nth xs k) (hge k h).1
  omega

/-- Distances are small numbers. -/
def Small (ys : List Int) : Prop := ∀ i, i < ys.length → -1000 ≤ nth ys i ∧ nth ys i ≤ 1000
theorem total_bounds {ys : List Int} (h : Small ys) : ∀ k, k ≤ ys.length → -1000 * (k : Int) ≤ total (ys.take k) ∧ total (ys.take k) ≤ 1000 * (k : Int)
  | 0, _ => by simp [total]
  | k + 1, hk => by
    have ih := total_bounds h k (by omega)
    have := h k (by omega)
    rw [total_succ (by omega)]
    omega
theorem small_dists {xs : List Int} {p : Int} (hg : good xs p = true) : Small (dists p xs) := by
  obtain ⟨g1, g2, g3, g4⟩ := good_nth hg rfl
  intro i hi
  rw [length_dists] at hi
  rw [nth_dists hi]
  have := drive_nth_bounds rfl g4 g3 hi
  have := g4 i hi
  omega

theorem dists_yes {xs : List Int} {p : Int} (h : (good xs p && allPark p xs) = true) : distsOf xs p = (dists p xs, true) := by simp [distsOf, h]
theorem dists_no {xs : List Int} {p : Int} (h : ¬ (good xs p && allPark p xs) = true) : distsOf xs p = ([], false) := by simp only [distsOf, if_neg h]

end Go.Proofs.Ytkkhlkaieohklab
