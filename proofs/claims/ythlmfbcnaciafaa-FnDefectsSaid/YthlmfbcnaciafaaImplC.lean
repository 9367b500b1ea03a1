/- The program's functions of chapter 1, by their contracts: driving, deciding, counting. -/
import Derived.Test.YthlmfbcnaciafaaImplB
import Derived.Test.YthlmfbcnaciafaaSpecC
namespace Go.Proofs.Ythlmfbcnaciafaa
open Go.RowKit

theorem good_parked {xs : List Int} {p : Int} (h : good xs p = true) : driveCars xs p = parked xs p := by simp [driveCars, parked, h]

set_option maxHeartbeats 400000 in
theorem driveCars_any (a : Option Addr) (n cap : Nat) (xs : List Int) (p : Int) (w : World) (h : Has w a n cap xs) :
    Calls Try.prog 37 #[.slice a n cap, .int .i64 p] w (PostInts w (driveCars xs p)) := by
  by_cases hg : good xs p = true
  · obtain ⟨g1, g2, g3, g4⟩ := good_nth hg h.len
    obtain ⟨q, rfl⟩ : ∃ q : Nat, p = (q : Int) := ⟨p.toNat, by omega⟩
    rw [good_parked hg]
    have HG := hid hg
    clear hg
    go_enter Try.func37, Try.ntmps37
    go_wp2_with (first | (go_at_call 23; refine (areFavourites_any _ _ _ _ _ _ h).mono ?_; rintro e w' ⟨rfl, rfl⟩; rw [HG.out]) | (go_at_call 41; refine (newStreet_any q (by omega) _).mono ?_; rintro e w1 ⟨bt, bp, g, rfl, hst, hb1⟩))
    refine (park_any _ _ _ _ _ _ _ _ _ _ h hb1 hst g1 (by omega) g4).mono ?_
    rintro e w2 ⟨a2, n2, cap2, rfl, hown2, hb2⟩
    go_wp2_with fail
    go_ret2
    exact ⟨_, _, _, rfl, hown2, hb2⟩
  · have HR : Hid (driveCars xs p = ([], false)) := hid (by simp [driveCars, hg])
    have HG := hid hg
    clear hg
    go_enter Try.func37, Try.ntmps37
    go_wp2_with (go_at_call 23; refine (areFavourites_any _ _ _ _ _ _ h).mono ?_; rintro e w' ⟨rfl, rfl⟩; rw [Bool.eq_false_iff.2 HG.out])
    go_ret2
    exact postInts_no HR.out (Below.refl _ _)

theorem parked_ok (xs : List Int) (p : Int) : (parked xs p).2 = allPark p xs := by
  unfold parked
  split <;> simp_all

set_option maxHeartbeats 400000 in
theorem doAllPark_any (a : Option Addr) (n cap : Nat) (xs : List Int) (p : Int) (w : World) (h : Has w a n cap xs) :
    Calls Try.prog 21 #[.slice a n cap, .int .i64 p] w (PostBools w (doAllPark xs p)) := by
  by_cases hg : good xs p = true
  · obtain ⟨g1, g2, g3, g4⟩ := good_nth hg h.len
    obtain ⟨q, rfl⟩ : ∃ q : Nat, p = (q : Int) := ⟨p.toNat, by omega⟩
    have HR : Hid (doAllPark xs q = ((parked xs q).2, true)) := hid (by simp [doAllPark, hg, parked_ok])
    have HG := hid hg
    clear hg
    go_enter Try.func21, Try.ntmps21
    go_wp2_with (first | (go_at_call 23; refine (areFavourites_any _ _ _ _ _ _ h).mono ?_; rintro e w' ⟨rfl, rfl⟩; rw [HG.out]) | (go_at_call 41; refine (newStreet_any q (by omega) _).mono ?_; rintro e w1 ⟨bt, bp, g, rfl, hst, hb1⟩))
    refine (park_any _ _ _ _ _ _ _ _ _ _ h hb1 hst g1 (by omega) g4).mono ?_
    rintro e w2 ⟨a2, n2, cap2, rfl, hown2, hb2⟩
    go_wp2_with fail
    go_ret2
    exact postBools HR.out hb2
  · have HR : Hid (doAllPark xs p = (false, false)) := hid (by simp [doAllPark, hg])
    have HG := hid hg
    clear hg
    go_enter Try.func21, Try.ntmps21
    go_wp2_with (go_at_call 23; refine (areFavourites_any _ _ _ _ _ _ h).mono ?_; rintro e w' ⟨rfl, rfl⟩; rw [Bool.eq_false_iff.2 HG.out])
    go_ret2
    exact postBools HR.out (Below.refl _ _)

theorem isPark_cars (xs : List Int) : isPark xs = (carsB xs xs.length && allPark xs.length xs) := by simp [isPark, carsB, Bool.and_assoc]

set_option maxHeartbeats 400000 in
theorem countBelow_any (a : Option Addr) (n cap : Nat) (xs : List Int) (p : Int) (w : World) (h : Has w a n cap xs) :
    Calls Try.prog 43 #[.slice a n cap, .int .i64 p] w fun e w' => e = .returned (.int .i64 (below xs p)) ∧ w = w' := by
  obtain ⟨h0, h1, h2, h3, h4⟩ := h
  go_enter Try.func43, Try.ntmps43
  go_wp2_with fail
  go_loop [5, 10] (fun c i => ∃ k : Nat, k ≤ n ∧ i = .int .i64 k ∧ c = .int .i64 (below (xs.take k) p)) (fun _ i => n - (intOf i).toNat)
  case atStart => exact ⟨0, Nat.zero_le _, rfl, rfl⟩
  case round =>
    obtain ⟨k, hk, rfl, rfl⟩ := hrel
    by_cases hlt : k < n
    · obtain ⟨b, off, rfl, hb, hc⟩ := h4 (by omega)
      have hck := hc k hlt
      clear hc h4
      have hle := below_le (xs.take k) p
      have hsn := below_succ (k := k) (xs := xs) (by omega) p
      simp only [List.length_take] at hle
      have HS := hid hsn
      clear hsn
      have hle2 : below (xs.take k) p ≤ n := by omega
      clear hle
      by_cases hp : nth xs k < p
      · go_wp2_with fail
        go_round
        case rel => exact ⟨k + 1, by omega, by go_num, by rw [HS.out, if_pos hp]; go_num⟩
        case measure => simp [intOf]; omega
      · go_wp2_with fail
        go_round
        case rel => exact ⟨k + 1, by omega, by go_num, by rw [HS.out, if_neg (by omega)]; go_num⟩
        case measure => simp [intOf]; omega
    · obtain rfl : k = n := by omega
      go_wp2_with fail
      go_ret
      exact ⟨ret_int (by rw [List.take_of_length_le (by omega)]), rfl⟩

set_option maxHeartbeats 400000 in
theorem surplusFrom_any (a : Option Addr) (n cap : Nat) (xs : List Int) (p j : Int) (w : World) (h : Has w a n cap xs) (h8 : n ≤ 8) (hp0 : 0 ≤ p) (hp : p ≤ 100) (hj : 0 ≤ j) (hj2 : j ≤ 100) :
    Calls Try.prog 24 #[.slice a n cap, .int .i64 p, .int .i64 j] w fun e w' => e = .returned (.int .i64 ((n : Int) - below xs j - (p - j))) ∧ w = w' := by
  have hbl := below_le xs j
  rw [h.len] at hbl
  go_enter Try.func24, Try.ntmps24
  go_wp2_with (go_at_call 43; refine (countBelow_any _ _ _ _ _ _ h).mono ?_; rintro e w' ⟨rfl, rfl⟩)
  go_ret
  exact ⟨rfl, rfl⟩

theorem drive_yes {xs : List Int} {p : Int} (h : (good xs p && allPark p xs) = true) : driveCars xs p = (drive p xs, true) := by simp only [driveCars, if_pos h]
theorem drive_no {xs : List Int} {p : Int} (h : ¬ (good xs p && allPark p xs) = true) : driveCars xs p = ([], false) := by simp only [driveCars, if_neg h]

/-- The places, of the first k cars already the distances. -/
def Halfway (p : Int) (xs ys : List Int) (k : Nat) : Prop := ∀ i, i < xs.length → nth ys i = if i < k then nth (dists p xs) i else nth (drive p xs) i

end Go.Proofs.Ythlmfbcnaciafaa
