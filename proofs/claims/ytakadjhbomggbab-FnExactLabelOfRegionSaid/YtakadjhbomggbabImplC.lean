/- The program's functions of chapter 1, by their contracts: driving, deciding, counting. -/
import Derived.Test.YtakadjhbomggbabImplB
import Derived.Test.YtakadjhbomggbabSpecC
namespace Go.Proofs.Ytakadjhbomggbab
open Go.RowKit

theorem good_parked {xs : List Int} {p : Int} (h : good xs p = true) : driveCars xs p = parked xs p := by simp [driveCars, parked, h]

theorem parked_ok (xs : List Int) (p : Int) : (parked xs p).2 = allPark p xs := by
  unfold parked
  split <;> simp_all

theorem isPark_cars (xs : List Int) : isPark xs = (carsB xs xs.length && allPark xs.length xs) := by simp [isPark, carsB, Bool.and_assoc]

set_option maxHeartbeats 400000 in
theorem isParkingFunction_any (a : Option Addr) (n cap : Nat) (xs : List Int) (w : World) (h : Has w a n cap xs) :
    Calls Try.prog 60 #[.slice a n cap] w (PostBool w (isPark xs)) := by
  have hlen := h.len
  by_cases hg : carsB xs n = true
  · have HR : Hid (isPark xs = (parked xs n).2) := hid (by rw [isPark_cars, hlen, hg, parked_ok]; rfl)
    have g1 : n ≤ 8 := by have := (carsB_iff.1 hg).1; omega
    have g4 : ∀ i, i < n → 0 ≤ nth xs i ∧ nth xs i ≤ (n : Int) - 1 := fun i hi => (carsB_iff.1 hg).2 _ (nth_mem (by omega))
    have HG := hid hg
    clear hg hlen
    go_enter Try.func60, Try.ntmps60
    go_wp2_with (first | (go_at_call 92; refine (areCarsBelow_any _ _ _ _ _ _ h).mono ?_; rintro e w' ⟨rfl, rfl⟩; rw [HG.out]) | (go_at_call 94; refine (newStreet_any n (by omega) _).mono ?_; rintro e w1 ⟨bt, bp, g, rfl, hst, hb1⟩))
    refine (park_any _ _ _ _ _ _ _ _ _ _ h hb1 hst g1 (by omega) g4).mono ?_
    rintro e w2 ⟨a2, n2, cap2, rfl, hown2, hb2⟩
    go_wp2_with fail
    go_ret
    exact postBool HR.out.symm hb2
  · have HR : Hid (isPark xs = false) := hid (by rw [isPark_cars, hlen, Bool.eq_false_iff.2 hg]; rfl)
    have HG := hid hg
    clear hg
    go_enter Try.func60, Try.ntmps60
    go_wp2_with (go_at_call 92; refine (areCarsBelow_any _ _ _ _ _ _ h).mono ?_; rintro e w' ⟨rfl, rfl⟩; rw [Bool.eq_false_iff.2 HG.out])
    go_ret
    exact postBool HR.out.symm (Below.refl _ _)

set_option maxHeartbeats 400000 in
theorem isParking_any (a : Option Addr) (n cap : Nat) (xs : List Int) (w : World) (h : Has w a n cap xs) :
    Calls Try.prog 62 #[.slice a n cap] w (PostBools w (isParking xs)) := by
  by_cases hg : carsB xs 100 = true
  · have HR : Hid (isParking xs = (isPark xs, true)) := hid (by simp [isParking, asked_cars, hg])
    have HG := hid hg
    clear hg
    go_enter Try.func62, Try.ntmps62
    go_wp2_with (first | (go_at_call 92; refine (areCarsBelow_any _ _ _ _ _ _ h).mono ?_; rintro e w' ⟨rfl, rfl⟩; rw [HG.out]) | (go_at_call 60; refine (isParkingFunction_any _ _ _ _ _ h).mono ?_; rintro e w1 ⟨rfl, hb1⟩))
    go_ret2
    exact postBools HR.out hb1
  · have HR : Hid (isParking xs = (false, false)) := hid (by simp [isParking, asked_cars, hg])
    have HG := hid hg
    clear hg
    go_enter Try.func62, Try.ntmps62
    go_wp2_with (go_at_call 92; refine (areCarsBelow_any _ _ _ _ _ _ h).mono ?_; rintro e w' ⟨rfl, rfl⟩; rw [Bool.eq_false_iff.2 HG.out])
    go_ret2
    exact postBools HR.out (Below.refl _ _)

theorem drive_yes {xs : List Int} {p : Int} (h : (good xs p && allPark p xs) = true) : driveCars xs p = (drive p xs, true) := by simp only [driveCars, if_pos h]
theorem drive_no {xs : List Int} {p : Int} (h : ¬ (good xs p && allPark p xs) = true) : driveCars xs p = ([], false) := by simp only [driveCars, if_neg h]

/-- The places, of the first k cars already the distances. -/
def Halfway (p : Int) (xs ys : List Int) (k : Nat) : Prop := ∀ i, i < xs.length → nth ys i = if i < k then nth (dists p xs) i else nth (drive p xs) i

end Go.Proofs.Ytakadjhbomggbab
