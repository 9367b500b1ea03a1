/- The program's functions of chapter 1, by their contracts: driving, deciding, counting. -/
import Derived.Test.YtakadjhbomggbabDoorImplB
import Derived.Test.YtakadjhbomggbabDoorSpecC
namespace Go.Proofs.YtakadjhbomggbabDoor
open Go.RowKit

theorem good_parked {xs : List Int} {p : Int} (h : good xs p = true) : driveCars xs p = parked xs p := by simp [driveCars, parked, h]

theorem parked_ok (xs : List Int) (p : Int) : (parked xs p).2 = allPark p xs := by
  unfold parked
  split <;> simp_all

theorem isPark_cars (xs : List Int) : isPark xs = (carsB xs xs.length && allPark xs.length xs) := by simp [isPark, carsB, Bool.and_assoc]

theorem drive_yes {xs : List Int} {p : Int} (h : (good xs p && allPark p xs) = true) : driveCars xs p = (drive p xs, true) := by simp only [driveCars, if_pos h]
theorem drive_no {xs : List Int} {p : Int} (h : ¬ (good xs p && allPark p xs) = true) : driveCars xs p = ([], false) := by simp only [driveCars, if_neg h]

/-- The places, of the first k cars already the distances. -/
def Halfway (p : Int) (xs ys : List Int) (k : Nat) : Prop := ∀ i, i < xs.length → nth ys i = if i < k then nth (dists p xs) i else nth (drive p xs) i

end Go.Proofs.YtakadjhbomggbabDoor
