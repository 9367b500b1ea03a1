/- The program's functions of chapter 1, by their contracts: driving, deciding, counting. -/
import Derived.Test.YtfkejkkplafciabImplB
import Derived.Test.YtfkejkkplafciabSpecC
namespace Go.Proofs.Ytfkejkkplafciab
open Go.RowKit

theorem good_parked {xs : List Int} {p : Int} (h : good xs p = true) : driveCars xs p = parked xs p := by simp [driveCars, parked, h]

theorem parked_ok (xs : List Int) (p : Int) : (parked xs p).2 = allPark p xs := by
  unfold parked
  split <;> simp_all

theorem isPark_cars (xs : List Int) : isPark xs = (carsB xs xs.length && allPark xs.length xs) := by simp [isPark, carsB, Bool.and_assoc]

set_option maxHeartbeats 400000 in
theorem countBelow_any (a : Option Addr) (n cap : Nat) (xs : List Int) (p : Int) (w : World) (h : Has w a n cap xs) :
    Calls Try.prog 80 #[.slice a n cap, .int .i64 p] w fun e w' => e = .returned (.int .i64 (below xs p)) ∧ w = w' := by
  obtain ⟨h0, h1, h2, h3, h4⟩ := h
  go_enter Try.func80, Try.ntmps80
  go_wp2_with fail
  go_loop [5, 10] (fun c i => ∃ k : Nat, k ≤ n ∧ i = .int .i64 k ∧ c = .int .i64 (below (xs.take k) p)) (fun _ i => n - (intOf i).toNat)
  case atStart => exact ⟨0, Nat.zero_le _, rfl, rfl⟩
  case round =>
    obtain ⟨k, hk, rfl, rfl⟩ := hrel
    by_cases hlt : k < n
    · obtain ⟨b, off, rfl, hb, hc⟩ := h4 (by omega)
      have hck := hc k hlt
      clear hc h4
      have hle := below_le (xs.take k) p
      have hsn := below_succ (k := k) (xs := xs) (by omega) p
      simp only [List.length_take] at hle
      have HS := hid hsn
      clear hsn
      have hle2 : below (xs.take k) p ≤ n := by omega
      clear hle
      by_cases hp : nth xs k < p
      · go_wp2_with fail
        go_round
        case rel => exact ⟨k + 1, by omega, by go_num, by rw [HS.out, if_pos hp]; go_num⟩
        case measure => simp [intOf]; omega
      · go_wp2_with fail
        go_round
        case rel => exact ⟨k + 1, by omega, by go_num, by rw [HS.out, if_neg (by omega)]; go_num⟩
        case measure => simp [intOf]; omega
    · obtain rfl : k = n := by omega
      go_wp2_with fail
      go_ret
      exact ⟨ret_int (by rw [List.take_of_length_le (by omega)]), rfl⟩

theorem drive_yes {xs : List Int} {p : Int} (h : (good xs p && allPark p xs) = true) : driveCars xs p = (drive p xs, true) := by simp only [driveCars, if_pos h]
theorem drive_no {xs : List Int} {p : Int} (h : ¬ (good xs p && allPark p xs) = true) : driveCars xs p = ([], false) := by simp only [driveCars, if_neg h]

/-- The places, of the first k cars already the distances. -/
def Halfway (p : Int) (xs ys : List Int) (k : Nat) : Prop := ∀ i, i < xs.length → nth ys i = if i < k then nth (dists p xs) i else nth (drive p xs) i

end Go.Proofs.Ytfkejkkplafciab
