/- How many numbers are below a bound: the program's function, by its contract. -/
import Derived.Test.YtnddplldkgphnaaGreatLawKit
import Derived.Test.YtnddplldkgphnaaGreatMath1
namespace Go.Proofs.YtnddplldkgphnaaGreat
open Go.RowKit

set_option maxHeartbeats 400000 in
theorem cBelow_any (a : Option Addr) (n cap : Nat) (xs : List Int) (p : Int) (w : World) (h : Has w a n cap xs) :
    Calls Tryz.prog 72 #[.slice a n cap, .int .i64 p] w fun e w' => e = .returned (.int .i64 (below xs p)) ∧ w = w' := by
  obtain ⟨h0, h1, h2, h3, h4⟩ := h
  go_enter Tryz.func72, Tryz.ntmps72
  go_wp2_with fail
  go_loop [5, 10] (fun c i => ∃ k : Nat, k ≤ n ∧ i = .int .i64 k ∧ c = .int .i64 (below (xs.take k) p)) (fun _ i => n - (intOf i).toNat)
  case atStart => exact ⟨0, Nat.zero_le _, rfl, rfl⟩
  case round =>
    obtain ⟨k, hk, rfl, rfl⟩ := hrel
    by_cases hlt : k < n
    · obtain ⟨b, off, rfl, hb, hc⟩ := h4 (by omega)
      have hck := hc k hlt
      clear hc h4
      have hle := below_le (xs.take k) p
      have hsn := below_succ (k := k) (xs := xs) (by omega) p
      simp only [List.length_take] at hle
      have HS := hid hsn
      clear hsn
      have hle2 : below (xs.take k) p ≤ n := by omega
      clear hle
      by_cases hp : nth xs k < p
      · go_wp2_with fail
        go_round
        case rel => exact ⟨k + 1, by omega, by go_num, by rw [HS.out, if_pos hp]; go_num⟩
        case measure => simp [intOf]; omega
      · go_wp2_with fail
        go_round
        case rel => exact ⟨k + 1, by omega, by go_num, by rw [HS.out, if_neg (by omega)]; go_num⟩
        case measure => simp [intOf]; omega
    · obtain rfl : k = n := by omega
      go_wp2_with fail
      go_ret
      exact ⟨ret_int (by rw [List.take_of_length_le (by omega)]), rfl⟩

end Go.Proofs.YtnddplldkgphnaaGreat
