/- The model's functions of chapter 1, by their contracts. -/
import Derived.Test.YtehdccfkkfkciaaHelp
import Derived.Test.YtehdccfkkfkciaaMath1
namespace Go.Proofs.Ytehdccfkkfkciaa
open Go.RowKit

theorem l1In_any (n lo hi : Int) (w : World) :
    Calls Try.prog 42 #[.int .i64 n, .int .i64 lo, .int .i64 hi] w fun e w' => e = .returned (.bool (inB n lo hi)) ∧ w = w' := by
  by_cases h1 : lo ≤ n
  · go_enter Try.func42, Try.ntmps42
    go_wp2
    go_ret
    exact ⟨by simp [inB, h1], rfl⟩
  · go_enter Try.func42, Try.ntmps42
    go_wp2
    go_ret
    exact ⟨by simp [inB]; omega, rfl⟩

set_option maxHeartbeats 400000 in
theorem l1All_any (a : Option Addr) (n cap : Nat) (xs : List Int) (lo hi : Int) (w : World) (h : Has w a n cap xs) :
    Calls Try.prog 58 #[.slice a n cap, .int .i64 lo, .int .i64 hi] w fun e w' => e = .returned (.bool (allB xs lo hi)) ∧ w = w' := by
  obtain ⟨h0, h1, h2, h3, h4⟩ := h
  go_enter Try.func58, Try.ntmps58
  go_wp2_with fail
  go_loop [11] (fun i => ∃ k : Nat, k ≤ n ∧ i = .int .i64 k ∧ allB (xs.take k) lo hi = true) (fun i => n - (intOf i).toNat)
  case atStart => exact ⟨0, Nat.zero_le _, rfl, rfl⟩
  case round =>
    obtain ⟨k, hk, rfl, hrel⟩ := hrel
    have HR := hid hrel
    clear hrel
    by_cases hlt : k < n
    · obtain ⟨b, off, rfl, hb, hc⟩ := h4 (by omega)
      have hck := hc k hlt
      clear hc h4
      go_wp2_with (go_at_call 42; refine (l1In_any _ _ _ _).mono ?_; rintro e w' ⟨rfl, rfl⟩)
      · have ht : inB (nth xs k) lo hi = false := by simpa using (show (!inB (nth xs k) lo hi) = true by assumption)
        go_ret
        exact ⟨ret_bool (allB_no (by omega) ht).symm, rfl⟩
      · have ht : inB (nth xs k) lo hi = true := by simpa using (show (!inB (nth xs k) lo hi) = false by assumption)
        go_round
        case rel => exact ⟨k + 1, by omega, by go_num, allB_succ (by omega) HR.out ht⟩
        case measure => simp [intOf]; omega
    · go_wp2_with fail
      go_ret
      exact ⟨ret_bool (by rw [← HR.out, List.take_of_length_le (by omega)]), rfl⟩

set_option maxHeartbeats 400000 in
theorem l1Has_any (a : Option Addr) (n cap : Nat) (xs : List Int) (x : Int) (w : World) (h : Has w a n cap xs) :
    Calls Try.prog 76 #[.slice a n cap, .int .i64 x] w fun e w' => e = .returned (.bool (hasB xs x)) ∧ w = w' := by
  obtain ⟨h0, h1, h2, h3, h4⟩ := h
  go_enter Try.func76, Try.ntmps76
  go_wp2_with fail
  go_loop [9] (fun i => ∃ k : Nat, k ≤ n ∧ i = .int .i64 k ∧ hasB (xs.take k) x = false) (fun i => n - (intOf i).toNat)
  case atStart => exact ⟨0, Nat.zero_le _, rfl, by simp [hasB]⟩
  case round =>
    obtain ⟨k, hk, rfl, hrel⟩ := hrel
    have HR := hid hrel
    clear hrel
    by_cases hlt : k < n
    · obtain ⟨b, off, rfl, hb, hc⟩ := h4 (by omega)
      have hck := hc k hlt
      clear hc h4
      by_cases he : nth xs k = x
      · have hbe : (nth xs k == x) = true := by simp [he]
        have HE := hid he
        clear he
        go_wp2_with fail
        go_ret
        exact ⟨ret_bool (hasB_yes (by omega) HE.out).symm, rfl⟩
      · have hbe : (nth xs k == x) = false := by simp [he]
        have HE := hid he
        clear he
        go_wp2_with fail
        go_round
        case rel => exact ⟨k + 1, by omega, by go_num, hasB_succ (by omega) HR.out HE.out⟩
        case measure => simp [intOf]; omega
    · go_wp2_with fail
      go_ret
      exact ⟨ret_bool (by rw [← HR.out, List.take_of_length_le (by omega)]), rfl⟩

set_option maxHeartbeats 400000 in
theorem paFrom_any (a : Option Addr) (n cap : Nat) (xs : List Int) (p : Int) (w : World) (h : Has w a n cap xs) :
    Calls Try.prog 60 #[.slice a n cap, .int .i64 p] w fun e w' => e = .returned (.int .i64 (from' xs p)) ∧ w = w' := by
  obtain ⟨h0, h1, h2, h3, h4⟩ := h
  go_enter Try.func60, Try.ntmps60
  go_wp2_with fail
  go_loop [5, 10] (fun c i => ∃ k : Nat, k ≤ n ∧ i = .int .i64 k ∧ c = .int .i64 (from' (xs.take k) p)) (fun _ i => n - (intOf i).toNat)
  case atStart => exact ⟨0, Nat.zero_le _, rfl, rfl⟩
  case round =>
    obtain ⟨k, hk, rfl, rfl⟩ := hrel
    by_cases hlt : k < n
    · obtain ⟨b, off, rfl, hb, hc⟩ := h4 (by omega)
      have hck := hc k hlt
      clear hc h4
      have hle := from_le (xs.take k) p
      have hsn := from_succ (k := k) (xs := xs) (by omega) p
      simp only [List.length_take] at hle
      have HS := hid hsn
      clear hsn
      have hle2 : from' (xs.take k) p ≤ n := by omega
      clear hle
      by_cases hp : p ≤ nth xs k
      · go_wp2_with fail
        go_round
        case rel => exact ⟨k + 1, by omega, by go_num, by rw [HS.out, if_pos hp]; go_num⟩
        case measure => simp [intOf]; omega
      · go_wp2_with fail
        go_round
        case rel => exact ⟨k + 1, by omega, by go_num, by rw [HS.out, if_neg (by omega)]; go_num⟩
        case measure => simp [intOf]; omega
    · obtain rfl : k = n := by omega
      go_wp2_with fail
      go_ret
      exact ⟨ret_int (by rw [List.take_of_length_le (by omega)]), rfl⟩
end Go.Proofs.Ytehdccfkkfkciaa
