/- What a list has: the library's Index and Contains on slices of integers. -/
import Derived.Test.YtnddplldkgphnabHelp
import Derived.Test.YtnddplldkgphnabLawKit
import Derived.Test.YtnddplldkgphnabMath1
import Derived.Handy
namespace Go.Proofs.Ytnddplldkgphnab
open Go.RowKit

/-- The first index of a number, -1 if there is none. -/
def idxTo (xs : List Int) (x : Int) : Nat → Int
  | 0 => -1
  | k + 1 => if idxTo xs x k = -1 then (if nth xs k = x then (k : Int) else -1) else idxTo xs x k
theorem idxTo_none {xs : List Int} {x : Int} : ∀ {k : Nat}, k ≤ xs.length → (idxTo xs x k = -1 ↔ x ∉ xs.take k)
  | 0, _ => by simp [idxTo]
  | k + 1, hk => by
    have ih := idxTo_none (xs := xs) (x := x) (k := k) (by omega)
    rw [idxTo, take_succ_nth (xs := xs) (k := k) (by omega), List.mem_append, List.mem_singleton]
    by_cases h : idxTo xs x k = -1
    · rw [if_pos h]
      have h2 := ih.1 h
      by_cases e : nth xs k = x
      · rw [if_pos e]
        exact ⟨fun hh => by omega, fun hh => absurd (.inr e.symm) hh⟩
      · rw [if_neg e]
        exact ⟨fun _ hh => by rcases hh with hh | hh; exact h2 hh; exact e hh.symm, fun _ => rfl⟩
    · rw [if_neg h]
      exact ⟨fun hh => absurd hh h, fun hh => absurd (ih.2 fun h3 => hh (.inl h3)) h⟩
theorem idxTo_keep {xs : List Int} {x : Int} {k : Nat} (h : idxTo xs x k ≠ -1) : ∀ m, k ≤ m → idxTo xs x m = idxTo xs x k := by
  intro m hm
  induction m with
  | zero => rw [show k = 0 from by omega]
  | succ m ih =>
    by_cases e : k = m + 1
    · rw [e]
    · have := ih (by omega)
      rw [idxTo, if_neg (by rw [this]; exact h), this]

theorem indexOf_any (a : Option Addr) (n cap : Nat) (xs : List Int) (x : Int) (w : World) (h : Has w a n cap xs) :
    Calls Try.prog 81 #[.slice a n cap, .int .i64 x] w fun e w' => e = .returned (.int .i64 (idxTo xs x n)) ∧ w = w' := by
  obtain ⟨h0, h1, h2, h3, h4⟩ := h
  go_enter Try.func81, Try.ntmps81
  go_wp2_with fail
  go_loop [8] (fun i => ∃ k : Nat, k ≤ n ∧ i = .int .i64 k ∧ Hid (idxTo xs x k = -1)) (fun i => n - (intOf i).toNat)
  case atStart => exact ⟨0, Nat.zero_le _, rfl, hid rfl⟩
  case round =>
    obtain ⟨k, hk, rfl, HR⟩ := hrel
    by_cases hlt : k < n
    · obtain ⟨b, off, rfl, hb, hc⟩ := h4 (by omega)
      have hck := hc k hlt
      clear hc h4
      by_cases he : x = nth xs k
      · have hbe : (x == nth xs k) = true := by simp [he]
        have HN : Hid (idxTo xs x n = (k : Int)) := hid (by
          have h5 : idxTo xs x (k + 1) = (k : Int) := by rw [idxTo, if_pos HR.out, if_pos he.symm]
          rw [idxTo_keep (k := k + 1) (by rw [h5]; omega) n (by omega), h5])
        clear he
        go_wp2_with fail
        go_ret
        exact ⟨ret_int HN.out.symm, rfl⟩
      · have hbe : (x == nth xs k) = false := by simp [he]
        have HN : Hid (idxTo xs x (k + 1) = -1) := hid (by rw [idxTo, if_pos HR.out, if_neg fun e => he e.symm])
        clear he
        go_wp2_with fail
        go_round
        case rel => exact ⟨k + 1, by omega, by go_num, HN⟩
        case measure => simp [intOf]; omega
    · obtain rfl : k = n := by omega
      go_wp2_with fail
      go_ret
      exact ⟨ret_int HR.out.symm, rfl⟩

theorem idxTo_bounds (xs : List Int) (x : Int) : ∀ k : Nat, -1 ≤ idxTo xs x k ∧ idxTo xs x k < k
  | 0 => by simp [idxTo]
  | k + 1 => by
    have := idxTo_bounds xs x k
    rw [idxTo]
    split
    · split <;> omega
    · omega

theorem contains5_any (a : Option Addr) (n cap : Nat) (xs : List Int) (x : Int) (w : World) (h : Has w a n cap xs) :
    Calls Try.prog 62 #[.slice a n cap, .int .i64 x] w fun e w' => e = .returned (.bool (hasB xs x)) ∧ w = w' := by
  have hb := idxTo_bounds xs x n
  have hi := idxTo_none (xs := xs) (x := x) (k := n) (by rw [h.len]; exact Nat.le_refl _)
  rw [List.take_of_length_le (by rw [h.len]; exact Nat.le_refl _)] at hi
  by_cases hx : x ∈ xs
  · have HR : Hid (hasB xs x = true) := hid (hasB_iff.2 hx)
    have h0 : 0 ≤ idxTo xs x n := by
      have : idxTo xs x n ≠ -1 := fun e => (hi.1 e) hx
      omega
    clear hi hx
    go_enter Try.func62, Try.ntmps62
    go_wp2_with (go_at_call 81; refine (indexOf_any _ _ _ _ _ _ h).mono ?_; rintro e w' ⟨rfl, rfl⟩)
    go_ret
    exact ⟨ret_bool HR.out.symm, rfl⟩
  · have HR : Hid (hasB xs x = false) := hid (hasB_not.2 hx)
    have h0 : ¬ 0 ≤ idxTo xs x n := by
      have := hi.2 hx
      omega
    clear hi hx
    go_enter Try.func62, Try.ntmps62
    go_wp2_with (go_at_call 81; refine (indexOf_any _ _ _ _ _ _ h).mono ?_; rintro e w' ⟨rfl, rfl⟩)
    go_ret
    exact ⟨ret_bool (by rw [HR.out]; simpa using h0), rfl⟩

end Go.Proofs.Ytnddplldkgphnab
