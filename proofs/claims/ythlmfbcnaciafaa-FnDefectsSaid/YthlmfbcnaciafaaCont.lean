/- What a list has: the library's Index and Contains on slices of integers. -/
import Derived.Test.YthlmfbcnaciafaaHelp
import Derived.Test.YthlmfbcnaciafaaLawKit
import Derived.Test.YthlmfbcnaciafaaMath1
import Derived.Handy
namespace Go.Proofs.Ythlmfbcnaciafaa
open Go.RowKit

/-- The first index of a number, -1 if there is none. -/
def idxTo (xs : List Int) (x : Int) : Nat → Int
  | 0 => -1
  | k + 1 => if idxTo xs x k = -1 then (if nth xs k = x then (k : Int) else -1) else idxTo xs x k
theorem idxTo_none {xs : List Int} {x : Int} : ∀ {k : Nat}, k ≤ xs.length → (idxTo xs x k = -1 ↔ x ∉ xs.take k)
  | 0, _ => by simp [idxTo]
  | k + 1, hk => by
    have ih := idxTo_none (xs := xs) (x := x) (k := k) (by omega)
    rw [idxTo, take_succ_nth (xs := xs) (k := k) (by omega), List.mem_append, List.mem_singleton]
    by_cases h : idxTo xs x k = -1
    · rw [if_pos h]
      have h2 := ih.1 h
      by_cases e : nth xs k = x
      · rw [if_pos e]
        exact ⟨fun hh => by omega, fun hh => absurd (.inr e.symm) hh⟩
      · rw [if_neg e]
        exact ⟨fun _ hh => by rcases hh with hh | hh; exact h2 hh; exact e hh.symm, fun _ => rfl⟩
    · rw [if_neg h]
      exact ⟨fun hh => absurd hh h, fun hh => absurd (ih.2 fun h3 => hh (.inl h3)) h⟩
theorem idxTo_keep {xs : List Int} {x : Int} {k : Nat} (h : idxTo xs x k ≠ -1) : ∀ m, k ≤ m → idxTo xs x m = idxTo xs x k := by
  intro m hm
  induction m with
  | zero => rw [show k = 0 from by omega]
  | succ m ih =>
    by_cases e : k = m + 1
    · rw [e]
    · have := ih (by omega)
      rw [idxTo, if_neg (by rw [this]; exact h), this]

theorem idxTo_bounds (xs : List Int) (x : Int) : ∀ k : Nat, -1 ≤ idxTo xs x k ∧ idxTo xs x k < k
  | 0 => by simp [idxTo]
  | k + 1 => by
    have := idxTo_bounds xs x k
    rw [idxTo]
    split
    · split <;> omega
    · omega

end Go.Proofs.Ythlmfbcnaciafaa
