/- The library's sort and clone of slices of integers, in these words. -/
import Derived.Test.YtehdccfkkfkciacShelf
import Derived.Test.YtehdccfkkfkciacSpecS
import Derived.Test.YtehdccfkkfkciacLawKit
import Derived.Sort.OwnSortedInts
namespace Go.Proofs.Ytehdccfkkfkciac
open Go.RowKit

set_option maxHeartbeats 400000 in
theorem sort_any (B : Nat) (a : Option Addr) (n cap : Nat) (xs : List Int) (w : World) (h : Own w B a n cap xs) :
    Calls Try.prog 70 #[.slice a n cap] w fun e w' => e = .returned (.tuple #[]) ∧ Own w' B a n cap (insSort xs) ∧ Marked w w' a := by
  have hlen := h.len
  by_cases h0 : n = 0
  · subst h0
    refine (Try.slices_Sort_int_none a cap w).mono fun e w' ⟨he, hw⟩ => ⟨he, ?_, ?_⟩
    · subst hw
      obtain rfl : xs = [] := List.eq_nil_of_length_eq_zero hlen
      exact h
    · subst hw
      exact ⟨none, World.grownBy.refl _ _, by simp⟩
  · obtain ⟨g, rfl, hg1, hg2, hg3, hg4⟩ := h.opened (by omega)
    have hH : Go.Sort.Holds (Value.int .i64) w g 0 xs.toArray := by
      intro j hj
      have hj' : j < xs.length := by simpa using hj
      refine ⟨?_, hg4 _⟩
      rw [Nat.zero_add, hg3 j (by omega)]
      simp [nth, hj']
    subst hlen
    have hle := h.le
    refine (Try.slices_Sort_int g 0 cap xs w hH hg2 (by omega)).mono fun e w' ⟨he, k, os, hw⟩ => ⟨he, ?_, ?_⟩
    · rw [mergeSort_insSort] at hw
      subst hw
      rcases h.1.2 with ⟨h1, _⟩ | ⟨g', cap', cur, hv, hbase, hb, h1, h2, h3, h4⟩
      · simp at h1
      · simp at hv
        obtain ⟨rfl, rfl⟩ := hv
        exact ⟨Go.ownsRow_sortedI (length_insSort xs) hbase hb h1 h2 h3, length_insSort xs, hle⟩
    · subst hw
      exact ⟨some g, Go.grownBy_sortedI _, fun g' hg' => ⟨_, rfl, by simpa using hg'⟩⟩

end Go.Proofs.Ytehdccfkkfkciac
