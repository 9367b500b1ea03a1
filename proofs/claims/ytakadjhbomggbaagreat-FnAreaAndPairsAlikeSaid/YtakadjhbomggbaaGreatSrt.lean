/- The library's sort and clone of slices of integers, in these words. -/
import Derived.Test.YtakadjhbomggbaaGreatShelf
import Derived.Test.YtakadjhbomggbaaGreatSpecS
import Derived.Test.YtakadjhbomggbaaGreatLawKit
import Derived.Sort.OwnSortedInts
namespace Go.Proofs.YtakadjhbomggbaaGreat
open Go.RowKit

set_option maxHeartbeats 400000 in
theorem sort_any (B : Nat) (a : Option Addr) (n cap : Nat) (xs : List Int) (w : World) (h : Own w B a n cap xs) :
    Calls Tryz.prog 92 #[.slice a n cap] w fun e w' => e = .returned (.tuple #[]) ∧ Own w' B a n cap (insSort xs) ∧ Marked w w' a := by
  have hlen := h.len
  by_cases h0 : n = 0
  · subst h0
    refine (Tryz.slices_Sort_int_none a cap w).mono fun e w' ⟨he, hw⟩ => ⟨he, ?_, ?_⟩
    · subst hw
      obtain rfl : xs = [] := List.eq_nil_of_length_eq_zero hlen
      exact h
    · subst hw
      exact ⟨none, World.grownBy.refl _ _, by simp⟩
  · obtain ⟨g, rfl, hg1, hg2, hg3, hg4⟩ := h.opened (by omega)
    have hH : Go.Sort.Holds (Value.int .i64) w g 0 xs.toArray := by
      intro j hj
      have hj' : j < xs.length := by simpa using hj
      refine ⟨?_, hg4 _⟩
      rw [Nat.zero_add, hg3 j (by omega)]
      simp [nth, hj']
    subst hlen
    have hle := h.le
    refine (Tryz.slices_Sort_int g 0 cap xs w hH hg2 (by omega)).mono fun e w' ⟨he, k, os, hw⟩ => ⟨he, ?_, ?_⟩
    · rw [mergeSort_insSort] at hw
      subst hw
      rcases h.1.2 with ⟨h1, _⟩ | ⟨g', cap', cur, hv, hbase, hb, h1, h2, h3, h4⟩
      · simp at h1
      · simp at hv
        obtain ⟨rfl, rfl⟩ := hv
        exact ⟨Go.ownsRow_sortedI (length_insSort xs) hbase hb h1 h2 h3, length_insSort xs, hle⟩
    · subst hw
      exact ⟨some g, Go.grownBy_sortedI _, fun g' hg' => ⟨_, rfl, by simpa using hg'⟩⟩

set_option maxHeartbeats 400000 in
theorem clone_any (a : Option Addr) (n cap : Nat) (xs : List Int) (w : World) (h : Has w a n cap xs) :
    Calls Tryz.prog 91 #[.slice a n cap] w fun e w' => ∃ a' cap', e = .returned (.slice a' n cap') ∧ Own w' w.heap.size a' n cap' xs ∧ Below w.heap.size w w' := by
  obtain ⟨h0, h1, h2, h3, h4⟩ := h
  by_cases hn : n = 0
  · subst hn
    obtain rfl : xs = [] := List.eq_nil_of_length_eq_zero h0
    cases a with
    | none => exact (Tryz.slices_Clone_int_nil 0 cap w).mono fun e w' ⟨he, hw⟩ => by subst hw; exact ⟨none, 0, he, Own.nil _ _, Below.refl _ _⟩
    | some p =>
      refine (Tryz.slices_Clone_int_zero p cap w).mono fun e w' ⟨v', he, ho, _, hb⟩ => ?_
      obtain ⟨a', cap', rfl, ho'⟩ := own_of_row (xs := []) ho rfl rfl (by simp)
      exact ⟨a', cap', he, ho', hb⟩
  · obtain ⟨b, off, rfl, _, hc⟩ := h4 (by omega)
    refine (Tryz.slices_Clone_int b off n cap xs w (by omega) (by omega) (fun j hj => hc j (by omega))).mono fun e w' ⟨v', he, ho, _, hb⟩ => ?_
    obtain ⟨a', cap', rfl, ho'⟩ := own_of_row (xs := xs) ho h0.symm (by rw [List.take_of_length_le (by omega)]) (by omega)
    exact ⟨a', cap', he, ho', hb⟩

end Go.Proofs.YtakadjhbomggbaaGreat
