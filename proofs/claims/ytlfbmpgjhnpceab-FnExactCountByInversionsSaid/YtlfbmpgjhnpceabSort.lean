/- The library's sort and clone of slices of integers, in these words; places that are taken, sorted numbers that fit. -/
import Derived.Test.YtlfbmpgjhnpceabShelf
import Derived.Test.YtlfbmpgjhnpceabSpecS
import Derived.Test.YtlfbmpgjhnpceabImplC
import Derived.Test.YtlfbmpgjhnpceabLawKit
import Derived.Sort.OwnSortedInts
namespace Go.Proofs.Ytlfbmpgjhnpceab
open Go.RowKit

set_option maxHeartbeats 400000 in
theorem sort_any (B : Nat) (a : Option Addr) (n cap : Nat) (xs : List Int) (w : World) (h : Own w B a n cap xs) :
    Calls Try.prog 103 #[.slice a n cap] w fun e w' => e = .returned (.tuple #[]) ∧ Own w' B a n cap (insSort xs) ∧ Marked w w' a := by
  have hlen := h.len
  by_cases h0 : n = 0
  · subst h0
    refine (Try.slices_Sort_int_none a cap w).mono fun e w' ⟨he, hw⟩ => ⟨he, ?_, ?_⟩
    · subst hw
      obtain rfl : xs = [] := List.eq_nil_of_length_eq_zero hlen
      exact h
    · subst hw
      exact ⟨none, World.grownBy.refl _ _, by simp⟩
  · obtain ⟨g, rfl, hg1, hg2, hg3, hg4⟩ := h.opened (by omega)
    have hH : Go.Sort.Holds (Value.int .i64) w g 0 xs.toArray := by
      intro j hj
      have hj' : j < xs.length := by simpa using hj
      refine ⟨?_, hg4 _⟩
      rw [Nat.zero_add, hg3 j (by omega)]
      simp [nth, hj']
    subst hlen
    have hle := h.le
    refine (Try.slices_Sort_int g 0 cap xs w hH hg2 (by omega)).mono fun e w' ⟨he, k, os, hw⟩ => ⟨he, ?_, ?_⟩
    · rw [mergeSort_insSort] at hw
      subst hw
      rcases h.1.2 with ⟨h1, _⟩ | ⟨g', cap', cur, hv, hbase, hb, h1, h2, h3, h4⟩
      · simp at h1
      · simp at hv
        obtain ⟨rfl, rfl⟩ := hv
        exact ⟨Go.ownsRow_sortedI (length_insSort xs) hbase hb h1 h2 h3, length_insSort xs, hle⟩
    · subst hw
      exact ⟨some g, Go.grownBy_sortedI _, fun g' hg' => ⟨_, rfl, by simpa using hg'⟩⟩

set_option maxHeartbeats 400000 in
theorem clone_any (a : Option Addr) (n cap : Nat) (xs : List Int) (w : World) (h : Has w a n cap xs) :
    Calls Try.prog 102 #[.slice a n cap] w fun e w' => ∃ a' cap', e = .returned (.slice a' n cap') ∧ Own w' w.heap.size a' n cap' xs ∧ Below w.heap.size w w' := by
  obtain ⟨h0, h1, h2, h3, h4⟩ := h
  by_cases hn : n = 0
  · subst hn
    obtain rfl : xs = [] := List.eq_nil_of_length_eq_zero h0
    cases a with
    | none => exact (Try.slices_Clone_int_nil 0 cap w).mono fun e w' ⟨he, hw⟩ => by subst hw; exact ⟨none, 0, he, Own.nil _ _, Below.refl _ _⟩
    | some p =>
      refine (Try.slices_Clone_int_zero p cap w).mono fun e w' ⟨v', he, ho, _, hb⟩ => ?_
      obtain ⟨a', cap', rfl, ho'⟩ := own_of_row (xs := []) ho rfl rfl (by simp)
      exact ⟨a', cap', he, ho', hb⟩
  · obtain ⟨b, off, rfl, _, hc⟩ := h4 (by omega)
    refine (Try.slices_Clone_int b off n cap xs w (by omega) (by omega) (fun j hj => hc j (by omega))).mono fun e w' ⟨v', he, ho, _, hb⟩ => ?_
    obtain ⟨a', cap', rfl, ho'⟩ := own_of_row (xs := xs) ho h0.symm (by rw [List.take_of_length_le (by omega)]) (by omega)
    exact ⟨a', cap', he, ho', hb⟩

theorem taken_yes {xs : List Int} {p : Int} (h : (good xs p && allPark p xs) = true) : takenOf xs p = (insSort (drive p xs), true) := by simp only [takenOf, if_pos h]
theorem taken_no {xs : List Int} {p : Int} (h : ¬ (good xs p && allPark p xs) = true) : takenOf xs p = ([], false) := by simp only [takenOf, if_neg h]

set_option maxHeartbeats 400000 in
theorem specFits_any (a : Option Addr) (n cap : Nat) (xs : List Int) (w : World) (h : Has w a n cap xs) :
    Calls Try.prog 31 #[.slice a n cap] w (PostBools w (fitsOf xs)) := by
  by_cases hg : asked xs = true
  · have HR : Hid (fitsOf xs = (fitsB (insSort xs) n, true)) := hid (by simp [fitsOf, hg, h.len])
    have hln : n ≤ 1000 := by have := h.len; simp [asked] at hg; omega
    have HG := hid hg
    have HL := hid h.len
    clear hg
    go_enter Try.func31, Try.ntmps31
    go_wp2_with (go_at_call 100; refine (paAsked_any _ _ _ _ _ h).mono ?_; rintro e w' ⟨rfl, rfl⟩; rw [HG.out])
    refine (paSorted_any _ _ _ _ _ h hln).mono ?_
    rintro e w1 ⟨a1, cap1, rfl, hown1, hb1⟩
    obtain ⟨k0, k1, k2, k3, k4⟩ := hown1.has
    clear k0
    go_wp2_with fail
    go_loop [12] (fun i => ∃ k : Nat, k ≤ n ∧ i = .int .i64 k ∧ Hid (fitsB (insSort xs) k = true)) (fun i => n - (intOf i).toNat)
    case atStart => exact ⟨0, Nat.zero_le _, rfl, hid rfl⟩
    case round =>
      obtain ⟨k, hk, rfl, HF⟩ := hrel
      by_cases hlt : k < n
      · obtain ⟨b, off, rfl, hbb, hc⟩ := k4 (by omega)
        have hck := hc k hlt
        clear hc k4
        by_cases ht : nth (insSort xs) k ≤ (k : Int)
        · have HT := hid ht
          go_wp2_with fail
          go_round
          case rel => exact ⟨k + 1, by omega, by go_num, hid (by rw [fitsB_succ, HF.out]; simp [HT.out])⟩
          case measure => simp [intOf]; omega
        · have HN := hid (fitsB_no (n := n) hlt ht)
          go_wp2_with fail
          go_ret2
          exact postBools (by rw [HR.out, HN.out]) hb1
      · obtain rfl : k = n := by omega
        go_wp2_with fail
        go_ret2
        exact postBools (by rw [HR.out, HF.out]) hb1
  · have HR : Hid (fitsOf xs = (false, false)) := hid (by simp [fitsOf, hg])
    have HG := hid hg
    clear hg
    go_enter Try.func31, Try.ntmps31
    go_wp2_with (go_at_call 100; refine (paAsked_any _ _ _ _ _ h).mono ?_; rintro e w' ⟨rfl, rfl⟩; rw [Bool.eq_false_iff.2 HG.out])
    go_ret2
    exact postBools HR.out (Below.refl _ _)

set_option maxHeartbeats 400000 in
theorem sortedFits_any (a : Option Addr) (n cap : Nat) (xs : List Int) (w : World) (h : Has w a n cap xs) :
    Calls Try.prog 30 #[.slice a n cap] w (PostBools w (fitsOf xs)) := by
  by_cases hg : carsB xs 100 = true
  · have HR : Hid (fitsOf xs = (fitsB (insSort xs) n, true)) := hid (by simp [fitsOf, asked_cars, hg, h.len])
    have HG := hid hg
    clear hg
    go_enter Try.func30, Try.ntmps30
    go_wp2_with (go_at_call 98; refine (areCarsBelow_any _ _ _ _ _ _ h).mono ?_; rintro e w' ⟨rfl, rfl⟩; rw [HG.out])
    refine (clone_any _ _ _ _ _ h).mono ?_
    rintro e w1 ⟨a1, cap1, rfl, hown1, hb1⟩
    go_wp2_with fail
    refine (sort_any _ _ _ _ _ _ hown1).mono ?_
    rintro e w2 ⟨rfl, hown2, hm2⟩
    have hb2 := hb1.trans (hm2.below hown1.ge hb1.size)
    obtain ⟨k0, k1, k2, k3, k4⟩ := hown2.has
    clear k0 hm2
    go_wp2_with fail
    go_loop [16] (fun i => ∃ k : Nat, k ≤ n ∧ i = .int .i64 k ∧ Hid (fitsB (insSort xs) k = true)) (fun i => n - (intOf i).toNat)
    case atStart => exact ⟨0, Nat.zero_le _, rfl, hid rfl⟩
    case round =>
      obtain ⟨k, hk, rfl, HF⟩ := hrel
      by_cases hlt : k < n
      · obtain ⟨b, off, rfl, hbb, hc⟩ := k4 (by omega)
        have hck := hc k hlt
        clear hc k4 hown1 hown2
        by_cases ht : nth (insSort xs) k ≤ (k : Int)
        · have HT := hid ht
          go_wp2_with fail
          go_round
          case rel => exact ⟨k + 1, by omega, by go_num, hid (by rw [fitsB_succ, HF.out]; simp [HT.out])⟩
          case measure => simp [intOf]; omega
        · have HN := hid (fitsB_no (n := n) hlt ht)
          go_wp2_with fail
          go_ret2
          exact postBools (by rw [HR.out, HN.out]) hb2
      · obtain rfl : k = n := by omega
        go_wp2_with fail
        go_ret2
        exact postBools (by rw [HR.out, HF.out]) hb2
  · have HR : Hid (fitsOf xs = (false, false)) := hid (by simp [fitsOf, asked_cars, hg])
    have HG := hid hg
    clear hg
    go_enter Try.func30, Try.ntmps30
    go_wp2_with (go_at_call 98; refine (areCarsBelow_any _ _ _ _ _ _ h).mono ?_; rintro e w' ⟨rfl, rfl⟩; rw [Bool.eq_false_iff.2 HG.out])
    go_ret2
    exact postBools HR.out (Below.refl _ _)
end Go.Proofs.Ytlfbmpgjhnpceab
