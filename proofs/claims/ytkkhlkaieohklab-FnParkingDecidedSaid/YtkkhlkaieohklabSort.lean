/- The library's sort and clone of slices of integers, in these words; places that are taken, sorted numbers that fit. -/
import Derived.Test.YtkkhlkaieohklabSrt
import Derived.Test.YtkkhlkaieohklabSpecS
import Derived.Test.YtkkhlkaieohklabImplC
import Derived.Test.YtkkhlkaieohklabLawKit
import Derived.Test.YtkkhlkaieohklabUnd
import Derived.Test.YtkkhlkaieohklabIdx
import Derived.Test.YtkkhlkaieohklabMathP
namespace Go.Proofs.Ytkkhlkaieohklab
open Go.RowKit

theorem taken_yes {xs : List Int} {p : Int} (h : (good xs p && allPark p xs) = true) : takenOf xs p = (insSort (drive p xs), true) := by simp only [takenOf, if_pos h]
theorem taken_no {xs : List Int} {p : Int} (h : ¬ (good xs p && allPark p xs) = true) : takenOf xs p = ([], false) := by simp only [takenOf, if_neg h]

set_option maxHeartbeats 400000 in
theorem specFits_any (a : Option Addr) (n cap : Nat) (xs : List Int) (w : World) (h : Has w a n cap xs) :
    Calls Try.prog 30 #[.slice a n cap] w (PostBools w (fitsOf xs)) := by
  by_cases hg : asked xs = true
  · have HR : Hid (fitsOf xs = (fitsB (insSort xs) n, true)) := hid (by simp [fitsOf, hg, h.len])
    have hln : n ≤ 1000 := by have := h.len; simp [asked] at hg; omega
    have HG := hid hg
    have HL := hid h.len
    clear hg
    go_enter Try.func30, Try.ntmps30
    go_wp2_with (go_at_call 54; refine (paAsked_any _ _ _ _ _ h).mono ?_; rintro e w' ⟨rfl, rfl⟩; rw [HG.out])
    refine (paSorted_any _ _ _ _ _ h hln).mono ?_
    rintro e w1 ⟨a1, cap1, rfl, hown1, hb1⟩
    obtain ⟨k0, k1, k2, k3, k4⟩ := hown1.has
    clear k0
    go_wp2_with fail
    go_loop [12] (fun i => ∃ k : Nat, k ≤ n ∧ i = .int .i64 k ∧ Hid (fitsB (insSort xs) k = true)) (fun i => n - (intOf i).toNat)
    case atStart => exact ⟨0, Nat.zero_le _, rfl, hid rfl⟩
    case round =>
      obtain ⟨k, hk, rfl, HF⟩ := hrel
      by_cases hlt : k < n
      · obtain ⟨b, off, rfl, hbb, hc⟩ := k4 (by omega)
        have hck := hc k hlt
        clear hc k4
        by_cases ht : nth (insSort xs) k ≤ (k : Int)
        · have HT := hid ht
          go_wp2_with fail
          go_round
          case rel => exact ⟨k + 1, by omega, by go_num, hid (by rw [fitsB_succ, HF.out]; simp [HT.out])⟩
          case measure => simp [intOf]; omega
        · have HN := hid (fitsB_no (n := n) hlt ht)
          go_wp2_with fail
          go_ret2
          exact postBools (by rw [HR.out, HN.out]) hb1
      · obtain rfl : k = n := by omega
        go_wp2_with fail
        go_ret2
        exact postBools (by rw [HR.out, HF.out]) hb1
  · have HR : Hid (fitsOf xs = (false, false)) := hid (by simp [fitsOf, hg])
    have HG := hid hg
    clear hg
    go_enter Try.func30, Try.ntmps30
    go_wp2_with (go_at_call 54; refine (paAsked_any _ _ _ _ _ h).mono ?_; rintro e w' ⟨rfl, rfl⟩; rw [Bool.eq_false_iff.2 HG.out])
    go_ret2
    exact postBools HR.out (Below.refl _ _)

theorem fits_und {xs : List Int} {n : Nat} (hl : xs.length = n) (h : carsB xs 100 = true) : undTo (insSort xs) (idx n) n = fitsB (insSort xs) n := by
  rw [Bool.eq_iff_iff, undTo_iff, fitsB_iff]
  have h0 := (carsB_iff.1 h).2
  have hp := insSort_perm xs
  have hl2 := length_insSort xs
  constructor
  · intro hh i hi
    have := hh i hi
    rw [nth_idx hi] at this
    exact this.2
  · intro hh i hi
    rw [nth_idx hi]
    exact ⟨(h0 _ (hp.mem_iff.1 (nth_mem (by omega)))).1, hh i hi⟩

set_option maxHeartbeats 400000 in
theorem sortedFits_any (a : Option Addr) (n cap : Nat) (xs : List Int) (w : World) (h : Has w a n cap xs) :
    Calls Try.prog 29 #[.slice a n cap] w (PostBools w (fitsOf xs)) := by
  by_cases hg : carsB xs 100 = true
  · have HR : Hid (fitsOf xs = (undTo (insSort xs) (idx n) n, true)) := hid (by rw [fits_und h.len hg]; simp [fitsOf, asked_cars, hg, h.len])
    have hn : n ≤ 8 := by have := (carsB_iff.1 hg).1; have := h.len; omega
    have HG := hid hg
    clear hg
    go_enter Try.func29, Try.ntmps29
    go_wp2_with (go_at_call 38; refine (areCarsBelow_any _ _ _ _ _ _ h).mono ?_; rintro e w' ⟨rfl, rfl⟩; rw [HG.out])
    refine (indices_any n _ (by omega)).mono ?_
    rintro e w1 ⟨a1, cap1, rfl, hown1, hb1⟩
    go_wp2_with fail
    refine (isUnder_any _ _ _ _ _ _ _ _ _ (h.below hb1 (Nat.le_refl _)) hown1.has (Nat.le_refl _)).mono ?_
    rintro e w2 ⟨rfl, hb2⟩
    go_wp2_with fail
    go_ret2
    exact postBools HR.out (hb1.trans (hb2.mono hb1.size))
  · have HR : Hid (fitsOf xs = (false, false)) := hid (by simp [fitsOf, asked_cars, hg])
    have HG := hid hg
    clear hg
    go_enter Try.func29, Try.ntmps29
    go_wp2_with (go_at_call 38; refine (areCarsBelow_any _ _ _ _ _ _ h).mono ?_; rintro e w' ⟨rfl, rfl⟩; rw [Bool.eq_false_iff.2 HG.out])
    go_ret2
    exact postBools HR.out (Below.refl _ _)
end Go.Proofs.Ytkkhlkaieohklab
