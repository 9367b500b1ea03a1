/- The library's sort and clone of slices of integers, in these words; places that are taken, sorted numbers that fit. -/
import Derived.Test.YtnddplldkgphnacSrt
import Derived.Test.YtnddplldkgphnacSpecS
import Derived.Test.YtnddplldkgphnacImplC
import Derived.Test.YtnddplldkgphnacLawKit
import Derived.Test.YtnddplldkgphnacUnd
import Derived.Test.YtnddplldkgphnacIdx
import Derived.Test.YtnddplldkgphnacMathP
namespace Go.Proofs.Ytnddplldkgphnac
open Go.RowKit

theorem taken_yes {xs : List Int} {p : Int} (h : (good xs p && allPark p xs) = true) : takenOf xs p = (insSort (drive p xs), true) := by simp only [takenOf, if_pos h]
theorem taken_no {xs : List Int} {p : Int} (h : ¬ (good xs p && allPark p xs) = true) : takenOf xs p = ([], false) := by simp only [takenOf, if_neg h]

theorem fits_und {xs : List Int} {n : Nat} (hl : xs.length = n) (h : carsB xs 100 = true) : undTo (insSort xs) (idx n) n = fitsB (insSort xs) n := by
  rw [Bool.eq_iff_iff, undTo_iff, fitsB_iff]
  have h0 := (carsB_iff.1 h).2
  have hp := insSort_perm xs
  have hl2 := length_insSort xs
  constructor
  · intro hh i hi
    have := hh i hi
    rw [nth_idx hi] at this
    exact this.2
  · intro hh i hi
    rw [nth_idx hi]
    exact ⟨(h0 _ (hp.mem_iff.1 (nth_mem (by omega)))).1, hh i hi⟩

end Go.Proofs.Ytnddplldkgphnac
