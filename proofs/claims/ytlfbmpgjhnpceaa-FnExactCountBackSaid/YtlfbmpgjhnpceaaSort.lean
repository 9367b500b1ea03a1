/- The library's sort and clone of slices of integers, in these words; places that are taken, sorted numbers that fit. -/
import Derived.Test.YtlfbmpgjhnpceaaShelf
import Derived.Test.YtlfbmpgjhnpceaaSpecS
import Derived.Test.YtlfbmpgjhnpceaaImplC
import Derived.Test.YtlfbmpgjhnpceaaLawKit
import Derived.Sort.OwnSortedInts
namespace Go.Proofs.Ytlfbmpgjhnpceaa
open Go.RowKit

theorem taken_yes {xs : List Int} {p : Int} (h : (good xs p && allPark p xs) = true) : takenOf xs p = (insSort (drive p xs), true) := by simp only [takenOf, if_pos h]
theorem taken_no {xs : List Int} {p : Int} (h : ¬ (good xs p && allPark p xs) = true) : takenOf xs p = ([], false) := by simp only [takenOf, if_neg h]

end Go.Proofs.Ytlfbmpgjhnpceaa
