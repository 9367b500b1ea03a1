/- The program's functions of chapter 1, by their contracts: cuts, joins. -/
import Derived.Test.YtakadjhbomggbaaGreatImplD
import Derived.Test.YtakadjhbomggbaaGreatSpecE
namespace Go.Proofs.YtakadjhbomggbaaGreat
open Go.RowKit

theorem cut_below {xs : List Int} {j : Nat} (h1 : 1 ≤ j) : isCut xs j = ((below xs j : Int) == (j : Int)) := by
  unfold isCut
  rw [Bool.eq_iff_iff]
  simp
  omega

end Go.Proofs.YtakadjhbomggbaaGreat
