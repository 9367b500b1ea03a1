/- The model's words of trees, by their contracts. -/
import Derived.Test.YtdemcjciijlbeaaSpecTv
import Derived.Test.YtdemcjciijlbeaaApp2
import Derived.Test.YtdemcjciijlbeaaMathUn
import Derived.Deep.AppendLies
namespace Go.Proofs.Ytdemcjciijlbeaa
open Go.RowKit

def pruB (xs : List Int) : List Int × Bool := if treeB xs && decide (0 < xs.length) then (pruOf xs, true) else ([], false)

theorem pruB_yes {xs : List Int} (h : treeB xs = true) (hn : 0 < xs.length) : pruB xs = (pruOf xs, true) := by simp [pruB, h, hn]
theorem pruB_no {xs : List Int} (h : treeB xs = false ∨ xs.length = 0) : pruB xs = ([], false) := by
  unfold pruB
  rcases h with h | h <;> simp [h]

end Go.Proofs.Ytdemcjciijlbeaa
