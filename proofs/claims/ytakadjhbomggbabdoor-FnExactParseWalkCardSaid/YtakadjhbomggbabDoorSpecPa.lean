/- The model's readers of texts: of trees, of parking functions. -/
import Derived.Test.YtakadjhbomggbabDoorSplit
import Derived.Test.YtakadjhbomggbabDoorSpecTr
import Derived.Test.YtakadjhbomggbabDoorSpecC
import Derived.Test.YtakadjhbomggbabDoorText
namespace Go.Proofs.YtakadjhbomggbabDoor
open Go.RowKit

/-- The tree with a text. -/
def treeRead (s : ByteArray) : List Int × Bool := if s.toList = [45] then ([], true) else if treeB ((cutL s 44).map readB) then ((cutL s 44).map readB, true) else ([], false)

theorem take_readB {ps : List ByteArray} {k : Nat} (h : k < ps.length) : (ps.map readB).take (k + 1) = (ps.map readB).take k ++ [readB (nthS ps k)] := by
  rw [← List.map_take, take_succ_nthS h, List.map_append, List.map_take]
  rfl
theorem take_readB_all {ps : List ByteArray} {n : Nat} (h : ps.length = n) : (ps.map readB).take n = ps.map readB := by
  rw [List.take_of_length_le (by simp [h])]

/-- The parking function with a text. -/
def parkRead (s : ByteArray) : List Int × Bool := if s.toList.isEmpty = true then ([], true) else if isPark ((cutL s 32).map readB) = true ∧ (bs (txt ((cutL s 32).map readB))).toList = s.toList then ((cutL s 32).map readB, true) else ([], false)
theorem park_digitsP {xs : List Int} (h : isPark xs = true) : Digits xs := by
  obtain ⟨h1, h2, _⟩ := isPark_iff.1 h
  intro i hi
  have := h2 _ (nth_mem hi)
  omega

end Go.Proofs.YtakadjhbomggbabDoor
