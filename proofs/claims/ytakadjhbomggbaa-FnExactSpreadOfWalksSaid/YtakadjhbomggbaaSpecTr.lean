/- The model's functions of chapter 3, by their contracts: trees, what is above, breadth orders. -/
import Derived.Test.YtakadjhbomggbaaSpecB
import Derived.Test.YtakadjhbomggbaaSpecS
import Derived.Test.YtakadjhbomggbaaMathBf
namespace Go.Proofs.Ytakadjhbomggbaa
open Go.RowKit

theorem tree_fin {ps : List Int} {n : Nat} (hn : ps.length = n) (h8 : n ≤ 8) (hb : allB ps 0 n = true) (h : ∀ i, i < n → up ps ((i : Int) + 1) n = 0) : treeB ps = true := by
  subst hn
  rw [treeB_iff]
  exact ⟨h8, allB_iff.1 hb, h⟩
theorem tree_bad {ps : List Int} {n : Nat} (hn : ps.length = n) (h : ¬ n ≤ 8 ∨ allB ps 0 n = false) : treeB ps = false := by
  subst hn
  unfold treeB
  rcases h with h | h
  · simp [h]
  · simp [h]
theorem up_bound {ps : List Int} {n : Nat} (hn : ps.length = n) (hb : allB ps 0 n = true) {i : Nat} (hi : i < n) : ∀ s, 0 ≤ up ps ((i : Int) + 1) s ∧ up ps ((i : Int) + 1) s ≤ n
  | 0 => by simp only [up]; omega
  | s + 1 => by
    obtain ⟨h1, h2⟩ := up_bound hn hb hi s
    by_cases e : up ps ((i : Int) + 1) s = 0
    · simp only [up, e, if_true]; omega
    · rw [up_succ e]
      exact allB_nth hb (by omega)

end Go.Proofs.Ytakadjhbomggbaa
