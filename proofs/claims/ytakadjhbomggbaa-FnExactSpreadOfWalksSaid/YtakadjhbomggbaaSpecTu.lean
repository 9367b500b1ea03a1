/- The model's functions of chapter 3, by their contracts: breadth orders, trees of parking functions, degrees, depths. -/
import Derived.Test.YtakadjhbomggbaaSpecTs
namespace Go.Proofs.Ytakadjhbomggbaa
open Go.RowKit

def brOf (xs : List Int) : List Int × Bool := if treeB xs then (brOrder xs, true) else ([], false)
def tpOf (xs : List Int) : List Int × Bool := if isPark xs then (tpL xs, true) else ([], false)
def potOf (xs : List Int) : List Int × Bool := if treeB xs then (potL xs, true) else ([], false)
def degOf (xs : List Int) : List Int × Bool := if treeB xs then (degL xs, true) else ([], false)
def leavesOf (xs : List Int) : List Int × Bool := if treeB xs then (leavesL xs, true) else ([], false)

/-- What lies in a block below K is left in peace. -/
theorem own_kept {w w' : World} {B K g n cap : Nat} {xs : List Int} (h : Own w B (some ⟨g, 0, none⟩) n cap xs) (hb : Below K w w') (hg : g < K) : Own w' B (some ⟨g, 0, none⟩) n cap xs := by
  obtain ⟨⟨h1, h2⟩, h3⟩ := h
  refine ⟨⟨h1, ?_⟩, h3⟩
  rcases h2 with h2 | ⟨g', cap', cur, hv, hg', hh, r⟩
  · exact .inl h2
  · have hv' := hv
    simp at hv'
    obtain ⟨rfl, _⟩ := hv'
    exact .inr ⟨g, cap', cur, hv, hg', by rw [hb.block g hg]; exact hh, r⟩

end Go.Proofs.Ytakadjhbomggbaa
