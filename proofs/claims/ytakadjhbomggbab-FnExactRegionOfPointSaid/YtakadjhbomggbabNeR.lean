/- A store into another block. -/
import Derived.Test.YtakadjhbomggbabHelp
import Derived.Test.YtakadjhbomggbabLawKit
namespace Go.Proofs.Ytakadjhbomggbab
open Go.RowKit

theorem Own.setNeR {w : World} {B g i n cap : Nat} {a : Option Addr} {xs : List Int} (h : Own w B a n cap xs) (hg : ∀ p, a = some p → p.block ≠ g) (u : Value) : Own (w.setCell ⟨g, i, none⟩ u) B a n cap xs := by
  refine ⟨?_, h.2⟩
  have h1 := h.1
  refine ⟨by simpa using h1.1, ?_⟩
  rcases h1.2 with h2 | ⟨k, cap', cur, hv, hk, hh, r⟩
  · exact .inl h2
  · refine .inr ⟨k, cap', cur, hv, hk, ?_, r⟩
    simp at hv
    have := hg _ hv.1
    rw [Below.heap_setCell _ _ _ _ (by simpa using this)]
    exact hh
theorem BlkLt.mono {a : Option Addr} {K K' : Nat} (h : BlkLt a K) (hK : K ≤ K') : BlkLt a K' := fun p hp => Nat.lt_of_lt_of_le (h p hp) hK
theorem BlkLt.neR {a : Option Addr} {K g : Nat} (h : BlkLt a K) (hg : K ≤ g) : ∀ p, a = some p → p.block ≠ g := fun p hp e => by have := h p hp; omega
theorem BlkGe.neR {a : Option Addr} {K g : Nat} (h : BlkGe a K) (hg : g < K) : ∀ p, a = some p → p.block ≠ g := fun p hp e => by have := h p hp; omega

end Go.Proofs.Ytakadjhbomggbab
