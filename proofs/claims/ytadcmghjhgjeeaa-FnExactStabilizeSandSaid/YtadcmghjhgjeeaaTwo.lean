/- Two slices of one result: marked one after the other. -/
import Derived.Test.YtadcmghjhgjeeaaApp2
namespace Go.Proofs.Ytadcmghjhgjeeaa
open Go.RowKit

theorem Own.unmarkA {w w' : World} {B : Nat} {a a' : Option Addr} {n cap : Nat} {xs : List Int} (h : Own w B a n cap xs) (hm : Marked w w' a') (hap : Apart a a') : Own w' B a n cap xs := by
  obtain ⟨row, hgr, hr⟩ := hm
  cases row with
  | none => exact ⟨h.1.kept hgr ((Classical.em _).elim .inl fun h => .inr h), h.2⟩
  | some g =>
    obtain ⟨p, rfl, rfl⟩ := hr g rfl
    exact h.kept hgr (.inr fun q hq => hap q p hq rfl)
end Go.Proofs.Ytadcmghjhgjeeaa
