/- The program's functions of chapter 1, by their contracts: mixtures. -/
import Derived.Test.YtehdccfkkfkciabImplD
import Derived.StillTailTactics
namespace Go.Proofs.Ytehdccfkkfkciab
open Go.RowKit

/-- The first k numbers of a mixture are laid. -/
def Mixed (zs ys : List Int) (k : Nat) : Prop := ∀ i, i < k → nth ys i = nth zs i

theorem mix_nth {xs ys : List Int} {low : Bool} {k : Nat} (hx : k < xs.length) (hy : k < ys.length) : nth (mixWith xs ys low) k = if low then min (nth xs k) (nth ys k) else max (nth xs k) (nth ys k) := by
  simp [nth, mixWith, List.getElem?_zipWith, hx, hy]

end Go.Proofs.Ytehdccfkkfkciab
