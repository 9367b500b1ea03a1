/- Chapter 4: parking functions of walks, by their contracts. -/
import Derived.Test.YtfkejkkplafciadImplWk
namespace Go.Proofs.Ytfkejkkplafciad
open Go.RowKit

/-- The first k numbers are the starts. -/
def StAt (hs ys : List Int) (k : Nat) : Prop := ∀ i, i < k → nth ys i = (i : Int) - nth hs i
theorem st_all {hs ys : List Int} {n : Nat} (h : StAt hs ys n) (hl : ys.length = n) : ys = startsTo hs n := ext_nth (by rw [hl, length_startsTo]) fun i hi => by rw [h i (by omega), nth_startsTo (by omega)]
theorem st_step {hs ys : List Int} {k n : Nat} (h : StAt hs ys k) (hl : ys.length = n) (hk : k < n) : StAt hs (ys.set k ((k : Int) - nth hs k)) (k + 1) := fun i hi => by
  rw [nth_set (by omega)]
  split
  · subst_vars; rfl
  · exact h i (by omega)

theorem powTo_step {hs ls : List Int} {k u : Nat} (hu : nth ls k = (u : Int)) : powTo hs ls (k + 1) = (powTo hs ls k).set u ((k : Int) - nth hs k) := by simp only [powTo]; rw [hu, Int.toNat_natCast]
theorem pow_zero {hs ls : List Int} {n : Nat} (hl : ls.length = n) : powTo hs ls 0 = List.replicate n 0 := by subst hl; rfl

end Go.Proofs.Ytfkejkkplafciad
