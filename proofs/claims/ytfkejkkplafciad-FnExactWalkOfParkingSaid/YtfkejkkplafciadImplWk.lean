/- Chapter 4: walks, the program's functions that tell them, by their contracts. -/
import Derived.Test.YtfkejkkplafciadSpecWk
namespace Go.Proofs.Ytfkejkkplafciad
open Go.RowKit

/-- What 'rowsOf' comes to. -/
def RowsPost (w : World) (hs ls : List Int) (a b : Option Addr) (n cap m cap' : Nat) (e : Ending) (w' : World) : Prop :=
  ((walkB hs ls = true ∧ e = .returned (.tuple #[.agg #[.slice a n cap, .slice b m cap'], .bool true])) ∨ (walkB hs ls = false ∧ e = .returned (.tuple #[.agg #[.slice none 0 0, .slice none 0 0], .bool false]))) ∧ Below w.heap.size w w'
theorem rowsPost_no {w w' : World} {hs ls : List Int} {a b : Option Addr} {n cap m cap' : Nat} (h : walkB hs ls = false) (hb : Below w.heap.size w w') : RowsPost w hs ls a b n cap m cap' (.returned (.tuple #[.agg #[.slice none 0 0, .slice none 0 0], .bool false])) w' := ⟨.inr ⟨h, rfl⟩, hb⟩
theorem rowsPost_yes {w w' : World} {hs ls : List Int} {a b : Option Addr} {n cap m cap' : Nat} (h : walkB hs ls = true) (hb : Below w.heap.size w w') : RowsPost w hs ls a b n cap m cap' (.returned (.tuple #[.agg #[.slice a n cap, .slice b m cap'], .bool true])) w' := ⟨.inl ⟨h, rfl⟩, hb⟩

end Go.Proofs.Ytfkejkkplafciad
