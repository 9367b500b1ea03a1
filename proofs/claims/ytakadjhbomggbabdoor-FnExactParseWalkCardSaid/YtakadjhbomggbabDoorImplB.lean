/- The program's drive: 'park' over a street of closures. -/
import Derived.Test.YtakadjhbomggbabDoorImplA
import Derived.Deep.LoopGhost
namespace Go.Proofs.YtakadjhbomggbabDoor
open Go.RowKit

/-- What parking comes to. -/
def parked (xs : List Int) (p : Int) : List Int × Bool := if allPark p xs then (drive p xs, true) else ([], false)

theorem grown_cell {w w' : World} {g b i : Nat} {v : Value} (hg : w.grownBy w' (some g)) (hc : w.cell? ⟨b, i, none⟩ = some v) (hne : b ≠ g) : w'.cell? ⟨b, i, none⟩ = some v := hg.cell hc (by simpa using hne)

theorem grown_trans {w w' w'' : World} {g : Option Nat} (h : w.grownBy w' g) (h' : w'.grownBy w'' g) : w.grownBy w'' g :=
  ⟨h'.os.trans h.os, h'.tape.trans h.tape, h'.output.trans h.output, Nat.le_trans h.size h'.size, fun j hj hne => (h'.block j (Nat.lt_of_lt_of_le hj h.size) hne).trans (h.block j hj hne)⟩

end Go.Proofs.YtakadjhbomggbabDoor
