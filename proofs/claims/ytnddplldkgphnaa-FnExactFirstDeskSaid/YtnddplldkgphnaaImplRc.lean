/- Rings: a key put in. -/
import Derived.Test.YtnddplldkgphnaaImplRb
namespace Go.Proofs.Ytnddplldkgphnaa
open Go.RowKit

theorem ringL_set {cs : List Int} {i : Nat} {x : Int} (h : i < cs.length) : (ringL cs).set (1 + i) x = ringL (cs.set i x) := by
  rw [Nat.add_comm]
  simp only [ringL, List.set_cons_succ, pad_set h, List.length_set]
theorem RingAt.put {w : World} {g i : Nat} {cs : List Int} (h : RingAt w g (ringL cs)) (hi : i < cs.length) (x : Int) : RingAt (w.setCell ⟨g, 1 + i, none⟩ (.int .i64 x)) g (ringL (cs.set i x)) := by
  have := h.set (i := 1 + i) x
  rwa [ringL_set hi] at this
theorem Rg.set {cs : List Int} (h : Rg cs) (i : Nat) (x : Int) : Rg (cs.set i x) := ⟨by simpa using h.lo, by simpa using h.hi⟩

end Go.Proofs.Ytnddplldkgphnaa
