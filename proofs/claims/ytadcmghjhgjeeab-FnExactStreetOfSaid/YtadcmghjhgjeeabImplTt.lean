/- IsTable: the model's and the program's function. -/
import Derived.Test.YtadcmghjhgjeeabTbl
import Derived.Test.YtadcmghjhgjeeabSpecPr
import Derived.Test.YtadcmghjhgjeeabImplRg
namespace Go.Proofs.Ytadcmghjhgjeeab
open Go.RowKit

theorem rings_yes {cs : List Int} (h : tblB cs = true) : ringsOf cs = (ringL cs, true) := by unfold ringsOf; rw [rng_tbl, if_pos h]
theorem rings_no {cs : List Int} (h : tblB cs = false) : ringsOf cs = (zeroR, false) := by unfold ringsOf; rw [rng_tbl, h]; rfl
theorem rings_len (cs : List Int) : (ringsOf cs).1.length = 13 := by
  cases h : tblB cs
  · rw [rings_no h]; rfl
  · rw [rings_yes h]
    have := tb_iff.1 h
    exact (Rg.mk (by have := this.lo; omega) this.hi).all
theorem rings_ok (cs : List Int) : (ringsOf cs).2 = tblB cs := by
  cases h : tblB cs
  · rw [rings_no h]
  · rw [rings_yes h]
end Go.Proofs.Ytadcmghjhgjeeab
