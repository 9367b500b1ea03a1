/- IsTable: the model's and the program's function. -/
import Derived.Test.YtnddplldkgphnaaTbl
import Derived.Test.YtnddplldkgphnaaSpecPr
import Derived.Test.YtnddplldkgphnaaImplRg
namespace Go.Proofs.Ytnddplldkgphnaa
open Go.RowKit

theorem rings_yes {cs : List Int} (h : tblB cs = true) : ringsOf cs = (ringL cs, true) := by unfold ringsOf; rw [rng_tbl, if_pos h]
theorem rings_no {cs : List Int} (h : tblB cs = false) : ringsOf cs = (zeroR, false) := by unfold ringsOf; rw [rng_tbl, h]; rfl
theorem rings_len (cs : List Int) : (ringsOf cs).1.length = 13 := by
  cases h : tblB cs
  · rw [rings_no h]; rfl
  · rw [rings_yes h]
    have := tb_iff.1 h
    exact (Rg.mk (by have := this.lo; omega) this.hi).all
theorem rings_ok (cs : List Int) : (ringsOf cs).2 = tblB cs := by
  cases h : tblB cs
  · rw [rings_no h]
  · rw [rings_yes h]
theorem implIsTable_any (a : Option Addr) (n cap : Nat) (cs : List Int) (w : World) (h : Has w a n cap cs) :
    Calls Try.prog 28 #[.agg #[.slice a n cap]] w (PostBool w (tblB cs)) := by
  obtain ⟨W, hW, C, hbW, hsW⟩ := boxed w (.slice a n cap) 24
  have hH := h.below hbW (Nat.le_refl _)
  obtain ⟨y1, y2⟩ := id C
  have HL := hid (rings_len cs)
  have HO := hid (rings_ok cs)
  obtain ⟨⟨rs, ok⟩, hr⟩ : ∃ r, ringsOf cs = r := ⟨_, rfl⟩
  rw [hr] at HL HO
  have HR := hid hr
  clear hr
  go_enter Try.func28, Try.ntmps28
  go_wp2_with (first | (refine wpList_store_ring rfl _ _ rfl _ _ rs rfl rfl (ringAt_zero _) HL.out ?_) | (go_at_call 36; refine (ringOf_any _ _ _ _ _ hH).mono ?_; rintro e w' ⟨rfl, st⟩; rw [HR.out]))
  go_ret
  exact postBool HO.out (below_row ((hbW.trans (st.mono hbW.size)).alloc (by have := st.size; omega) _) (by have := st.size; omega) _)
end Go.Proofs.Ytnddplldkgphnaa
