/- Rings: a key put in. -/
import Derived.Test.YtadcmghjhgjeeabImplRb
namespace Go.Proofs.Ytadcmghjhgjeeab
open Go.RowKit

theorem ringL_set {cs : List Int} {i : Nat} {x : Int} (h : i < cs.length) : (ringL cs).set (1 + i) x = ringL (cs.set i x) := by
  rw [Nat.add_comm]
  simp only [ringL, List.set_cons_succ, pad_set h, List.length_set]
theorem RingAt.put {w : World} {g i : Nat} {cs : List Int} (h : RingAt w g (ringL cs)) (hi : i < cs.length) (x : Int) : RingAt (w.setCell ⟨g, 1 + i, none⟩ (.int .i64 x)) g (ringL (cs.set i x)) := by
  have := h.set (i := 1 + i) x
  rwa [ringL_set hi] at this
theorem Rg.set {cs : List Int} (h : Rg cs) (i : Nat) (x : Int) : Rg (cs.set i x) := ⟨by simpa using h.lo, by simpa using h.hi⟩

set_option maxHeartbeats 2000000 in
theorem with_any (cs : List Int) (key : Int) (q : Nat) (w : World) (hr : Rg cs) (h0 : 0 ≤ key) (hq : freeAt cs q) :
    Calls Try.prog 91 #[.agg (ivals (ringL cs)), .int .i64 key] w fun e w' => e = .returned (.agg (ivals (ringL (cs.set (srch cs key) key)))) ∧ Below w.heap.size w w' := by
  have R := ringAt_new w hr.all
  have Z := ringAt_zero (w.alloc (.cells (ivals (ringL cs)) 69))
  have hb : Below w.heap.size w ((w.alloc (.cells (ivals (ringL cs)) 69)).alloc (.cells #[.int .i64 0, .int .i64 0, .int .i64 0, .int .i64 0, .int .i64 0, .int .i64 0, .int .i64 0, .int .i64 0, .int .i64 0, .int .i64 0, .int .i64 0, .int .i64 0, .int .i64 0] 69)) := ((Below.refl w.heap.size w).alloc (Nat.le_refl _) _).alloc (by simp) _
  replace R := R.alloc (.cells #[.int .i64 0, .int .i64 0, .int .i64 0, .int .i64 0, .int .i64 0, .int .i64 0, .int .i64 0, .int .i64 0, .int .i64 0, .int .i64 0, .int .i64 0, .int .i64 0, .int .i64 0] 69)
  have hlt := srch_lt (key := key) ⟨q, hq⟩
  have h12 := hr.hi
  have hi1 : ((srch cs key : Nat) : Int) < 12 := by omega
  have hi0 : (0 : Int) ≤ ((srch cs key : Nat) : Int) := by omega
  have hz1 : (w.alloc (.cells (ivals (ringL cs)) 69)).heap.size = w.heap.size + 1 := by simp
  rw [hz1] at Z
  have HV := hid hr.all
  clear hz1
  go_enter Try.func91, Try.ntmps91
  go_wp2_with (first | (refine wpList_load_ring rfl _ rfl _ _ rfl (by first | exact R | exact R3) ?_) | (refine wpList_store_ring rfl _ _ rfl _ _ _ rfl rfl Z3 HV2.out ?_) | (go_at_call 89; refine (search_any cs key q _ hr h0 hq).mono ?_; rintro e w' ⟨rfl, st⟩; have R2 := R.below st R.lt; have Z2 := Z.below st Z.lt; have hb2 := hb.trans (st.mono (by simp; omega)); have hcell := ring_cell R2 hlt h12; have hfr := R2.frozen (1 + srch cs key); have R3 := R2.put hlt key; have Z3 := Z2.setOther (a := ⟨w.heap.size, 1 + srch cs key, none⟩) (by simp) (.int .i64 key); have HV2 := hid (hr.set (srch cs key) key).all; clear R Z hb st))
  have hb3 := below_row (hb2.setCell (p := ⟨w.heap.size, 1 + srch cs key, none⟩) (by simp) (.int .i64 key)) (show w.heap.size ≤ w.heap.size + 1 by omega) (ivals (ringL (cs.set (srch cs key) key)))
  refine bodyPost_ret (v := .agg (ivals (ringL (cs.set (srch cs key) key)))) ?_ rfl ⟨rfl, hb3⟩
  exact results_cell_row rfl _ _ _ _ _ _ _ rfl (Z3.row HV2.out).hp Try.underlying69 rfl (by rw [size_ivals, HV2.out]; kernel_rfl)
end Go.Proofs.Ytadcmghjhgjeeab
