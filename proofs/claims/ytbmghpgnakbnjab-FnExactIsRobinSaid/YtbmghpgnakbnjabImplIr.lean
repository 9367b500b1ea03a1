/- IsRobin: the program's function. -/
import Derived.Test.YtbmghpgnakbnjabSpecIr
namespace Go.Proofs.Ytbmghpgnakbnjab
open Go.RowKit

@[go_sem] theorem size_ivals13 {ys : List Int} (h : ys.length = 13) : (ivals ys).size = 13 := by rw [size_ivals, h]
/-- A store of a ring into a new one. -/
@[go_sem] theorem store_new {w : World} {g : Nat} {ys : List Int} (h : RingAt w g zeroR) (hy : ys.length = 13) : (storeCells ⟨g, 0, none⟩ (ivals ys).toList 0).run Try.prog w = .ok () (w.setRow g (ivals ys)) := h.store hy
theorem pad_inj {xs ys : List Int} (hl : xs.length = ys.length) : (ringL xs).tail = (ringL ys).tail ↔ xs = ys := by
  show pad xs = pad ys ↔ xs = ys
  unfold pad
  rw [hl]
  exact List.append_left_inj _
set_option maxRecDepth 100000 in
set_option maxHeartbeats 4000000 in
theorem implIsRobin_any (a : Option Addr) (n cap : Nat) (cs : List Int) (w : World) (h : Has w a n cap cs) :
    Calls Try.prog 33 #[.agg #[.slice a n cap]] w (PostBools w (isRobOf cs)) := by
  obtain ⟨W, hW, C, hbW, hsW⟩ := boxed w (.slice a n cap) 28
  have hH := h.below hbW (Nat.le_refl _)
  obtain ⟨y1, y2⟩ := id C
  by_cases hg : tblB cs = true
  · have HR := hid (isRobOf_yes hg)
    have HRO := hid (rings_yes hg)
    have ht := tb_iff.1 hg
    have h12 := ht.hi
    have hlo := ht.lo
    have hrg : Rg cs := ⟨by omega, h12⟩
    have HV := hid hrg.all
    have hk := ht.keys_ok
    have HF := hid (filled_rob hk)
    have hlen := length_robL hk
    have hrg2 : Rg (robL cs.length (keysL cs)) := ⟨by omega, by omega⟩
    have HV2 := hid hrg2.all
    have HLN := hid hlen
    have hv := ring_val (m := (cs.length : Int)) hrg.of.len
    clear hg hk hlen
    go_enter Try.func33, Try.ntmps33
    go_wp2_with fail
    refine (ringOf_any _ _ _ _ _ hH).mono ?_
    rintro e w1 ⟨rfl, st⟩
    rw [HRO.out]
    have s1 := st.size
    obtain ⟨V, hV, RV, hbV, hsV⟩ := ring_stored w1 HV.out
    have Zn := ringAt_zero w1
    have hb2 := (hbW.trans (st.mono (by omega))).trans (hbV.mono (by omega))
    have hVs := hb2.size
    clear st hbV hbW y1 y2 C hH hW
    go_upto_region 4 with (refine wpList_store_ring rfl _ _ rfl _ _ _ rfl rfl Zn HV.out ?_)
    go_cut [5, 6] (fun ok p wx => ∃ g, ok = .bool true ∧ p = .pointer (some ⟨g, 0, none⟩) ∧ RingAt wx g (ringL (robL cs.length (keysL cs))) ∧ RS V w1.heap.size (ringL cs) wx)
    case first =>
      have hRd : RS V w1.heap.size (ringL cs) V.drew := RS.drew ⟨RV, Below.refl _ _⟩
      obtain ⟨d0, d1, d2, d3, d4, d5, d6, d7, d8, d9, d10, d11, d12⟩ := ring_out hRd.ring
      have hRA : RS V w1.heap.size (ringL cs) (V.alloc (.cells #[.int .i64 0, .int .i64 0, .int .i64 0, .int .i64 0, .int .i64 0, .int .i64 0, .int .i64 0, .int .i64 0, .int .i64 0, .int .i64 0, .int .i64 0, .int .i64 0, .int .i64 0] 50)).drew := (RS.step ⟨RV, Below.refl _ _⟩ ((Below.refl V.heap.size V).alloc (Nat.le_refl _) _)).drew
      obtain ⟨e0, e1, e2, e3, e4, e5, e6, e7, e8, e9, e10, e11, e12⟩ := ring_out hRA.ring
      have hRB : RingAt (V.alloc (.cells #[.int .i64 0, .int .i64 0, .int .i64 0, .int .i64 0, .int .i64 0, .int .i64 0, .int .i64 0, .int .i64 0, .int .i64 0, .int .i64 0, .int .i64 0, .int .i64 0, .int .i64 0] 50)) w1.heap.size (ringL cs) := RV.alloc _
      obtain ⟨f0, f1, f2, f3, f4, f5, f6, f7, f8, f9, f10, f11, f12⟩ := ring_out hRB
      have ZV : RingAt (V.alloc (.cells #[.int .i64 0, .int .i64 0, .int .i64 0, .int .i64 0, .int .i64 0, .int .i64 0, .int .i64 0, .int .i64 0, .int .i64 0, .int .i64 0, .int .i64 0, .int .i64 0, .int .i64 0] 50)).drew (w1.heap.size + 1) zeroR := by
        rw [← hsV]
        exact ⟨(ringAt_zero V).hp, (ringAt_zero V).len⟩
      have hl2 := HV2.out
      go_region_with (first | (go_at_call 59; refine (keys_any cs _ hrg).mono ?_; rintro e w2 ⟨a2, m2, cap2, rfl, own2, hb2'⟩; (first | (with_reducible have hS2 := hRd.step hb2') | (with_reducible have hS2 := hRA.step hb2'; have ZA := ZV.below hb2' ZV.lt)); have sz2 := hS2.st.size; have q0 := (ring_out hS2.ring).1; have q1 := (ring_out (hS2.ring.alloc (.cells #[.int .i64 0, .int .i64 0, .int .i64 0, .int .i64 0, .int .i64 0, .int .i64 0, .int .i64 0, .int .i64 0, .int .i64 0, .int .i64 0, .int .i64 0, .int .i64 0, .int .i64 0] 50))).1; have ZW := ringAt_zero w2) | (go_at_call 54; (first | (with_reducible refine (filled_any _ _ wayIn_robin _ _ _ _ _ _ own2.has).mono ?_) | (with_reducible refine (filled_any _ _ wayIn_robin _ _ _ _ _ _ (own2.has.below ((Below.refl w2.heap.size w2).alloc (Nat.le_refl _) _) (Nat.le_refl _))).mono ?_)); rintro e w3 ⟨rfl, hb3'⟩; rw [HF.out]; (first | (with_reducible have hS3 := hS2.step hb3'; (try have ZC := ZA.below hb3' ZA.lt)) | (with_reducible have hS3 := (hS2.step ((Below.refl w2.heap.size w2).alloc (Nat.le_refl _) _)).step hb3'; have ZC := ZW.below hb3' (by simp))); have sz3 := hS3.st.size; have ZX := ringAt_zero w3))
      all_goals
        go_wp2_with fail
        go_meet
        first
          | (with_reducible exact ⟨_, rfl, rfl, ZC.row HV2.out, ⟨hS3.ring.rowOther (by omega) _, below_row hS3.st (by omega) _⟩⟩)
          | (with_reducible exact ⟨_, rfl, rfl, ZX.row HV2.out, ⟨(hS3.step ((Below.refl w3.heap.size w3).alloc (Nat.le_refl _) _)).ring.rowOther (by omega) _, below_row (hS3.step ((Below.refl w3.heap.size w3).alloc (Nat.le_refl _) _)).st (by omega) _⟩⟩)
    case rest =>
      obtain ⟨g, rfl, rfl, R2, hS⟩ := hcut
      have R1 := hS.ring
      have hin := pad_inj HLN.out
      go_wp2_with (first | (refine wpList_load_cells rfl _ rfl _ _ rfl R2 ?_) | (refine wpList_load_cells rfl _ rfl _ _ rfl R1 ?_) | (refine wpList_eql_arr rfl _ _ _ rfl rfl rfl (by simp [R2.len]) (by simp [R1.len]) ?_))
      go_ret2
      exact postBools HR.out (hb2.trans (hS.st.mono hVs))
  · have HRO := hid (rings_no (Bool.eq_false_iff.2 hg))
    have HR := hid (isRobOf_no (Bool.eq_false_iff.2 hg))
    clear hg
    go_enter Try.func33, Try.ntmps33
    go_wp2_with fail
    refine (ringOf_any _ _ _ _ _ hH).mono ?_
    rintro e w1 ⟨rfl, st⟩
    rw [HRO.out]
    have s1 := st.size
    obtain ⟨V, hV, RV, hbV, hsV⟩ := ring_stored w1 (xs := zeroR) rfl
    have Zn := ringAt_zero w1
    have hb2 := (hbW.trans (st.mono (by omega))).trans (hbV.mono (by omega))
    clear st hbV hbW
    go_wp2_with (refine wpList_store_ring rfl _ _ rfl _ _ _ rfl rfl Zn rfl ?_)
    go_ret2
    exact postBools HR.out hb2
end Go.Proofs.Ytbmghpgnakbnjab
