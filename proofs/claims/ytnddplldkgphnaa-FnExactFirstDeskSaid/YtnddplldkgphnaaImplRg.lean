/- Rings of tables: what the program takes for a table. -/
import Derived.Test.YtnddplldkgphnaaImplRf
import Derived.Test.YtnddplldkgphnaaCont
import Derived.Laws.CopyOwn
import Derived.Deep.RegionLaw
namespace Go.Proofs.Ytnddplldkgphnaa
open Go.RowKit

theorem isKey_any (x : Int) (w : World) : Calls Try.prog 46 #[.int .i64 x] w fun e w' => e = .returned (.bool (inB x 0 999)) ∧ w = w' := by
  by_cases h1 : 0 ≤ x
  · by_cases h2 : x ≤ 999
    · have HR := hid (inB_iff.2 ⟨h1, h2⟩ : inB x 0 999 = true)
      go_enter Try.func46, Try.ntmps46
      go_wp2_with fail
      go_ret
      exact ⟨ret_bool (by rw [HR.out]), rfl⟩
    · have HR := hid (inB_not.2 (.inr (by omega)) : inB x 0 999 = false)
      go_enter Try.func46, Try.ntmps46
      go_wp2_with fail
      go_ret
      exact ⟨ret_bool (by rw [HR.out]), rfl⟩
  · have HR := hid (inB_not.2 (.inl (by omega)) : inB x 0 999 = false)
    go_enter Try.func46, Try.ntmps46
    go_wp2_with fail
    go_ret
    exact ⟨ret_bool (by rw [HR.out]), rfl⟩

/-- What comes of a table's cells. -/
def ringsOf (cs : List Int) : List Int × Bool := if rngB cs then (ringL cs, true) else (zeroR, false)
theorem splice_ring {cs : List Int} : splice ((cs.length : Int) :: List.replicate 12 (-1)) 1 cs = ringL cs := by
  unfold splice ringL pad
  simp only [List.take_succ_cons, List.take_zero, List.singleton_append, List.drop_succ_cons, Nat.add_comm 1, List.drop_replicate]
theorem splice_map {α β : Type} (f : α → β) (L cs : List α) (k : Nat) : splice (L.map f) k (cs.map f) = (splice L k cs).map f := by
  simp [splice]
theorem rng_no1 {cs : List Int} (h : inB cs.length 2 12 = false) : rngB cs = false := by simp [rngB, h]
theorem rng_no2 {cs : List Int} (h : hasB cs (-1) = false) : rngB cs = false := by simp [rngB, h]
theorem rng_no3 {cs : List Int} {c : Nat} (hc : c < cs.length) (h : cellRd cs c = false) : rngB cs = false := by
  have : ((List.range cs.length).all fun c => cellRd cs c) = false := by
    rw [List.all_eq_false]
    exact ⟨c, by simpa using hc, by simp [h]⟩
  simp [rngB, this]
theorem rng_yes {cs : List Int} (h1 : inB cs.length 2 12 = true) (h2 : hasB cs (-1) = true) (h3 : ∀ c, c < cs.length → cellRd cs c = true) : rngB cs = true := by
  simp only [rngB, h1, h2, Bool.true_and, List.all_eq_true, List.mem_range]
  exact h3
theorem cellRd_free {cs : List Int} {c : Nat} (h : nth cs c = -1) : cellRd cs c = true := by simp [cellRd, h]
theorem cellRd_key {cs : List Int} {c : Nat} (h : nth cs c ≠ -1) : cellRd cs c = (inB (nth cs c) 0 999 && decide (srch cs (nth cs c) = c)) := by simp [cellRd, h]

/-- A ring laid into a variable of its own. -/
theorem ring_stored (w1 : World) {xs : List Int} (hl : xs.length = 13) : ∃ V, (w1.alloc (.cells #[.int .i64 0, .int .i64 0, .int .i64 0, .int .i64 0, .int .i64 0, .int .i64 0, .int .i64 0, .int .i64 0, .int .i64 0, .int .i64 0, .int .i64 0, .int .i64 0, .int .i64 0] 52)).setRow w1.heap.size (ivals xs) = V ∧ RingAt V w1.heap.size xs ∧ Below w1.heap.size w1 V ∧ V.heap.size = w1.heap.size + 1 :=
  ⟨_, rfl, (ringAt_zero w1).row hl, below_row ((Below.refl _ w1).alloc (Nat.le_refl _) _) (Nat.le_refl _) _, by simp⟩

set_option maxRecDepth 100000 in
set_option maxHeartbeats 4000000 in
theorem ringOf_any (a : Option Addr) (n cap : Nat) (cs : List Int) (w : World) (h : Has w a n cap cs) :
    Calls Try.prog 36 #[.agg #[.slice a n cap]] w fun e w' => e = .returned (.tuple #[.agg (ivals (ringsOf cs).1), .bool (ringsOf cs).2]) ∧ Below w.heap.size w w' := by
  obtain rfl := h.len
  have hle := h.le
  obtain ⟨W, hW⟩ : ∃ W, (w.alloc (.cells #[.slice a cs.length cap] 24)).alloc (.cells #[.int .i64 0, .int .i64 0, .int .i64 0, .int .i64 0, .int .i64 0, .int .i64 0, .int .i64 0, .int .i64 0, .int .i64 0, .int .i64 0, .int .i64 0, .int .i64 0, .int .i64 0] 52) = W := ⟨_, rfl⟩
  have hbW : Below w.heap.size w W := by rw [← hW]; exact ((Below.refl w.heap.size w).alloc (Nat.le_refl _) _).alloc (by simp) _
  have hsW : W.heap.size = w.heap.size + 2 := by rw [← hW]; simp
  have C : CellAt W w.heap.size (.slice a cs.length cap) := by rw [← hW]; exact (cellAt_new w _ _).alloc _
  have Z : RingAt W (w.heap.size + 1) zeroR := by
    rw [← hW]
    have := ringAt_zero (w.alloc (.cells #[.slice a cs.length cap] 24))
    simpa using this
  have hH := h.below hbW (Nat.le_refl _)
  obtain ⟨y1, y2⟩ := id C
  go_enter Try.func36, Try.ntmps36
  go_wp2_with fail
  clear hW
  refine (newRing_any _ _).mono ?_
  rintro e w1 ⟨rfl, st⟩
  have s1 := st.size
  replace C := C.below st C.lt
  replace Z := Z.below st Z.lt
  replace hH := hH.below st (Nat.le_refl _)
  replace hbW := hbW.trans (st.mono (by omega))
  clear st y1 y2
  have Zn := ringAt_zero w1
  by_cases h1 : inB cs.length 2 12 = true
  · have h12 := inB_iff.1 h1
    have HR : Hid (newOf (cs.length : Int) = (ringL (emptyL cs.length), true)) := hid (by unfold newOf; rw [if_pos h1, Int.toNat_natCast])
    have HL := hid (Rg.mk (cs := emptyL cs.length) (by rw [length_emptyL]; omega) (by rw [length_emptyL]; omega)).all
    obtain ⟨V, hV, RV, hbV, hsV⟩ := ring_stored w1 HL.out
    replace C := C.below hbV C.lt
    replace Z := Z.below hbV Z.lt
    have hlz := Z.lt
    replace hH := hH.below hbV (Nat.le_refl _)
    replace hbW := hbW.trans (hbV.mono (by omega))
    obtain ⟨y1, y2⟩ := id C
    have H1 := hid h1
    clear hbV h1
    rw [HR.out]
    by_cases h2 : hasB cs (-1) = true
    · have H2 := hid h2
      go_wp2_with (first | (refine wpList_store_ring rfl _ _ rfl _ _ _ rfl rfl Zn HL.out ?_) | (go_at_call 45; refine (contains5_any _ _ _ _ _ _ hH).mono ?_; rintro e w' ⟨rfl, rfl⟩; rw [H2.out]))
      obtain ⟨b, off, rfl, hbw, -⟩ := h.2.2.2.2 (by omega)
      obtain ⟨b2, off2, e2, -, hcc⟩ := hH.2.2.2.2 (by omega)
      cases e2
      have hsz : (Try.prog.info? 3).map (·.size) = some 1 := by kernel_rfl
      have SRC : Hid (∀ j v, (cs.map (Value.int .i64))[j]? = some v → V.cell? ((⟨b, off, none⟩ : Addr).add j) = some v) := hid (by
        intro j v hv
        rw [Addr.add_mid]
        rw [List.getElem?_map] at hv
        obtain ⟨x, hx, rfl⟩ := Option.map_eq_some_iff.1 hv
        have hj := (List.getElem?_eq_some_iff.1 hx).1
        rw [hcc j (by omega)]
        simp [nth, hx])
      have HV2 : Hid (V.heap[w1.heap.size]? = some (.cells ((((cs.length : Int) :: List.replicate 12 (-1)).map (Value.int .i64))).toArray 52 (0, 0))) := hid (by
        have := RV.hp
        rw [ringL, pad_empty (by omega), length_emptyL] at this
        exact this)
      clear hcc HL HR hV
      go_region_law (refine step_copy_splice rfl (.tmp 25) (.tmp 27) _ _ rfl 3 Try.underlying22 hsz (some ⟨w1.heap.size, 1, none⟩) (some ⟨b, off, none⟩) 12 12 cs.length cap (by simp [Act.eval]) (by simp [Act.eval]) w1.heap.size 1 _ _ HV2.out (cs.map (Value.int .i64)) (by rw [List.length_map]; exact (Nat.min_eq_left (by omega)).symm) (fun _ => ⟨rfl, _, rfl, SRC.out⟩) (by simp; omega) (by intro v hv; simp at hv; obtain ⟨x, _, rfl⟩ := hv; rfl) w1.heap.size V ((Below.refl _ V).drew) (Nat.le_refl _) ?_; intro w2 hw2 hb2)
      have hrg : Rg cs := ⟨by omega, by omega⟩
      have R2 : RingAt w2 w1.heap.size (ringL cs) := ⟨by
        have := hw2.out
        rw [splice_map, splice_ring] at this
        exact this, hrg.all⟩
      have Z2 := Z.below hb2 (by omega)
      have hH2 := hH.belowB hb2 (fun p hp => by cases hp; show b < _; omega)
      have hbW2 := hbW.trans (hb2.mono (by omega))
      obtain ⟨z1, z2⟩ := C.below hb2 (by omega)
      clear SRC HV2 hw2 hb2 Z RV C y1 y2 hH Zn hbW
      obtain ⟨q, hq⟩ := mem_nth (hasB_iff.1 h2)
      have HQ : Hid (freeAt cs q) := hid hq
      have hv := ring_val (m := (cs.length : Int)) hrg.of.len
      clear hq h2
      go_wp2_with fail
      clear z1 z2
      go_loopw [32] (fun i wr => ∃ k : Nat, i = .int .i64 k ∧ k ≤ cs.length ∧ Hid (∀ c, c < k → cellRd cs c = true) ∧ RingAt wr w1.heap.size (ringL cs) ∧ RingAt wr (w.heap.size + 1) zeroR ∧ Has wr (some ⟨b, off, none⟩) cs.length cap cs ∧ Below w.heap.size w wr) (fun i _ => cs.length - (intOf i).toNat)
      case atStart => exact ⟨0, rfl, by omega, hid (fun c hc => by omega), R2, Z2, hH2, hbW2⟩
      case round =>
        clear R2 Z2 hH2 hbW2
        obtain ⟨k, rfl, hk, HA, R, Z, hH, hb⟩ := hrel
        by_cases hlt : k < cs.length
        · obtain ⟨b', off', hba, hbb, hcc⟩ := hH.2.2.2.2 (by omega)
          cases hba
          have hck : wr.cell? ⟨b, off + k, none⟩ = some (.int .i64 (nth cs k)) := hcc k hlt
          clear hcc
          by_cases he : nth cs k = -1
          · have hb1 : (nth cs k != -1) = false := by simp [he]
            have HC := hid (cellRd_free he)
            clear he
            go_wp2_with fail
            go_roundw
            case rel => exact ⟨k + 1, by go_num, by omega, hid (fun c hc => by rcases Nat.lt_succ_iff_lt_or_eq.1 hc with h1 | rfl; exact HA.out c h1; exact HC.out), R, Z, hH, hb⟩
            case measure => simp [intOf]; omega
          · have hb1 : (nth cs k != -1) = true := by simp [he]
            have HC := hid (cellRd_key he)
            clear he
            by_cases hkey : inB (nth cs k) 0 999 = true
            · have HK := hid hkey
              have hk0 := (inB_iff.1 hkey).1
              clear hkey
              obtain ⟨c0, c1, c2, c3, c4, c5, c6, c7, c8, c9, c10, c11, c12⟩ := ring_out R
              have hR := R.lt
              by_cases hs : srch cs (nth cs k) = k
              · have hb2 : (((srch cs (nth cs k) : Nat) : Int) != (k : Int)) = false := by simp [hs]
                have HC2 : Hid (cellRd cs k = true) := hid (by rw [HC.out, HK.out]; simp [hs])
                clear hs
                go_wp2_with (first | (go_at_call 46; refine (isKey_any _ _).mono ?_; rintro e w' ⟨rfl, rfl⟩; rw [HK.out]) | (go_at_call 47; refine (search_any cs (nth cs k) q _ hrg hk0 HQ.out).mono ?_; rintro e w' ⟨rfl, st⟩; have s5 := st.size; have R3 := R.below st R.lt; have Z3 := Z.below st Z.lt; have hH3 := hH.below st (Nat.le_refl _); have hb3 := hb.trans (st.mono hb.size)))
                go_roundw
                case rel => exact ⟨k + 1, by go_num, by omega, hid (fun c hc => by rcases Nat.lt_succ_iff_lt_or_eq.1 hc with h1 | rfl; exact HA.out c h1; exact HC2.out), R3, Z3, hH3, hb3⟩
                case measure => simp [intOf]; omega
              · have hb2 : (((srch cs (nth cs k) : Nat) : Int) != (k : Int)) = true := by
                  rw [bne_iff_ne]
                  omega
                have HN : Hid (rngB cs = false) := hid (rng_no3 hlt (by rw [HC.out, HK.out]; simp [hs]))
                clear hs
                go_wp2_with (first | (refine wpList_store_ring rfl _ _ rfl _ _ zeroR rfl rfl Z3 rfl ?_) | (go_at_call 46; refine (isKey_any _ _).mono ?_; rintro e w' ⟨rfl, rfl⟩; rw [HK.out]) | (go_at_call 47; refine (search_any cs (nth cs k) q _ hrg hk0 HQ.out).mono ?_; rintro e w' ⟨rfl, st⟩; have s5 := st.size; have Z3 := Z.below st Z.lt; have hb3 := hb.trans (st.mono hb.size)))
                refine bodyPost_ret (v := .tuple #[.agg (ivals zeroR), .bool false]) (results_ring2 rfl _ _ _ _ _ rfl rfl (Z3.row (ys := zeroR) rfl)) rfl ⟨by simp [ringsOf, HN.out], below_row hb3 (by omega) _⟩
            · have HK := hid (Bool.eq_false_iff.2 hkey)
              have HN : Hid (rngB cs = false) := hid (rng_no3 hlt (by rw [HC.out, HK.out]; rfl))
              clear hkey
              go_wp2_with (first | (refine wpList_store_ring rfl _ _ rfl _ _ zeroR rfl rfl Z rfl ?_) | (go_at_call 46; refine (isKey_any _ _).mono ?_; rintro e w' ⟨rfl, rfl⟩; rw [HK.out]))
              refine bodyPost_ret (v := .tuple #[.agg (ivals zeroR), .bool false]) (results_ring2 rfl _ _ _ _ _ rfl rfl (Z.row (ys := zeroR) rfl)) rfl ⟨by simp [ringsOf, HN.out], below_row hb (by omega) _⟩
        · obtain rfl : k = cs.length := by omega
          have HY : Hid (rngB cs = true) := hid (rng_yes H1.out H2.out (fun c hc => HA.out c (by omega)))
          have HLr := hid hrg.all
          go_wp2_with (first | (refine wpList_load_ring rfl _ rfl _ _ rfl R ?_) | (refine wpList_store_ring rfl _ _ rfl _ _ (ringL cs) rfl rfl Z HLr.out ?_))
          refine bodyPost_ret (v := .tuple #[.agg (ivals (ringL cs)), .bool true]) (results_ring2 rfl _ _ _ _ _ rfl rfl (Z.row HLr.out)) rfl ⟨by simp [ringsOf, HY.out], below_row hb (by omega) _⟩
    · have HN := hid (rng_no2 (Bool.eq_false_iff.2 h2))
      have H2 := hid (Bool.eq_false_iff.2 h2)
      clear h2
      go_wp2_with (first | (refine wpList_store_ring rfl _ _ rfl _ _ _ rfl rfl Zn HL.out ?_) | (refine wpList_store_ring rfl _ _ rfl _ _ zeroR rfl rfl Z rfl ?_) | (go_at_call 45; refine (contains5_any _ _ _ _ _ _ hH).mono ?_; rintro e w' ⟨rfl, rfl⟩; rw [H2.out]))
      refine bodyPost_ret (v := .tuple #[.agg (ivals zeroR), .bool false]) (results_ring2 rfl _ _ _ _ _ rfl rfl (Z.row (ys := zeroR) rfl)) rfl ⟨by simp [ringsOf, HN.out], below_row hbW (by omega) _⟩
  · have HN := hid (rng_no1 (Bool.eq_false_iff.2 h1))
    have HR : Hid (newOf (cs.length : Int) = (zeroR, false)) := hid (by unfold newOf; rw [if_neg h1])
    obtain ⟨V, hV, RV, hbV, hsV⟩ := ring_stored w1 (xs := zeroR) rfl
    replace Z := Z.below hbV Z.lt
    replace hbW := hbW.trans (hbV.mono (by omega))
    clear hbV h1
    rw [HR.out]
    go_wp2_with (first | (refine wpList_store_ring rfl _ _ rfl _ _ zeroR rfl rfl Zn rfl ?_) | (refine wpList_store_ring rfl _ _ rfl _ _ zeroR rfl rfl Z rfl ?_))
    refine bodyPost_ret (v := .tuple #[.agg (ivals zeroR), .bool false]) (results_ring2 rfl _ _ _ _ _ rfl rfl (Z.row (ys := zeroR) rfl)) rfl ⟨by simp [ringsOf, HN.out], below_row hbW (by omega) _⟩
end Go.Proofs.Ytnddplldkgphnaa
