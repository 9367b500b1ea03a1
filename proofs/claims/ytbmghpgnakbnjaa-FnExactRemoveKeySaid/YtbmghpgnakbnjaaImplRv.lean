/- A cell's key taken out, as the program does it. -/
import Derived.Test.YtbmghpgnakbnjaaImplRo
namespace Go.Proofs.Ytbmghpgnakbnjaa
open Go.RowKit

theorem ringL_congr {n : Nat} {cs : List Int} (h : cs.length = n) : ringL cs = (n : Int) :: pad cs := by rw [← h]; rfl
/-- On the way behind a cell that became free. -/
structure Rm (n q : Nat) (R cs : List Int) (free c : Nat) : Prop where
  len : cs.length = n
  lt : c < n
  fl : free < n
  at_q : freeAt cs q
  ne : q ≠ free
  bd : ∀ i, i < n → -1 ≤ nth cs i
  at_ : ∃ f, wayN n c q ≤ f ∧ rmGo n f cs free c = R
theorem Rm.start {cs : List Int} {c q : Nat} (hc : c < cs.length) (hq : freeAt cs q) (hne : q ≠ c) (hb : ∀ i, i < cs.length → -1 ≤ nth cs i) : Rm cs.length q (rmL cs c) (cs.set c (-1)) c ((c + 1) % cs.length) := by
  have hn : 0 < cs.length := by omega
  refine ⟨by simp, Nat.mod_lt _ hn, hc, ⟨by simpa using hq.1, by rw [nth_set hc, if_neg (Ne.symm hne)]; exact hq.2⟩, hne, ?_, cs.length, Nat.le_of_lt (way_lt hn), rfl⟩
  intro i hi
  rw [nth_set hc]
  split
  · omega
  · exact hb i hi
theorem Rm.stop {n q : Nat} {R cs : List Int} {free c : Nat} (h : Rm n q R cs free c) (hc : nth cs c = -1) : cs = R := by
  obtain ⟨f, _, h2⟩ := h.at_
  rw [rmGo_end hc] at h2
  exact h2
theorem Rm.cq {n q : Nat} {R cs : List Int} {free c : Nat} (h : Rm n q R cs free c) (hc : nth cs c ≠ -1) : c ≠ q := fun e => hc (e ▸ h.at_q.2)
theorem Rm.step {n q : Nat} {R cs : List Int} {free c : Nat} (h : Rm n q R cs free c) (hc : nth cs c ≠ -1) : wayN n c q = wayN n ((c + 1) % n) q + 1 := way_step h.lt (by have := h.at_q.1; have := h.len; omega) (h.cq hc)
theorem Rm.keep {n q : Nat} {R cs : List Int} {free c : Nat} (h : Rm n q R cs free c) (hc : nth cs c ≠ -1) (hb : ¬ wayN n free c ≤ costN n (nth cs c) c) : Rm n q R cs free ((c + 1) % n) := by
  have hst := h.step hc
  obtain ⟨f, h1, h2⟩ := h.at_
  refine ⟨h.len, Nat.mod_lt _ (by have := h.lt; omega), h.fl, h.at_q, h.ne, h.bd, ?_⟩
  cases f with
  | zero => omega
  | succ f => exact ⟨f, by omega, by rw [← h2, rmGo_keep hc hb]⟩
theorem Rm.move {n q : Nat} {R cs : List Int} {free c : Nat} (h : Rm n q R cs free c) (hc : nth cs c ≠ -1) (hb : wayN n free c ≤ costN n (nth cs c) c) : Rm n q R ((cs.set free (nth cs c)).set c (-1)) c ((c + 1) % n) := by
  have hst := h.step hc
  have hl := h.len
  have hlt := h.lt
  have hfl := h.fl
  have hcq := h.cq hc
  have hne := h.ne
  obtain ⟨f, h1, h2⟩ := h.at_
  refine ⟨by simp [hl], Nat.mod_lt _ (by omega), hlt, ⟨by simpa using h.at_q.1, ?_⟩, Ne.symm hcq, ?_, ?_⟩
  · rw [nth_set (by simp; omega), if_neg hcq, nth_set (by omega), if_neg (Ne.symm hne)]
    exact h.at_q.2
  · intro i hi
    rw [nth_set (by simp; omega)]
    split
    · omega
    · rw [nth_set (by omega)]
      split
      · exact h.bd c hlt
      · exact h.bd i hi
  · cases f with
    | zero => omega
    | succ f => exact ⟨f, by omega, by rw [← h2, rmGo_move hc hb]⟩
theorem length_rmGo {n : Nat} : ∀ (f : Nat) (cs : List Int) (free c : Nat), (rmGo n f cs free c).length = cs.length
  | 0, cs, free, c => rfl
  | f + 1, cs, free, c => by
    simp only [rmGo]
    split
    · rfl
    · split
      · rw [length_rmGo]; simp
      · rw [length_rmGo]
theorem length_rmL (cs : List Int) (c : Nat) : (rmL cs c).length = cs.length := by unfold rmL; rw [length_rmGo]; simp

set_option maxRecDepth 100000 in
set_option maxHeartbeats 4000000 in
theorem without_any (cs : List Int) (c0 q : Nat) (w : World) (hr : Rg cs) (hc0 : c0 < cs.length) (hq : freeAt cs q) (hne : q ≠ c0) (hbd : ∀ i, i < cs.length → -1 ≤ nth cs i) :
    Calls Try.prog 56 #[.agg (ivals (ringL cs)), .int .i64 (c0 : Int)] w fun e w' => e = .returned (.agg (ivals (ringL (rmL cs c0)))) ∧ Below w.heap.size w w' := by
  have HB0 := hid (Rm.start hc0 hq hne hbd)
  have h12 := hr.hi
  obtain ⟨W, hW, R, Z, hbW, hsW⟩ : ∃ W, (w.alloc (.cells (ivals (ringL cs)) 50)).alloc (.cells #[.int .i64 0, .int .i64 0, .int .i64 0, .int .i64 0, .int .i64 0, .int .i64 0, .int .i64 0, .int .i64 0, .int .i64 0, .int .i64 0, .int .i64 0, .int .i64 0, .int .i64 0] 50) = W ∧ RingAt W w.heap.size (ringL cs) ∧ RingAt W (w.heap.size + 1) zeroR ∧ Below w.heap.size w W ∧ W.heap.size = w.heap.size + 2 := by
    refine ⟨_, rfl, (ringAt_new w hr.all).alloc _, ?_, ((Below.refl _ w).alloc (Nat.le_refl _) _).alloc (by simp) _, by simp⟩
    have := ringAt_zero (w.alloc (.cells (ivals (ringL cs)) 50))
    simpa using this
  have HLR : Hid ((ringL (rmL cs c0)).length = 13) := hid (Rg.mk (by rw [length_rmL]; exact hr.lo) (by rw [length_rmL]; exact h12)).all
  have hcell := ring_cell R hc0 h12
  have hfr := R.frozen (1 + c0)
  have hi0 : (0 : Int) ≤ (c0 : Int) := by omega
  have hi12 : (c0 : Int) < 12 := by omega
  have R1 := R.put hc0 (-1)
  have Z1 := Z.setOther (a := ⟨w.heap.size, 1 + c0, none⟩) (by simp) (.int .i64 (-1))
  have hb1 := hbW.setCell (p := ⟨w.heap.size, 1 + c0, none⟩) (Nat.le_refl _) (.int .i64 (-1))
  have hrg1 := hr.set c0 (-1)
  have HL1 : Hid ((cs.set c0 (-1)).length = cs.length) := hid (by simp)
  go_enter Try.func56, Try.ntmps56
  go_wp2_with (refine wpList_load_ring rfl _ rfl _ _ rfl R1 ?_)
  refine (behind_any (cs.set c0 (-1)).length (pad (cs.set c0 (-1))) c0 _ hrg1.of (by rw [HL1.out]; exact hc0)).mono ?_
  rintro e w1 ⟨rfl, st⟩
  rw [HL1.out]
  have R2 := R1.below st R1.lt
  have Z2 := Z1.below st Z1.lt
  have hb2 := hb1.trans (st.mono hb1.size)
  clear st hW R Z hbW R1 Z1 hb1 hcell hfr
  go_wp2_with fail
  go_loopw [1, 5] (fun s t wr => ∃ (cs' : List Int) (free c : Nat), s = .int .i64 (free : Int) ∧ t = .int .i64 (c : Int) ∧ Hid (Rm cs.length q (rmL cs c0) cs' free c) ∧ RingAt wr w.heap.size (ringL cs') ∧ RingAt wr (w.heap.size + 1) zeroR ∧ Below w.heap.size w wr) (fun _ t _ => wayN cs.length (intOf t).toNat q)
  case atStart => exact ⟨_, c0, _, rfl, rfl, HB0, R2, Z2, hb2⟩
  case round =>
    clear R2 Z2 hb2
    obtain ⟨cs', free, c, rfl, rfl, HB, R, Z, hb⟩ := hrel
    have hlen := HB.out.len
    have hc := HB.out.lt
    have hfl := HB.out.fl
    have hrg : Rg cs' := ⟨by omega, by omega⟩
    have hcl : c < cs'.length := by omega
    have hfl' : free < cs'.length := by omega
    have h12' : cs'.length ≤ 12 := by omega
    have hcell := ring_cell R hcl h12'
    have hcI0 : (0 : Int) ≤ (c : Int) := by omega
    have hcI12 : (c : Int) < 12 := by omega
    have hfI0 : (0 : Int) ≤ (free : Int) := by omega
    have hfI12 : (free : Int) < 12 := by omega
    by_cases he : nth cs' c = -1
    · have hb1 : (nth cs' c != -1) = false := by simp [he]
      have hset := HB.out.stop he
      rw [hset] at R
      clear he hset hlen
      go_wp2_with (first | (refine wpList_load_ring rfl _ rfl _ _ rfl R ?_) | (refine wpList_store_ring rfl _ _ rfl _ _ _ rfl rfl Z HLR.out ?_))
      refine bodyPost_ret (v := .agg (ivals (ringL (rmL cs c0)))) (results_ring1 rfl _ _ _ _ rfl (Z.row HLR.out)) rfl ⟨rfl, below_row hb (by omega) _⟩
    · have hb1 : (nth cs' c != -1) = true := by simp [he]
      have hy : 0 ≤ nth cs' c := by have := HB.out.bd c hc; omega
      have hst := HB.out.step he
      have HE := hid he
      have hv := ring_val (m := (cs'.length : Int)) hrg.of.len
      have HRS : Hid (RS wr w.heap.size (ringL cs') wr) := hid ⟨R, Below.refl _ _⟩
      have HLN := hid hlen
      clear he hlen
      obtain ⟨wo, hwo⟩ : ∃ wo : World, wo = wr := ⟨_, rfl⟩
      subst hwo
      obtain ⟨x, hx⟩ : ∃ x, costN cs'.length (nth cs' c) c = x := ⟨_, rfl⟩
      obtain ⟨y, hy2⟩ : ∃ y, wayN cs'.length free c = y := ⟨_, rfl⟩
      have HX := hid hx
      have HY := hid hy2
      clear hx hy2
      go_wp2_with fail
      go_cut [33] (fun s wx => s = .bool (decide ((y : Int) ≤ (x : Int))) ∧ Below wo.heap.size wo wx)
      case first =>
        go_region_held3 (fun w' => RS wo w.heap.size (ringL cs') w' ∧ w'.cell? ⟨w.heap.size, 0, none⟩ = some (.int .i64 (cs'.length : Int)) ∧ w'.cell? ⟨w.heap.size, 1, none⟩ = some (.int .i64 (nth (pad cs') 0)) ∧ w'.cell? ⟨w.heap.size, 2, none⟩ = some (.int .i64 (nth (pad cs') 1)) ∧ w'.cell? ⟨w.heap.size, 3, none⟩ = some (.int .i64 (nth (pad cs') 2)) ∧ w'.cell? ⟨w.heap.size, 4, none⟩ = some (.int .i64 (nth (pad cs') 3)) ∧ w'.cell? ⟨w.heap.size, 5, none⟩ = some (.int .i64 (nth (pad cs') 4)) ∧ w'.cell? ⟨w.heap.size, 6, none⟩ = some (.int .i64 (nth (pad cs') 5)) ∧ w'.cell? ⟨w.heap.size, 7, none⟩ = some (.int .i64 (nth (pad cs') 6)) ∧ w'.cell? ⟨w.heap.size, 8, none⟩ = some (.int .i64 (nth (pad cs') 7)) ∧ w'.cell? ⟨w.heap.size, 9, none⟩ = some (.int .i64 (nth (pad cs') 8)) ∧ w'.cell? ⟨w.heap.size, 10, none⟩ = some (.int .i64 (nth (pad cs') 9)) ∧ w'.cell? ⟨w.heap.size, 11, none⟩ = some (.int .i64 (nth (pad cs') 10)) ∧ w'.cell? ⟨w.heap.size, 12, none⟩ = some (.int .i64 (nth (pad cs') 11))) (first | exact RS.first HRS.out | exact RS.next (by assumption) (by assumption)) (first | (go_at_call 55; refine (costAt_any cs'.length (pad cs') c (nth cs' c) _ hrg.of hcl hy).mono ?_; rw [HX.out]; rintro e w' ⟨rfl, hb'⟩) | (go_at_call 68; refine (way_any cs'.length (pad cs') free c _ hrg.of hfl' hcl).mono ?_; rw [HY.out]; rintro e w' ⟨rfl, hb'⟩))
        all_goals
          rename_i hS
          obtain ⟨hS, -⟩ := hS
          go_wp2_with fail
          go_meet
          exact ⟨by first | rfl | simp, hS.st⟩
      case rest =>
        obtain ⟨rfl, st⟩ := hcut
        have R2 := R.below st R.lt
        have Z2 := Z.below st Z.lt
        have hs2 := st.size
        have hb2 := hb.trans (st.mono hb.size)
        clear hcell R Z hb st
        by_cases hyx : (y : Int) ≤ (x : Int)
        · have HS := hid (HB.out.move HE.out (by rw [← HLN.out, HX.out, HY.out]; omega))
          have hcellF := ring_cell R2 hfl' h12'
          have hfrF := R2.frozen (1 + free)
          have R3 := R2.put hfl' (nth cs' c)
          have hcl3 : c < (cs'.set free (nth cs' c)).length := by simpa using hcl
          have hcellC := ring_cell R3 hcl3 (by simpa using h12')
          have hfrC := R3.frozen (1 + c)
          have R4 := R3.put hcl3 (-1)
          have Z4 := (Z2.setOther (a := ⟨w.heap.size, 1 + free, none⟩) (by simp) (.int .i64 (nth cs' c))).setOther (a := ⟨w.heap.size, 1 + c, none⟩) (by simp) (.int .i64 (-1))
          have hb4 := (hb2.setCell (p := ⟨w.heap.size, 1 + free, none⟩) (Nat.le_refl _) (.int .i64 (nth cs' c))).setCell (p := ⟨w.heap.size, 1 + c, none⟩) (Nat.le_refl _) (.int .i64 (-1))
          have hrg4 := (hrg.set free (nth cs' c)).set c (-1)
          have hcl4 : c < ((cs'.set free (nth cs' c)).set c (-1)).length := by simpa using hcl
          have HL4 : Hid (((cs'.set free (nth cs' c)).set c (-1)).length = cs.length) := hid (by rw [List.length_set, List.length_set]; exact HLN.out)
          go_wp2_with (refine wpList_load_ring rfl _ rfl _ _ rfl R4 ?_)
          refine (behind_any _ (pad ((cs'.set free (nth cs' c)).set c (-1))) c _ hrg4.of hcl4).mono ?_
          rintro e w5 ⟨rfl, st⟩
          rw [HL4.out]
          go_wp2_with fail
          go_roundw
          case rel => exact ⟨_, _, _, rfl, rfl, HS, R4.below st R4.lt, Z4.below st Z4.lt, hb4.trans (st.mono hb4.size)⟩
          case measure => simp only [intOf, Int.toNat_natCast, next_toNat]; omega
        · have HS := hid (HB.out.keep HE.out (by rw [← HLN.out, HX.out, HY.out]; omega))
          go_wp2_with (refine wpList_load_ring rfl _ rfl _ _ rfl R2 ?_)
          refine (behind_any cs'.length (pad cs') c _ hrg.of hcl).mono ?_
          rintro e w5 ⟨rfl, st⟩
          rw [HLN.out]
          go_wp2_with fail
          go_roundw
          case rel => exact ⟨_, _, _, rfl, rfl, HS, R2.below st R2.lt, Z2.below st Z2.lt, hb2.trans (st.mono hb2.size)⟩
          case measure => simp only [intOf, Int.toNat_natCast, next_toNat]; omega
end Go.Proofs.Ytbmghpgnakbnjaa
