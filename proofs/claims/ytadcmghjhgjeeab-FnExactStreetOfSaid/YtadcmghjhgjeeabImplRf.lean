/- A ring's used cells. -/
import Derived.Test.YtadcmghjhgjeeabImplRe
namespace Go.Proofs.Ytadcmghjhgjeeab
open Go.RowKit

theorem coll_more {p : Nat → Bool} {f : Nat → Int} {n : Nat} : ∀ {m : Nat}, n ≤ m → (∀ c, n ≤ c → c < m → p c = false) → coll p f m = coll p f n
  | 0, h, _ => by rw [show n = 0 by omega]
  | m + 1, h, hp => by
    by_cases e : n = m + 1
    · rw [e]
    · rw [coll_no (hp m (by omega) (by omega)), coll_more (by omega) fun c h1 h2 => hp c h1 (by omega)]
theorem coll_congr {p p' : Nat → Bool} {f f' : Nat → Int} : ∀ {n : Nat}, (∀ c, c < n → p c = p' c ∧ (p c = true → f c = f' c)) → coll p f n = coll p' f' n
  | 0, _ => rfl
  | n + 1, h => by
    rw [coll_succ, coll_succ, coll_congr fun c hc => h c (by omega)]
    obtain ⟨h1, h2⟩ := h n (by omega)
    rw [← h1]
    cases e : p n
    · rfl
    · rw [h2 e]
theorem nth_pad_over {cs : List Int} {i : Nat} (h : cs.length ≤ i) (hi : i < 12) : nth (pad cs) i = -1 := by
  simp [pad, nth, List.getElem?_append_right h, show i - cs.length < 12 - cs.length by omega]
/-- The used cells of a ring are those of its table. -/
theorem used_pad {cs : List Int} (h12 : cs.length ≤ 12) : coll (isUsed (pad cs)) (fun c => (c : Int)) 12 = usedL cs := by
  rw [coll_more h12 fun c h1 h2 => isUsed_not.2 (nth_pad_over h1 h2)]
  exact coll_congr fun c hc => ⟨by simp [isUsed, nth_pad hc], fun _ => rfl⟩
theorem wpList_load_ringCells {ops : Array Oper} {rest : List Oper} {o : Oper} {a : Act} {w : World} {Q : Exit → Act → World → Prop} (hgd : o.guard = none) (x : Operand) (ho : o.op = .load 67 x)
    (g : Nat) (m : Int) (ps : List Int) (hx : a.eval x = .pointer (some ⟨g, 1, none⟩)) (h : RingAt w g (m :: ps)) (hk : wpList Try.prog ops Q rest (a.put o.dst (.agg (ivals ps))) w) : wpList Try.prog ops Q (o :: rest) a w := by
  have hl : ps.length = 12 := by have := h.len; simpa using this
  have := wpList_load_mid (P := Try.prog) (ops := ops) (rest := rest) (Q := Q) hgd _ x ho g 1 hx (ivals ps).toList _ (fun j v hv => by
    have hj : j < 12 := by
      have := (List.getElem?_eq_some_iff.1 hv).1
      simp [size_ivals, hl] at this
      exact this
    rw [Nat.add_comm, h.cell (i := j + 1) (by omega)]
    have h2 := ivals_at (xs := ps) (show j < ps.length by omega)
    simp at hv
    rw [hv] at h2
    exact h2.symm) Try.underlying67 rfl (by rw [Array.length_toList, size_ivals, hl]; kernel_rfl)
  exact this (by simpa using hk)

theorem run_index_ring {ps : List Int} (hl : ps.length = 12) {k : Nat} (hk : k < 12) (w : World) : (Instr.index 67 (.agg (ivals ps)) (.int .i64 (k : Int))).run Try.prog w = .ok (.int .i64 (nth ps k)) w := by
  have h1 : (0 : Int) ≤ (k : Int) ∧ (k : Int) < 12 := by omega
  have h2 := ivals_at (xs := ps) (show k < ps.length by omega)
  simp [Instr.index, run_underlying Try.underlying67, asIntOf, h1, part, go_sem, h2]
  intro h
  omega

set_option maxRecDepth 100000 in
set_option maxHeartbeats 2000000 in
theorem usedCells_any (cs : List Int) (w : World) (hr : Rg cs) :
    Calls Try.prog 59 #[.agg (ivals (ringL cs))] w fun e w' => ∃ a' m cap', e = .returned (.slice a' m cap') ∧ Own w' w.heap.size a' m cap' (usedL cs) ∧ Below w.heap.size w w' := by
  have h12 := hr.hi
  have R := ringAt_new w hr.all
  have hb := (Below.refl w.heap.size w).alloc (Nat.le_refl _) (.cells (ivals (ringL cs)) 69)
  have HU := hid (used_pad h12)
  obtain ⟨ps, hps⟩ : ∃ ps, pad cs = ps := ⟨_, rfl⟩
  have HL := hid (length_pad h12)
  unfold ringL at R hb ⊢
  rw [hps] at R hb HU HL ⊢
  clear hps
  go_enter Try.func59, Try.ntmps59
  go_wp2_with (refine wpList_load_ringCells rfl _ rfl _ _ _ rfl R ?_)
  go_loopw [3, 8] (fun o i wr => ∃ (k m : Nat) (a : Option Addr) (cap : Nat), i = .int .i64 k ∧ o = .slice a m cap ∧ k ≤ 12 ∧ Own wr w.heap.size a m cap (coll (isUsed ps) (fun c => (c : Int)) k) ∧ Below w.heap.size w wr) (fun _ i _ => 12 - (intOf i).toNat)
  case atStart => exact ⟨0, 0, none, 0, rfl, rfl, by omega, Own.nil _ _, hb⟩
  case round =>
    clear R hb
    obtain ⟨k, m, a, cap, rfl, rfl, hk, own, hb⟩ := hrel
    by_cases hlt : k < 12
    · have hk0 : (0 : Int) ≤ (k : Int) := by omega
      have hk1 : (k : Int) < 12 := by omega
      have hidx := run_index_ring HL.out hlt
      have hlen := length_coll (isUsed ps) (fun c => (c : Int)) k
      have hm := own.len
      have hm12 : m ≤ 12 := by omega
      have hbs := hb.size
      clear hlen hm
      by_cases he : nth ps k = -1
      · have hb1 : (nth ps k != -1) = false := by simp [he]
        have HC := hid (coll_no (f := fun c => (c : Int)) (isUsed_not.2 he))
        clear he
        go_wp2_with fail
        go_roundw
        case rel => exact ⟨k + 1, m, a, cap, by go_num, rfl, by omega, by rw [HC.out]; exact own, hb⟩
        case measure => simp [intOf]; omega
      · have hb1 : (nth ps k != -1) = true := by simp [he]
        have HC := hid (coll_yes (f := fun c => (c : Int)) (isUsed_iff.2 he))
        clear he
        go_wp2_with (at_builtin; refine wpList_append_int _ rfl _ _ rfl w.heap.size _ _ _ _ _ rfl rfl own (by omega) hbs ?_; intro a2 cap2 w2 own2 hb2)
        go_roundw
        case rel => exact ⟨k + 1, m + 1, a2, cap2, by go_num, rfl, by omega, by rw [HC.out]; exact own2, hb.trans hb2⟩
        case measure => simp [intOf]; omega
    · obtain rfl : k = 12 := by omega
      go_wp2_with fail
      go_ret
      exact ⟨_, _, _, rfl, by rw [← HU.out]; exact own, hb⟩
end Go.Proofs.Ytadcmghjhgjeeab
