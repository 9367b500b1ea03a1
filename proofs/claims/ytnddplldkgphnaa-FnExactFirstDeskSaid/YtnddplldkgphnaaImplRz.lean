/- New rings. -/
import Derived.Test.YtnddplldkgphnaaImplRd
namespace Go.Proofs.Ytnddplldkgphnaa
open Go.RowKit

/-- What comes of a size. -/
def newOf (n : Int) : List Int × Bool := if inB n 2 12 then (ringL (emptyL n.toNat), true) else (zeroR, false)
theorem pad_empty {n : Nat} (h : n ≤ 12) : pad (emptyL n) = List.replicate 12 (-1) := by
  unfold pad emptyL
  rw [List.length_replicate, List.replicate_append_replicate, show n + (12 - n) = 12 by omega]
/-- The first k cells are free, the others not laid out. -/
def laid (k : Nat) : List Int := List.replicate k (-1) ++ List.replicate (12 - k) 0
theorem length_laid {k : Nat} (h : k ≤ 12) : (laid k).length = 12 := by simp [laid]; omega
theorem laid_set {k : Nat} (h : k < 12) : (laid k).set k (-1) = laid (k + 1) := by
  unfold laid
  rw [List.set_append_right _ _ (by simp)]
  obtain ⟨m, hm⟩ : ∃ m, 12 - k = m + 1 := ⟨12 - k - 1, by omega⟩
  rw [hm, show 12 - (k + 1) = m by omega, List.length_replicate, Nat.sub_self, List.replicate_succ, List.set_cons_zero, List.replicate_succ']
  simp
theorem laid_all : laid 12 = List.replicate 12 (-1) := by simp [laid]

set_option maxHeartbeats 2000000 in
theorem newRing_any (n : Int) (w : World) :
    Calls Try.prog 29 #[.int .i64 n] w fun e w' => e = .returned (.tuple #[.agg (ivals (newOf n).1), .bool (newOf n).2]) ∧ Below w.heap.size w w' := by
  have Z := ringAt_zero w
  have hb := (Below.refl w.heap.size w).alloc (Nat.le_refl _) (.cells #[.int .i64 0, .int .i64 0, .int .i64 0, .int .i64 0, .int .i64 0, .int .i64 0, .int .i64 0, .int .i64 0, .int .i64 0, .int .i64 0, .int .i64 0, .int .i64 0, .int .i64 0] 52)
  by_cases hn : inB n 2 12 = true
  · obtain ⟨m, rfl⟩ : ∃ m : Nat, n = (m : Int) := ⟨n.toNat, by have := inB_iff.1 hn; omega⟩
    have HN : Hid (newOf (m : Int) = ((m : Int) :: laid 12, true)) := hid (by
      have := inB_iff.1 hn
      unfold newOf
      rw [if_pos hn, Int.toNat_natCast, ringL, pad_empty (by omega), laid_all, length_emptyL])
    have h2 := inB_iff.1 hn
    have h3 : ¬ (m : Int) < 2 := by omega
    have h4 : ¬ (m : Int) > 12 := by omega
    clear hn
    have Z1 := Z.alloc (.cells #[.int .i64 0, .int .i64 0, .int .i64 0, .int .i64 0, .int .i64 0, .int .i64 0, .int .i64 0, .int .i64 0, .int .i64 0, .int .i64 0, .int .i64 0, .int .i64 0, .int .i64 0] 52)
    have Z2 := ringAt_zero (w.alloc (.cells #[.int .i64 0, .int .i64 0, .int .i64 0, .int .i64 0, .int .i64 0, .int .i64 0, .int .i64 0, .int .i64 0, .int .i64 0, .int .i64 0, .int .i64 0, .int .i64 0, .int .i64 0] 52))
    have hz1 : (w.alloc (.cells #[.int .i64 0, .int .i64 0, .int .i64 0, .int .i64 0, .int .i64 0, .int .i64 0, .int .i64 0, .int .i64 0, .int .i64 0, .int .i64 0, .int .i64 0, .int .i64 0, .int .i64 0] 52)).heap.size = w.heap.size + 1 := by simp
    rw [hz1] at Z2
    have hb2 := hb.alloc (by simp) (.cells #[.int .i64 0, .int .i64 0, .int .i64 0, .int .i64 0, .int .i64 0, .int .i64 0, .int .i64 0, .int .i64 0, .int .i64 0, .int .i64 0, .int .i64 0, .int .i64 0, .int .i64 0] 52)
    go_enter Try.func29, Try.ntmps29
    go_wp2_with (refine wpList_store_ring rfl _ _ rfl _ _ ((m : Int) :: laid 0) rfl rfl Z2 rfl ?_)
    have R0 := Z2.row (ys := (m : Int) :: laid 0) rfl
    have Z0 := Z1.rowOther (k := w.heap.size + 1) (by omega) (ivals ((m : Int) :: laid 0))
    have hb3 := below_row hb2 (show w.heap.size ≤ w.heap.size + 1 by omega) (ivals ((m : Int) :: laid 0))
    clear Z Z1 Z2 hb hb2 hz1
    go_loopw [15] (fun i wr => ∃ k : Nat, i = .int .i64 k ∧ k ≤ 12 ∧ RingAt wr (w.heap.size + 1) ((m : Int) :: laid k) ∧ RingAt wr w.heap.size zeroR ∧ Below w.heap.size w wr) (fun i _ => 12 - (intOf i).toNat)
    case atStart => exact ⟨0, rfl, by omega, R0, Z0, hb3⟩
    case round =>
      clear R0 Z0 hb3
      obtain ⟨k, rfl, hk, R, Z, hb⟩ := hrel
      by_cases hlt : k < 12
      · have hk0 : (0 : Int) ≤ (k : Int) := by omega
        have hk1 : (k : Int) < 12 := by omega
        have hcell := R.cell (i := 1 + k) (by omega)
        have hfr := R.frozen (1 + k)
        have R1 := R.set (i := 1 + k) (-1)
        have Z1 := Z.setOther (a := ⟨w.heap.size + 1, 1 + k, none⟩) (by simp) (.int .i64 (-1))
        have hb1 := hb.setCell (p := ⟨w.heap.size + 1, 1 + k, none⟩) (by simp) (.int .i64 (-1))
        rw [show ((m : Int) :: laid k).set (1 + k) (-1) = (m : Int) :: laid (k + 1) by rw [Nat.add_comm 1 k, List.set_cons_succ, laid_set hlt]] at R1
        go_wp2_with fail
        go_roundw
        case rel => exact ⟨k + 1, by go_num, by omega, R1, Z1, hb1⟩
        case measure => simp [intOf]; omega
      · obtain rfl : k = 12 := by omega
        have hl : ((m : Int) :: laid 12).length = 13 := R.len
        have R2 := Z.row hl
        have hb2 := below_row hb (Nat.le_refl _) (ivals ((m : Int) :: laid 12))
        go_wp2_with (first | (refine wpList_load_ring rfl _ rfl _ _ rfl R ?_) | (refine wpList_store_ring rfl _ _ rfl _ _ _ rfl rfl Z hl ?_))
        refine bodyPost_ret (v := .tuple #[.agg (ivals ((m : Int) :: laid 12)), .bool true]) (results_ring2 rfl _ _ _ _ _ rfl rfl R2) rfl ⟨by rw [HN.out], hb2⟩
  · have HN : Hid (newOf n = (zeroR, false)) := hid (by unfold newOf; rw [if_neg hn])
    have hb2 := below_row hb (Nat.le_refl _) (ivals zeroR)
    have R2 := Z.row (ys := zeroR) rfl
    by_cases h2 : n < 2
    · clear hn
      go_enter Try.func29, Try.ntmps29
      go_wp2_with (refine wpList_store_ring rfl _ _ rfl _ _ zeroR rfl rfl Z rfl ?_)
      refine bodyPost_ret (v := .tuple #[.agg (ivals zeroR), .bool false]) (results_ring2 rfl _ _ _ _ _ rfl rfl R2) rfl ⟨by rw [HN.out], hb2⟩
    · have h3 : 12 < n := by
        apply Classical.byContradiction
        intro h
        exact hn (inB_iff.2 ⟨by omega, by omega⟩)
      clear hn
      go_enter Try.func29, Try.ntmps29
      go_wp2_with (refine wpList_store_ring rfl _ _ rfl _ _ zeroR rfl rfl Z rfl ?_)
      refine bodyPost_ret (v := .tuple #[.agg (ivals zeroR), .bool false]) (results_ring2 rfl _ _ _ _ _ rfl rfl R2) rfl ⟨by rw [HN.out], hb2⟩
end Go.Proofs.Ytnddplldkgphnaa
