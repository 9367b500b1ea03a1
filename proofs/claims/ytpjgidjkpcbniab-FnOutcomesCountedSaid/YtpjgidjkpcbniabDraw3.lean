/- Chapter 1's draws of outcomes, of pairs of lists, and what the laws draw. -/
import Derived.Test.YtpjgidjkpcbniabDraw2
namespace Go.Proofs.Ytpjgidjkpcbniab
open Go.RowKit

set_option maxHeartbeats 8000000 in
theorem outcome_cur (g t nn : Nat) (w : World) (h : Cur w g t) (ht : t ≤ 1000) (hnn : nn ≤ 9) :
    Calls Try.prog 102 #[.pointer (some ⟨g, 0, none⟩), .int .i64 (nn : Int)] w (DrewList w g t) := by
  have hgl := h.lt
  have A0 := AtG.new h
  go_enter Try.func102, Try.ntmps102
  go_wp2_with fail
  go_loopw [5, 6] (fun o i wr => ∃ (j : Nat) (a' : Option Addr) (cap' : Nat) (xs : List Int) (t' : Nat), j ≤ nn ∧ i = .int .i64 (j : Int) ∧ o = .slice a' j cap' ∧ Own wr w.heap.size a' j cap' xs ∧ Within xs 0 9 ∧ AtG w wr g t' ∧ t' ≤ t + 2 * j) (fun _ i _ => nn - (intOf i).toNat)
  case atStart => exact ⟨0, none, 0, [], t, by omega, rfl, rfl, Own.nil _ _, (fun x hx => by simp at hx), A0, by omega⟩
  case round =>
    obtain ⟨j, a', cap', xs, t', hj, rfl, rfl, hown, hin, A, ht'⟩ := hrel
    have HI := hid hin
    clear A0 hin
    by_cases hlt : j < nn
    · skip
      go_wp2_with fail
      refine (pick_cur g t' ((j : Int) + 1) _ A.cur (by omega) (by omega)).mono ?_
      rintro e w6 ⟨qy, rfl, q0, q1, ⟨t2, x1, x2, hcc⟩, hgg⟩
      obtain ⟨y, rfl⟩ : ∃ y : Nat, qy = (y : Int) := ⟨_, (Int.toNat_of_nonneg q0).symm⟩
      have hy : y ≤ j := by omega
      replace hown := hown.kept hgg (.inl hgl)
      replace A := A.pick hcc hgg
      clear hcc hgg q0 q1
      cases a' with
      | none =>
        obtain ⟨hk1, hcap1, hnil⟩ := hown.noneOf
        have hk0 : j ≤ 0 := by omega
        have hcap0 : cap' ≤ 0 := by omega
        have hat0 : y ≤ 0 := by omega
        subst hnil
        obtain rfl : y = 0 := by omega
        clear hk1 hcap1
        go_wp2_with fail
        refine (l1Own_any _ _ _ _ _ (Has.empty none (Nat.le_refl _) (Nat.le_refl _))).mono ?_
        rintro e w2 ⟨a2, cap2, rfl, hown2, hb2⟩
        go_wp2_with (first | (at_builtin; refine wpList_append_int _ rfl _ _ rfl w6.heap.size _ _ _ _ _ rfl rfl hown2 (by omega) hb2.size ?_; intro a3 cap3 w3 hown3 hb3) | (at_builtin; refine wpList_append_ints _ rfl _ _ rfl w6.heap.size _ none _ _ _ _ _ [] rfl rfl hown3 (Has.empty none (by omega) (by omega)) (by omega) (Nat.le_trans hb2.size hb3.size) ?_; intro a4 n4 cap4 w4 hn4 hown4 hb4))
        have hbb := (hb2.trans hb3).trans hb4
        have A4 := A.later hbb (A.size)
        have hown5 : Own w4 w.heap.size a4 (j + 1) cap4 (putIn [] 0 (j : Int)) := (hown4.mono A.size).relen (by omega) (by simp [putIn])
        have hn5 : n4 = j + 1 := by omega
        clear hown4 hown3 hown2 hb2 hb3 hb4 hbb hn4
        go_roundw
        case rel => exact ⟨j + 1, a4, cap4, _, t2, by omega, by go_num, slice_len (by omega), hown5, HI.out.put ⟨by omega, by omega⟩, A4, by omega⟩
        case measure => simp [intOf]; omega
      | some pp =>
        obtain ⟨gg, rfl, hg1, hg2, hg3, hg4, hkc⟩ := hown.someOf
        have HA := hown.has
        have HLO := hid hown.len
        clear hg3 hg4
        by_cases hjk : y < j
        · skip
          have hcj : ¬ cap' = y := by omega
          go_wp2_with fail
          refine (l1Own_any _ _ _ _ _ (HA.take (k := y) (by omega))).mono ?_
          rintro e w2 ⟨a2, cap2, rfl, hown2, hb2⟩
          have hd2 := (HA.drop (k := y) (by omega)).below hb2 (Nat.le_refl _)
          rw [Nat.zero_add] at hd2
          have hblk : ∀ p, (some ⟨gg, y, none⟩ : Option Addr) = some p → p.block < w6.heap.size := fun p hp => by cases hp; exact hg2
          have HBK := hid hblk
          clear hblk
          go_wp2_with (first | (at_builtin; refine wpList_append_int _ rfl _ _ rfl w6.heap.size _ _ _ _ _ rfl rfl hown2 (by omega) hb2.size ?_; intro a3 cap3 w3 hown3 hb3) | (at_builtin; refine wpList_append_ints _ rfl _ _ rfl w6.heap.size _ _ _ _ _ _ _ _ rfl rfl hown3 (hd2.belowB hb3 HBK.out) (by omega) (Nat.le_trans hb2.size hb3.size) ?_; intro a4 n4 cap4 w4 hn4 hown4 hb4))
          clear hd2 HBK
          have hbb := (hb2.trans hb3).trans hb4
          have A4 := A.later hbb (A.size)
          have hown5 : Own w4 w.heap.size a4 (j + 1) cap4 (putIn xs y (j : Int)) := (hown4.mono A.size).relen (by omega) (by unfold putIn; rfl)
          have hn5 : n4 = j + 1 := by omega
          clear hown4 hown3 hown2 hb2 hb3 hb4 hbb hn4
          go_roundw
          case rel => exact ⟨j + 1, a4, cap4, _, t2, by omega, by go_num, slice_len (by omega), hown5, HI.out.put ⟨by omega, by omega⟩, A4, by omega⟩
          case measure => simp [intOf]; omega
        · skip
          obtain rfl : j = y := by omega
          clear hjk
          by_cases hcj : cap' = j
          · skip
            obtain rfl : j = cap' := hcj.symm
            clear hcj
            have hmax : 0 ≤ maxLen := by unfold maxLen; omega
            have HMX := hid hmax
            clear hmax
            go_wp2_with fail
            refine (l1Own_any _ _ _ _ _ (HA.take (k := j) (by omega))).mono ?_
            rintro e w2 ⟨a2, cap2, rfl, hown2, hb2⟩
            go_wp2_with (first | (at_builtin; refine wpList_append_int _ rfl _ _ rfl w6.heap.size _ _ _ _ _ rfl rfl hown2 (by omega) hb2.size ?_; intro a3 cap3 w3 hown3 hb3) | (at_builtin; refine wpList_append_ints _ rfl _ _ rfl w6.heap.size _ _ _ _ _ _ _ [] rfl rfl hown3 (Has.nilAt _ (by unfold maxLen; omega)) (by omega) (Nat.le_trans hb2.size hb3.size) ?_; intro a4 n4 cap4 w4 hn4 hown4 hb4))
            have hbb := (hb2.trans hb3).trans hb4
            have A4 := A.later hbb (A.size)
            have hown5 : Own w4 w.heap.size a4 (j + 1) cap4 (putIn xs j (j : Int)) := (hown4.mono A.size).relen (by omega) (by unfold putIn; rw [List.drop_eq_nil_of_le (by rw [HLO.out]; exact Nat.le_refl _)])
            have hn5 : n4 = j + 1 := by omega
            clear hown4 hown3 hown2 hb2 hb3 hb4 hbb hn4
            go_roundw
            case rel => exact ⟨j + 1, a4, cap4, _, t2, by omega, by go_num, slice_len (by omega), hown5, HI.out.put ⟨by omega, by omega⟩, A4, by omega⟩
            case measure => simp [intOf]; omega
          · skip
            have hmax : cap' - j ≤ maxLen := by have := HA.2.2.1; omega
            have HMX := hid hmax
            clear hmax
            go_wp2_with fail
            refine (l1Own_any _ _ _ _ _ (HA.take (k := j) (by omega))).mono ?_
            rintro e w2 ⟨a2, cap2, rfl, hown2, hb2⟩
            go_wp2_with (first | (at_builtin; refine wpList_append_int _ rfl _ _ rfl w6.heap.size _ _ _ _ _ rfl rfl hown2 (by omega) hb2.size ?_; intro a3 cap3 w3 hown3 hb3) | (at_builtin; refine wpList_append_ints _ rfl _ _ rfl w6.heap.size _ _ _ _ _ _ _ [] rfl rfl hown3 (Has.nilAt _ HMX.out) (by omega) (Nat.le_trans hb2.size hb3.size) ?_; intro a4 n4 cap4 w4 hn4 hown4 hb4))
            have hbb := (hb2.trans hb3).trans hb4
            have A4 := A.later hbb (A.size)
            have hown5 : Own w4 w.heap.size a4 (j + 1) cap4 (putIn xs j (j : Int)) := (hown4.mono A.size).relen (by omega) (by unfold putIn; rw [List.drop_eq_nil_of_le (by rw [HLO.out]; exact Nat.le_refl _)])
            have hn5 : n4 = j + 1 := by omega
            clear hown4 hown3 hown2 hb2 hb3 hb4 hbb hn4
            go_roundw
            case rel => exact ⟨j + 1, a4, cap4, _, t2, by omega, by go_num, slice_len (by omega), hown5, HI.out.put ⟨by omega, by omega⟩, A4, by omega⟩
            case measure => simp [intOf]; omega
    · skip
      obtain rfl : j = nn := by omega
      by_cases hj0 : 0 < j
      · skip
        go_wp2_with fail
        refine (one_cur g t' 20 _ A.cur (by omega) (by omega)).mono ?_
        rintro e w5 ⟨bb, rfl, ⟨t5, x1, x2, hc5⟩, hg5⟩
        have o5 := hown.kept hg5 (.inl hgl)
        have A5 := A.pick hc5 hg5
        clear hc5 hg5 hown A
        cases bb with
        | false =>
          go_wp2_with fail
          go_ret
          exact ⟨_, _, _, _, t5, rfl, o5, by omega, HI.out.wide (by omega) (by omega), A5, by omega⟩
        | true =>
          go_wp2_with fail
          refine (pick_cur g t5 (j : Int) _ A5.cur (by omega) (by omega)).mono ?_
          rintro e w6 ⟨qx, rfl, q0, q1, ⟨t6, x3, x4, hc6⟩, hg6⟩
          obtain ⟨x, rfl⟩ : ∃ x : Nat, qx = (x : Int) := ⟨_, (Int.toNat_of_nonneg q0).symm⟩
          have hx : x < j := by omega
          have o6 := o5.kept hg6 (.inl hgl)
          have A6 := A5.pick hc6 hg6
          clear hc6 hg6 o5 A5 q0 q1
          go_wp2_with fail
          refine (among_cur g t6 _ 3 3 [-1, 0, (j : Int)] _ (A6.later (alloc_below _ _) (A6.size)).cur (by omega) (has_lit3 w6 (-1) 0 (j : Int)) (by omega) (by omega) (lit_ne A6.cur)).mono ?_
          rintro e w7 ⟨v7, rfl, hv7, ⟨t7, x5, x6, hc7⟩, hg7⟩
          have hv7b : -1 ≤ v7 ∧ v7 ≤ 100 := by simp at hv7; omega
          have A6' := A6.later (alloc_below w6 (.cells #[.int .i64 (-1), .int .i64 0, .int .i64 (j : Int)] 3)) (A6.size)
          have A7 := A6'.pick hc7 hg7
          have o7 := (o6.below (alloc_below w6 (.cells #[.int .i64 (-1), .int .i64 0, .int .i64 (j : Int)] 3)) (Nat.le_refl _)).kept hg7 (.inl hgl)
          clear hc7 hg7 o6 A6 A6' hv7
          obtain ⟨gg, rfl, hgB, hg2, hg3, hg4⟩ := o7.opened hj0
          have hgk := hg3 x hx
          have hgf := hg4 x
          have hxi : (x : Int) < (j : Int) := by omega
          clear hg3 hg4
          go_wp2_with fail
          go_ret
          obtain ⟨s1, s2⟩ := o7.set x v7
          exact ⟨_, _, _, _, t7, rfl, s1, by omega, (HI.out.wide (by omega) (by omega)).set hv7b, A7.later ((Below.refl w.heap.size w7).setCell hgB _) (Nat.le_refl _), by omega⟩
      · skip
        obtain rfl : j = 0 := by omega
        go_wp2_with fail
        go_ret
        exact ⟨_, _, _, _, t', rfl, hown, by omega, HI.out.wide (by omega) (by omega), A, by omega⟩

/-- A list that was drawn, for the caller of a draw. -/
def DrewList' (w : World) (e : Ending) (w' : World) : Prop :=
  ∃ a n cap xs, e = .returned (.slice a n cap) ∧ Own w' w.heap.size a n cap xs ∧ n ≤ 10 ∧ Within xs (-1) 100 ∧ Below w.heap.size w w'

set_option maxHeartbeats 800000 in
theorem drawAllOutcome_any (a : Option Addr) (n cap : Nat) (w : World) (h : HasB w a n w.heap.size) :
    Calls Try.prog 48 #[.slice a n cap] w (DrewList' w) := by
  have C0 := cur_new (cap := cap) h
  have A0 := AtG.new C0
  go_enter Try.func48, Try.ntmps48
  go_wp2_with fail
  refine (pick_cur _ 0 7 _ C0 (by omega) (by omega)).mono ?_
  rintro e w1 ⟨v, rfl, v0, v1, ⟨t1, ta, tb, hc1⟩, hg1⟩
  obtain ⟨nn, rfl⟩ : ∃ nn : Nat, v = (nn : Int) := ⟨_, (Int.toNat_of_nonneg v0).symm⟩
  have A1 := A0.pick hc1 hg1
  have hsz := A1.size
  go_wp2_with fail
  refine (outcome_cur _ t1 nn _ A1.cur (by omega) (by omega)).mono ?_
  rintro e w2 ⟨a1, n1, cap1, xs1, t2, rfl, o1, hn1, hw1, A2, ht2⟩
  have o1' := o1.mono (B' := w.heap.size) (by simp at hsz; omega)
  have hb := (alloc_below w (.cells #[.slice a n cap, .int .i64 0, .int .u64 0] 86)).trans (A1.below.trans A2.below)
  go_wp2_with fail
  go_ret
  exact ⟨_, _, _, _, rfl, o1', hn1, hw1, hb⟩

set_option maxHeartbeats 800000 in
theorem drawCountOutcome_any (a : Option Addr) (n cap : Nat) (w : World) (h : HasB w a n w.heap.size) :
    Calls Try.prog 53 #[.slice a n cap] w (DrewList' w) := by
  have C0 := cur_new (cap := cap) h
  have A0 := AtG.new C0
  go_enter Try.func53, Try.ntmps53
  go_wp2_with fail
  refine (pick_cur _ 0 10 _ C0 (by omega) (by omega)).mono ?_
  rintro e w1 ⟨v, rfl, v0, v1, ⟨t1, ta, tb, hc1⟩, hg1⟩
  obtain ⟨nn, rfl⟩ : ∃ nn : Nat, v = (nn : Int) := ⟨_, (Int.toNat_of_nonneg v0).symm⟩
  have A1 := A0.pick hc1 hg1
  have hsz := A1.size
  go_wp2_with fail
  refine (outcome_cur _ t1 nn _ A1.cur (by omega) (by omega)).mono ?_
  rintro e w2 ⟨a1, n1, cap1, xs1, t2, rfl, o1, hn1, hw1, A2, ht2⟩
  have o1' := o1.mono (B' := w.heap.size) (by simp at hsz; omega)
  have hb := (alloc_below w (.cells #[.slice a n cap, .int .i64 0, .int .u64 0] 86)).trans (A1.below.trans A2.below)
  go_wp2_with fail
  go_ret
  exact ⟨_, _, _, _, rfl, o1', hn1, hw1, hb⟩

/-- Two lists that were drawn. -/
def DrewTwo (w : World) (e : Ending) (w' : World) : Prop :=
  ∃ a n cap xs a' n' cap' ys, e = .returned (.tuple #[.slice a n cap, .slice a' n' cap']) ∧ Own w' w.heap.size a n cap xs ∧ Own w' w.heap.size a' n' cap' ys ∧ n ≤ 10 ∧ n' ≤ 10 ∧ Below w.heap.size w w'

/-- Two lists and a bool that were drawn. -/
def DrewTwoB (w : World) (e : Ending) (w' : World) : Prop :=
  ∃ a n cap xs a' n' cap' ys b, e = .returned (.tuple #[.slice a n cap, .slice a' n' cap', .bool b]) ∧ Own w' w.heap.size a n cap xs ∧ Own w' w.heap.size a' n' cap' ys ∧ n ≤ 10 ∧ n' ≤ 10 ∧ Below w.heap.size w w'

end Go.Proofs.Ytpjgidjkpcbniab
