/- Draws of sand to be added, repeated, and of numbers of nodes. -/
import Derived.Test.YtclpbccmgfclcaaDrawV
import Derived.Test.YtclpbccmgfclcaaRows2
namespace Go.Proofs.Ytclpbccmgfclcaa
open Go.RowKit

theorem has_lit5 (w : World) (a b c d e : Int) : Has (w.alloc (.cells #[.int .i64 a, .int .i64 b, .int .i64 c, .int .i64 d, .int .i64 e] 3)) (some ⟨w.heap.size, 0, none⟩) 5 5 [a, b, c, d, e] := has_lit w [a, b, c, d, e] (by simp)

set_option maxRecDepth 100000 in
set_option maxHeartbeats 4000000 in
theorem drawAdd_any (a : Option Addr) (n cap : Nat) (w : World) (h : HasB w a n w.heap.size) :
    Calls Try.prog 28 #[.slice a n cap] w fun e w' => ∃ a n cap xs b m capb ys, e = .returned (.tuple #[.slice a n cap, .slice b m capb]) ∧ Own w' w.heap.size a n cap xs ∧ Own w' w.heap.size b m capb ys ∧ n ≤ 10 ∧ m ≤ 10 ∧ Below w.heap.size w w' := by
  have C0 := cur_new (cap := cap) h
  have hs0 : (w.alloc (.cells #[.slice a n cap, .int .i64 0, .int .u64 0] 47)).heap.size = w.heap.size + 1 := by simp
  have hb0 := alloc_below w (.cells #[.slice a n cap, .int .i64 0, .int .u64 0] 47)
  go_enter Try.func28, Try.ntmps28
  go_wp2_with fail
  refine (again_cur _ 0 _ C0 (by omega)).mono ?_
  rintro e w1 ⟨a1, n1, cap1, xs1, t1, rfl, o1, hn1, A1, ht1⟩
  have l1 := o1.lt
  have o1' := o1.mono (B' := w.heap.size + 1) (by rw [hs0]; exact Nat.le_refl _)
  have hw1 := A1.size
  rw [hs0] at hw1
  clear o1
  go_wp2_with fail
  go_loopw [6, 14] (fun o i wr => ∃ (k : Nat) (a' : Option Addr) (cap' : Nat) (ys : List Int) (t' : Nat), k ≤ n1 ∧ i = .int .i64 (k : Int) ∧ o = .slice a' k cap' ∧ Own wr w1.heap.size a' k cap' ys ∧ Own wr (w.heap.size + 1) a1 n1 cap1 xs1 ∧ AtG (w.alloc (.cells #[.slice a n cap, .int .i64 0, .int .u64 0] 47)) wr w.heap.size t' ∧ t' ≤ 202 + 2 * k ∧ w1.heap.size ≤ wr.heap.size) (fun _ i _ => n1 - (intOf i).toNat)
  case atStart => exact ⟨0, none, 0, [], t1, by omega, rfl, rfl, Own.nil _ _, o1', A1, by omega, Nat.le_refl _⟩
  case round =>
    clear o1' A1 ht1
    obtain ⟨k, a', cap', ys, t', hk, rfl, rfl, oy, ox, A, ht', hsz⟩ := hrel
    by_cases hlt : k < n1
    · go_wp2_with fail
      refine (pick_cur w.heap.size t' ((n1 : Int) + 2) _ A.cur (by omega) (by omega)).mono ?_
      rintro e w2 ⟨v, rfl, v0, v1, ⟨t2, y1, y2, hc2⟩, hg2⟩
      have A2 := A.pick hc2 hg2
      have oy2 := oy.kept hg2 (.inl (by omega))
      have ox2 := ox.kept hg2 (.inl (Nat.lt_succ_self _))
      have hsz2 := Nat.le_trans hsz hg2.size
      clear hc2 hg2 oy ox A
      go_wp2_with (at_builtin; refine wpList_append_int _ rfl _ _ rfl w1.heap.size _ _ _ _ _ rfl rfl oy2 (by omega) hsz2 ?_; intro a3 cap3 w3 o3 hb3)
      have A3 := A2.later hb3 (by rw [hs0]; exact hw1)
      have ox3 := ox2.belowB hb3 l1
      have hsz3 := Nat.le_trans hsz2 hb3.size
      go_roundw
      case rel => exact ⟨k + 1, a3, cap3, _, t2, by omega, by go_num, rfl, o3, ox3, A3, by omega, hsz3⟩
      case measure => simp [intOf]; omega
    · obtain rfl : k = n1 := by omega
      go_wp2_with fail
      refine (one_cur _ t' 6 _ A.cur (by omega) (by omega)).mono ?_
      rintro e w2 ⟨b2, rfl, ⟨t2, y1, y2, hc2⟩, hg2⟩
      have A2 := A.pick hc2 hg2
      have oy2 := oy.kept hg2 (.inl (by omega))
      have ox2 := ox.kept hg2 (.inl (Nat.lt_succ_self _))
      have hsz2 := Nat.le_trans hsz hg2.size
      have hb2 := hb0.trans A2.below
      clear hc2 hg2 oy ox A
      cases b2 with
      | true =>
        go_wp2_with fail
        refine (grains_cur _ t2 _ A2.cur (by omega)).mono ?_
        rintro e w4 ⟨a4, n4, cap4, xs4, t4, rfl, o4, hn4, hw4, A4, ht4⟩
        have ox4 := ox2.kept A4.grew (.inl (Nat.lt_succ_self _))
        have hb4 := hb0.trans (A2.trans A4).below
        go_wp2_with fail
        go_ret2
        exact ⟨_, _, _, _, _, _, _, _, rfl, ox4.mono (Nat.le_succ _), o4.mono (by omega), hn1, hn4, hb4⟩
      | false =>
        go_wp2_with fail
        go_ret2
        exact ⟨_, _, _, _, _, _, _, _, rfl, ox2.mono (Nat.le_succ _), oy2.mono (by omega), hn1, hn1, hb2⟩

set_option maxRecDepth 100000 in
set_option maxHeartbeats 4000000 in
theorem drawRep_any (a : Option Addr) (n cap : Nat) (w : World) (h : HasB w a n w.heap.size) :
    Calls Try.prog 31 #[.slice a n cap] w fun e w' => ∃ a n cap xs k, e = .returned (.tuple #[.slice a n cap, .int .i64 k]) ∧ Own w' w.heap.size a n cap xs ∧ n ≤ 10 ∧ -1 ≤ k ∧ k ≤ 1001 ∧ Below w.heap.size w w' := by
  have C0 := cur_new (cap := cap) h
  have hb0 := alloc_below w (.cells #[.slice a n cap, .int .i64 0, .int .u64 0] 47)
  have A0 := AtG.new C0
  have fin : ∀ {w1 : World} {t1 : Nat}, AtG (w.alloc (.cells #[.slice a n cap, .int .i64 0, .int .u64 0] 47)) w1 w.heap.size t1 → w.heap.size ≤ w1.heap.size := fun A => by have := A.size; simp at this; omega
  go_enter Try.func31, Try.ntmps31
  go_wp2_with fail
  refine (pick_cur _ 0 12 _ C0 (by omega) (by omega)).mono ?_
  rintro e w1 ⟨v, rfl, v0, v1, ⟨t1, y1, y2, hc1⟩, hg1⟩
  have A1 := A0.pick hc1 hg1
  clear hc1 hg1 A0 C0
  go_wp2_with fail
  refine (one_cur _ t1 8 _ A1.cur (by omega) (by omega)).mono ?_
  rintro e w2 ⟨b2, rfl, ⟨t2, z1, z2, hc2⟩, hg2⟩
  have A2 := A1.pick hc2 hg2
  clear hc2 hg2 A1
  cases b2 with
  | true =>
    go_wp2_with fail
    refine (among_cur w.heap.size t2 _ 4 4 [-1, 0, 1000, 1001] _ (A2.later (alloc_below _ _) (A2.size)).cur (by omega) (has_lit4 w2 (-1) 0 1000 1001) (by omega) (by omega) (lit_ne A2.cur)).mono ?_
    rintro e w3 ⟨v3, rfl, hv3, ⟨t3, x3, x4, hc3⟩, hg3⟩
    have hv3b : -1 ≤ v3 ∧ v3 ≤ 1001 := by simp at hv3; omega
    have A2' := A2.later (alloc_below w2 (.cells #[.int .i64 (-1), .int .i64 0, .int .i64 1000, .int .i64 1001] 3)) (A2.size)
    have A3 := A2'.pick hc3 hg3
    clear hc3 hg3 A2' A2 hv3
    go_wp2_with fail
    refine (again_cur _ t3 _ A3.cur (by omega)).mono ?_
    rintro e w4 ⟨a4, n4, cap4, xs4, t4, rfl, o4, hn4, A4, ht4⟩
    have hb4 := hb0.trans (A3.trans A4).below
    have hs3 := fin A3
    go_wp2_with fail
    go_ret2
    exact ⟨_, _, _, _, _, rfl, o4.mono hs3, hn4, hv3b.1, hv3b.2, hb4⟩
  | false =>
    go_wp2_with fail
    refine (again_cur _ t2 _ A2.cur (by omega)).mono ?_
    rintro e w4 ⟨a4, n4, cap4, xs4, t4, rfl, o4, hn4, A4, ht4⟩
    have hb4 := hb0.trans (A2.trans A4).below
    have hs2 := fin A2
    go_wp2_with fail
    go_ret2
    exact ⟨_, _, _, _, _, rfl, o4.mono hs2, hn4, by omega, by omega, hb4⟩

set_option maxRecDepth 100000 in
set_option maxHeartbeats 4000000 in
theorem drawRest_any (a : Option Addr) (n cap : Nat) (w : World) (h : HasB w a n w.heap.size) :
    Calls Try.prog 34 #[.slice a n cap] w fun e w' => ∃ k : Int, e = .returned (.int .i64 k) ∧ Below w.heap.size w w' := by
  have C0 := cur_new (cap := cap) h
  have hb0 := alloc_below w (.cells #[.slice a n cap, .int .i64 0, .int .u64 0] 47)
  have A0 := AtG.new C0
  have sz : ∀ (g t : Nat) (W : World), Cur W g t → t ≤ 100 → Calls Try.prog 68 #[.pointer (some ⟨g, 0, none⟩), .int .i64 8] W fun e w' => ∃ (k : Int) (t' : Nat), e = .returned (.int .i64 k) ∧ AtG W w' g t' := by
    intro g t W hC ht
    have A := AtG.new hC
    go_enter Try.func68, Try.ntmps68
    go_wp2_with fail
    refine (one_cur g t 6 _ A.cur (by omega) (by omega)).mono ?_
    rintro e w2 ⟨b2, rfl, ⟨t2, z1, z2, hc2⟩, hg2⟩
    have A2 := A.pick hc2 hg2
    clear hc2 hg2
    cases b2 with
    | true =>
      go_wp2_with fail
      refine (among_cur g t2 _ 5 5 [-1, 0, 1, 8, 9] _ (A2.later (alloc_below _ _) (A2.size)).cur (by omega) (has_lit5 w2 (-1) 0 1 8 9) (by omega) (by omega) (lit_ne A2.cur)).mono ?_
      rintro e w3 ⟨v3, rfl, hv3, ⟨t3, x3, x4, hc3⟩, hg3⟩
      have A2' := A2.later (alloc_below w2 (.cells #[.int .i64 (-1), .int .i64 0, .int .i64 1, .int .i64 8, .int .i64 9] 3)) (A2.size)
      have A3 := A2'.pick hc3 hg3
      go_wp2_with fail
      go_ret
      exact ⟨_, t3, rfl, A3⟩
    | false =>
      go_wp2_with fail
      refine (pick_cur g t2 9 _ A2.cur (by omega) (by omega)).mono ?_
      rintro e w3 ⟨v3, rfl, v0, v1, ⟨t3, x3, x4, hc3⟩, hg3⟩
      have A3 := A2.pick hc3 hg3
      go_wp2_with fail
      go_ret
      exact ⟨_, t3, rfl, A3⟩
  go_enter Try.func34, Try.ntmps34
  go_wp2_with fail
  refine (sz _ 0 _ C0 (by omega)).mono ?_
  rintro e w1 ⟨k, t1, rfl, A1⟩
  have hb1 := hb0.trans A1.below
  go_wp2_with fail
  go_ret
  exact ⟨_, rfl, hb1⟩
end Go.Proofs.Ytclpbccmgfclcaa
