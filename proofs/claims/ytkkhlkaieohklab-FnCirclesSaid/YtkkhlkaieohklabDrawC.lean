/- Draws of lists on circles. -/
import Derived.Test.YtkkhlkaieohklabDrawN
namespace Go.Proofs.Ytkkhlkaieohklab
open Go.RowKit

/-- A list that was drawn, and the cursor stands. -/
def DrewRing (w : World) (g : Nat) (e : Ending) (w' : World) : Prop := ∃ a n cap xs t', e = .returned (.slice a n cap) ∧ Own w' w.heap.size a n cap xs ∧ n ≤ 10 ∧ At w w' g t'

set_option maxRecDepth 100000 in
set_option maxHeartbeats 4000000 in
theorem ringed_cur (g t : Nat) (w : World) (h : Cur w g t) (ht : t ≤ 1000) :
    Calls Try.prog 59 #[.pointer (some ⟨g, 0, none⟩)] w (DrewRing w g) := by
  have hgl := h.lt
  have A0 : At w w g t := ⟨h, Below.refl _ _⟩
  go_enter Try.func59, Try.ntmps59
  go_wp2_with fail
  refine (pick_cur g t 9 _ h (by omega) (by omega)).mono ?_
  rintro e w3 ⟨n0, rfl, n1, n2, ⟨t3, te, tf, hc3⟩, hg3⟩
  have A4 := A0.pick hc3 hg3
  obtain ⟨nn, rfl⟩ : ∃ nn : Nat, n0 = (nn : Int) := ⟨_, (Int.toNat_of_nonneg n1).symm⟩
  have hnn : nn ≤ 8 := by omega
  clear hc3 hg3 A0 n2 n1
  go_wp2_with fail
  go_loopw [4, 5] (fun o i wr => ∃ (j : Nat) (a' : Option Addr) (cap' : Nat) (xs : List Int) (t' : Nat), j ≤ nn ∧ i = .int .i64 (j : Int) ∧ o = .slice a' j cap' ∧ Own wr w.heap.size a' j cap' xs ∧ At w wr g t' ∧ t' ≤ 2000 + 8 * j) (fun _ i _ => nn - (intOf i).toNat)
  case atStart => exact ⟨0, none, 0, [], t3, by omega, rfl, rfl, Own.nil _ _, A4, by omega⟩
  case round =>
    obtain ⟨j, a', cap', xs, t', hj, rfl, rfl, hown, A, ht'⟩ := hrel
    clear A4
    by_cases hlt : j < nn
    · go_wp2_with fail
      refine (pick_cur g t' ((nn : Int) + 1) _ A.cur (by omega) (by omega)).mono ?_
      rintro e w5 ⟨v5, rfl, v50, v51, ⟨t5, x1, x2, hc5⟩, hg5⟩
      have A5 := A.pick hc5 hg5
      have o5 := hown.kept hg5 (.inl hgl)
      have hs5 := A5.size
      clear hc5 hg5 hown A v51
      go_wp2_with (at_builtin; refine wpList_append_int _ rfl _ _ rfl w.heap.size _ _ _ _ _ rfl rfl o5 (by omega) hs5 ?_; intro a7 cap7 w7 o7 hb7)
      have A7 := A5.later hb7 hgl
      clear A5 o5 hb7
      go_roundw
      case rel => exact ⟨j + 1, a7, cap7, _, t5, by omega, by go_num, rfl, o7, A7, by omega⟩
      case measure => simp [intOf]; omega
    · obtain rfl : j = nn := by omega
      by_cases hj0 : 0 < j
      · have hd0 : decide ((0 : Int) < (j : Int)) = true := by simp; omega
        go_wp2_with fail
        refine (one_cur g t' 15 _ A.cur (by omega) (by omega)).mono ?_
        rintro e w5 ⟨bb, rfl, ⟨t5, x1, x2, hc5⟩, hg5⟩
        have o5 := hown.kept hg5 (.inl hgl)
        have A5 := A.pick hc5 hg5
        clear hc5 hg5 hown A
        cases bb with
        | false =>
          go_wp2_with fail
          refine (one_cur g t5 25 _ A5.cur (by omega) (by omega)).mono ?_
          rintro e w9 ⟨b9, rfl, ⟨t9, y1, y2, hc9⟩, hg9⟩
          have A9 := A5.pick hc9 hg9
          have o9 := o5.kept hg9 (.inl hgl)
          have hs9 := A9.size
          clear hc9 hg9 o5 A5
          cases b9 with
          | true =>
            go_wp2_with (refine wpList_make_ints _ rfl _ _ rfl 9 (by simp [Act.eval]) (by simp [Act.eval]) (by omega) ?_; intro am cm wm om hbm)
            go_ret
            exact ⟨_, _, _, _, t9, rfl, om.mono hs9, by omega, A9.later hbm (Nat.lt_of_lt_of_le hgl hs9)⟩
          | false =>
            go_wp2_with fail
            go_ret
            exact ⟨_, _, _, _, t9, rfl, o9, by omega, A9⟩
        | true =>
          go_wp2_with fail
          refine (pick_cur g t5 (j : Int) _ A5.cur (by omega) (by omega)).mono ?_
          rintro e w6 ⟨qx, rfl, q0, q1, ⟨t6, x3, x4, hc6⟩, hg6⟩
          obtain ⟨x, rfl⟩ : ∃ x : Nat, qx = (x : Int) := ⟨_, (Int.toNat_of_nonneg q0).symm⟩
          have hx : x < j := by omega
          have o6 := o5.kept hg6 (.inl hgl)
          have A6 := A5.pick hc6 hg6
          clear hc6 hg6 o5 A5 q0 q1
          go_wp2_with fail
          refine (among_cur g t6 _ 3 3 [-1, (j : Int) + 1, 4611686018427387904] _ (A6.later (alloc_below _ _) A6.cur.lt).cur (by omega) (has_lit3 w6 (-1) ((j : Int) + 1) 4611686018427387904) (by omega) (by omega) (lit_ne A6.cur)).mono ?_
          rintro e w7 ⟨v7, rfl, hv7, ⟨t7, x5, x6, hc7⟩, hg7⟩
          have A6' := A6.later (alloc_below w6 (.cells #[.int .i64 (-1), .int .i64 ((j : Int) + 1), .int .i64 4611686018427387904] 3)) A6.cur.lt
          have A7 := A6'.pick hc7 hg7
          have o7 := (o6.below (alloc_below w6 (.cells #[.int .i64 (-1), .int .i64 ((j : Int) + 1), .int .i64 4611686018427387904] 3)) (Nat.le_refl _)).kept hg7 (.inl hgl)
          clear hc7 hg7 o6 A6 A6' hv7
          obtain ⟨gg, rfl, hgB, hg2, hg3, hg4⟩ := o7.opened hj0
          have hgk := hg3 x hx
          have hgf := hg4 x
          have hxi : (x : Int) < (j : Int) := by omega
          have o8 := (o7.set x v7).1
          have A8 := A7.later ((Below.refl w.heap.size w7).setCell (p := ⟨gg, x, none⟩) hgB (.int .i64 v7)) hgl
          clear hg3 hg4 o7 A7
          go_wp2_with fail
          refine (one_cur g t7 25 _ A8.cur (by omega) (by omega)).mono ?_
          rintro e w9 ⟨b9, rfl, ⟨t9, y1, y2, hc9⟩, hg9⟩
          have A9 := A8.pick hc9 hg9
          have o9 := o8.kept hg9 (.inl hgl)
          have hs9 := A9.size
          clear hc9 hg9 o8 A8
          cases b9 with
          | true =>
            go_wp2_with (refine wpList_make_ints _ rfl _ _ rfl 9 (by simp [Act.eval]) (by simp [Act.eval]) (by omega) ?_; intro am cm wm om hbm)
            go_ret
            exact ⟨_, _, _, _, t9, rfl, om.mono hs9, by omega, A9.later hbm (Nat.lt_of_lt_of_le hgl hs9)⟩
          | false =>
            go_wp2_with fail
            go_ret
            exact ⟨_, _, _, _, t9, rfl, o9, by omega, A9⟩
      · obtain rfl : j = 0 := by omega
        go_wp2_with fail
        refine (one_cur g t' 25 _ A.cur (by omega) (by omega)).mono ?_
        rintro e w9 ⟨b9, rfl, ⟨t9, y1, y2, hc9⟩, hg9⟩
        have A9 := A.pick hc9 hg9
        have o9 := hown.kept hg9 (.inl hgl)
        have hs9 := A9.size
        clear hc9 hg9 hown A
        cases b9 with
        | true =>
          go_wp2_with (refine wpList_make_ints _ rfl _ _ rfl 9 (by simp [Act.eval]) (by simp [Act.eval]) (by omega) ?_; intro am cm wm om hbm)
          go_ret
          exact ⟨_, _, _, _, t9, rfl, om.mono hs9, by omega, A9.later hbm (Nat.lt_of_lt_of_le hgl hs9)⟩
        | false =>
          go_wp2_with fail
          go_ret
          exact ⟨_, _, _, _, t9, rfl, o9, by omega, A9⟩

set_option maxHeartbeats 800000 in
theorem drawFree_any (a : Option Addr) (n cap : Nat) (w : World) (h : HasB w a n w.heap.size) :
    Calls Try.prog 32 #[.slice a n cap] w (DrewAny w) := by
  have C0 := cur_new (cap := cap) h
  have hb0 := fresh_below w a n cap
  go_enter Try.func32, Try.ntmps32
  go_wp2_with fail
  refine (ringed_cur _ 0 _ C0 (by omega)).mono ?_
  rintro e w1 ⟨a1, n1, cap1, xs1, t1, rfl, o1, hn1, A1⟩
  have o1' := o1.mono (B' := w.heap.size) (by simp)
  have hb := hb0.trans A1.below
  go_wp2_with fail
  go_ret
  exact ⟨_, _, _, _, rfl, o1', by omega, hb⟩
set_option maxHeartbeats 400000 in
theorem drawClass_any (a : Option Addr) (n cap : Nat) (w : World) (h : HasB w a n w.heap.size) :
    Calls Try.prog 6 #[.slice a n cap] w (DrewAny w) := by
  go_enter Try.func6, Try.ntmps6
  go_wp2_with fail
  refine (drawFree_any _ _ _ _ h).mono ?_
  rintro e w1 ⟨a1, n1, c1, xs1, rfl, o1, hn1, hb⟩
  go_wp2_with fail
  go_ret
  exact ⟨_, _, _, _, rfl, o1, hn1, hb⟩

/-- A list and a number. -/
def DrewAnyInt (w : World) (e : Ending) (w' : World) : Prop := ∃ a n cap xs p, e = .returned (.tuple #[.slice a n cap, .int .i64 p]) ∧ Own w' w.heap.size a n cap xs ∧ n ≤ 20 ∧ -1 ≤ p ∧ p ≤ 13 ∧ Below w.heap.size w w'
/-- A list and two numbers. -/
def DrewAnyInts (w : World) (e : Ending) (w' : World) : Prop := ∃ a n cap xs p b, e = .returned (.tuple #[.slice a n cap, .int .i64 p, .int .i64 b]) ∧ Own w' w.heap.size a n cap xs ∧ n ≤ 20 ∧ -1 ≤ p ∧ p ≤ 13 ∧ -1001 ≤ b ∧ b ≤ 1001 ∧ Below w.heap.size w w'

set_option maxRecDepth 100000 in
set_option maxHeartbeats 1600000 in
theorem drawCircle_any (a : Option Addr) (n cap : Nat) (w : World) (h : HasB w a n w.heap.size) :
    Calls Try.prog 16 #[.slice a n cap] w (DrewAnyInt w) := by
  have C0 := cur_new (cap := cap) h
  have hb0 := fresh_below w a n cap
  go_enter Try.func16, Try.ntmps16
  go_wp2_with fail
  refine (favourites_at _ 0 _ C0 (by omega)).mono ?_
  rintro e w1 ⟨a1, n1, cap1, xs1, p1, rfl, o1, hn1, p0, p2, t1, A1, ht1⟩
  have hgl : w.heap.size < (w.alloc (.cells #[.slice a n cap, .int .i64 0, .int .u64 0] 52)).heap.size := C0.lt
  go_wp2_with fail
  refine (one_cur _ t1 3 _ A1.cur (by omega) (by omega)).mono ?_
  rintro e w2 ⟨bb, rfl, ⟨t2, x1, x2, hc2⟩, hg2⟩
  have o2 := o1.kept hg2 (.inl hgl)
  have A2 := A1.pick hc2 hg2
  have hs2 := A2.size
  clear hc2 hg2 o1 A1
  cases bb with
  | true =>
    go_wp2_with (at_builtin; refine wpList_append_ints _ rfl _ _ rfl (w.alloc (.cells #[.slice a n cap, .int .i64 0, .int .u64 0] 52)).heap.size _ _ _ _ _ _ _ _ rfl rfl o2 o2.has (by omega) hs2 ?_; intro a3 k3 cap3 w3 hk3 o3 hb3)
    subst hk3
    have A3 := A2.later hb3 hgl
    have hb := hb0.trans A3.below
    have o3' := o3.mono (B' := w.heap.size) (by simp)
    go_ret2
    exact ⟨_, _, _, _, _, rfl, o3', by omega, p0, p2, hb⟩
  | false =>
    have hb := hb0.trans A2.below
    have o2' := o2.mono (B' := w.heap.size) (by simp)
    go_wp2_with fail
    go_ret2
    exact ⟨_, _, _, _, _, rfl, o2', by omega, p0, p2, hb⟩

set_option maxRecDepth 100000 in
set_option maxHeartbeats 1600000 in
theorem drawTurn_any (a : Option Addr) (n cap : Nat) (w : World) (h : HasB w a n w.heap.size) :
    Calls Try.prog 19 #[.slice a n cap] w (DrewAnyInts w) := by
  have C0 := cur_new (cap := cap) h
  have hb0 := fresh_below w a n cap
  go_enter Try.func19, Try.ntmps19
  go_wp2_with fail
  refine (favourites_at _ 0 _ C0 (by omega)).mono ?_
  rintro e w1 ⟨a1, n1, cap1, xs1, p1, rfl, o1, hn1, p0, p2, t1, A1, ht1⟩
  have hgl : w.heap.size < (w.alloc (.cells #[.slice a n cap, .int .i64 0, .int .u64 0] 52)).heap.size := C0.lt
  have A2 := A1.later (alloc_below w1 (.cells #[.int .i64 0, .int .i64 1, .int .i64 (-1), .int .i64 3, .int .i64 7, .int .i64 1000, .int .i64 (-1000), .int .i64 1001, .int .i64 (-1001)] 3)) A1.cur.lt
  have o2 := o1.below (alloc_below w1 (.cells #[.int .i64 0, .int .i64 1, .int .i64 (-1), .int .i64 3, .int .i64 7, .int .i64 1000, .int .i64 (-1000), .int .i64 1001, .int .i64 (-1001)] 3)) (Nat.le_refl _)
  go_wp2_with fail
  refine (among_cur _ t1 _ 9 9 [0, 1, -1, 3, 7, 1000, -1000, 1001, -1001] _ A2.cur (by omega) (has_lit9 w1 0 1 (-1) 3 7 1000 (-1000) 1001 (-1001)) (by omega) (by omega) (lit_ne A1.cur)).mono ?_
  rintro e w2 ⟨u, rfl, hu, ⟨t2, tc, td, hc2⟩, hg2⟩
  have hu1 : -1001 ≤ u ∧ u ≤ 1001 := by simp at hu; omega
  have A3 := A2.pick hc2 hg2
  have o3 := (o2.kept hg2 (.inl hgl)).mono (B' := w.heap.size) (by simp)
  have hb := hb0.trans A3.below
  clear hu hc2 hg2 A1 A2 o1 o2
  go_wp2_with fail
  go_ret3
  exact ⟨_, _, _, _, _, _, rfl, o3, by omega, p0, p2, hu1.1, hu1.2, hb⟩
end Go.Proofs.Ytkkhlkaieohklab
