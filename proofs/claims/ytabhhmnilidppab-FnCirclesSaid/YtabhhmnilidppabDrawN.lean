/- Draws of numbers of cars, ranks, circle lists. -/
import Derived.Test.YtabhhmnilidppabDraw2
import Derived.Test.YtabhhmnilidppabSpecN
namespace Go.Proofs.Ytabhhmnilidppab
open Go.RowKit

/-- A number that was drawn, for the caller of a draw. -/
def DrewNum (lo hi : Int) (w : World) (e : Ending) (w' : World) : Prop := ∃ v, e = .returned (.int .i64 v) ∧ lo ≤ v ∧ v ≤ hi ∧ Below w.heap.size w w'
/-- Two numbers. -/
def DrewNums (lo hi : Int) (w : World) (e : Ending) (w' : World) : Prop := ∃ v u, e = .returned (.tuple #[.int .i64 v, .int .i64 u]) ∧ lo ≤ v ∧ v ≤ hi ∧ lo ≤ u ∧ u ≤ hi ∧ Below w.heap.size w w'
/-- A list with any numbers. -/
def DrewAny (w : World) (e : Ending) (w' : World) : Prop := ∃ a n cap xs, e = .returned (.slice a n cap) ∧ Own w' w.heap.size a n cap xs ∧ n ≤ 20 ∧ Below w.heap.size w w'

theorem has_lit7 (w : World) (a b c d e f g : Int) : Has (w.alloc (.cells #[.int .i64 a, .int .i64 b, .int .i64 c, .int .i64 d, .int .i64 e, .int .i64 f, .int .i64 g] 3)) (some ⟨w.heap.size, 0, none⟩) 7 7 [a, b, c, d, e, f, g] := has_lit w [a, b, c, d, e, f, g] (by simp)
theorem has_lit8 (w : World) (a b c d e f g h : Int) : Has (w.alloc (.cells #[.int .i64 a, .int .i64 b, .int .i64 c, .int .i64 d, .int .i64 e, .int .i64 f, .int .i64 g, .int .i64 h] 3)) (some ⟨w.heap.size, 0, none⟩) 8 8 [a, b, c, d, e, f, g, h] := has_lit w [a, b, c, d, e, f, g, h] (by simp)
theorem has_lit9 (w : World) (a b c d e f g h i : Int) : Has (w.alloc (.cells #[.int .i64 a, .int .i64 b, .int .i64 c, .int .i64 d, .int .i64 e, .int .i64 f, .int .i64 g, .int .i64 h, .int .i64 i] 3)) (some ⟨w.heap.size, 0, none⟩) 9 9 [a, b, c, d, e, f, g, h, i] := has_lit w [a, b, c, d, e, f, g, h, i] (by simp)

set_option maxHeartbeats 800000 in
theorem number2_cur (g t : Nat) (w : World) (h : Cur w g t) (ht : t ≤ 1000) :
    Calls Try.prog 84 #[.pointer (some ⟨g, 0, none⟩)] w fun e w' => ∃ v : Int, e = .returned (.int .i64 v) ∧ -1 ≤ v ∧ v ≤ 9 ∧ ∃ t', t' ≤ t + 10 ∧ At w w' g t' := by
  have A0 : At w w g t := ⟨h, Below.refl _ _⟩
  go_enter Try.func84, Try.ntmps84
  go_wp2_with fail
  refine (one_cur g t 10 _ h (by omega) (by omega)).mono ?_
  rintro e w1 ⟨b, rfl, ⟨t1, ta, tb, hc1⟩, hg1⟩
  have A1 := A0.pick hc1 hg1
  clear hc1 hg1 A0
  cases b with
  | true =>
    have A2 := A1.later (alloc_below w1 (.cells #[.int .i64 (-1), .int .i64 0, .int .i64 8, .int .i64 9] 3)) A1.cur.lt
    go_wp2_with fail
    refine (among_cur g t1 _ 4 4 [-1, 0, 8, 9] _ A2.cur (by omega) (has_lit4 w1 (-1) 0 8 9) (by omega) (by omega) (lit_ne A1.cur)).mono ?_
    rintro e w2 ⟨v, rfl, hv, ⟨t2, tc, td, hc2⟩, hg2⟩
    have hv1 : -1 ≤ v ∧ v ≤ 9 := by simp at hv; omega
    have A3 := A2.pick hc2 hg2
    clear hv hc2 hg2 A1 A2
    go_wp2_with fail
    go_ret
    exact ⟨_, rfl, hv1.1, hv1.2, t2, by omega, A3⟩
  | false =>
    go_wp2_with fail
    refine (pick_cur g t1 7 _ A1.cur (by omega) (by omega)).mono ?_
    rintro e w2 ⟨v, rfl, v0, v1, ⟨t2, tc, td, hc2⟩, hg2⟩
    have A2 := A1.pick hc2 hg2
    have hv1 : -1 ≤ v ∧ v ≤ 9 := by omega
    clear hc2 hg2 A1 v1
    go_wp2_with fail
    go_ret
    exact ⟨_, rfl, hv1.1, hv1.2, t2, by omega, A2⟩

theorem fresh_below (w : World) (a : Option Addr) (n cap : Nat) : Below w.heap.size w (w.alloc (.cells #[.slice a n cap, .int .i64 0, .int .u64 0] 78)) := alloc_below _ _

set_option maxHeartbeats 800000 in
theorem drawCountParking_any (a : Option Addr) (n cap : Nat) (w : World) (h : HasB w a n w.heap.size) :
    Calls Try.prog 96 #[.slice a n cap] w (DrewNum (-1) 9 w) := by
  have C0 := cur_new (cap := cap) h
  go_enter Try.func96, Try.ntmps96
  go_wp2_with fail
  refine (number2_cur _ 0 _ C0 (by omega)).mono ?_
  rintro e w1 ⟨v, rfl, v0, v1, t1, ht1, A1⟩
  have hb := (fresh_below w a n cap).trans A1.below
  go_wp2_with fail
  go_ret
  exact ⟨_, rfl, v0, v1, hb⟩
set_option maxHeartbeats 400000 in
theorem drawCountByFirst_any (a : Option Addr) (n cap : Nat) (w : World) (h : HasB w a n w.heap.size) :
    Calls Try.prog 40 #[.slice a n cap] w (DrewNum (-1) 9 w) := by
  go_enter Try.func40, Try.ntmps40
  go_wp2_with fail
  refine (drawCountParking_any _ _ _ _ h).mono ?_
  rintro e w1 ⟨v, rfl, v0, v1, hb⟩
  go_wp2_with fail
  go_ret
  exact ⟨_, rfl, v0, v1, hb⟩
set_option maxHeartbeats 400000 in
theorem drawCountSorted_any (a : Option Addr) (n cap : Nat) (w : World) (h : HasB w a n w.heap.size) :
    Calls Try.prog 68 #[.slice a n cap] w (DrewNum (-1) 9 w) := by
  go_enter Try.func68, Try.ntmps68
  go_wp2_with fail
  refine (drawCountParking_any _ _ _ _ h).mono ?_
  rintro e w1 ⟨v, rfl, v0, v1, hb⟩
  go_wp2_with fail
  go_ret
  exact ⟨_, rfl, v0, v1, hb⟩

set_option maxRecDepth 100000 in
set_option maxHeartbeats 800000 in
theorem drawCountForStreet_any (a : Option Addr) (n cap : Nat) (w : World) (h : HasB w a n w.heap.size) :
    Calls Try.prog 48 #[.slice a n cap] w (DrewNums (-1) 20 w) := by
  have C0 := cur_new (cap := cap) h
  have hb0 := fresh_below w a n cap
  go_enter Try.func48, Try.ntmps48
  go_wp2_with fail
  refine (number2_cur _ 0 _ C0 (by omega)).mono ?_
  rintro e w1 ⟨v, rfl, v0, v1, t1, ht1, A1⟩
  have hbw := hb0.trans A1.below
  have A2 := A1.later (alloc_below w1 (.cells #[.int .i64 1, .int .i64 2, .int .i64 3, .int .i64 5, .int .i64 8, .int .i64 12, .int .i64 13, .int .i64 0] 3)) A1.cur.lt
  go_wp2_with fail
  refine (among_cur _ t1 _ 8 8 [1, 2, 3, 5, 8, 12, 13, 0] _ A2.cur (by omega) (has_lit8 w1 1 2 3 5 8 12 13 0) (by omega) (by omega) (lit_ne A1.cur)).mono ?_
  rintro e w2 ⟨u, rfl, hu, ⟨t2, tc, td, hc2⟩, hg2⟩
  have hu1 : -1 ≤ u ∧ u ≤ 20 := by simp at hu; omega
  have A3 := A2.pick hc2 hg2
  have hb := hb0.trans A3.below
  clear hu hc2 hg2 A1 A2
  go_wp2_with fail
  go_ret2
  exact ⟨_, _, rfl, v0, by omega, hu1.1, hu1.2, hb⟩

set_option maxRecDepth 100000 in
set_option maxHeartbeats 1600000 in
theorem drawParkingAt_any (a : Option Addr) (n cap : Nat) (w : World) (h : HasB w a n w.heap.size) :
    Calls Try.prog 27 #[.slice a n cap] w (DrewNums (-1) 5000000 w) := by
  have C0 := cur_new (cap := cap) h
  have hb0 := fresh_below w a n cap
  go_enter Try.func27, Try.ntmps27
  go_wp2_with fail
  refine (number2_cur _ 0 _ C0 (by omega)).mono ?_
  rintro e w1 ⟨v, rfl, v0, v1, t1, ht1, A1⟩
  go_wp2_with fail
  refine (l1Least_any _ _ _).mono ?_
  rintro e _ ⟨rfl, rfl⟩
  go_wp2_with fail
  refine (l1Most_any _ _ _).mono ?_
  rintro e _ ⟨rfl, rfl⟩
  obtain ⟨m, hm⟩ : ∃ m : Nat, max 0 (min v 8) = (m : Int) := ⟨(max 0 (min v 8)).toNat, by omega⟩
  have hm8 : m ≤ 8 := by omega
  rw [hm]
  clear hm
  go_wp2_with fail
  refine (cnCount_any _ _ hm8).mono ?_
  rintro e _ ⟨rfl, rfl⟩
  obtain ⟨c1, c2⟩ := cnt_le hm8
  obtain ⟨c, hc⟩ : ∃ c, cnt m = c := ⟨_, rfl⟩
  rw [hc] at c1 c2 ⊢
  clear hc
  go_wp2_with fail
  refine (l1Least_any _ _ _).mono ?_
  rintro e _ ⟨rfl, rfl⟩
  obtain ⟨q, hq⟩ : ∃ q, min (c : Int) 60000 = q := ⟨_, rfl⟩
  have hq1 : 1 ≤ q ∧ q ≤ 60000 := by omega
  have HQ := hid hq
  rw [hq]
  clear hq
  go_wp2_with fail
  refine (pick_cur _ t1 q _ A1.cur (by omega) (by omega)).mono ?_
  rintro e w2 ⟨x, rfl, x0, x1, ⟨t2, ta, tb, hc2⟩, hg2⟩
  have A2 := A1.pick hc2 hg2
  have hx : x ≤ 60000 := by omega
  clear hc2 hg2 A1 x1
  go_wp2_with fail
  refine (l1Least_any _ _ _).mono ?_
  rintro e _ ⟨rfl, rfl⟩
  rw [HQ.out]
  go_wp2_with fail
  refine (pick_cur _ t2 q _ A2.cur (by omega) (by omega)).mono ?_
  rintro e w3 ⟨y, rfl, y0, y1, ⟨t3, tc, td, hc3⟩, hg3⟩
  have A3 := A2.pick hc3 hg3
  have hy : y ≤ 60000 := by omega
  clear hc3 hg3 A2 y1
  have A4 := A3.later (alloc_below w3 (.cells #[.int .i64 0, .int .i64 1, .int .i64 ((c : Int) - 1), .int .i64 (c : Int), .int .i64 (-1), .int .i64 x, .int .i64 y] 3)) A3.cur.lt
  go_wp2_with fail
  refine (among_cur _ t3 _ 7 7 [0, 1, (c : Int) - 1, (c : Int), -1, x, y] _ A4.cur (by omega) (has_lit7 w3 0 1 ((c : Int) - 1) (c : Int) (-1) x y) (by omega) (by omega) (lit_ne A3.cur)).mono ?_
  rintro e w4 ⟨u, rfl, hu, ⟨t4, te, tf, hc4⟩, hg4⟩
  have hu1 : -1 ≤ u ∧ u ≤ 5000000 := by simp at hu; omega
  have A5 := A4.pick hc4 hg4
  have hb := hb0.trans A5.below
  clear hu hc4 hg4 A3 A4
  go_wp2_with fail
  go_ret2
  exact ⟨_, _, rfl, v0, by omega, hu1.1, hu1.2, hb⟩
end Go.Proofs.Ytabhhmnilidppab
