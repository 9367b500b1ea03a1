/- Draws of numbers of cars, of a list of nine. -/
import Derived.Test.YtabhhmnilidppabDrawN
namespace Go.Proofs.Ytabhhmnilidppab
open Go.RowKit

set_option maxRecDepth 100000 in
set_option maxHeartbeats 800000 in
theorem drawAllParking_any (a : Option Addr) (n cap : Nat) (w : World) (h : HasB w a n w.heap.size) :
    Calls Try.prog 37 #[.slice a n cap] w (DrewNum (-1) 9 w) := by
  have C0 := cur_new (cap := cap) h
  have hb0 := fresh_below w a n cap
  obtain ⟨w1, hw1⟩ : ∃ w1, w.alloc (.cells #[.slice a n cap, .int .i64 0, .int .u64 0] 78) = w1 := ⟨_, rfl⟩
  have hs1 : w1.heap.size = w.heap.size + 1 := by rw [← hw1]; simp
  rw [hw1] at C0 hb0
  have HW := hid hw1
  clear hw1
  go_enter Try.func37, Try.ntmps37
  go_wp2_with fail
  rw [HW.out]
  have A0 : At w1 w1 w.heap.size 0 := ⟨C0, Below.refl _ _⟩
  have A1 := A0.later (alloc_below w1 (.cells #[.int .i64 0, .int .i64 1, .int .i64 2, .int .i64 3, .int .i64 4, .int .i64 4, .int .i64 5, .int .i64 6, .int .i64 (-1)] 3)) C0.lt
  have hl := has_lit9 w1 0 1 2 3 4 4 5 6 (-1)
  have hn := lit_ne C0
  rw [hs1] at hl hn
  refine (among_cur w.heap.size 0 _ 9 9 [0, 1, 2, 3, 4, 4, 5, 6, -1] _ A1.cur (by omega) hl (by omega) (by omega) hn).mono ?_
  rintro e w2 ⟨v, rfl, hv, ⟨t2, tc, td, hc2⟩, hg2⟩
  have hv1 : -1 ≤ v ∧ v ≤ 9 := by simp at hv; omega
  have A2 := A1.pick hc2 hg2
  have hb := hb0.trans A2.below
  clear hv hc2 hg2 A1 A0
  go_wp2_with fail
  go_ret
  exact ⟨_, rfl, hv1.1, hv1.2, hb⟩

set_option maxRecDepth 100000 in
set_option maxHeartbeats 800000 in
theorem drawAllSorted_any (a : Option Addr) (n cap : Nat) (w : World) (h : HasB w a n w.heap.size) :
    Calls Try.prog 64 #[.slice a n cap] w (DrewNum (-1) 9 w) := by
  have C0 := cur_new (cap := cap) h
  have hb0 := fresh_below w a n cap
  obtain ⟨w1, hw1⟩ : ∃ w1, w.alloc (.cells #[.slice a n cap, .int .i64 0, .int .u64 0] 78) = w1 := ⟨_, rfl⟩
  have hs1 : w1.heap.size = w.heap.size + 1 := by rw [← hw1]; simp
  rw [hw1] at C0 hb0
  have HW := hid hw1
  clear hw1
  go_enter Try.func64, Try.ntmps64
  go_wp2_with fail
  rw [HW.out]
  have A0 : At w1 w1 w.heap.size 0 := ⟨C0, Below.refl _ _⟩
  have A1 := A0.later (alloc_below w1 (.cells #[.int .i64 0, .int .i64 1, .int .i64 2, .int .i64 3, .int .i64 4, .int .i64 5, .int .i64 6, .int .i64 7, .int .i64 (-1)] 3)) C0.lt
  have hl := has_lit9 w1 0 1 2 3 4 5 6 7 (-1)
  have hn := lit_ne C0
  rw [hs1] at hl hn
  refine (among_cur w.heap.size 0 _ 9 9 [0, 1, 2, 3, 4, 5, 6, 7, -1] _ A1.cur (by omega) hl (by omega) (by omega) hn).mono ?_
  rintro e w2 ⟨v, rfl, hv, ⟨t2, tc, td, hc2⟩, hg2⟩
  have hv1 : -1 ≤ v ∧ v ≤ 9 := by simp at hv; omega
  have A2 := A1.pick hc2 hg2
  have hb := hb0.trans A2.below
  clear hv hc2 hg2 A1 A0
  go_wp2_with fail
  go_ret
  exact ⟨_, rfl, hv1.1, hv1.2, hb⟩

set_option maxHeartbeats 400000 in
theorem drawCountByDistance_any (a : Option Addr) (n cap : Nat) (w : World) (h : HasB w a n w.heap.size) :
    Calls Try.prog 46 #[.slice a n cap] w (DrewNum (-1) 9 w) := by
  go_enter Try.func46, Try.ntmps46
  go_wp2_with fail
  refine (drawAllParking_any _ _ _ _ h).mono ?_
  rintro e w1 ⟨v, rfl, v0, v1, hb⟩
  go_wp2_with fail
  go_ret
  exact ⟨_, rfl, v0, v1, hb⟩
end Go.Proofs.Ytabhhmnilidppab
