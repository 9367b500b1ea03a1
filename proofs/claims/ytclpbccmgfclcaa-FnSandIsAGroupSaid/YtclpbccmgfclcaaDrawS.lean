/- Draws of sand. -/
import Derived.Test.YtclpbccmgfclcaaDraw2
import Derived.Test.YtclpbccmgfclcaaSpecSd
import Derived.Test.YtclpbccmgfclcaaNamed
import Derived.Deep.RegionWith
import Derived.Deep.DeepCutAuto
namespace Go.Proofs.Ytclpbccmgfclcaa
open Go.RowKit

set_option maxRecDepth 100000 in
set_option maxHeartbeats 8000000 in
theorem grains_cur (g t : Nat) (w : World) (h : Cur w g t) (ht : t ≤ 1000) :
    Calls Try.prog 37 #[.pointer (some ⟨g, 0, none⟩)] w (DrewList w g t) := by
  have A0 := AtG.new h
  have hgl : g < w.heap.size := h.lt
  go_enter Try.func37, Try.ntmps37
  go_wp2_with fail
  refine (pick_cur g t 7 _ A0.cur (by omega) (by omega)).mono ?_
  rintro e w1 ⟨q0, rfl, p0, p1, ⟨t1, x1, x2, hc1⟩, hg1⟩
  obtain ⟨n0, rfl⟩ : ∃ n0 : Nat, q0 = (n0 : Int) := ⟨_, (Int.toNat_of_nonneg p0).symm⟩
  have hn0 : n0 ≤ 6 := by omega
  have A1 := A0.pick hc1 hg1
  clear hc1 hg1 p0 p1 A0
  go_wp2_with fail
  go_loopg [3] n0 (fun q o wr => ∃ (m : Nat) (a' : Option Addr) (cap' : Nat) (xs : List Int) (t' : Nat), m + q = n0 ∧ o = .slice a' m cap' ∧ Own wr w.heap.size a' m cap' xs ∧ Within xs (-1) 100 ∧ AtG w wr g t' ∧ t' ≤ t + 2 + 2 * m)
  case atStart => exact ⟨0, none, 0, [], t1, by omega, rfl, Own.nil _ _, fun x hx => by simp at hx, A1, by omega⟩
  case round =>
    clear A1 x1 x2
    obtain ⟨m, a', cap', xs, t', hmq, rfl, hown, hin, A, htt⟩ := hrel
    have HI := hid hin
    have hs := A.size
    clear hin
    by_cases hlt : m < n0
    · have hml : (m : Int) < (n0 : Int) := by omega
      go_wp2_with fail
      refine (pick_cur g t' ((n0 : Int) + 3) _ A.cur (by omega) (by omega)).mono ?_
      rintro e w2 ⟨v, rfl, v0, v1, ⟨t2, y1, y2, hc2⟩, hg2⟩
      have A2 := A.pick hc2 hg2
      have o2 := hown.kept hg2 (.inl hgl)
      have hs2 := A2.size
      clear hc2 hg2 hown A
      go_wp2_with (at_builtin; refine wpList_append_int _ rfl _ _ rfl w.heap.size _ _ _ _ _ rfl rfl o2 (by omega) hs2 ?_; intro a3 cap3 w3 o3 hb3)
      have A3 := A2.later hb3 (Nat.le_refl _)
      go_roundg (gk - 1)
      case measure => omega
      case rel => exact ⟨m + 1, a3, cap3, _, t2, by omega, rfl, o3, HI.out.snoc ⟨by omega, by omega⟩, A3, by omega⟩
    · obtain rfl : m = n0 := by omega
      go_wp2_with fail
      refine (pick_cur g t' 12 _ A.cur (by omega) (by omega)).mono ?_
      rintro e w5 ⟨z, rfl, z0, z1, ⟨t5, x1, x2, hc5⟩, hg5⟩
      have o5 := hown.kept hg5 (.inl hgl)
      have A5 := A.pick hc5 hg5
      clear hc5 hg5 hown A
      by_cases h0 : (z == 0) = true
      · go_wp2_with fail
        refine (among_cur g t5 _ 4 4 [-1, 0, 60, 61] _ (A5.later (alloc_below _ _) (A5.size)).cur (by omega) (has_lit4 w5 (-1) 0 60 61) (by omega) (by omega) (lit_ne A5.cur)).mono ?_
        rintro e w6 ⟨v6, rfl, hv6, ⟨t6, x3, x4, hc6⟩, hg6⟩
        have hv6b : -1 ≤ v6 ∧ v6 ≤ 100 := by simp at hv6; omega
        have A5' := A5.later (alloc_below w5 (.cells #[.int .i64 (-1), .int .i64 0, .int .i64 60, .int .i64 61] 3)) (A5.size)
        have A6 := A5'.pick hc6 hg6
        have o6 := (o5.below (alloc_below w5 (.cells #[.int .i64 (-1), .int .i64 0, .int .i64 60, .int .i64 61] 3)) (Nat.le_refl _)).kept hg6 (.inl hgl)
        have hs6 := A6.size
        clear hc6 hg6 o5 A5 A5' hv6
        go_wp2_with (at_builtin; refine wpList_append_int _ rfl _ _ rfl w.heap.size _ _ _ _ _ rfl rfl o6 (by omega) hs6 ?_; intro a7 cap7 w7 o7 hb7)
        have A7 := A6.later hb7 (Nat.le_refl _)
        go_ret
        exact ⟨_, _, _, _, t6, rfl, o7, by omega, HI.out.snoc hv6b, A7, by omega⟩
      · have h0' := Bool.eq_false_iff.2 h0
        clear h0
        by_cases h1 : (z == 1) = true
        · go_wp2_with fail
          refine (pick_cur g t5 2 _ A5.cur (by omega) (by omega)).mono ?_
          rintro e w6 ⟨qx, rfl, q0, q1, ⟨t6, x3, x4, hc6⟩, hg6⟩
          obtain ⟨x, rfl⟩ : ∃ x : Nat, qx = (x : Int) := ⟨_, (Int.toNat_of_nonneg q0).symm⟩
          have hx : x ≤ 1 := by omega
          have A6 := A5.pick hc6 hg6
          have hs6 := A6.size
          have E8 : Hid ((8 : Int) + (x : Int) = ((8 + x : Nat) : Int)) := hid (by omega)
          clear hc6 hg6 o5 A5 q0 q1
          go_wp2_with (at_make; refine wpList_make_ints _ rfl _ _ rfl (8 + x) (congrArg (Value.int .i64) E8.out) (congrArg (Value.int .i64) E8.out) (by omega) ?_; intro a7 cap7 w7 o7 hb7; obtain ⟨gg, rfl, hgB, hg2, hg3, hg4⟩ := o7.opened (by omega); have hgk := hg3 0 (by omega); have hgf := hg4 0; have A7 := A6.later hb7 hs6)
          go_ret
          obtain ⟨s1, s2⟩ := o7.set 0 60
          exact ⟨_, _, _, _, t6, rfl, s1.mono hs6, by omega, (Within.set (fun y hy => by obtain ⟨-, rfl⟩ := List.mem_replicate.1 hy; omega) ⟨by omega, by omega⟩), A7.later ((Below.refl w6.heap.size w7).setCell hgB _) hs6, by omega⟩
        · have h1' := Bool.eq_false_iff.2 h1
          clear h1
          go_wp2_with fail
          go_ret
          exact ⟨_, _, _, _, t5, rfl, o5, by omega, HI.out, A5, by omega⟩
end Go.Proofs.Ytclpbccmgfclcaa
