/- Draws of lists for slopes. -/
import Derived.Test.YtfkejkkplafciadDrawSl
import Derived.Test.YtfkejkkplafciadMathSk
import Derived.Test.YtfkejkkplafciadSpecSu
import Derived.Test.YtfkejkkplafciadSpecD
namespace Go.Proofs.Ytfkejkkplafciad
open Go.RowKit

/-- A list and across that were drawn. -/
def DrewSlt (w : World) (g t : Nat) (e : Ending) (w' : World) : Prop :=
  ∃ a n cap xs, ∃ u : Int, ∃ t', e = .returned (.tuple #[.slice a n cap, .int .i64 u]) ∧ Own w' (g + 1) a n cap xs ∧ n ≤ 10 ∧ -1 ≤ u ∧ u ≤ 14 ∧ At w w' g t' ∧ t' ≤ t + 200
/-- For the caller of a draw. -/
def DrewSlL (w : World) (e : Ending) (w' : World) : Prop :=
  ∃ a n cap xs, ∃ u : Int, e = .returned (.tuple #[.slice a n cap, .int .i64 u]) ∧ Own w' w.heap.size a n cap xs ∧ n ≤ 10 ∧ -1 ≤ u ∧ u ≤ 14 ∧ Below w.heap.size w w'
theorem sl_at_len {m q : Nat} {r : Int} (hs : slN m q = true) (h0 : 0 ≤ r) (h1 : r < ((q ^ (m - 1) : Nat) : Int)) : ∃ xs, slAtOf (m : Int) (q : Int) r = (xs, true) ∧ xs.length = m := by
  obtain ⟨x, f1, f2, _⟩ := sl_facts (n := m) (a := q) (r := r.toNat) hs (by omega)
  rw [Int.toNat_of_nonneg h0] at f1
  exact ⟨x, f1, f2⟩
theorem At.toBelow {w0 w w' : World} {g t K : Nat} (h : At w0 w g t) (hb : Below K w w') (hK : g < K) : At w0 w' g t := ⟨h.cur.below hb hK, h.below.trans (hb.mono (Nat.le_of_lt hK))⟩
set_option maxRecDepth 100000 in
set_option maxHeartbeats 3200000 in
theorem slanted_cur (g t : Nat) (w : World) (h : Cur w g t) (ht : t ≤ 800) :
    Calls Try.prog 76 #[.pointer (some ⟨g, 0, none⟩)] w (DrewSlt w g t) := by
  have hgl := h.lt
  go_enter Try.func76, Try.ntmps76
  go_wp2_with fail
  refine (slope_cur g t _ h (by omega)).mono ?_
  rintro e w1 ⟨v, u, rfl, v0, v1, u0, u1, t1, ht1, A1⟩
  by_cases hs : slB v u = true
  · have HS := hid hs
    obtain ⟨m, q, rfl, rfl, hs2⟩ := slB_iff.1 hs
    obtain ⟨⟨n0, n1⟩, ⟨q0, q1⟩, -⟩ := slN_iff.1 hs2
    obtain ⟨c1, c2⟩ := pow_sl hs2
    have HPW := hid (fun w => slPower_at q (m - 1) (q : Int) ((m : Int) - 1) w rfl (by omega) (by omega) (by omega))
    have HAT := hid (fun (r : Int) (h0 : 0 ≤ r) (h1 : r < ((q ^ (m - 1) : Nat) : Int)) => sl_at_len hs2 h0 h1)
    clear hs hs2
    generalize q ^ (m - 1) = pw at *
    go_wp2_with (first | (go_at_call 53; refine (slIs_any _ _ _).mono ?_; rintro e w' ⟨rfl, rfl⟩; rw [HS.out]) | (go_at_call 55; refine (HPW.out _).mono ?_; rintro e w' ⟨rfl, rfl⟩))
    refine (pick_wide _ t1 (pw : Int) _ A1.cur (by omega) (by omega)).mono ?_
    rintro e w2 ⟨y, rfl, y0, y1, y2, ⟨t2, tc, td, hc2⟩, hg2⟩
    have A2 := A1.pick hc2 hg2
    obtain ⟨xs, hx, hxl⟩ := HAT.out y y0 (by omega)
    have HX := hid hx
    have HXL := hid hxl
    clear hc2 hg2 A1 y1 hx hxl HAT
    go_wp2_with fail
    refine (specSlAt_any _ _ _ _).mono ?_
    rw [HX.out]
    rintro e w3 ⟨a_l, n_l, c_l, rfl, o_l, st⟩
    have A3 := A2.toBelow st A2.cur.lt
    obtain rfl : n_l = m := by rw [← o_l.len, HXL.out]
    have hgB : g < w2.heap.size := A2.cur.lt
    clear st A2
    go_wp2_with fail
    refine (one_cur _ t2 8 _ A3.cur (by omega) (by omega)).mono ?_
    rintro e w4 ⟨b, rfl, ⟨t4, ta, tb, hc4⟩, hg4⟩
    have A4 := A3.pick hc4 hg4
    have o4 := o_l.kept hg4 (.inl hgB)
    clear hc4 hg4 A3 o_l
    cases b with
    | true =>
      go_wp2_with fail
      refine (pick_cur _ t4 (n_l : Int) _ A4.cur (by omega) (by omega)).mono ?_
      rintro e w5 ⟨qx, rfl, z0, z1, ⟨t5, x1, x2, hc5⟩, hg5⟩
      obtain ⟨x, rfl⟩ : ∃ x : Nat, qx = (x : Int) := ⟨_, (Int.toNat_of_nonneg z0).symm⟩
      have hx : x < n_l := by omega
      have A5 := A4.pick hc5 hg5
      have o5 := o4.kept hg5 (.inl hgB)
      clear hc5 hg5 A4 o4 z0 z1
      go_wp2_with fail
      refine (pick_cur _ t5 ((q : Int) + 2) _ A5.cur (by omega) (by omega)).mono ?_
      rintro e w6 ⟨z, rfl, z0, z1, ⟨t6, x1, x2, hc6⟩, hg6⟩
      have A6 := A5.pick hc6 hg6
      have o6 := o5.kept hg6 (.inl hgB)
      clear hc6 hg6 A5 o5
      obtain ⟨gg, rfl, hgG, hg2, hg3, hg4⟩ := o6.opened (by omega)
      have hgk := hg3 x hx
      have hgf := hg4 x
      have hxi : (x : Int) < (n_l : Int) := by omega
      clear hg3 hg4
      go_wp2_with fail
      obtain ⟨s1, s2⟩ := o6.set x (z - 1)
      have A7 : At w (w6.setCell ⟨gg, x, none⟩ (.int .i64 (z - 1))) g t6 := A6.toBelow ((Below.refl w2.heap.size w6).setCell hgG _) hgB
      go_ret2
      exact ⟨_, _, _, _, _, t6, rfl, s1.mono hgB, by omega, by omega, by omega, A7, by omega⟩
    | false =>
      go_wp2_with fail
      go_ret2
      exact ⟨_, _, _, _, _, t4, rfl, o4.mono hgB, by omega, by omega, by omega, A4, by omega⟩
  · have HS := hid (Bool.eq_false_iff.2 hs)
    clear hs
    go_wp2_with (go_at_call 53; refine (slIs_any _ _ _).mono ?_; rintro e w' ⟨rfl, rfl⟩; rw [HS.out])
    refine (park_cur _ t1 6 _ A1.cur (by omega) (by omega) (by omega)).mono ?_
    rintro e w2 ⟨a_l, n_l, c_l, xs, t2, rfl, o_l, hn10, hw, A2, ht2⟩
    have hgB : g < w1.heap.size := A1.cur.lt
    have A3 : At w w2 g t2 := ⟨A2.cur, A1.below.trans A2.below⟩
    go_wp2_with fail
    go_ret2
    exact ⟨_, _, _, _, _, t2, rfl, o_l.mono hgB, by omega, by omega, by omega, A3, by omega⟩

theorem drawIsSl_any (a : Option Addr) (n cap : Nat) (w : World) (h : HasB w a n w.heap.size) :
    Calls Try.prog 25 #[.slice a n cap] w (DrewSlL w) := by
  have C0 := cur_new (cap := cap) h
  have hb0 := freshB w a n cap
  go_enter Try.func25, Try.ntmps25
  go_wp2_with fail
  refine (slanted_cur _ 0 _ C0 (by omega)).mono ?_
  rintro e w1 ⟨a_l, n_l, c_l, xs, u, t1, rfl, o_l, hn, u0, u1, A1, ht1⟩
  have hb := hb0.trans A1.below
  have o2 := o_l.mono (Nat.le_succ _)
  go_wp2_with fail
  go_ret2
  exact ⟨_, _, _, _, _, rfl, o2, hn, u0, u1, hb⟩

set_option maxRecDepth 100000 in
set_option maxHeartbeats 3200000 in
theorem drawTurnToSlope_any (a : Option Addr) (n cap : Nat) (w : World) (h : HasB w a n w.heap.size) :
    Calls Try.prog 22 #[.slice a n cap] w (DrewSlL w) := by
  have C0 := cur_new (cap := cap) h
  have hb0 := freshB w a n cap
  generalize hG : w.heap.size = G at *
  go_enter Try.func22, Try.ntmps22
  go_wp2_with fail
  refine (slope_cur _ 0 _ C0 (by omega)).mono ?_
  rintro e w1 ⟨v, u, rfl, v0, v1, u0, u1, t1, ht1, A1⟩
  have hb1 := hb0.trans A1.below
  have HC := hid A1.cur
  have hsz := A1.cur.lt
  clear hb0 C0 A1
  have l1 : min (max v 0) 7 ≤ 7 := by omega
  have l2 : (0 : Int) ≤ max v 0 := by omega
  have m1 : max u 1 ≤ 14 := by omega
  go_wp2_with fail
  go_loopg [7] 8 (fun gk o wr => ∃ (j : Nat) (a' : Option Addr) (cap' : Nat) (xs : List Int) (t' : Nat), j + gk = 8 ∧ 0 < gk ∧ o = .slice a' j cap' ∧ Own wr (G + 1) a' j cap' xs ∧ Cur wr G t' ∧ Below G w wr ∧ t' ≤ t1 + 4 * j)
  case atStart => exact ⟨0, none, 0, [], t1, by omega, by omega, rfl, Own.nil _ _, HC.out, hb1, by omega⟩
  case round =>
    obtain ⟨j, a', cap', xs, t', hj, hgk, rfl, hown, hc, hb, htt⟩ := hrel
    have hGr := hc.lt
    by_cases hlt : (j : Int) < min (max v 0) 7
    · have hj7 : j < 7 := by omega
      go_wp2_with (first | (go_at_call 71; refine (l1Most_any _ _ _).mono ?_; rintro e w' ⟨rfl, rfl⟩) | (go_at_call 70; refine (l1Least_any _ _ _).mono ?_; rintro e w' ⟨rfl, rfl⟩))
      refine (pick_cur _ t' (max u 1) _ hc (by omega) (by omega)).mono ?_
      rintro e w5 ⟨x, rfl, z0, z1, ⟨t5, x1, x2, hc5⟩, hg5⟩
      have o5 := hown.kept hg5 (.inl (Nat.lt_succ_self _))
      have hb5 := hb.trans (below_grown hg5 (Nat.le_of_lt hGr) (by intro k hk; cases hk; exact Nat.le_refl _))
      have hsz5 := hc5.lt
      clear hown hc hb hg5
      go_wp2_with (at_builtin; refine wpList_append_int _ rfl _ _ rfl (G + 1) _ _ _ _ _ rfl rfl o5 (by omega) hsz5 ?_; intro a3 cap3 w3 o3 hb3)
      have hc3 := hc5.below hb3 (Nat.lt_succ_self _)
      go_roundg (gk - 1)
      case rel => exact ⟨j + 1, a3, cap3, _, t5, by omega, by omega, rfl, o3, hc3, hb5.trans (hb3.mono (Nat.le_succ _)), by omega⟩
      case measure => omega
    · go_wp2_with (first | (go_at_call 71; refine (l1Most_any _ _ _).mono ?_; rintro e w' ⟨rfl, rfl⟩) | (go_at_call 70; refine (l1Least_any _ _ _).mono ?_; rintro e w' ⟨rfl, rfl⟩))
      refine (one_cur _ t' 10 _ hc (by omega) (by omega)).mono ?_
      rintro e w5 ⟨b, rfl, ⟨t5, ta, tb, hc5⟩, hg5⟩
      have o5 := hown.kept hg5 (.inl (Nat.lt_succ_self _))
      have hb5 := hb.trans (below_grown hg5 (Nat.le_of_lt hGr) (by intro k hk; cases hk; exact Nat.le_refl _))
      have hsz5 := hc5.lt
      have hj7 : j ≤ 7 := by omega
      clear hown hc hb hg5 hlt
      cases b with
      | true =>
        go_wp2_with fail
        have hA := alloc_below w5 (.cells #[.int .i64 (-1), .int .i64 0, .int .i64 u] 3)
        refine (among_cur _ t5 _ 3 3 [-1, 0, u] _ (hc5.below hA hsz5) (by omega) (has_lit3 w5 (-1) 0 u) (by omega) (by omega) (lit_ne hc5)).mono ?_
        rintro e w6 ⟨y, rfl, hy, ⟨t6, tc, td, hc6⟩, hg6⟩
        have o6 := (o5.below hA (Nat.le_refl _)).kept hg6 (.inl (Nat.lt_succ_self _))
        have hA2 := hA.mono (Nat.le_of_lt hsz5)
        have hb6 := (hb5.trans hA2).trans (below_grown hg6 (Nat.le_trans (Nat.le_of_lt hsz5) hA.size) (by intro k hk; cases hk; exact Nat.le_refl _))
        have hsz6 := hc6.lt
        have hw : IntKind.i64.wrap y = y := by simp at hy; rw [IntKind.wrap_i64]; omega
        clear hy hg6 o5 hb5 hA hA2
        go_wp2_with (at_builtin; refine wpList_append_int _ rfl _ _ rfl (G + 1) _ _ _ _ _ rfl rfl o6 (by omega) hsz6 ?_; intro a3 cap3 w3 o3 hb3)
        go_ret2
        subst hG
        exact ⟨_, _, _, _, _, rfl, o3.mono (Nat.le_succ _), by omega, by omega, by omega, hb6.trans (hb3.mono (Nat.le_succ _))⟩
      | false =>
        go_wp2_with fail
        go_ret2
        subst hG
        exact ⟨_, _, _, _, _, rfl, o5.mono (Nat.le_succ _), by omega, by omega, by omega, hb5⟩
end Go.Proofs.Ytfkejkkplafciad
