/- Draws of slopes, and of ranks for them. -/
import Derived.Test.YtfkejkkplafciadDraw2
import Derived.Test.YtfkejkkplafciadPickW
import Derived.Test.YtfkejkkplafciadSpecSl
import Derived.Deep.RegionWith
namespace Go.Proofs.Ytfkejkkplafciad
open Go.RowKit

theorem coprime_one (n : Nat) (h : 1 ≤ n ∧ n ≤ 6) : slN n 1 = true := slN_iff.2 ⟨h, by omega, Nat.gcd_one_right n⟩

/-- A slope, or numbers beside; the cursor stands. -/
def DrewSl (w : World) (g t : Nat) (e : Ending) (w' : World) : Prop := ∃ v u : Int, e = .returned (.tuple #[.int .i64 v, .int .i64 u]) ∧ -1 ≤ v ∧ v ≤ 7 ∧ -1 ≤ u ∧ u ≤ 14 ∧ ∃ t', t' ≤ t + 20 ∧ At w w' g t'

set_option maxRecDepth 100000 in
set_option maxHeartbeats 4000000 in
theorem slope_cur (g t : Nat) (w : World) (h : Cur w g t) (ht : t ≤ 1000) :
    Calls Try.prog 52 #[.pointer (some ⟨g, 0, none⟩)] w (DrewSl w g t) := by
  have A0 : At w w g t := ⟨h, Below.refl _ _⟩
  go_enter Try.func52, Try.ntmps52
  go_wp2_with fail
  refine (pick_cur g t 5 _ h (by omega) (by omega)).mono ?_
  rintro e w1 ⟨v, rfl, v0, v1, ⟨t1, ta, tb, hc1⟩, hg1⟩
  have A1 := A0.pick hc1 hg1
  clear hc1 hg1 A0
  go_wp2_with fail
  refine (pick_cur g t1 13 _ A1.cur (by omega) (by omega)).mono ?_
  rintro e w2 ⟨u, rfl, u0, u1, ⟨t2, tc, td, hc2⟩, hg2⟩
  have A2 := A1.pick hc2 hg2
  obtain ⟨m, hm⟩ : ∃ m : Nat, 1 + v = (m : Int) := ⟨(1 + v).toNat, by omega⟩
  obtain ⟨q, hq⟩ : ∃ q : Nat, 1 + u = (q : Int) := ⟨(1 + u).toNat, by omega⟩
  have hm1 : 1 ≤ m ∧ m ≤ 5 := by omega
  have hq1 : 1 ≤ q ∧ q ≤ 13 := by omega
  have HM := hid hm
  have HQ := hid hq
  have HSB : Hid (∀ q' : Nat, slB (1 + v) (q' : Int) = slN m q') := hid (fun q' => by rw [hm, slB_nat])
  have HC := hid (coprime_one m ⟨hm1.1, by omega⟩)
  clear hc2 hg2 A1 hm hq
  go_wp2_with fail
  go_loop [5] (fun i => ∃ q' : Nat, 1 ≤ q' ∧ q' ≤ 13 ∧ i = .int .i64 (q' : Int)) (fun i => (14 - (intOf i).toNat) % 13)
  case atStart => exact ⟨q, hq1.1, hq1.2, by rw [HQ.out]⟩
  case round =>
    obtain ⟨q', hq2, hq3, rfl⟩ := hrel
    clear hq1 HQ u0 u1
    by_cases hs : slN m q' = true
    · have HS := hid hs
      have HSL := HSB.out q'
      rw [hs] at HSL
      have HSL2 := hid HSL
      clear hs HSL
      go_wp2_with (go_at_call 53; refine (slIs_any _ _ _).mono ?_; rintro e w' ⟨rfl, rfl⟩; rw [HSL2.out])
      refine (pick_cur g t2 12 _ A2.cur (by omega) (by omega)).mono ?_
      rintro e w3 ⟨z, rfl, z0, z1, ⟨t3, te, tf, hc3⟩, hg3⟩
      have A3 := A2.pick hc3 hg3
      clear hc3 hg3 A2 z1
      by_cases hz0 : z = 0
      · subst hz0
        have A4 := A3.later (alloc_below w3 (.cells #[.int .i64 (-1), .int .i64 0, .int .i64 6, .int .i64 7] 3)) A3.cur.lt
        go_wp2_with fail
        refine (among_cur g t3 _ 4 4 [-1, 0, 6, 7] _ A4.cur (by omega) (has_lit4 w3 (-1) 0 6 7) (by omega) (by omega) (lit_ne A3.cur)).mono ?_
        rintro e w4 ⟨y, rfl, hy, ⟨t4, tg, th, hc4⟩, hg4⟩
        have hy1 : -1 ≤ y ∧ y ≤ 7 := by simp at hy; omega
        have A5 := A4.pick hc4 hg4
        clear hy hc4 hg4 A3 A4
        go_wp2_with fail
        go_ret2
        exact ⟨_, _, rfl, hy1.1, hy1.2, by omega, by omega, t4, by omega, A5⟩
      · have hb0 : (z == 0) = false := by simp [hz0]
        by_cases hz1 : z = 1
        · subst hz1
          have A4 := A3.later (alloc_below w3 (.cells #[.int .i64 (-1), .int .i64 0, .int .i64 1, .int .i64 13, .int .i64 14, .int .i64 (1 + v)] 3)) A3.cur.lt
          go_wp2_with fail
          refine (among_cur g t3 _ 6 6 [-1, 0, 1, 13, 14, 1 + v] _ A4.cur (by omega) (has_lit6 w3 (-1) 0 1 13 14 (1 + v)) (by omega) (by omega) (lit_ne A3.cur)).mono ?_
          rintro e w4 ⟨y, rfl, hy, ⟨t4, tg, th, hc4⟩, hg4⟩
          have hy1 : -1 ≤ y ∧ y ≤ 14 := by simp at hy; omega
          have A5 := A4.pick hc4 hg4
          clear hy hc4 hg4 A3 A4
          go_wp2_with fail
          go_ret2
          exact ⟨_, _, rfl, by omega, by omega, hy1.1, hy1.2, t4, by omega, A5⟩
        · have hb1 : (z == 1) = false := by simp [hz1]
          clear hz0 hz1
          go_wp2_with fail
          go_ret2
          exact ⟨_, _, rfl, by omega, by omega, by omega, by omega, t3, by omega, A3⟩
    · have hne : q' ≠ 1 := by
        intro e
        subst e
        exact hs HC.out
      have HSL := HSB.out q'
      rw [Bool.eq_false_iff.2 hs] at HSL
      have HSL2 := hid HSL
      clear hs HSL
      go_wp2_with (go_at_call 53; refine (slIs_any _ _ _).mono ?_; rintro e w' ⟨rfl, rfl⟩; rw [HSL2.out])
      go_round
      case rel => exact ⟨q' % 13 + 1, by omega, by omega, congrArg (Value.int .i64) (by omega)⟩
      case measure =>
        show (14 - ((q' : Int) % 13 + 1).toNat) % 13 < (14 - ((q' : Int)).toNat) % 13
        omega

theorem freshB (w : World) (a : Option Addr) (n cap : Nat) : Below w.heap.size w (w.alloc (.cells #[.slice a n cap, .int .i64 0, .int .u64 0] 63)) := alloc_below _ _
/-- A slope, or numbers beside, for the caller of a draw. -/
def DrewSlope (w : World) (e : Ending) (w' : World) : Prop := ∃ v u : Int, e = .returned (.tuple #[.int .i64 v, .int .i64 u]) ∧ -1 ≤ v ∧ v ≤ 7 ∧ -1 ≤ u ∧ u ≤ 14 ∧ Below w.heap.size w w'
/-- With a rank. -/
def DrewSlopeR (w : World) (e : Ending) (w' : World) : Prop := ∃ v u r : Int, e = .returned (.tuple #[.int .i64 v, .int .i64 u, .int .i64 r]) ∧ -1 ≤ v ∧ v ≤ 7 ∧ -1 ≤ u ∧ u ≤ 14 ∧ -1 ≤ r ∧ r ≤ 5000000 ∧ Below w.heap.size w w'

theorem drawAllSlope_any (a : Option Addr) (n cap : Nat) (w : World) (h : HasB w a n w.heap.size) :
    Calls Try.prog 15 #[.slice a n cap] w (DrewSlope w) := by
  have C0 := cur_new (cap := cap) h
  have hb0 := freshB w a n cap
  go_enter Try.func15, Try.ntmps15
  go_wp2_with fail
  refine (slope_cur _ 0 _ C0 (by omega)).mono ?_
  rintro e w1 ⟨v, u, rfl, v0, v1, u0, u1, t1, ht1, A1⟩
  have hb := hb0.trans A1.below
  go_wp2_with fail
  go_ret2
  exact ⟨_, _, rfl, v0, v1, u0, u1, hb⟩
theorem drawAllWalks_any (a : Option Addr) (n cap : Nat) (w : World) (h : HasB w a n w.heap.size) :
    Calls Try.prog 32 #[.slice a n cap] w (DrewSlope w) := by
  have C0 := cur_new (cap := cap) h
  have hb0 := freshB w a n cap
  go_enter Try.func32, Try.ntmps32
  go_wp2_with fail
  refine (slope_cur _ 0 _ C0 (by omega)).mono ?_
  rintro e w1 ⟨v, u, rfl, v0, v1, u0, u1, t1, ht1, A1⟩
  have hb := hb0.trans A1.below
  go_wp2_with fail
  go_ret2
  exact ⟨_, _, rfl, v0, v1, u0, u1, hb⟩

theorem pow_sl {m q : Nat} (h : slN m q = true) : 1 ≤ q ^ (m - 1) ∧ q ^ (m - 1) ≤ 4826809 := by
  obtain ⟨⟨h1, h2⟩, ⟨h3, h4⟩, _⟩ := slN_iff.1 h
  refine ⟨Nat.pow_pos (by omega), pow_slope (m - 1) (by omega) q (by omega)⟩

set_option maxRecDepth 100000 in
set_option maxHeartbeats 1600000 in
theorem drawSlopeAt_any (a : Option Addr) (n cap : Nat) (w : World) (h : HasB w a n w.heap.size) :
    Calls Try.prog 8 #[.slice a n cap] w (DrewSlopeR w) := by
  have C0 := cur_new (cap := cap) h
  have hb0 := freshB w a n cap
  go_enter Try.func8, Try.ntmps8
  go_wp2_with fail
  refine (slope_cur _ 0 _ C0 (by omega)).mono ?_
  rintro e w1 ⟨v, u, rfl, v0, v1, u0, u1, t1, ht1, A1⟩
  by_cases hs : slB v u = true
  · have HS := hid hs
    obtain ⟨m, q, rfl, rfl, hs2⟩ := slB_iff.1 hs
    obtain ⟨⟨n0, n1⟩, ⟨q0, q1⟩, -⟩ := slN_iff.1 hs2
    obtain ⟨c1, c2⟩ := pow_sl hs2
    have HPW := hid (fun w => slPower_at q (m - 1) (q : Int) ((m : Int) - 1) w rfl (by omega) (by omega) (by omega))
    clear hs hs2
    generalize q ^ (m - 1) = pw at *
    go_wp2_with (first | (go_at_call 53; refine (slIs_any _ _ _).mono ?_; rintro e w' ⟨rfl, rfl⟩; rw [HS.out]) | (go_at_call 55; refine (HPW.out _).mono ?_; rintro e w' ⟨rfl, rfl⟩))
    refine (one_cur _ t1 6 _ A1.cur (by omega) (by omega)).mono ?_
    rintro e w2 ⟨b, rfl, ⟨t2, ta, tb, hc2⟩, hg2⟩
    have A2 := A1.pick hc2 hg2
    clear hc2 hg2 A1
    cases b with
    | true =>
      have A3 := A2.later (alloc_below w2 (.cells #[.int .i64 (-1), .int .i64 0, .int .i64 ((pw : Int) - 1), .int .i64 (pw : Int)] 3)) A2.cur.lt
      go_wp2_with fail
      refine (among_cur _ t2 _ 4 4 [-1, 0, (pw : Int) - 1, (pw : Int)] _ A3.cur (by omega) (has_lit4 w2 (-1) 0 ((pw : Int) - 1) (pw : Int)) (by omega) (by omega) (lit_ne A2.cur)).mono ?_
      rintro e w3 ⟨y, rfl, hy, ⟨t3, tc, td, hc3⟩, hg3⟩
      have hy1 : -1 ≤ y ∧ y ≤ 5000000 := by simp at hy; omega
      have A4 := A3.pick hc3 hg3
      have hb := hb0.trans A4.below
      clear hy hc3 hg3 A2 A3
      go_wp2_with fail
      exact bodyPost_ret (v := .tuple #[.int .i64 (m : Int), .int .i64 (q : Int), .int .i64 y]) (by simp [results, Try.results8, go_sem]) rfl ⟨_, _, _, rfl, v0, v1, u0, u1, hy1.1, hy1.2, hb⟩
    | false =>
      go_wp2_with fail
      refine (pick_wide _ t2 (pw : Int) _ A2.cur (by omega) (by omega)).mono ?_
      rintro e w3 ⟨y, rfl, y0, y1, y2, ⟨t3, tc, td, hc3⟩, hg3⟩
      have A4 := A2.pick hc3 hg3
      have hb := hb0.trans A4.below
      clear hc3 hg3 A2 y1
      go_wp2_with fail
      exact bodyPost_ret (v := .tuple #[.int .i64 (m : Int), .int .i64 (q : Int), .int .i64 y]) (by simp [results, Try.results8, go_sem]) rfl ⟨_, _, _, rfl, v0, v1, u0, u1, by omega, by omega, hb⟩
  · have HS := hid (Bool.eq_false_iff.2 hs)
    clear hs
    go_wp2_with (go_at_call 53; refine (slIs_any _ _ _).mono ?_; rintro e w' ⟨rfl, rfl⟩; rw [HS.out])
    refine (pick_cur _ t1 3 _ A1.cur (by omega) (by omega)).mono ?_
    rintro e w2 ⟨y, rfl, y0, y1, ⟨t2, ta, tb, hc2⟩, hg2⟩
    have A2 := A1.pick hc2 hg2
    have hb := hb0.trans A2.below
    have hy : y ≤ 2 := by omega
    clear hc2 hg2 A1 y1
    go_wp2_with fail
    exact bodyPost_ret (v := .tuple #[.int .i64 v, .int .i64 u, .int .i64 y]) (by simp [results, Try.results8, go_sem]) rfl ⟨_, _, _, rfl, v0, v1, u0, u1, by omega, by omega, hb⟩
end Go.Proofs.Ytfkejkkplafciad
