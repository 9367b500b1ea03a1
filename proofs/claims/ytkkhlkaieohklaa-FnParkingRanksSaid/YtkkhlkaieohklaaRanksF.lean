/- The law that parking functions have ranks, walked. -/
import Derived.Test.YtkkhlkaieohklaaCur
import Derived.Test.YtkkhlkaieohklaaDraw2
import Derived.Test.YtkkhlkaieohklaaSpecN
import Derived.Test.YtkkhlkaieohklaaMathX
import Derived.Test.YtkkhlkaieohklaaMathQ
import Derived.Test.YtkkhlkaieohklaaSpecO
import Derived.Test.YtkkhlkaieohklaaImplD
import Derived.Test.YtkkhlkaieohklaaImplU
import Derived.Test.YtkkhlkaieohklaaSpecAt
import Derived.StillTailTactics
import Derived.Test.YtkkhlkaieohklaaSpecS
import Derived.Test.YtkkhlkaieohklaaImplUn
import Derived.Test.YtkkhlkaieohklaaIdx
import Derived.Test.YtkkhlkaieohklaaMathG
import Derived.Test.YtkkhlkaieohklaaSpecAll
import Derived.Test.YtkkhlkaieohklaaCopy
import Derived.Test.YtkkhlkaieohklaaMathT
import Derived.Test.YtkkhlkaieohklaaHelp2
import Derived.Test.YtkkhlkaieohklaaImplC
namespace Go.Proofs.Ytkkhlkaieohklaa
open Go.RowKit

theorem HasB.below {w w' : World} {a : Option Addr} {n K : Nat} (h : HasB w a n K) (hb : Below K w w') : HasB w' a n K := by
  refine ⟨h.1, fun hx => ?_⟩
  obtain ⟨b, off, ha, hbk, hc⟩ := h.2 hx
  refine ⟨b, off, ha, hbk, fun i hi => ?_⟩
  obtain ⟨u, u0, u1, hu⟩ := hc i hi
  exact ⟨u, u0, u1, by rw [hb.cell (p := ⟨b, off + i, none⟩) hbk]; exact hu⟩

/-- An argument's slice of bytes. -/
theorem hasB_of_row {w : World} {a : Option Addr} {len cap : Nat} {zs : List Int}
    (h : (a = none ∧ len = 0 ∧ cap = 0 ∧ zs = []) ∨ ∃ x, a = some x ∧ len ≤ cap ∧ cap ≤ maxLen ∧ zs.length = cap ∧ (∀ i, i < zs.length → w.cell? (x.add i) = some (.int .u8 (zs.getD i 0))) ∧ ∀ n ∈ zs, (Lit.int .u8 n).wf = true) :
    len ≤ maxLen ∧ (len ≤ 1048576 → HasB w a len w.heap.size) := by
  rcases h with ⟨rfl, rfl, rfl, rfl⟩ | ⟨x, rfl, h1, h2, h3, h4, h5⟩
  · exact ⟨by unfold maxLen; omega, fun _ => ⟨by omega, by omega⟩⟩
  · refine ⟨by omega, fun hl => ⟨by omega, fun hx => ?_⟩⟩
    obtain ⟨b, off, spot⟩ := x
    have hc := h4 0 (by omega)
    have hspot : spot = none := by simpa [Addr.add] using World.cell?_spot hc
    subst hspot
    refine ⟨b, off, rfl, by have := World.block_lt_of_cell? w _ hc; simpa [Addr.add] using this, fun i hi => ?_⟩
    have := h4 i (by omega)
    have e : (⟨b, off, none⟩ : Addr).add i = ⟨b, off + i, none⟩ := by unfold Addr.add; split <;> simp_all
    rw [e] at this
    have hm : zs.getD i 0 ∈ zs := by simp [show i < zs.length by omega]
    have hw := h5 _ hm
    generalize zs.getD i 0 = u at *
    have hw' : (0 : Int) ≤ u ∧ u ≤ 255 := by simpa [Lit.wf, IntKind.min, IntKind.max, IntKind.signed, IntKind.bits] using hw
    exact ⟨u, hw'.1, hw'.2, this⟩

/-- The law's answer. -/
def Holds (w : World) (e : Ending) (w' : World) : Prop := e = .returned (.bool true) ∧ Below w.heap.size w w'
end Go.Proofs.Ytkkhlkaieohklaa

namespace Go.Proofs.Ytkkhlkaieohklaa
open Go.RowKit

/-- A number that was drawn, for the caller of a draw. -/
def DrewNum (lo hi : Int) (w : World) (e : Ending) (w' : World) : Prop := ∃ v, e = .returned (.int .i64 v) ∧ lo ≤ v ∧ v ≤ hi ∧ Below w.heap.size w w'
/-- Two numbers. -/
def DrewNums (lo hi : Int) (w : World) (e : Ending) (w' : World) : Prop := ∃ v u, e = .returned (.tuple #[.int .i64 v, .int .i64 u]) ∧ lo ≤ v ∧ v ≤ hi ∧ lo ≤ u ∧ u ≤ hi ∧ Below w.heap.size w w'
/-- A list with any numbers. -/
def DrewAny (w : World) (e : Ending) (w' : World) : Prop := ∃ a n cap xs, e = .returned (.slice a n cap) ∧ Own w' w.heap.size a n cap xs ∧ n ≤ 20 ∧ Below w.heap.size w w'

theorem has_lit7 (w : World) (a b c d e f g : Int) : Has (w.alloc (.cells #[.int .i64 a, .int .i64 b, .int .i64 c, .int .i64 d, .int .i64 e, .int .i64 f, .int .i64 g] 3)) (some ⟨w.heap.size, 0, none⟩) 7 7 [a, b, c, d, e, f, g] := has_lit w [a, b, c, d, e, f, g] (by simp)
theorem has_lit8 (w : World) (a b c d e f g h : Int) : Has (w.alloc (.cells #[.int .i64 a, .int .i64 b, .int .i64 c, .int .i64 d, .int .i64 e, .int .i64 f, .int .i64 g, .int .i64 h] 3)) (some ⟨w.heap.size, 0, none⟩) 8 8 [a, b, c, d, e, f, g, h] := has_lit w [a, b, c, d, e, f, g, h] (by simp)
theorem has_lit9 (w : World) (a b c d e f g h i : Int) : Has (w.alloc (.cells #[.int .i64 a, .int .i64 b, .int .i64 c, .int .i64 d, .int .i64 e, .int .i64 f, .int .i64 g, .int .i64 h, .int .i64 i] 3)) (some ⟨w.heap.size, 0, none⟩) 9 9 [a, b, c, d, e, f, g, h, i] := has_lit w [a, b, c, d, e, f, g, h, i] (by simp)

set_option maxHeartbeats 800000 in
theorem number2_cur (g t : Nat) (w : World) (h : Cur w g t) (ht : t ≤ 1000) :
    Calls Try.prog 36 #[.pointer (some ⟨g, 0, none⟩)] w fun e w' => ∃ v : Int, e = .returned (.int .i64 v) ∧ -1 ≤ v ∧ v ≤ 9 ∧ ∃ t', t' ≤ t + 10 ∧ At w w' g t' := by
  have A0 : At w w g t := ⟨h, Below.refl _ _⟩
  go_enter Try.func36, Try.ntmps36
  go_wp2_with fail
  refine (one_cur g t 10 _ h (by omega) (by omega)).mono ?_
  rintro e w1 ⟨b, rfl, ⟨t1, ta, tb, hc1⟩, hg1⟩
  have A1 := A0.pick hc1 hg1
  clear hc1 hg1 A0
  cases b with
  | true =>
    have A2 := A1.later (alloc_below w1 (.cells #[.int .i64 (-1), .int .i64 0, .int .i64 8, .int .i64 9] 3)) A1.cur.lt
    go_wp2_with fail
    refine (among_cur g t1 _ 4 4 [-1, 0, 8, 9] _ A2.cur (by omega) (has_lit4 w1 (-1) 0 8 9) (by omega) (by omega) (lit_ne A1.cur)).mono ?_
    rintro e w2 ⟨v, rfl, hv, ⟨t2, tc, td, hc2⟩, hg2⟩
    have hv1 : -1 ≤ v ∧ v ≤ 9 := by simp at hv; omega
    have A3 := A2.pick hc2 hg2
    clear hv hc2 hg2 A1 A2
    go_wp2_with fail
    go_ret
    exact ⟨_, rfl, hv1.1, hv1.2, t2, by omega, A3⟩
  | false =>
    go_wp2_with fail
    refine (pick_cur g t1 7 _ A1.cur (by omega) (by omega)).mono ?_
    rintro e w2 ⟨v, rfl, v0, v1, ⟨t2, tc, td, hc2⟩, hg2⟩
    have A2 := A1.pick hc2 hg2
    have hv1 : -1 ≤ v ∧ v ≤ 9 := by omega
    clear hc2 hg2 A1 v1
    go_wp2_with fail
    go_ret
    exact ⟨_, rfl, hv1.1, hv1.2, t2, by omega, A2⟩

theorem fresh_below (w : World) (a : Option Addr) (n cap : Nat) : Below w.heap.size w (w.alloc (.cells #[.slice a n cap, .int .i64 0, .int .u64 0] 47)) := alloc_below _ _

set_option maxHeartbeats 800000 in
theorem drawCountParking_any (a : Option Addr) (n cap : Nat) (w : World) (h : HasB w a n w.heap.size) :
    Calls Try.prog 63 #[.slice a n cap] w (DrewNum (-1) 9 w) := by
  have C0 := cur_new (cap := cap) h
  go_enter Try.func63, Try.ntmps63
  go_wp2_with fail
  refine (number2_cur _ 0 _ C0 (by omega)).mono ?_
  rintro e w1 ⟨v, rfl, v0, v1, t1, ht1, A1⟩
  have hb := (fresh_below w a n cap).trans A1.below
  go_wp2_with fail
  go_ret
  exact ⟨_, rfl, v0, v1, hb⟩
set_option maxHeartbeats 400000 in
theorem drawCountSorted_any (a : Option Addr) (n cap : Nat) (w : World) (h : HasB w a n w.heap.size) :
    Calls Try.prog 30 #[.slice a n cap] w (DrewNum (-1) 9 w) := by
  go_enter Try.func30, Try.ntmps30
  go_wp2_with fail
  refine (drawCountParking_any _ _ _ _ h).mono ?_
  rintro e w1 ⟨v, rfl, v0, v1, hb⟩
  go_wp2_with fail
  go_ret
  exact ⟨_, rfl, v0, v1, hb⟩

set_option maxRecDepth 100000 in
set_option maxHeartbeats 1600000 in
theorem drawParkingAt_any (a : Option Addr) (n cap : Nat) (w : World) (h : HasB w a n w.heap.size) :
    Calls Try.prog 7 #[.slice a n cap] w (DrewNums (-1) 5000000 w) := by
  have C0 := cur_new (cap := cap) h
  have hb0 := fresh_below w a n cap
  go_enter Try.func7, Try.ntmps7
  go_wp2_with fail
  refine (number2_cur _ 0 _ C0 (by omega)).mono ?_
  rintro e w1 ⟨v, rfl, v0, v1, t1, ht1, A1⟩
  go_wp2_with fail
  refine (l1Least_any _ _ _).mono ?_
  rintro e _ ⟨rfl, rfl⟩
  go_wp2_with fail
  refine (l1Most_any _ _ _).mono ?_
  rintro e _ ⟨rfl, rfl⟩
  obtain ⟨m, hm⟩ : ∃ m : Nat, max 0 (min v 8) = (m : Int) := ⟨(max 0 (min v 8)).toNat, by omega⟩
  have hm8 : m ≤ 8 := by omega
  rw [hm]
  clear hm
  go_wp2_with fail
  refine (cnCount_any _ _ hm8).mono ?_
  rintro e _ ⟨rfl, rfl⟩
  obtain ⟨c1, c2⟩ := cnt_le hm8
  obtain ⟨c, hc⟩ : ∃ c, cnt m = c := ⟨_, rfl⟩
  rw [hc] at c1 c2 ⊢
  clear hc
  go_wp2_with fail
  refine (l1Least_any _ _ _).mono ?_
  rintro e _ ⟨rfl, rfl⟩
  obtain ⟨q, hq⟩ : ∃ q, min (c : Int) 60000 = q := ⟨_, rfl⟩
  have hq1 : 1 ≤ q ∧ q ≤ 60000 := by omega
  have HQ := hid hq
  rw [hq]
  clear hq
  go_wp2_with fail
  refine (pick_cur _ t1 q _ A1.cur (by omega) (by omega)).mono ?_
  rintro e w2 ⟨x, rfl, x0, x1, ⟨t2, ta, tb, hc2⟩, hg2⟩
  have A2 := A1.pick hc2 hg2
  have hx : x ≤ 60000 := by omega
  clear hc2 hg2 A1 x1
  go_wp2_with fail
  refine (l1Least_any _ _ _).mono ?_
  rintro e _ ⟨rfl, rfl⟩
  rw [HQ.out]
  go_wp2_with fail
  refine (pick_cur _ t2 q _ A2.cur (by omega) (by omega)).mono ?_
  rintro e w3 ⟨y, rfl, y0, y1, ⟨t3, tc, td, hc3⟩, hg3⟩
  have A3 := A2.pick hc3 hg3
  have hy : y ≤ 60000 := by omega
  clear hc3 hg3 A2 y1
  have A4 := A3.later (alloc_below w3 (.cells #[.int .i64 0, .int .i64 1, .int .i64 ((c : Int) - 1), .int .i64 (c : Int), .int .i64 (-1), .int .i64 x, .int .i64 y] 3)) A3.cur.lt
  go_wp2_with fail
  refine (among_cur _ t3 _ 7 7 [0, 1, (c : Int) - 1, (c : Int), -1, x, y] _ A4.cur (by omega) (has_lit7 w3 0 1 ((c : Int) - 1) (c : Int) (-1) x y) (by omega) (by omega) (lit_ne A3.cur)).mono ?_
  rintro e w4 ⟨u, rfl, hu, ⟨t4, te, tf, hc4⟩, hg4⟩
  have hu1 : -1 ≤ u ∧ u ≤ 5000000 := by simp at hu; omega
  have A5 := A4.pick hc4 hg4
  have hb := hb0.trans A5.below
  clear hu hc4 hg4 A3 A4
  go_wp2_with fail
  go_ret2
  exact ⟨_, _, rfl, v0, by omega, hu1.1, hu1.2, hb⟩
end Go.Proofs.Ytkkhlkaieohklaa

namespace Go.Proofs.Ytkkhlkaieohklaa
open Go.RowKit

set_option maxRecDepth 100000 in
set_option maxHeartbeats 800000 in
theorem drawAllParking_any (a : Option Addr) (n cap : Nat) (w : World) (h : HasB w a n w.heap.size) :
    Calls Try.prog 17 #[.slice a n cap] w (DrewNum (-1) 9 w) := by
  have C0 := cur_new (cap := cap) h
  have hb0 := fresh_below w a n cap
  obtain ⟨w1, hw1⟩ : ∃ w1, w.alloc (.cells #[.slice a n cap, .int .i64 0, .int .u64 0] 47) = w1 := ⟨_, rfl⟩
  have hs1 : w1.heap.size = w.heap.size + 1 := by rw [← hw1]; simp
  rw [hw1] at C0 hb0
  have HW := hid hw1
  clear hw1
  go_enter Try.func17, Try.ntmps17
  go_wp2_with fail
  rw [HW.out]
  have A0 : At w1 w1 w.heap.size 0 := ⟨C0, Below.refl _ _⟩
  have A1 := A0.later (alloc_below w1 (.cells #[.int .i64 0, .int .i64 1, .int .i64 2, .int .i64 3, .int .i64 4, .int .i64 4, .int .i64 5, .int .i64 6, .int .i64 (-1)] 3)) C0.lt
  have hl := has_lit9 w1 0 1 2 3 4 4 5 6 (-1)
  have hn := lit_ne C0
  rw [hs1] at hl hn
  refine (among_cur w.heap.size 0 _ 9 9 [0, 1, 2, 3, 4, 4, 5, 6, -1] _ A1.cur (by omega) hl (by omega) (by omega) hn).mono ?_
  rintro e w2 ⟨v, rfl, hv, ⟨t2, tc, td, hc2⟩, hg2⟩
  have hv1 : -1 ≤ v ∧ v ≤ 9 := by simp at hv; omega
  have A2 := A1.pick hc2 hg2
  have hb := hb0.trans A2.below
  clear hv hc2 hg2 A1 A0
  go_wp2_with fail
  go_ret
  exact ⟨_, rfl, hv1.1, hv1.2, hb⟩

set_option maxRecDepth 100000 in
set_option maxHeartbeats 800000 in
theorem drawAllSorted_any (a : Option Addr) (n cap : Nat) (w : World) (h : HasB w a n w.heap.size) :
    Calls Try.prog 22 #[.slice a n cap] w (DrewNum (-1) 9 w) := by
  have C0 := cur_new (cap := cap) h
  have hb0 := fresh_below w a n cap
  obtain ⟨w1, hw1⟩ : ∃ w1, w.alloc (.cells #[.slice a n cap, .int .i64 0, .int .u64 0] 47) = w1 := ⟨_, rfl⟩
  have hs1 : w1.heap.size = w.heap.size + 1 := by rw [← hw1]; simp
  rw [hw1] at C0 hb0
  have HW := hid hw1
  clear hw1
  go_enter Try.func22, Try.ntmps22
  go_wp2_with fail
  rw [HW.out]
  have A0 : At w1 w1 w.heap.size 0 := ⟨C0, Below.refl _ _⟩
  have A1 := A0.later (alloc_below w1 (.cells #[.int .i64 0, .int .i64 1, .int .i64 2, .int .i64 3, .int .i64 4, .int .i64 5, .int .i64 6, .int .i64 7, .int .i64 (-1)] 3)) C0.lt
  have hl := has_lit9 w1 0 1 2 3 4 5 6 7 (-1)
  have hn := lit_ne C0
  rw [hs1] at hl hn
  refine (among_cur w.heap.size 0 _ 9 9 [0, 1, 2, 3, 4, 5, 6, 7, -1] _ A1.cur (by omega) hl (by omega) (by omega) hn).mono ?_
  rintro e w2 ⟨v, rfl, hv, ⟨t2, tc, td, hc2⟩, hg2⟩
  have hv1 : -1 ≤ v ∧ v ≤ 9 := by simp at hv; omega
  have A2 := A1.pick hc2 hg2
  have hb := hb0.trans A2.below
  clear hv hc2 hg2 A1 A0
  go_wp2_with fail
  go_ret
  exact ⟨_, rfl, hv1.1, hv1.2, hb⟩

end Go.Proofs.Ytkkhlkaieohklaa

namespace Go.Proofs.Ytkkhlkaieohklaa
open Go.RowKit

/-- What steps to the next one is lexicographically greater. -/
theorem nextP_less {xs ys : List Int} : ∀ c, c ≤ xs.length → nextP xs c = (ys, true) → lexLess xs ys = true ∧ ys.length = xs.length
  | 0, _, h => by simp [nextP] at h
  | c + 1, hc, h => by
    simp only [nextP] at h
    split at h
    · obtain rfl := (Prod.mk.inj h).1
      have hl : (cand xs c).length = xs.length := length_cand (by omega)
      refine ⟨?_, hl⟩
      have hlt : (xs.take c).length = c := by simp; omega
      have e1 : ∀ i, i < c → nth xs i = nth (cand xs c) i := by
        intro i hi
        unfold cand nth
        rw [List.getD_eq_getElem?_getD, List.getD_eq_getElem?_getD, List.getElem?_append_left (by omega), List.getElem?_take_of_lt hi]
      have e2 : nth (cand xs c) c = nth xs c + 1 := by
        unfold cand
        conv => lhs; unfold nth
        rw [List.getD_eq_getElem?_getD, List.getElem?_append_right (by omega), hlt, Nat.sub_self]
        simp [nth]
      rw [lexLess_at c xs _ (by omega) hl.symm e1 (by omega), e2]
      exact decide_eq_true (by omega)
    · exact nextP_less c (by omega) h

theorem at_no1 {n r : Int} (h : ¬ inB n 0 8 = true) : atOf n r = ([], false) ∧ countOf n = (0, false) := by simp [atOf, countOf, h]
/-- The rank that is asked for. -/
theorem at_facts {n : Nat} {r : Nat} (h8 : n ≤ 8) (hr : r < cnt n) : ∃ xs, atOf (n : Int) (r : Int) = (xs, true) ∧ xs.length = n ∧ isPark xs = true ∧ asked xs = true ∧ rankOf xs = ((r : Int), true) ∧ nextOf xs = atOf n ((r : Int) + 1) ∧
    (r + 1 < cnt n → ∃ ys, atOf n ((r : Int) + 1) = (ys, true) ∧ ys.length = n ∧ lexLess xs ys = true) := by
  have hN := N_nil h8
  have h1 : inB (n : Int) 0 8 = true := inB_iff.2 ⟨by omega, by omega⟩
  have h2 : inB (r : Int) 0 ((cnt n : Int) - 1) = true := inB_iff.2 ⟨by omega, by omega⟩
  obtain ⟨a, b, c⟩ := rk_at (n := n) n [] r (by simp) (by rw [hN]; exact hr)
  have hl : (toI (atL n n [] r)).length = n := by rw [length_toI, length_atL]
  have hp : isPark (toI (atL n n [] r)) = true := by
    rw [isPark_zpark (by omega) (fun x hx => by obtain ⟨y, _, rfl⟩ := List.mem_map.1 hx; omega), hl]
    simpa using c
  have hn : nextOf (toI (atL n n [] r)) = atOf n ((r : Int) + 1) := by
    simp only [nextOf, if_pos hp, toN_toI, hl, a]
  refine ⟨toI (atL n n [] r), by simp [atOf, h1, h2], hl, hp, ?_, by simp only [rankOf, if_pos hp, toN_toI, hl, a], hn, fun hlt => ?_⟩
  · have hb := (isPark_bounds hp)
    simp only [asked, Bool.and_eq_true, decide_eq_true_eq, allB_iff]
    exact ⟨hb.1, fun x hx => ⟨(hb.2 x hx).1, by have := (hb.2 x hx).2; omega⟩⟩
  · have h3 : inB ((r : Int) + 1) 0 ((cnt n : Int) - 1) = true := inB_iff.2 ⟨by omega, by omega⟩
    have e : atOf (n : Int) ((r : Int) + 1) = (toI (atL n n [] (r + 1)), true) := by
      simp only [atOf, Int.toNat_natCast, h1, h3, Bool.and_true, if_true]
      rw [show ((r : Int) + 1).toNat = r + 1 by omega]
    rw [e] at hn
    rw [← nextP_eq hp] at hn
    obtain ⟨q1, q2⟩ := nextP_less _ (Nat.le_refl _) hn
    exact ⟨_, e, by rw [q2, hl], q1⟩
theorem count_yes' {n : Nat} (h8 : n ≤ 8) : countOf (n : Int) = ((cnt n : Int), true) := by
  have h1 : inB (n : Int) 0 8 = true := inB_iff.2 ⟨by omega, by omega⟩
  simp [countOf, h1]
theorem at_no {n : Nat} {r : Int} (h : ¬ (0 ≤ r ∧ r < (cnt n : Int))) : atOf (n : Int) r = ([], false) := by
  have h2 : inB r 0 ((cnt n : Int) - 1) = false := by rw [inB_not]; omega
  simp [atOf, h2]
/-- The rank of a listed one. -/
theorem all_rank {n i : Nat} (h8 : n ≤ 8) (hi : i < (listL n n []).length) : rankOf ((listL n n []).getD i []) = ((i : Int), true) := by
  have hN := N_nil h8
  have hL := list_at (n := n) n [] (by simp)
  simp only [List.nil_append] at hL
  have hlen : (listL n n []).length = cnt n := by rw [hL, List.length_map, List.length_range, hN]
  rw [hlen] at hi
  have hget : (listL n n []).getD i [] = toI (atL n n [] i) := by
    rw [hL, hN]
    simp [hi]
  obtain ⟨xs, e1, _, _, _, e2, _⟩ := at_facts h8 hi
  have h1 : inB (n : Int) 0 8 = true := inB_iff.2 ⟨by omega, by omega⟩
  have h2 : inB (i : Int) 0 ((cnt n : Int) - 1) = true := inB_iff.2 ⟨by omega, by omega⟩
  simp [atOf, h1, h2] at e1
  rw [hget, e1, e2]
end Go.Proofs.Ytkkhlkaieohklaa

namespace Go.Proofs.Ytkkhlkaieohklaa
open Go.RowKit

theorem cut_from {xs : List Int} {n j : Nat} (hn : xs.length = n) (h1 : 1 ≤ j) : isCut xs j = ((n : Int) - (from' xs j : Int) == (j : Int)) := by
  have := from_below xs j
  unfold isCut
  rw [Bool.eq_iff_iff]
  simp
  omega

theorem idxs_one {f : Nat → Bool} (h : f 0 = false) : idxs f 1 = [] := by simp [idxs, List.range_succ, h]

/-- What b's numbers become. -/
def shifted (ys : List Int) (d : Int) : List Int := ys.map (· + d)
theorem shifted_succ {ys : List Int} {d : Int} {k : Nat} (h : k < ys.length) : (shifted ys d).take (k + 1) = (shifted ys d).take k ++ [nth ys k + d] := by
  rw [take_succ_nth (by simpa [shifted] using h)]
  simp [shifted, nth, h]
theorem length_shifted (ys : List Int) (d : Int) : (shifted ys d).length = ys.length := by simp [shifted]
theorem join_yes {xs ys : List Int} {n m : Nat} (hn : xs.length = n) (hm : ys.length = m) (hx : isPark xs = true) (hy : isPark ys = true) (h : n + m ≤ 8) : joinOf xs ys = (xs ++ shifted ys n, true) := by
  simp [joinOf, hx, hy, hn, hm, h, shifted]
theorem park_bounds {ys : List Int} {m : Nat} (hm : ys.length = m) (h : isPark ys = true) : ∀ i, i < m → 0 ≤ nth ys i ∧ nth ys i ≤ (m : Int) - 1 := by
  intro i hi
  have := (isPark_iff.1 h).2.1 _ (nth_mem (xs := ys) (i := i) (by omega))
  omega

end Go.Proofs.Ytkkhlkaieohklaa

namespace Go.Proofs.Ytkkhlkaieohklaa
open Go.RowKit

theorem cut_below {xs : List Int} {j : Nat} (h1 : 1 ≤ j) : isCut xs j = ((below xs j : Int) == (j : Int)) := by
  unfold isCut
  rw [Bool.eq_iff_iff]
  simp
  omega

end Go.Proofs.Ytkkhlkaieohklaa

namespace Go.Proofs.Ytkkhlkaieohklaa
open Go.RowKit

theorem isCarNumber_any (n : Int) (w : World) :
    Calls Try.prog 42 #[.int .i64 n] w fun e w' => e = .returned (.bool (inB n 0 8)) ∧ w = w' := by
  by_cases h1 : 0 ≤ n
  · by_cases h2 : n ≤ 8
    · have HR : Hid (inB n 0 8 = true) := hid (inB_iff.2 ⟨h1, h2⟩)
      go_enter Try.func42, Try.ntmps42
      go_wp2_with fail
      go_ret
      exact ⟨ret_bool HR.out.symm, rfl⟩
    · have HR : Hid (inB n 0 8 = false) := hid (by rw [inB_not]; omega)
      go_enter Try.func42, Try.ntmps42
      go_wp2_with fail
      go_ret
      exact ⟨ret_bool HR.out.symm, rfl⟩
  · have HR : Hid (inB n 0 8 = false) := hid (by rw [inB_not]; omega)
    go_enter Try.func42, Try.ntmps42
    go_wp2_with fail
    go_ret
    exact ⟨ret_bool HR.out.symm, rfl⟩

set_option maxHeartbeats 400000 in
theorem power_any (b k : Nat) (w : World) (hb : b ≤ 13) (hk : k ≤ 8) :
    Calls Try.prog 73 #[.int .i64 (b : Int), .int .i64 (k : Int)] w fun e w' => e = .returned (.int .i64 ((b ^ k : Nat) : Int)) ∧ w = w' := by
  go_enter Try.func73, Try.ntmps73
  go_wp2_with fail
  go_loop [5, 7] (fun o i => ∃ j : Nat, j ≤ k ∧ i = .int .i64 (j : Int) ∧ o = .int .i64 ((b ^ j : Nat) : Int)) (fun _ i => k - (intOf i).toNat)
  case atStart => exact ⟨0, Nat.zero_le _, rfl, by simp⟩
  case round =>
    obtain ⟨j, hj, rfl, rfl⟩ := hrel
    have hp := pow_small b (by omega) j (by omega)
    by_cases hlt : j < k
    · have hq := pow_small b (by omega) (j + 1) (by omega)
      have HP : Hid (((b ^ (j + 1) : Nat) : Int) = ((b ^ j : Nat) : Int) * (b : Int)) := hid (by rw [Nat.pow_succ, Int.natCast_mul])
      obtain ⟨q, hqe⟩ : ∃ q, b ^ (j + 1) = q := ⟨_, rfl⟩
      have HQ := hid hqe
      rw [hqe] at hq HP
      clear hqe
      have hq1 : ((b ^ j : Nat) : Int) * (b : Int) ≤ 815730721 := by rw [← HP.out]; exact Int.ofNat_le.2 hq
      have hq0 : 0 ≤ ((b ^ j : Nat) : Int) * (b : Int) := by rw [← HP.out]; exact Int.natCast_nonneg _
      clear hq
      generalize b ^ j = p at *
      go_wp2_with fail
      go_round
      case rel => exact ⟨j + 1, by omega, by go_num, by rw [HQ.out, HP.out]⟩
      case measure => simp [intOf]; omega
    · obtain rfl : j = k := by omega
      go_wp2_with fail
      go_ret
      exact ⟨rfl, rfl⟩
theorem power_at (b k r : Nat) (B K : Int) (w : World) (hB : B = (b : Int)) (hK : K = (k : Int)) (hb : b ≤ 13) (hk : k ≤ 8) (hr : Hid (b ^ k = r)) :
    Calls Try.prog 73 #[.int .i64 B, .int .i64 K] w fun e w' => e = .returned (.int .i64 (r : Int)) ∧ w = w' := by
  subst hB hK
  have := hr.out
  subst this
  exact power_any b k w hb hk

set_option maxHeartbeats 800000 in
theorem binomial_any (n k : Nat) (w : World) (hn : n ≤ 16) (hk : k ≤ n) :
    Calls Try.prog 57 #[.int .i64 (n : Int), .int .i64 (k : Int)] w fun e w' => e = .returned (.int .i64 (chs n k : Int)) ∧ w' = w := by
  go_enter Try.func57, Try.ntmps57
  go_wp2_with fail
  go_loop [5, 8] (fun o i => ∃ j : Nat, j ≤ k ∧ i = .int .i64 (j : Int) ∧ o = .int .i64 (chs n j : Int)) (fun _ i => k - (intOf i).toNat)
  case atStart => exact ⟨0, Nat.zero_le _, rfl, by simp [chs_zero]⟩
  case round =>
    obtain ⟨j, hj, rfl, rfl⟩ := hrel
    by_cases hlt : j < k
    · have h1 := chs_next n (by omega) j (by omega)
      have h2 := chs_times n (by omega) j (by omega)
      have h3 := chs_small n (by omega) j (by omega)
      have hi : ((chs n j * (n - j) : Nat) : Int) = (chs n j : Int) * ((n : Int) - (j : Int)) := by rw [Int.natCast_mul]; congr 1; omega
      have hi1 : (chs n j : Int) * ((n : Int) - (j : Int)) ≤ 205920 := by rw [← hi]; omega
      have hi0 : 0 ≤ (chs n j : Int) * ((n : Int) - (j : Int)) := by rw [← hi]; omega
      have HQ : Hid ((chs n j : Int) * ((n : Int) - (j : Int)) / ((j : Int) + 1) = (chs n (j + 1) : Int)) := hid (by
        rw [← hi, h1, show (j : Int) + 1 = ((j + 1 : Nat) : Int) by omega, ← Int.natCast_ediv, Nat.mul_div_cancel _ (by omega)])
      clear h1 h2 hi
      generalize chs n j = c at *
      go_wp2_with fail
      go_round
      case rel => exact ⟨j + 1, by omega, by go_num, congrArg (Value.int .i64) HQ.out⟩
      case measure => simp [intOf]; omega
    · obtain rfl : j = k := by omega
      go_wp2_with fail
      go_ret
      exact ⟨rfl, rfl⟩
theorem binomial_at (n k : Nat) (N K : Int) (w : World) (hN : N = (n : Int)) (hK : K = (k : Int)) (hn : n ≤ 16) (hk : k ≤ n) :
    Calls Try.prog 57 #[.int .i64 N, .int .i64 K] w fun e w' => e = .returned (.int .i64 (chs n k : Int)) ∧ w' = w := by
  subst hN hK
  exact binomial_any n k w hn hk

set_option maxHeartbeats 800000 in
theorem streetN_any (c q : Nat) (w : World) (hc : c ≤ 8) (hq : q ≤ 12) :
    Calls Try.prog 43 #[.int .i64 (c : Int), .int .i64 (q : Int)] w fun e w' => e = .returned (.int .i64 (streetCnt c q : Int)) ∧ w = w' := by
  cases c with
  | zero =>
    go_enter Try.func43, Try.ntmps43
    go_wp2_with fail
    go_ret
    exact ⟨rfl, rfl⟩
  | succ k =>
    have hbe : ((k : Int) + 1 == 0) = false := by simp; omega
    by_cases hlt : q < k + 1
    · have HS : Hid (streetCnt (k + 1) q = 0) := hid (by simp [streetCnt, hlt])
      have hlt' : (q : Int) < (k : Int) + 1 := by omega
      go_enter Try.func43, Try.ntmps43
      go_wp2_with fail
      go_ret
      exact ⟨ret_int (by rw [HS.out]; rfl), rfl⟩
    · have hs := street_small (k + 1) (by omega) q (by omega) (by omega) (by omega)
      have hpw := pow_small (q + 1) (by omega) k (by omega)
      have hS : streetCnt (k + 1) q = (q + 1 - (k + 1)) * (q + 1) ^ k := by simp [streetCnt, hlt]
      rw [show k + 1 - 1 = k from rfl] at hs
      obtain ⟨r, hre⟩ : ∃ r, (q + 1) ^ k = r := ⟨_, rfl⟩
      have HE := hid hre
      rw [hre] at hs hpw hS
      have hi : (((q + 1 - (k + 1)) * r : Nat) : Int) = ((q : Int) + 1 - ((k : Int) + 1)) * (r : Int) := by
        rw [Int.natCast_mul]
        congr 1
        omega
      have HS : Hid ((streetCnt (k + 1) q : Int) = ((q : Int) + 1 - ((k : Int) + 1)) * (r : Int)) := hid (by rw [hS, hi])
      have hi1 : ((q : Int) + 1 - ((k : Int) + 1)) * (r : Int) ≤ 815730721 := by rw [← hi]; exact Int.ofNat_le.2 hs
      have hi0 : 0 ≤ ((q : Int) + 1 - ((k : Int) + 1)) * (r : Int) := by rw [← hi]; exact Int.natCast_nonneg _
      clear hre hS hi hs
      have hnl : ¬ (q : Int) < (k : Int) + 1 := by omega
      go_enter Try.func43, Try.ntmps43
      go_wp2_with (go_at_call 73; refine (power_at (q + 1) k r _ _ _ (by omega) (by omega) (by omega) (by omega) HE).mono ?_; rintro e w' ⟨rfl, rfl⟩)
      go_ret
      exact ⟨ret_int HS.out.symm, rfl⟩

theorem streetCnt_le {c q : Nat} (hc : c ≤ 8) (hq : q ≤ 12) : streetCnt c q ≤ 815730721 := by
  have : ∀ c, c < 9 → ∀ q, q < 13 → streetCnt c q ≤ 815730721 := by decide +kernel
  exact this c (by omega) q (by omega)
theorem streetCnt_self : ∀ n, n < 9 → streetCnt n n = cnt n := by decide +kernel

set_option maxHeartbeats 400000 in
theorem countParking_any (n : Int) (w : World) : Calls Try.prog 10 #[.int .i64 n] w (PostInt w (countOf n)) := by
  by_cases hg : inB n 0 8 = true
  · obtain ⟨m, rfl⟩ : ∃ m : Nat, n = (m : Int) := ⟨n.toNat, by have := inB_iff.1 hg; omega⟩
    have hm : m ≤ 8 := by have := inB_iff.1 hg; omega
    have HR : Hid (countOf m = ((streetCnt m m : Int), true)) := hid (by simp [countOf, hg, streetCnt_self m (by omega)])
    have HG := hid hg
    clear hg
    go_enter Try.func10, Try.ntmps10
    go_wp2_with (first | (go_at_call 42; refine (isCarNumber_any _ _).mono ?_; rintro e w' ⟨rfl, rfl⟩; rw [HG.out]) | (go_at_call 43; refine (streetN_any _ _ _ hm (by omega)).mono ?_; rintro e w' ⟨rfl, rfl⟩))
    go_ret2
    exact postInt HR.out (Below.refl _ _)
  · have HR : Hid (countOf n = (0, false)) := hid (by simp [countOf, hg])
    have HG := hid hg
    clear hg
    go_enter Try.func10, Try.ntmps10
    go_wp2_with (go_at_call 42; refine (isCarNumber_any _ _).mono ?_; rintro e w' ⟨rfl, rfl⟩; rw [Bool.eq_false_iff.2 HG.out])
    go_ret2
    exact postInt HR.out (Below.refl _ _)

set_option maxHeartbeats 400000 in
theorem countSorted_any (n : Int) (w : World) : Calls Try.prog 25 #[.int .i64 n] w (PostInt w (countSortedOf n)) := by
  by_cases hg : inB n 0 8 = true
  · obtain ⟨m, rfl⟩ : ∃ m : Nat, n = (m : Int) := ⟨n.toNat, by have := inB_iff.1 hg; omega⟩
    have hm : m ≤ 8 := by have := inB_iff.1 hg; omega
    have h3 := chs_small (2 * m) (by omega) m (by omega)
    have HR : Hid (countSortedOf m = ((chs (2 * m) m : Int) / ((m : Int) + 1), true)) := hid (by
      simp [countSortedOf, hg])
    have hdv : 0 ≤ (chs (2 * m) m : Int) / ((m : Int) + 1) ∧ (chs (2 * m) m : Int) / ((m : Int) + 1) ≤ 12870 := by
      rw [show (m : Int) + 1 = ((m + 1 : Nat) : Int) by omega, ← Int.natCast_ediv]
      have := Nat.div_le_self (chs (2 * m) m) (m + 1)
      generalize chs (2 * m) m / (m + 1) = d at *
      omega
    obtain ⟨hdv0, hdv1⟩ := hdv
    have HG := hid hg
    clear hg
    go_enter Try.func25, Try.ntmps25
    go_wp2_with (go_at_call 42; refine (isCarNumber_any _ _).mono ?_; rintro e w' ⟨rfl, rfl⟩; rw [HG.out])
    refine (binomial_at (2 * m) m _ _ _ (by omega) (by omega) (by omega) (by omega)).mono ?_
    rintro e w' ⟨rfl, rfl⟩
    go_wp2_with fail
    go_ret2
    exact postInt HR.out (Below.refl _ _)
  · have HR : Hid (countSortedOf n = (0, false)) := hid (by simp [countSortedOf, hg])
    have HG := hid hg
    clear hg
    go_enter Try.func25, Try.ntmps25
    go_wp2_with (go_at_call 42; refine (isCarNumber_any _ _).mono ?_; rintro e w' ⟨rfl, rfl⟩; rw [Bool.eq_false_iff.2 HG.out])
    go_ret2
    exact postInt HR.out (Below.refl _ _)
end Go.Proofs.Ytkkhlkaieohklaa

namespace Go.Proofs.Ytkkhlkaieohklaa
open Go.RowKit

theorem rkB_idx {xs : List Int} {n : Nat} (hl : xs.length = n) : rkB (idx n) xs = rkTo xs n n := by
  unfold rkB rkTo
  rw [rk_idx, List.take_of_length_le (Nat.le_of_eq hl)]
theorem und_park {xs : List Int} {n : Nat} (h : isPark xs = true) (hl : xs.length = n) : und (idx n) xs = true := by
  rw [und_idx hl (by have := (isPark_bounds h).1; omega)]
  exact h

set_option maxHeartbeats 800000 in
theorem rank_any (a : Option Addr) (n cap : Nat) (xs : List Int) (w : World) (h : Has w a n cap xs) :
    Calls Try.prog 13 #[.slice a n cap] w (PostInt w (rankOf xs)) := by
  by_cases hg : isPark xs = true
  · have HR : Hid (rankOf xs = ((rkB (idx n) xs : Int), true)) := hid (by rw [rankOf_yes hg, h.len, rkB_idx h.len])
    have h8 : n ≤ 8 := by have := (isPark_bounds hg).1; have := h.len; omega
    have HU := hid (und_park hg h.len)
    have HS := hid (sml_idx h8)
    have HG := hid hg
    clear hg
    go_enter Try.func13, Try.ntmps13
    go_wp2_with (go_at_call 49; refine (isParkingFunction_any _ _ _ _ _ h).mono ?_; rintro e w0 ⟨rfl, hb0⟩; rw [HG.out])
    refine (indices_any n _ (by omega)).mono ?_
    rintro e w1 ⟨a1, cap1, rfl, hown1, hb1⟩
    have hb01 := hb0.trans (hb1.mono hb0.size)
    go_wp2_with fail
    refine (rankU_any _ _ _ _ _ _ _ _ (h.below hb01 (Nat.le_refl _)) hown1.has HS HU.out).mono ?_
    rintro e w2 ⟨rfl, hb2⟩
    go_wp2_with fail
    go_ret2
    exact postInt HR.out (hb01.trans (hb2.mono hb01.size))
  · have HR := hid (rankOf_no hg)
    have HG := hid hg
    clear hg
    go_enter Try.func13, Try.ntmps13
    go_wp2_with (go_at_call 49; refine (isParkingFunction_any _ _ _ _ _ h).mono ?_; rintro e w0 ⟨rfl, hb0⟩; rw [Bool.eq_false_iff.2 HG.out])
    go_ret2
    exact postInt HR.out hb0

theorem firsts_idx (n : Nat) : nextsU (idx n) [] (numB (idx n)) = firsts n n := by
  rw [numB_idx]
  unfold nextsU firsts
  apply List.map_congr_left
  intro x _
  rw [N_idx]
  rfl

theorem atB_idx (n R : Nat) : atB (idx n) R = toI (atL n n [] R) := by
  unfold atB
  rw [length_idx, at_idx]

set_option maxHeartbeats 800000 in
theorem parkingAt_any (n r : Int) (w : World) : Calls Try.prog 8 #[.int .i64 n, .int .i64 r] w (PostInts w (atOf n r)) := by
  by_cases hg : inB n 0 8 = true
  · obtain ⟨m, rfl⟩ : ∃ m : Nat, n = (m : Int) := ⟨n.toNat, by have := inB_iff.1 hg; omega⟩
    have hm : m ≤ 8 := by have := inB_iff.1 hg; omega
    obtain ⟨c1, c2⟩ := cnt_le hm
    have HST := hid (streetCnt_self m (by omega))
    by_cases h0 : 0 ≤ r
    · by_cases hlt : r < (cnt m : Int)
      · obtain ⟨R, rfl⟩ : ∃ R : Nat, r = (R : Int) := ⟨r.toNat, by omega⟩
        have hR : R < cnt m := by omega
        have HA : Hid (atOf m R = (atB (idx m) R, true)) := hid (by rw [atB_idx]; exact atOf_yes hm hR)
        have HRC : Hid (R < cntB (idx m)) := hid (by rw [cnt_idx hm]; exact hR)
        have HS := hid (sml_idx hm)
        have HG := hid hg
        have hnl : ¬ (cnt m : Int) ≤ (R : Int) := by omega
        clear hg
        go_enter Try.func8, Try.ntmps8
        go_wp2_with (first | (go_at_call 42; refine (isCarNumber_any _ _).mono ?_; rintro e w' ⟨rfl, rfl⟩; rw [HG.out]) | (go_at_call 43; refine (streetN_any _ _ _ hm (by omega)).mono ?_; rintro e w' ⟨rfl, rfl⟩; rw [HST.out]))
        refine (indices_any m _ (by omega)).mono ?_
        rintro e w1 ⟨a1, cap1, rfl, hown1, hb1⟩
        go_wp2_with fail
        refine (listU_any R _ _ _ _ _ hown1.has HS HRC.out).mono ?_
        rintro e w2 ⟨a2, cap2, rfl, hown2, hb2⟩
        go_wp2_with fail
        go_ret2
        exact postInts HA.out (hown2.mono hb1.size) (hb1.trans (hb2.mono hb1.size))
      · have HA := hid (atOf_no2 (n := m) (r := r) (by rw [Bool.not_eq_true, inB_not]; omega))
        have HG := hid hg
        have hnl : (cnt m : Int) ≤ r := by omega
        clear hg
        go_enter Try.func8, Try.ntmps8
        go_wp2_with (first | (go_at_call 42; refine (isCarNumber_any _ _).mono ?_; rintro e w' ⟨rfl, rfl⟩; rw [HG.out]) | (go_at_call 43; refine (streetN_any _ _ _ hm (by omega)).mono ?_; rintro e w' ⟨rfl, rfl⟩; rw [HST.out]))
        go_ret2
        exact postInts_no HA.out (Below.refl _ _)
    · have HA := hid (atOf_no2 (n := m) (r := r) (by rw [Bool.not_eq_true, inB_not]; omega))
      have HG := hid hg
      clear hg
      go_enter Try.func8, Try.ntmps8
      go_wp2_with (first | (go_at_call 42; refine (isCarNumber_any _ _).mono ?_; rintro e w' ⟨rfl, rfl⟩; rw [HG.out]))
      go_ret2
      exact postInts_no HA.out (Below.refl _ _)
  · have HA := hid (atOf_no1 (r := r) hg)
    have HG := hid hg
    clear hg
    go_enter Try.func8, Try.ntmps8
    go_wp2_with (go_at_call 42; refine (isCarNumber_any _ _).mono ?_; rintro e w' ⟨rfl, rfl⟩; rw [Bool.eq_false_iff.2 HG.out])
    go_ret2
    exact postInts_no HA.out (Below.refl _ _)
end Go.Proofs.Ytkkhlkaieohklaa

namespace Go.Proofs.Ytkkhlkaieohklaa
open Go.RowKit

/-- The first k numbers of a mixture are laid. -/
def Mixed (zs ys : List Int) (k : Nat) : Prop := ∀ i, i < k → nth ys i = nth zs i

theorem mix_nth {xs ys : List Int} {low : Bool} {k : Nat} (hx : k < xs.length) (hy : k < ys.length) : nth (mixWith xs ys low) k = if low then min (nth xs k) (nth ys k) else max (nth xs k) (nth ys k) := by
  simp [nth, mixWith, List.getElem?_zipWith, hx, hy]

end Go.Proofs.Ytkkhlkaieohklaa

namespace Go.Proofs.Ytkkhlkaieohklaa
open Go.RowKit

set_option maxHeartbeats 800000 in
theorem pnext_any (a : Option Addr) (n cap : Nat) (xs : List Int) (w : World) (h : Has w a n cap xs) (h8 : n ≤ 8) (hx : ∀ i, i < n → 0 ≤ nth xs i ∧ nth xs i ≤ 8) :
    Calls Try.prog 51 #[.slice a n cap] w (PostInts w (nextP xs n)) := by
  have HE := hid (nextU_idx h.len h8 n (Nat.le_refl _))
  have HX : Hid (∀ i, i < n → 0 ≤ nth xs i ∧ nth xs i ≤ 13) := hid (fun i hi => by have := hx i hi; omega)
  obtain ⟨⟨ys, ok⟩, hr⟩ : ∃ r, nextP xs n = r := ⟨_, rfl⟩
  have HR := hid hr
  clear hr hx
  go_enter Try.func51, Try.ntmps51
  go_wp2_with fail
  refine (indices_any n _ (by omega)).mono ?_
  rintro e w1 ⟨a1, cap1, rfl, hown1, hb1⟩
  go_wp2_with fail
  refine (nextU_any _ _ _ _ _ _ _ _ (h.below hb1 (Nat.le_refl _)) hown1.has h8 HX.out).mono ?_
  rw [HE.out, HR.out]
  rintro e w2 ⟨a2, m2, cap2, rfl, hown2, hb2⟩
  go_wp2_with fail
  go_ret2
  exact postInts HR.out (hown2.mono hb1.size) (hb1.trans (hb2.mono hb1.size))

theorem parks_small {xs : List Int} {n : Nat} (h : isPark xs = true) (hn : xs.length = n) : n ≤ 8 ∧ ∀ i, i < n → 0 ≤ nth xs i ∧ nth xs i ≤ 8 := by
  obtain ⟨h1, h2⟩ := isPark_bounds h
  refine ⟨by omega, fun i hi => ?_⟩
  have := h2 _ (nth_mem (xs := xs) (i := i) (by omega))
  omega
theorem nextOf_none {xs : List Int} (h : ¬ isPark xs = true) : nextOf xs = ([], false) := by simp [nextOf, h]

set_option maxHeartbeats 800000 in
theorem nextParking_any (a : Option Addr) (n cap : Nat) (xs : List Int) (w : World) (h : Has w a n cap xs) :
    Calls Try.prog 14 #[.slice a n cap] w (PostInts w (nextOf xs)) := by
  by_cases hg : isPark xs = true
  · obtain ⟨h8, hx⟩ := parks_small hg h.len
    have HN : Hid (nextP xs n = nextOf xs) := hid (by rw [← h.len]; exact nextP_eq hg)
    have HG := hid hg
    clear hg
    go_enter Try.func14, Try.ntmps14
    go_wp2_with (go_at_call 49; refine (isParkingFunction_any _ _ _ _ _ h).mono ?_; rintro e w1 ⟨rfl, hb1⟩; rw [HG.out])
    refine (pnext_any _ _ _ _ _ (h.below hb1 (Nat.le_refl _)) h8 hx).mono ?_
    rw [HN.out]
    obtain ⟨⟨ys, ok⟩, hq⟩ : ∃ r, nextOf xs = r := ⟨_, rfl⟩
    rw [hq]
    have HQ := hid hq
    clear hq
    rintro e w2 ⟨a2, m2, cap2, rfl, hown2, hb2⟩
    go_wp2_with fail
    go_ret2
    exact postInts HQ.out (hown2.mono hb1.size) (hb1.trans (hb2.mono hb1.size))
  · have HN := hid (nextOf_none hg)
    have HG := hid hg
    clear hg
    go_enter Try.func14, Try.ntmps14
    go_wp2_with (go_at_call 49; refine (isParkingFunction_any _ _ _ _ _ h).mono ?_; rintro e w1 ⟨rfl, hb1⟩; rw [Bool.eq_false_iff.2 HG.out])
    go_ret2
    exact postInts_no HN.out hb1

set_option maxHeartbeats 800000 in
theorem pnextSorted_any (a : Option Addr) (n cap : Nat) (xs : List Int) (w : World) (h : Has w a n cap xs) (h8 : n ≤ 8) (hx : ∀ i, i < n → 0 ≤ nth xs i ∧ nth xs i ≤ 8) :
    Calls Try.prog 55 #[.slice a n cap] w (PostInts w (nextS xs n)) := by
  have HE := hid (nextW_idx (xs := xs) n (Nat.le_refl _))
  have HX : Hid (∀ i, i < n → 0 ≤ nth xs i ∧ nth xs i ≤ 13) := hid (fun i hi => by have := hx i hi; omega)
  obtain ⟨⟨ys, ok⟩, hr⟩ : ∃ r, nextS xs n = r := ⟨_, rfl⟩
  have HR := hid hr
  clear hr hx
  go_enter Try.func55, Try.ntmps55
  go_wp2_with fail
  refine (indices_any n _ (by omega)).mono ?_
  rintro e w1 ⟨a1, cap1, rfl, hown1, hb1⟩
  go_wp2_with fail
  refine (nextW_any _ _ _ _ _ _ _ _ (h.below hb1 (Nat.le_refl _)) hown1.has h8 HX.out).mono ?_
  rw [HE.out, HR.out]
  rintro e w2 ⟨a2, m2, cap2, rfl, hown2, hb2⟩
  go_wp2_with fail
  go_ret2
  exact postInts HR.out (hown2.mono hb1.size) (hb1.trans (hb2.mono hb1.size))
end Go.Proofs.Ytkkhlkaieohklaa

namespace Go.Proofs.Ytkkhlkaieohklaa
open Go.RowKit

set_option maxHeartbeats 4000000 in
theorem allNext_any (n : Nat) (L : List (List Int)) (hch : Chain (fun xs => nextP xs xs.length) L) (h8 : n ≤ 8) (hq : L.length ≤ 100000) (hv : ∀ k, k < L.length → (L.getD k []).length = n ∧ ∀ i, i < n → 0 ≤ nth (L.getD k []) i ∧ nth (L.getD k []) i ≤ 8)
    (w0 w : World) (a : Option Addr) (m cap : Nat) (xs : List Int) (hb0 : Below w0.heap.size w0 w) (hfirst : Own w w0.heap.size a m cap xs) (hx : L.getD 0 [] = xs) :
    Calls Try.prog 53 #[.slice a m cap, .func (.func 51) #[] #[]] w (PostRowsOnly w0 L) := by
  obtain ⟨hL0, hL1, hL2⟩ := hch
  have H1 := hid hL1
  have H2 := hid hL2
  have HV := hid hv
  have HX := hid hx
  clear hL1 hL2 hv hx
  go_enter Try.func53, Try.ntmps53
  go_wp2_with fail
  go_loopw [5, 6, 7] (fun o s b wr => ∃ (k : Nat) (wk : World) (a' : Option Addr) (cap' : Nat) (rs : List Rw) (a1 : Option Addr) (m1 c1 : Nat) (ys : List Int) (ok : Bool), k ≤ L.length ∧ o = .slice a' k cap' ∧ s = .slice a1 m1 c1 ∧ b = .bool ok ∧ Hid (ok = decide (k < L.length)) ∧
    OwnR wk w0.heap.size a' k cap' rs ∧ Hid (numsOf rs = L.take k) ∧ Below wk.heap.size wk wr ∧ w0.heap.size ≤ wk.heap.size ∧ Own wr wk.heap.size a1 m1 c1 ys ∧ Hid (k < L.length → L.getD k [] = ys) ∧ Below w0.heap.size w0 wr) (fun o _ _ _ => L.length + 1 - (match o with | .slice _ k _ => k | _ => 0))
  case atStart => exact ⟨0, w0, none, 0, [], a, m, cap, xs, true, Nat.zero_le _, rfl, rfl, rfl, hid (by simp [hL0]), OwnR.nil _ _, hid rfl, hb0, Nat.le_refl _, hfirst, hid (fun _ => HX.out), hb0⟩
  case round =>
    clear hb0 hfirst
    obtain ⟨k, wk, a', cap', rs, a1, m1, c1, ys, ok, hk, rfl, rfl, rfl, HOK, hrows, HR, hbk, hwk, hys, HY, hb⟩ := hrel
    by_cases hlt : k < L.length
    · obtain rfl : ok = true := by rw [HOK.out]; simp [hlt]
      obtain ⟨v1, v2⟩ := HV.out k hlt
      have hyl := HY.out hlt
      rw [hyl] at v1 v2
      obtain rfl : n = m1 := by rw [← v1]; exact hys.len
      have V2 := hid v2
      have V1 := hid v1
      have HYL := hid hyl
      have HT := hid (take_getD hlt)
      have HR' : Hid (numsOf rs ++ [ys] = L.take (k + 1)) := hid (by rw [HT.out, HR.out, HYL.out])
      have hlen := hrows.len
      have HLEN := hid hlen
      clear v1 v2 hyl hlen
      go_wp2_with (at_builtin; refine wpList_append_row wk wr rfl _ _ rfl w0.heap.size _ _ _ _ _ _ _ _ rfl rfl hrows hbk hys (by omega) hwk ?_; intro a2 cap2 w2 hrows2 hb2)
      have hrow : Has w2 a1 n c1 ys := by
        have := hrows2.has.2.2.2.2.2 k (by omega)
        rw [nthR_append_right (by rw [HLEN.out]; exact Nat.le_refl _), HLEN.out, Nat.sub_self, nthR_one] at this
        simpa [V1.out] using this
      refine (pnext_any _ _ _ _ _ hrow h8 V2.out).mono ?_
      have hw2 : w0.heap.size ≤ w2.heap.size := Nat.le_trans (Nat.le_trans hwk hbk.size) hb2.size
      have hbw := hb.trans hb2
      by_cases hk1 : k + 1 < L.length
      · have HF := H1.out k hk1
        rw [HYL.out] at HF
        simp only [V1.out] at HF
        rw [HF]
        rintro e w3 ⟨a3, m3, cap3, rfl, hown3, hb3⟩
        clear HF
        go_wp2_with fail
        go_roundw
        case rel => exact ⟨k + 1, w2, a2, cap2, _, a3, m3, cap3, _, true, by omega, rfl, rfl, rfl, hid (by simp [hk1]), hrows2, hid (by rw [← HR'.out]; simp [numsOf]), hb3, hw2, hown3, hid (fun _ => rfl), hbw.trans (hb3.mono hw2)⟩
        case measure => simp; omega
      · have HF := H2.out
        rw [show L.length - 1 = k by omega, HYL.out] at HF
        simp only [V1.out] at HF
        rw [HF]
        rintro e w3 ⟨a3, m3, cap3, rfl, hown3, hb3⟩
        clear HF
        go_wp2_with fail
        go_roundw
        case rel => exact ⟨k + 1, w2, a2, cap2, _, a3, m3, cap3, _, false, by omega, rfl, rfl, rfl, hid (by simp [hk1]), hrows2, hid (by rw [← HR'.out]; simp [numsOf]), hb3, hw2, hown3, hid (fun h => absurd h hk1), hbw.trans (hb3.mono hw2)⟩
        case measure => simp; omega
    · obtain rfl : ok = false := by rw [HOK.out]; simp [hlt]
      have HE : Hid (numsOf rs = L) := hid (by rw [HR.out, List.take_of_length_le (by omega)])
      go_wp2_with fail
      go_ret
      exact ⟨a', k, cap', rs, rfl, hrows.below hbk (Nat.le_refl _), HE.out, hb⟩

set_option maxHeartbeats 4000000 in
theorem allSort_any (n : Nat) (L : List (List Int)) (hch : Chain (fun xs => nextS xs xs.length) L) (h8 : n ≤ 8) (hq : L.length ≤ 100000) (hv : ∀ k, k < L.length → (L.getD k []).length = n ∧ ∀ i, i < n → 0 ≤ nth (L.getD k []) i ∧ nth (L.getD k []) i ≤ 8)
    (w0 w : World) (a : Option Addr) (m cap : Nat) (xs : List Int) (hb0 : Below w0.heap.size w0 w) (hfirst : Own w w0.heap.size a m cap xs) (hx : L.getD 0 [] = xs) :
    Calls Try.prog 53 #[.slice a m cap, .func (.func 55) #[] #[]] w (PostRowsOnly w0 L) := by
  obtain ⟨hL0, hL1, hL2⟩ := hch
  have H1 := hid hL1
  have H2 := hid hL2
  have HV := hid hv
  have HX := hid hx
  clear hL1 hL2 hv hx
  go_enter Try.func53, Try.ntmps53
  go_wp2_with fail
  go_loopw [5, 6, 7] (fun o s b wr => ∃ (k : Nat) (wk : World) (a' : Option Addr) (cap' : Nat) (rs : List Rw) (a1 : Option Addr) (m1 c1 : Nat) (ys : List Int) (ok : Bool), k ≤ L.length ∧ o = .slice a' k cap' ∧ s = .slice a1 m1 c1 ∧ b = .bool ok ∧ Hid (ok = decide (k < L.length)) ∧
    OwnR wk w0.heap.size a' k cap' rs ∧ Hid (numsOf rs = L.take k) ∧ Below wk.heap.size wk wr ∧ w0.heap.size ≤ wk.heap.size ∧ Own wr wk.heap.size a1 m1 c1 ys ∧ Hid (k < L.length → L.getD k [] = ys) ∧ Below w0.heap.size w0 wr) (fun o _ _ _ => L.length + 1 - (match o with | .slice _ k _ => k | _ => 0))
  case atStart => exact ⟨0, w0, none, 0, [], a, m, cap, xs, true, Nat.zero_le _, rfl, rfl, rfl, hid (by simp [hL0]), OwnR.nil _ _, hid rfl, hb0, Nat.le_refl _, hfirst, hid (fun _ => HX.out), hb0⟩
  case round =>
    clear hb0 hfirst
    obtain ⟨k, wk, a', cap', rs, a1, m1, c1, ys, ok, hk, rfl, rfl, rfl, HOK, hrows, HR, hbk, hwk, hys, HY, hb⟩ := hrel
    by_cases hlt : k < L.length
    · obtain rfl : ok = true := by rw [HOK.out]; simp [hlt]
      obtain ⟨v1, v2⟩ := HV.out k hlt
      have hyl := HY.out hlt
      rw [hyl] at v1 v2
      obtain rfl : n = m1 := by rw [← v1]; exact hys.len
      have V2 := hid v2
      have V1 := hid v1
      have HYL := hid hyl
      have HT := hid (take_getD hlt)
      have HR' : Hid (numsOf rs ++ [ys] = L.take (k + 1)) := hid (by rw [HT.out, HR.out, HYL.out])
      have hlen := hrows.len
      have HLEN := hid hlen
      clear v1 v2 hyl hlen
      go_wp2_with (at_builtin; refine wpList_append_row wk wr rfl _ _ rfl w0.heap.size _ _ _ _ _ _ _ _ rfl rfl hrows hbk hys (by omega) hwk ?_; intro a2 cap2 w2 hrows2 hb2)
      have hrow : Has w2 a1 n c1 ys := by
        have := hrows2.has.2.2.2.2.2 k (by omega)
        rw [nthR_append_right (by rw [HLEN.out]; exact Nat.le_refl _), HLEN.out, Nat.sub_self, nthR_one] at this
        simpa [V1.out] using this
      refine (pnextSorted_any _ _ _ _ _ hrow h8 V2.out).mono ?_
      have hw2 : w0.heap.size ≤ w2.heap.size := Nat.le_trans (Nat.le_trans hwk hbk.size) hb2.size
      have hbw := hb.trans hb2
      by_cases hk1 : k + 1 < L.length
      · have HF := H1.out k hk1
        rw [HYL.out] at HF
        simp only [V1.out] at HF
        rw [HF]
        rintro e w3 ⟨a3, m3, cap3, rfl, hown3, hb3⟩
        clear HF
        go_wp2_with fail
        go_roundw
        case rel => exact ⟨k + 1, w2, a2, cap2, _, a3, m3, cap3, _, true, by omega, rfl, rfl, rfl, hid (by simp [hk1]), hrows2, hid (by rw [← HR'.out]; simp [numsOf]), hb3, hw2, hown3, hid (fun _ => rfl), hbw.trans (hb3.mono hw2)⟩
        case measure => simp; omega
      · have HF := H2.out
        rw [show L.length - 1 = k by omega, HYL.out] at HF
        simp only [V1.out] at HF
        rw [HF]
        rintro e w3 ⟨a3, m3, cap3, rfl, hown3, hb3⟩
        clear HF
        go_wp2_with fail
        go_roundw
        case rel => exact ⟨k + 1, w2, a2, cap2, _, a3, m3, cap3, _, false, by omega, rfl, rfl, rfl, hid (by simp [hk1]), hrows2, hid (by rw [← HR'.out]; simp [numsOf]), hb3, hw2, hown3, hid (fun h => absurd h hk1), hbw.trans (hb3.mono hw2)⟩
        case measure => simp; omega
    · obtain rfl : ok = false := by rw [HOK.out]; simp [hlt]
      have HE : Hid (numsOf rs = L) := hid (by rw [HR.out, List.take_of_length_le (by omega)])
      go_wp2_with fail
      go_ret
      exact ⟨a', k, cap', rs, rfl, hrows.below hbk (Nat.le_refl _), HE.out, hb⟩

theorem chain_next {n : Nat} (h8 : n ≤ 8) : Chain (fun xs => nextP xs xs.length) (listL n n []) := by
  obtain ⟨⟨c1, c2, c3⟩, _, _, hp⟩ := all_chain h8
  refine ⟨c1, fun k hk => ?_, ?_⟩
  · show nextP _ _ = _
    rw [nextP_eq (hp k (by omega)).1]
    exact c2 k hk
  · show nextP _ _ = _
    rw [nextP_eq (hp _ (by omega)).1]
    exact c3
theorem cnt_le5 {n : Nat} (h : n ≤ 5) : cnt n ≤ 1296 := by
  have : ∀ n, n < 6 → cnt n ≤ 1296 := by decide +kernel
  exact this n (by omega)

set_option maxHeartbeats 400000 in
theorem allParking_any (n : Int) (w : World) : Calls Try.prog 18 #[.int .i64 n] w (PostRows w (allOf n)) := by
  by_cases h1 : 0 ≤ n
  · by_cases h2 : n ≤ 5
    · obtain ⟨m, rfl⟩ : ∃ m : Nat, n = (m : Int) := ⟨n.toNat, by omega⟩
      have hm : m ≤ 5 := by omega
      have HA := hid (allOf_yes (inB_iff.2 ⟨h1, h2⟩))
      obtain ⟨_, hf, hl, hp⟩ := all_chain (n := m) (by omega)
      have hc5 := cnt_le5 hm
      have HF := hid hf
      have HC := hid (chain_next (n := m) (by omega))
      have HV : Hid (∀ k, k < (listL m m []).length → ((listL m m []).getD k []).length = m ∧ ∀ i, i < m → 0 ≤ nth ((listL m m []).getD k []) i ∧ nth ((listL m m []).getD k []) i ≤ 8) := hid (fun k hk => ⟨(hp k hk).2, (parks_small (hp k hk).1 (hp k hk).2).2⟩)
      have HL : Hid ((listL m m []).length ≤ 100000) := hid (by omega)
      clear hf hl hp
      go_enter Try.func18, Try.ntmps18
      go_wp2_with (refine wpList_make_intsT 58 Try.underlying58 _ rfl _ _ rfl m rfl rfl (by omega) ?_; intro a1 cap1 w1 hown1 hb1)
      refine (allNext_any m (listL m m []) HC.out (by omega) HL.out HV.out w _ _ _ _ _ hb1 hown1 HF.out).mono ?_
      rintro e w2 ⟨a2, q2, cap2, rs2, rfl, hown2, hn2, hb2⟩
      go_wp2_with fail
      go_ret2
      exact postRows HA.out hown2 hn2 hb2
    · have HA := hid (allOf_no (n := n) (by rw [Bool.not_eq_true, inB_not]; omega))
      go_enter Try.func18, Try.ntmps18
      go_wp2_with fail
      go_ret2
      exact postRows_no HA.out (Below.refl _ _)
  · have HA := hid (allOf_no (n := n) (by rw [Bool.not_eq_true, inB_not]; omega))
    go_enter Try.func18, Try.ntmps18
    go_wp2_with fail
    go_ret2
    exact postRows_no HA.out (Below.refl _ _)

theorem allSortedOf_yes {n : Nat} (h : inB (n : Int) 0 6 = true) : allSortedOf n = (sortL n [], true) := by simp [allSortedOf, h]
theorem allSortedOf_no {n : Int} (h : ¬ inB n 0 6 = true) : allSortedOf n = ([], false) := by simp [allSortedOf, h]
theorem sorted_facts {n : Nat} (h : n ≤ 6) : Chain (fun xs => nextS xs xs.length) (sortL n []) ∧ (sortL n []).getD 0 [] = List.replicate n 0 ∧ (sortL n []).length ≤ 132 ∧
    ∀ k, k < (sortL n []).length → ((sortL n []).getD k []).length = n ∧ ∀ i, i < n → 0 ≤ nth ((sortL n []).getD k []) i ∧ nth ((sortL n []).getD k []) i ≤ 8 := by
  obtain ⟨c1, c2, c3, c4⟩ := sorted_chain n (by omega)
  refine ⟨chain_of c1, c2, c3, fun k hk => ?_⟩
  have hm : (sortL n []).getD k [] ∈ sortL n [] := by simp [hk]
  have := List.all_eq_true.1 c4 _ hm
  simp only [Bool.and_eq_true, decide_eq_true_eq] at this
  refine ⟨this.1, fun i hi => ?_⟩
  have := allB_nth this.2 (k := i) (by omega)
  omega

set_option maxHeartbeats 400000 in
theorem allSorted_any (n : Int) (w : World) : Calls Try.prog 23 #[.int .i64 n] w (PostRows w (allSortedOf n)) := by
  by_cases h1 : 0 ≤ n
  · by_cases h2 : n ≤ 6
    · obtain ⟨m, rfl⟩ : ∃ m : Nat, n = (m : Int) := ⟨n.toNat, by omega⟩
      have hm : m ≤ 6 := by omega
      have HA := hid (allSortedOf_yes (inB_iff.2 ⟨h1, h2⟩))
      obtain ⟨hc, hf, hl, hp⟩ := sorted_facts hm
      have HF := hid hf
      have HC := hid hc
      have HV := hid hp
      have HL : Hid ((sortL m []).length ≤ 100000) := hid (by omega)
      clear hf hl hp hc
      go_enter Try.func23, Try.ntmps23
      go_wp2_with (refine wpList_make_intsT 58 Try.underlying58 _ rfl _ _ rfl m rfl rfl (by omega) ?_; intro a1 cap1 w1 hown1 hb1)
      refine (allSort_any m (sortL m []) HC.out (by omega) HL.out HV.out w _ _ _ _ _ hb1 hown1 HF.out).mono ?_
      rintro e w2 ⟨a2, q2, cap2, rs2, rfl, hown2, hn2, hb2⟩
      go_wp2_with fail
      go_ret2
      exact postRows HA.out hown2 hn2 hb2
    · have HA := hid (allSortedOf_no (n := n) (by rw [Bool.not_eq_true, inB_not]; omega))
      go_enter Try.func23, Try.ntmps23
      go_wp2_with fail
      go_ret2
      exact postRows_no HA.out (Below.refl _ _)
  · have HA := hid (allSortedOf_no (n := n) (by rw [Bool.not_eq_true, inB_not]; omega))
    go_enter Try.func23, Try.ntmps23
    go_wp2_with fail
    go_ret2
    exact postRows_no HA.out (Below.refl _ _)
end Go.Proofs.Ytkkhlkaieohklaa

namespace Go.Proofs.Ytkkhlkaieohklaa
open Go.RowKit

/-- Whether the bytes are too many. -/
def Big (n m : Nat) (w : World) (e : Ending) (w' : World) : Prop := ∃ r : Bool, e = .returned (.bool r) ∧ (r = false → n + m ≤ 1048576) ∧ w = w'

theorem big_any (a b : Option Addr) (n m cap cap' : Nat) (w : World) (hn : n ≤ 9223372036854775807) :
    Calls Try.prog 6 #[.slice a n cap, .slice b m cap'] w (Big n m w) := by
  by_cases h1 : (1048576 : Int) < (n : Int)
  · go_enter Try.func6, Try.ntmps6
    go_wp2_with fail
    go_ret
    exact ⟨true, ret_bool (by simp), by simp, rfl⟩
  · by_cases h2 : (1048576 : Int) - n < (m : Int)
    · go_enter Try.func6, Try.ntmps6
      go_wp2_with fail
      go_ret
      exact ⟨true, ret_bool (by simp), by simp, rfl⟩
    · go_enter Try.func6, Try.ntmps6
      go_wp2_with fail
      go_ret
      exact ⟨false, ret_bool (by simp), fun _ => by omega, rfl⟩

set_option maxHeartbeats 400000 in
theorem numberOf_any (a : Option Addr) (n cap K : Nat) (w : World) (h : HasB w a n K) :
    Calls Try.prog 21 #[.slice a n cap] w fun e w' => ∃ v : Int, e = .returned (.int .i64 v) ∧ 0 ≤ v ∧ v ≤ 1000002 ∧ w = w' := by
  obtain ⟨hn, h4⟩ := h
  go_enter Try.func21, Try.ntmps21
  go_wp2_with fail
  go_loop [3, 8] (fun c i => ∃ (k : Nat) (v : Int), k ≤ n ∧ i = .int .i64 k ∧ c = .int .i64 v ∧ 0 ≤ v ∧ v ≤ 1000002) (fun _ i => n - (intOf i).toNat)
  case atStart => exact ⟨0, 0, Nat.zero_le _, rfl, rfl, by omega, by omega⟩
  case round =>
    obtain ⟨k, v, hk, rfl, rfl, v0, v1⟩ := hrel
    by_cases hlt : k < n
    · obtain ⟨b, off, rfl, hb, hc⟩ := h4 (by omega)
      obtain ⟨u, u0, u1, hck⟩ := hc k hlt
      clear hc h4
      have m0 : 0 ≤ (31 * v + u) % 1000003 := Int.emod_nonneg _ (by omega)
      have m1 : (31 * v + u) % 1000003 ≤ 1000002 := by omega
      go_wp2_with fail
      go_round
      case rel => exact ⟨k + 1, (31 * v + u) % 1000003, by omega, by go_num, rfl, m0, m1⟩
      case measure => simp [intOf]; omega
    · go_wp2_with fail
      go_ret
      exact ⟨v, rfl, v0, v1, rfl⟩

set_option maxHeartbeats 400000 in
theorem jSame_any (a b : Option Addr) (n m cap cap' : Nat) (xs ys : List Int) (w : World) (h : Has w a n cap xs) (h' : Has w b m cap' ys) :
    Calls Try.prog 12 #[.slice a n cap, .slice b m cap'] w fun e w' => e = .returned (.bool (same xs ys)) ∧ Quiet w w' := by
  obtain ⟨h0, h1, h2, h3, h4⟩ := h
  obtain ⟨k0, k1, k2, k3, k4⟩ := h'
  by_cases hnm : n = m
  · have hb : ((n : Int) != (m : Int)) = false := by simp [hnm]
    subst hnm
    go_enter Try.func12, Try.ntmps12
    go_wp2_with fail
    go_loopw [13] (fun i wr => ∃ k : Nat, k ≤ n ∧ i = .int .i64 k ∧ FromTo xs ys k ∧ Quiet w wr) (fun i _ => n - (intOf i).toNat)
    case atStart => exact ⟨0, Nat.zero_le _, rfl, fun i hi => by omega, ⟨0, rfl⟩⟩
    case round =>
      obtain ⟨k, hk, rfl, hft, q, hq⟩ := hrel
      subst hq
      by_cases hlt : k < n
      · obtain ⟨b1, off1, rfl, hb1, hc1⟩ := h4 (by omega)
        obtain ⟨b2, off2, rfl, hb2, hc2⟩ := k4 (by omega)
        have hck := hc1 k hlt
        have hdk := hc2 k hlt
        have hkk : (k : Int) < (n : Int) := by omega
        have hkz : (0 : Int) ≤ (k : Int) := by omega
        clear hc1 hc2 h4 k4
        by_cases he : nth xs k = nth ys k
        · have hbe : (nth xs k != nth ys k) = false := by simp [he]
          have HE := hid he
          clear he
          go_wp2_with fail
          go_quiet (fail)
          go_wp2_with fail
          go_roundw
          case rel => exact ⟨k + 1, by omega, by go_num, fun i hi => by rcases Nat.lt_succ_iff_lt_or_eq.1 hi with h | rfl; exact hft i h; exact HE.out.symm, ⟨_, rfl⟩⟩
          case measure => simp [intOf]; omega
        · have hbe : (nth xs k != nth ys k) = true := by simp [he]
          have HE := hid he
          clear he
          go_wp2_with fail
          go_quiet (fail)
          go_wp2_with fail
          go_ret
          exact ⟨ret_bool (same_no HE.out).symm, (Quiet.more ⟨_, rfl⟩ _)⟩
      · obtain rfl : k = n := by omega
        go_wp2_with fail
        go_ret
        exact ⟨ret_bool (same_yes (by omega) (by rw [h0]; exact hft)).symm, ⟨_, rfl⟩⟩
  · have hb : ((n : Int) != (m : Int)) = true := by simp; omega
    go_enter Try.func12, Try.ntmps12
    go_wp2_with fail
    go_ret
    exact ⟨ret_bool (show false = same xs ys from by unfold same; symm; rw [decide_eq_false_iff_not]; rintro rfl; omega), ⟨0, rfl⟩⟩

end Go.Proofs.Ytkkhlkaieohklaa

namespace Go.Proofs.Ytkkhlkaieohklaa
open Go.RowKit

set_option maxHeartbeats 800000 in
theorem jRows_any (a b : Option Addr) (n m cap cap' : Nat) (rs ss : List Rw) (w : World) (h : HasR w a n cap rs) (h' : HasR w b m cap' ss) :
    Calls Try.prog 20 #[.slice a n cap, .slice b m cap'] w fun e w' => e = .returned (.bool (sameR rs ss)) ∧ Quiet w w' := by
  obtain ⟨h0, h1, h2, h3, h4, h5⟩ := h
  obtain ⟨k0, k1, k2, k3, k4, k5⟩ := h'
  by_cases hnm : n = m
  · have hb : ((n : Int) != (m : Int)) = false := by simp [hnm]
    subst hnm
    have HL := hid h0
    have HL' := hid k0
    have H5 := hid h5
    have K5 := hid k5
    clear h0 k0 h5 k5
    go_enter Try.func20, Try.ntmps20
    go_wp2_with fail
    go_loopw [13] (fun i wr => ∃ k : Nat, k ≤ n ∧ i = .int .i64 k ∧ Hid (∀ j, j < k → same (nthR rs j).xs (nthR ss j).xs = true) ∧ Quiet w wr) (fun i _ => n - (intOf i).toNat)
    case atStart => exact ⟨0, Nat.zero_le _, rfl, hid (fun i hi => by omega), ⟨0, rfl⟩⟩
    case round =>
      obtain ⟨k, hk, rfl, HF, HQ⟩ := hrel
      by_cases hlt : k < n
      · obtain ⟨b1, off1, rfl, hb1, hc1⟩ := h4 (by omega)
        obtain ⟨b2, off2, rfl, hb2, hc2⟩ := k4 (by omega)
        have hck : wr.cell? ⟨b1, off1 + k, none⟩ = some (nthR rs k).v := by obtain ⟨q, hq⟩ := HQ; rw [hq]; exact hc1 k hlt
        have hdk : wr.cell? ⟨b2, off2 + k, none⟩ = some (nthR ss k).v := by obtain ⟨q, hq⟩ := HQ; rw [hq]; exact hc2 k hlt
        have hkk : (k : Int) < (n : Int) := by omega
        have hkz : (0 : Int) ≤ (k : Int) := by omega
        have cq : ∀ j, Calls Try.prog 12 #[(nthR rs k).v, (nthR ss k).v] (wr.drewN j) fun e w' => e = .returned (.bool (same (nthR rs k).xs (nthR ss k).xs)) ∧ ∃ m, w' = (wr.drewN j).drewN m := fun j =>
          jSame_any _ _ _ _ _ _ _ _ _ (by obtain ⟨q, hq⟩ := HQ; rw [hq]; exact H5.out k hlt) (by obtain ⟨q, hq⟩ := HQ; rw [hq]; exact K5.out k hlt)
        clear hc1 hc2 h4 k4
        have HN := hid (sameR_no (rs := rs) (ss := ss) (k := k) (by rw [HL.out]; omega) (by rw [HL'.out]; omega))
        have HF2 := hid (fun (hh : same (nthR rs k).xs (nthR ss k).xs = true) (j : Nat) (hj : j < k + 1) => (show same (nthR rs j).xs (nthR ss j).xs = true from by rcases Nat.lt_succ_iff_lt_or_eq.1 hj with h1 | rfl; exact HF.out j h1; exact hh))
        generalize nthR rs k = rk at *
        generalize nthR ss k = sk at *
        by_cases he : same rk.xs sk.xs = true
        · have HE := hid he
          rw [he] at cq
          have CQ := hid cq
          clear he cq
          go_wp2_with fail
          go_quiet ((go_at_call 12; exact Calls.quiet_of (CQ.out _)))
          go_wp2_with fail
          go_roundw
          case rel => exact ⟨k + 1, by omega, by go_num, hid (HF2.out HE.out), Quiet.more HQ _⟩
          case measure => simp [intOf]; omega
        · have he' := Bool.eq_false_iff.2 he
          have HE := hid he'
          rw [he'] at cq
          have CQ := hid cq
          clear he he' cq
          go_wp2_with fail
          go_quiet ((go_at_call 12; exact Calls.quiet_of (CQ.out _)))
          go_wp2_with fail
          go_ret
          exact ⟨ret_bool (HN.out HE.out).symm, Quiet.more HQ _⟩
      · obtain rfl : k = n := by omega
        go_wp2_with fail
        go_ret
        exact ⟨ret_bool (sameR_yes (by rw [HL.out, HL'.out]) (by rw [HL.out]; exact HF.out)).symm, HQ⟩
  · have hb : ((n : Int) != (m : Int)) = true := by simp; omega
    have HR : Hid (sameR rs ss = false) := hid (by
      unfold sameR; rw [decide_eq_false_iff_not]
      intro e
      have : (numsOf rs).length = (numsOf ss).length := by rw [e]
      simp [numsOf] at this
      omega)
    go_enter Try.func20, Try.ntmps20
    go_wp2_with fail
    go_ret
    exact ⟨ret_bool HR.out.symm, ⟨0, rfl⟩⟩


set_option maxHeartbeats 800000 in
theorem jLess_any (a b : Option Addr) (n cap cap' : Nat) (xs ys : List Int) (w : World) (h : Has w a n cap xs) (h' : Has w b n cap' ys) :
    Calls Try.prog 16 #[.slice a n cap, .slice b n cap'] w fun e w' => e = .returned (.bool (lexLess xs ys)) ∧ Quiet w w' := by
  obtain ⟨h0, h1, h2, h3, h4⟩ := h
  obtain ⟨k0, k1, k2, k3, k4⟩ := h'
  have HL := hid h0
  have HL' := hid k0
  clear h0 k0
  go_enter Try.func16, Try.ntmps16
  go_wp2_with fail
  go_loopw [8] (fun i wr => ∃ k : Nat, k ≤ n ∧ i = .int .i64 k ∧ Hid (∀ i, i < k → nth xs i = nth ys i) ∧ Quiet w wr) (fun i _ => n - (intOf i).toNat)
  case atStart => exact ⟨0, Nat.zero_le _, rfl, hid (fun i hi => by omega), ⟨0, rfl⟩⟩
  case round =>
    obtain ⟨k, hk, rfl, HF, q, hq⟩ := hrel
    subst hq
    by_cases hlt : k < n
    · obtain ⟨b1, off1, rfl, hb1, hc1⟩ := h4 (by omega)
      obtain ⟨b2, off2, rfl, hb2, hc2⟩ := k4 (by omega)
      have hck := hc1 k hlt
      have hdk := hc2 k hlt
      have hkk : (k : Int) < (n : Int) := by omega
      have hkz : (0 : Int) ≤ (k : Int) := by omega
      have HX := hid (fun (hne : nth xs k ≠ nth ys k) => lexLess_at k xs ys (by rw [HL.out]; exact hlt) (by rw [HL.out, HL'.out]) HF.out hne)
      clear hc1 hc2 h4 k4
      by_cases he : nth xs k = nth ys k
      · have hbe : (nth xs k != nth ys k) = false := by simp [he]
        have HE := hid he
        clear he
        go_wp2_with fail
        go_quiet (fail)
        go_wp2_with fail
        go_roundw
        case rel => exact ⟨k + 1, by omega, by go_num, hid (fun i hi => by rcases Nat.lt_succ_iff_lt_or_eq.1 hi with h | rfl; exact HF.out i h; exact HE.out), ⟨_, rfl⟩⟩
        case measure => simp [intOf]; omega
      · have hbe : (nth xs k != nth ys k) = true := by simp [he]
        have HR := hid (HX.out he)
        clear he HX
        go_wp2_with fail
        go_quiet (fail)
        go_wp2_with fail
        go_quiet (fail)
        go_wp2_with fail
        go_ret
        exact ⟨ret_bool HR.out.symm, (Quiet.more (Quiet.more ⟨_, rfl⟩ _) _)⟩
    · obtain rfl : k = n := by omega
      have HR : Hid (lexLess xs ys = false) := hid (by
        rw [ext_nth (xs := xs) (ys := ys) (by rw [HL.out, HL'.out]) (by rw [HL.out]; exact HF.out)]
        exact lexLess_same _)
      go_wp2_with fail
      go_ret
      exact ⟨ret_bool HR.out.symm, ⟨_, rfl⟩⟩

/-- A slice of bytes below block K, with its bytes. -/
def Bytes (w : World) (a : Option Addr) (n K : Nat) (bs : List Int) : Prop :=
  bs.length = n ∧ n ≤ 1099511627776 ∧ (0 < n → ∃ b off, a = some ⟨b, off, none⟩ ∧ b < K ∧ ∀ i, i < n → 0 ≤ nth bs i ∧ nth bs i ≤ 255 ∧ w.cell? ⟨b, off + i, none⟩ = some (.int .u8 (nth bs i)))
theorem bytes_of {w : World} {a : Option Addr} {n K : Nat} (h : HasB w a n K) : ∃ bs, Bytes w a n K bs := by
  obtain ⟨hn, h⟩ := h
  by_cases hx : 0 < n
  · obtain ⟨b, off, ha, hb, hc⟩ := h hx
    have key : ∀ m, m ≤ n → ∃ bs : List Int, bs.length = m ∧ ∀ i, i < m → 0 ≤ nth bs i ∧ nth bs i ≤ 255 ∧ w.cell? ⟨b, off + i, none⟩ = some (.int .u8 (nth bs i)) := by
      intro m
      induction m with
      | zero => intro _; exact ⟨[], rfl, fun i hi => by omega⟩
      | succ m ih =>
        intro hm
        obtain ⟨bs, hl, hbs⟩ := ih (by omega)
        obtain ⟨u, u0, u1, hu⟩ := hc m (by omega)
        refine ⟨bs ++ [u], by simp [hl], fun i hi => ?_⟩
        by_cases e : i = m
        · subst e
          have : nth (bs ++ [u]) i = u := by rw [← hl]; exact nth_append_at
          rw [this]
          exact ⟨u0, u1, hu⟩
        · rw [nth_append_left (by omega)]
          exact hbs i (by omega)
    obtain ⟨bs, hl, hbs⟩ := key n (Nat.le_refl _)
    exact ⟨bs, hl, hn, fun _ => ⟨b, off, ha, hb, hbs⟩⟩
  · exact ⟨List.replicate n 0, by simp, hn, fun h => absurd h hx⟩
theorem Bytes.below {w w' : World} {a : Option Addr} {n K : Nat} {bs : List Int} (h : Bytes w a n K bs) (hb : Below K w w') : Bytes w' a n K bs := by
  obtain ⟨h1, h2, h3⟩ := h
  refine ⟨h1, h2, fun hx => ?_⟩
  obtain ⟨b, off, ha, hbk, hc⟩ := h3 hx
  exact ⟨b, off, ha, hbk, fun i hi => by rw [hb.cell (p := ⟨b, off + i, none⟩) hbk]; exact hc i hi⟩
/-- The number of some bytes. -/
def numOf (bs : List Int) : Int := bs.foldl (fun v u => (31 * v + u) % 1000003) 0
theorem numOf_succ {bs : List Int} {k : Nat} (h : k < bs.length) : numOf (bs.take (k + 1)) = (31 * numOf (bs.take k) + nth bs k) % 1000003 := by
  rw [take_succ_nth h]
  simp [numOf]
theorem numOf_bounds (bs : List Int) : 0 ≤ numOf bs ∧ numOf bs ≤ 1000002 := by
  unfold numOf
  have : ∀ (bs : List Int) (v : Int), 0 ≤ v ∧ v ≤ 1000002 → 0 ≤ bs.foldl (fun v u => (31 * v + u) % 1000003) v ∧ bs.foldl (fun v u => (31 * v + u) % 1000003) v ≤ 1000002 := by
    intro bs
    induction bs with
    | nil => intro v h; exact h
    | cons b bs ih => intro v h; exact ih _ (by show 0 ≤ (31 * v + b) % 1000003 ∧ (31 * v + b) % 1000003 ≤ 1000002; omega)
  exact this bs 0 (by omega)

set_option maxHeartbeats 400000 in
theorem numberOf_val (a : Option Addr) (n cap K : Nat) (bs : List Int) (w : World) (h : Bytes w a n K bs) :
    Calls Try.prog 21 #[.slice a n cap] w fun e w' => e = .returned (.int .i64 (numOf bs)) ∧ w = w' := by
  obtain ⟨hl, hn, h4⟩ := h
  have HL := hid hl
  clear hl
  go_enter Try.func21, Try.ntmps21
  go_wp2_with fail
  go_loop [3, 8] (fun c i => ∃ k : Nat, k ≤ n ∧ i = .int .i64 k ∧ c = .int .i64 (numOf (bs.take k))) (fun _ i => n - (intOf i).toNat)
  case atStart => exact ⟨0, Nat.zero_le _, rfl, rfl⟩
  case round =>
    obtain ⟨k, hk, rfl, rfl⟩ := hrel
    by_cases hlt : k < n
    · obtain ⟨b, off, rfl, hb, hc⟩ := h4 (by omega)
      obtain ⟨u0, u1, hck⟩ := hc k hlt
      have HS := hid (numOf_succ (bs := bs) (k := k) (by rw [HL.out]; exact hlt))
      obtain ⟨v0, v1⟩ := numOf_bounds (bs.take k)
      clear hc h4
      generalize numOf (bs.take k) = v at *
      generalize nth bs k = u at *
      have m0 : 0 ≤ (31 * v + u) % 1000003 := Int.emod_nonneg _ (by omega)
      have m1 : (31 * v + u) % 1000003 ≤ 1000002 := by omega
      go_wp2_with fail
      go_round
      case rel => exact ⟨k + 1, by omega, by go_num, by rw [HS.out]⟩
      case measure => simp [intOf]; omega
    · obtain rfl : k = n := by omega
      go_wp2_with fail
      go_ret
      exact ⟨ret_int (by rw [List.take_of_length_le (by rw [HL.out]; exact Nat.le_refl _)]), rfl⟩
end Go.Proofs.Ytkkhlkaieohklaa

namespace Go.Proofs.Ytkkhlkaieohklaa
open Go.RowKit

theorem all_row {w : World} {b off n cap m : Nat} {rs : List Rw} (R : HasR w (some ⟨b, off, none⟩) n cap rs) (h8 : m ≤ 8) (hn : numsOf rs = listL m m []) {k : Nat} (hk : k < n) :
    ∃ ak nk ck, w.cell? ⟨b, off + k, none⟩ = some (.slice ak nk ck) ∧ Has w ak nk ck (nthR rs k).xs ∧ rankOf (nthR rs k).xs = ((k : Int), true) := by
  obtain ⟨r0, r1, r2, r3, r4, r5⟩ := R
  obtain ⟨b', off', e, _, hc⟩ := r4 (by omega)
  simp at e
  obtain ⟨rfl, rfl⟩ := e
  have h3 := hc k hk
  have h4 := r5 k hk
  unfold Rw.v at h3
  refine ⟨_, _, _, h3, h4, ?_⟩
  have hl : (numsOf rs).length = n := by simp [numsOf, r0]
  have h1 : (numsOf rs)[k]? = some (nthR rs k).xs := map_nthR Rw.xs (by omega)
  have h2 := all_rank (n := m) h8 (i := k) (by rw [← hn, hl]; exact hk)
  rw [← hn] at h2
  rw [List.getD_eq_getElem?_getD, h1] at h2
  simpa using h2
theorem all_count {w : World} {B : Nat} {a : Option Addr} {n cap m : Nat} {rs : List Rw} (R : OwnR w B a n cap rs) (h8 : m ≤ 8) (hn : numsOf rs = listL m m []) : cnt m = n := by
  obtain ⟨_, _, h, _⟩ := all_chain h8
  rw [← h, ← hn, numsOf_len R]
theorem park_asked' {xs : List Int} (ha : asked xs = true) (h : isPark xs = true) : isParking xs = (true, true) := by
  unfold isParking
  rw [if_pos ha, h]

set_option maxRecDepth 100000 in
set_option maxHeartbeats 16000000 in
theorem ranks_walk (a b : Option Addr) (n m cap cap' : Nat) (w : World) (hn : n ≤ maxLen) (h : n ≤ 1048576 → HasB w a n w.heap.size) (h' : m ≤ 1048576 → HasB w b m w.heap.size) :
    Calls Try.prog 3 #[.slice a n cap, .slice b m cap'] w (Holds w) := by
  have H1 := hid h
  have H2 := hid h'
  have HN := hid hn
  clear h h' hn
  have hB : Below w.heap.size w w := Below.refl _ _
  go_enter Try.func3, Try.ntmps3
  go_wp2_with fail
  refine (big_any _ _ _ _ _ _ _ (by have := HN.out; unfold maxLen at this; omega)).mono ?_
  rintro e _ ⟨r, rfl, hr, rfl⟩
  have HR := hid hr
  clear hr
  cases r with
  | true =>
    go_wp2_with fail
    go_ret
    exact ⟨rfl, hB⟩
  | false =>
    have hnm := HR.out rfl
    clear HR
    have HA := hid (H1.out (by omega))
    have HM := hid (H2.out (by omega))
    clear H1 H2 HN
    go_wp2_with fail
    refine (drawParkingAt_any _ _ _ _ HA.out).mono ?_
    rintro e v1 ⟨nn, rr, rfl, n0, n1, r0, r1, st⟩
    replace hB := hB.trans (st.mono hB.size)
    clear st
    by_cases hN8 : inB nn 0 8 = true
    · skip
      obtain ⟨k, rfl⟩ : ∃ k : Nat, nn = (k : Int) := ⟨nn.toNat, by have := (inB_iff.1 hN8).1; omega⟩
      have hk8 : k ≤ 8 := by have := (inB_iff.1 hN8).2; omega
      clear hN8 n0 n1
      obtain ⟨c, hc⟩ : ∃ c, cnt k = c := ⟨_, rfl⟩
      obtain ⟨c1, c2⟩ := cnt_le hk8
      rw [hc] at c1 c2
      have HCT : Hid (countOf (k : Int) = ((c : Int), true)) := hid (by rw [count_yes' hk8, hc])
      have hne := neq_self_int (c : Int)
      have HCC := hid hc
      by_cases hr : 0 ≤ rr ∧ rr < (c : Int)
      · skip
        obtain ⟨q, rfl⟩ : ∃ q : Nat, rr = (q : Int) := ⟨rr.toNat, by omega⟩
        have hqc : q < c := by omega
        obtain ⟨xs, f1, f2, f3, f4, f5, f6, f7⟩ := at_facts (n := k) (r := q) hk8 (by omega)
        rw [hc] at f7
        clear hc r0 r1
        have HAT := hid f1
        have HXL := hid f2
        have HPK := hid (park_asked' f4 f3)
        have HRK := hid f5
        have HNX := hid f6
        have H7 := hid f7
        clear f1 f2 f3 f4 f5 f6 f7
        have g1 : decide ((0 : Int) ≤ (q : Int)) = true := by simp
        have g2 : decide ((q : Int) < (c : Int)) = true := by simpa using hqc
        go_wp2_with fail
        refine (parkingAt_any _ _ _).mono ?_
        rw [HAT.out]
        rintro e v2 ⟨a_l, n_l, c_l, rfl, o_l, st⟩
        replace hB := hB.trans (st.mono hB.size)
        clear st
        go_wp2_with fail
        refine (specAt_any _ _ _).mono ?_
        rw [HAT.out]
        rintro e v3 ⟨a_r, n_r, c_r, rfl, o_r, st⟩
        replace o_l := o_l.below st (Nat.le_refl _)
        replace hB := hB.trans (st.mono hB.size)
        clear st
        go_wp2_with fail
        refine (countParking_any _ _).mono ?_
        rw [HCT.out]
        rintro e v4 ⟨rfl, st⟩
        replace o_l := o_l.below st (Nat.le_refl _)
        replace o_r := o_r.below st (Nat.le_refl _)
        replace hB := hB.trans (st.mono hB.size)
        clear st
        go_wp2_with fail
        refine (specCountParking_any _ _).mono ?_
        rw [HCT.out]
        rintro e v5 ⟨rfl, st⟩
        replace o_l := o_l.below st (Nat.le_refl _)
        replace o_r := o_r.below st (Nat.le_refl _)
        replace hB := hB.trans (st.mono hB.size)
        clear st
        go_wp2_with fail
        refine (jSame_any _ _ _ _ _ _ _ _ _ o_l.has o_r.has).mono ?_
        rintro e v6 ⟨rfl, q⟩
        have st : Below v5.heap.size v5 v6 := q.below _
        replace o_l := o_l.below st (Nat.le_refl _)
        replace o_r := o_r.below st (Nat.le_refl _)
        replace hB := hB.trans (st.mono hB.size)
        clear st
        clear q
        rw [same_self]
        clear o_r
        by_cases hlast : q + 1 < c
        · skip
          obtain ⟨ys, f1, f2, f3⟩ := H7.out hlast
          have HAN := hid f1
          have HYL := hid f2
          have HLS := hid f3
          rw [HAN.out] at HNX
          have g3 : decide ((q : Int) + 1 < (c : Int)) = true := by simp; omega
          clear f1 f2 f3 H7
          go_wp2_with fail
          refine (rank_any _ _ _ _ _ o_l.has).mono ?_
          rw [HRK.out]
          rintro e v7 ⟨rfl, st⟩
          replace o_l := o_l.below st (Nat.le_refl _)
          replace hB := hB.trans (st.mono hB.size)
          clear st
          go_wp2_with fail
          refine (nextParking_any _ _ _ _ _ o_l.has).mono ?_
          rw [HNX.out]
          rintro e v8 ⟨a_x, n_x, c_x, rfl, o_x, st⟩
          replace o_l := o_l.below st (Nat.le_refl _)
          replace hB := hB.trans (st.mono hB.size)
          clear st
          go_wp2_with fail
          refine (parkingAt_any _ _ _).mono ?_
          rw [HAN.out]
          rintro e v9 ⟨a_t, n_t, c_t, rfl, o_t, st⟩
          replace o_l := o_l.below st (Nat.le_refl _)
          replace o_x := o_x.below st (Nat.le_refl _)
          replace hB := hB.trans (st.mono hB.size)
          clear st
          go_wp2_with fail
          refine (isParking_any _ _ _ _ _ o_l.has).mono ?_
          rw [HPK.out]
          rintro e v10 ⟨rfl, st⟩
          replace o_l := o_l.below st (Nat.le_refl _)
          replace o_x := o_x.below st (Nat.le_refl _)
          replace o_t := o_t.below st (Nat.le_refl _)
          replace hB := hB.trans (st.mono hB.size)
          clear st
          go_wp2_with fail
          refine (jSame_any _ _ _ _ _ _ _ _ _ o_x.has o_t.has).mono ?_
          rintro e v11 ⟨rfl, q⟩
          have st : Below v10.heap.size v10 v11 := q.below _
          replace o_l := o_l.below st (Nat.le_refl _)
          replace o_x := o_x.below st (Nat.le_refl _)
          replace o_t := o_t.below st (Nat.le_refl _)
          replace hB := hB.trans (st.mono hB.size)
          clear st
          clear q
          rw [same_self]
          clear o_t
          obtain rfl : n_l = n_x := by rw [← o_l.len, ← o_x.len, HXL.out, HYL.out]
          go_wp2_with fail
          refine (jLess_any _ _ _ _ _ _ _ _ o_l.has o_x.has).mono ?_
          rintro e v12 ⟨rfl, q⟩
          have st : Below v11.heap.size v11 v12 := q.below _
          replace o_l := o_l.below st (Nat.le_refl _)
          replace o_x := o_x.below st (Nat.le_refl _)
          replace hB := hB.trans (st.mono hB.size)
          clear st
          clear q
          rw [HLS.out]
          clear o_x o_l
          go_wp2_with fail
          refine (drawAllParking_any b m cap' _ (HM.out.grow hB (Nat.le_refl _))).mono ?_
          rintro e v13 ⟨mm, rfl, m0, m1, st⟩
          replace hB := hB.trans (st.mono hB.size)
          clear st
          by_cases hM : inB mm 0 5 = true
          · skip
            obtain ⟨j, rfl⟩ : ∃ j : Nat, mm = (j : Int) := ⟨mm.toNat, by have := (inB_iff.1 hM).1; omega⟩
            have hj5 : j ≤ 5 := by have := (inB_iff.1 hM).2; omega
            have HAL : Hid (allOf (j : Int) = (listL j j [], true)) := hid (by simp [allOf, hM])
            clear hM m0 m1
            go_wp2_with fail
            refine (allParking_any _ _).mono ?_
            rw [HAL.out]
            rintro e v14 ⟨a_g, n_g, c_g, rs, rfl, R_g, hng, st⟩
            replace hB := hB.trans (st.mono hB.size)
            clear st
            go_wp2_with fail
            refine (specAll_any _ _).mono ?_
            rw [HAL.out]
            rintro e v15 ⟨a_s, n_s, c_s, ss, rfl, R_s, hns, st⟩
            replace R_g := R_g.below st (Nat.le_refl _)
            replace hB := hB.trans (st.mono hB.size)
            clear st
            have HRS : Hid (sameR rs ss = true) := hid (sameR_self' (hng.trans hns.symm))
            have HNG := hid hng
            clear hng hns
            go_wp2_with fail
            refine (jRows_any _ _ _ _ _ _ _ _ _ R_g.has R_s.has).mono ?_
            rintro e v16 ⟨rfl, q⟩
            have st : Below v15.heap.size v15 v16 := q.below _
            replace R_g := R_g.below st (Nat.le_refl _)
            replace R_s := R_s.below st (Nat.le_refl _)
            replace hB := hB.trans (st.mono hB.size)
            clear st
            clear q
            rw [HRS.out]
            clear HRS R_s
            have HC : Hid (countOf (j : Int) = ((n_g : Int), true)) := hid (by rw [count_yes' (by omega), all_count R_g (by omega) HNG.out])
            obtain ⟨mg, hmg⟩ : ∃ mg, n_g = mg + 1 := ⟨n_g - 1, by have := all_count R_g (m := j) (by omega) HNG.out; have := (cnt_le (n := j) (by omega)).1; omega⟩
            subst hmg
            have hmk : mg + 1 ≤ 2097152 := R_g.has.2.2.2.1
            have hne0 := neq_self_int ((mg : Int) + 1)
            go_wp2_with fail
            refine (countParking_any _ _).mono ?_
            rw [HC.out]
            rintro e v17 ⟨rfl, st⟩
            replace R_g := R_g.below st (Nat.le_refl _)
            replace hB := hB.trans (st.mono hB.size)
            clear st
            go_wp2_with fail
            refine (numberOf_any _ _ _ w.heap.size _ (HA.out.below hB)).mono ?_
            rintro e _ ⟨z, rfl, z0, z1, rfl⟩
            have hmz : ¬ (mg : Int) + 1 = 0 := by omega
            have hi0 : 0 ≤ z % ((mg : Int) + 1) := Int.emod_nonneg _ hmz
            have hi1 : z % ((mg : Int) + 1) < (mg : Int) + 1 := Int.emod_lt_of_pos z (show 0 < (mg : Int) + 1 by omega)
            obtain ⟨bg, offg, rfl, hbg, -⟩ := R_g.has.2.2.2.2.1 (by omega)
            obtain ⟨ai, ni, ci, hci, H_i, hri⟩ := all_row R_g.has (by omega) HNG.out (k := (z % ((mg : Int) + 1)).toNat) (by omega)
            rw [Int.toNat_of_nonneg hi0] at hri
            have HRI := hid hri
            have hse : (z % ((mg : Int) + 1) == z % ((mg : Int) + 1)) = true := by simp
            clear hri
            go_wp2_with fail
            refine (rank_any _ _ _ _ _ H_i).mono ?_
            rw [HRI.out]
            rintro e v18 ⟨rfl, st⟩
            replace R_g := R_g.below st (Nat.le_refl _)
            replace H_i := H_i.below st (Nat.le_refl _)
            replace hB := hB.trans (st.mono hB.size)
            clear st
            clear hci R_g
            go_wp2_with fail
            go_ret
            exact ⟨rfl, hB⟩
          · skip
            have HAL : Hid (allOf mm = ([], false)) := hid (allOf_no hM)
            clear hM
            go_wp2_with fail
            refine (allParking_any _ _).mono ?_
            rw [HAL.out]
            rintro e v14 ⟨a_g, n_g, c_g, rs, rfl, R_g, hng, st⟩
            replace hB := hB.trans (st.mono hB.size)
            clear st
            go_wp2_with fail
            refine (specAll_any _ _).mono ?_
            rw [HAL.out]
            rintro e v15 ⟨a_s, n_s, c_s, ss, rfl, R_s, hns, st⟩
            replace R_g := R_g.below st (Nat.le_refl _)
            replace hB := hB.trans (st.mono hB.size)
            clear st
            have HRS : Hid (sameR rs ss = true) := hid (sameR_self' (hng.trans hns.symm))
            have HNG := hid hng
            clear hng hns
            go_wp2_with fail
            refine (jRows_any _ _ _ _ _ _ _ _ _ R_g.has R_s.has).mono ?_
            rintro e v16 ⟨rfl, q⟩
            have st : Below v15.heap.size v15 v16 := q.below _
            replace R_g := R_g.below st (Nat.le_refl _)
            replace R_s := R_s.below st (Nat.le_refl _)
            replace hB := hB.trans (st.mono hB.size)
            clear st
            clear q
            rw [HRS.out]
            clear HRS R_s
            clear R_g
            go_wp2_with fail
            go_ret
            exact ⟨rfl, hB⟩
        · skip
          have HAN : Hid (atOf (k : Int) ((q : Int) + 1) = ([], false)) := hid (at_no (by rw [HCC.out]; omega))
          rw [HAN.out] at HNX
          have g3 : decide ((q : Int) + 1 < (c : Int)) = false := by simp; omega
          clear H7
          go_wp2_with fail
          refine (rank_any _ _ _ _ _ o_l.has).mono ?_
          rw [HRK.out]
          rintro e v7 ⟨rfl, st⟩
          replace o_l := o_l.below st (Nat.le_refl _)
          replace hB := hB.trans (st.mono hB.size)
          clear st
          go_wp2_with fail
          refine (nextParking_any _ _ _ _ _ o_l.has).mono ?_
          rw [HNX.out]
          rintro e v8 ⟨a_x, n_x, c_x, rfl, o_x, st⟩
          replace o_l := o_l.below st (Nat.le_refl _)
          replace hB := hB.trans (st.mono hB.size)
          clear st
          go_wp2_with fail
          refine (parkingAt_any _ _ _).mono ?_
          rw [HAN.out]
          rintro e v9 ⟨a_t, n_t, c_t, rfl, o_t, st⟩
          replace o_l := o_l.below st (Nat.le_refl _)
          replace o_x := o_x.below st (Nat.le_refl _)
          replace hB := hB.trans (st.mono hB.size)
          clear st
          go_wp2_with fail
          refine (isParking_any _ _ _ _ _ o_l.has).mono ?_
          rw [HPK.out]
          rintro e v10 ⟨rfl, st⟩
          replace o_l := o_l.below st (Nat.le_refl _)
          replace o_x := o_x.below st (Nat.le_refl _)
          replace o_t := o_t.below st (Nat.le_refl _)
          replace hB := hB.trans (st.mono hB.size)
          clear st
          go_wp2_with fail
          refine (jSame_any _ _ _ _ _ _ _ _ _ o_x.has o_t.has).mono ?_
          rintro e v11 ⟨rfl, q⟩
          have st : Below v10.heap.size v10 v11 := q.below _
          replace o_l := o_l.below st (Nat.le_refl _)
          replace o_x := o_x.below st (Nat.le_refl _)
          replace o_t := o_t.below st (Nat.le_refl _)
          replace hB := hB.trans (st.mono hB.size)
          clear st
          clear q
          rw [same_self]
          clear o_t o_x o_l
          go_wp2_with fail
          refine (drawAllParking_any b m cap' _ (HM.out.grow hB (Nat.le_refl _))).mono ?_
          rintro e v12 ⟨mm, rfl, m0, m1, st⟩
          replace hB := hB.trans (st.mono hB.size)
          clear st
          by_cases hM : inB mm 0 5 = true
          · skip
            obtain ⟨j, rfl⟩ : ∃ j : Nat, mm = (j : Int) := ⟨mm.toNat, by have := (inB_iff.1 hM).1; omega⟩
            have hj5 : j ≤ 5 := by have := (inB_iff.1 hM).2; omega
            have HAL : Hid (allOf (j : Int) = (listL j j [], true)) := hid (by simp [allOf, hM])
            clear hM m0 m1
            go_wp2_with fail
            refine (allParking_any _ _).mono ?_
            rw [HAL.out]
            rintro e v13 ⟨a_g, n_g, c_g, rs, rfl, R_g, hng, st⟩
            replace hB := hB.trans (st.mono hB.size)
            clear st
            go_wp2_with fail
            refine (specAll_any _ _).mono ?_
            rw [HAL.out]
            rintro e v14 ⟨a_s, n_s, c_s, ss, rfl, R_s, hns, st⟩
            replace R_g := R_g.below st (Nat.le_refl _)
            replace hB := hB.trans (st.mono hB.size)
            clear st
            have HRS : Hid (sameR rs ss = true) := hid (sameR_self' (hng.trans hns.symm))
            have HNG := hid hng
            clear hng hns
            go_wp2_with fail
            refine (jRows_any _ _ _ _ _ _ _ _ _ R_g.has R_s.has).mono ?_
            rintro e v15 ⟨rfl, q⟩
            have st : Below v14.heap.size v14 v15 := q.below _
            replace R_g := R_g.below st (Nat.le_refl _)
            replace R_s := R_s.below st (Nat.le_refl _)
            replace hB := hB.trans (st.mono hB.size)
            clear st
            clear q
            rw [HRS.out]
            clear HRS R_s
            have HC : Hid (countOf (j : Int) = ((n_g : Int), true)) := hid (by rw [count_yes' (by omega), all_count R_g (by omega) HNG.out])
            obtain ⟨mg, hmg⟩ : ∃ mg, n_g = mg + 1 := ⟨n_g - 1, by have := all_count R_g (m := j) (by omega) HNG.out; have := (cnt_le (n := j) (by omega)).1; omega⟩
            subst hmg
            have hmk : mg + 1 ≤ 2097152 := R_g.has.2.2.2.1
            have hne0 := neq_self_int ((mg : Int) + 1)
            go_wp2_with fail
            refine (countParking_any _ _).mono ?_
            rw [HC.out]
            rintro e v16 ⟨rfl, st⟩
            replace R_g := R_g.below st (Nat.le_refl _)
            replace hB := hB.trans (st.mono hB.size)
            clear st
            go_wp2_with fail
            refine (numberOf_any _ _ _ w.heap.size _ (HA.out.below hB)).mono ?_
            rintro e _ ⟨z, rfl, z0, z1, rfl⟩
            have hmz : ¬ (mg : Int) + 1 = 0 := by omega
            have hi0 : 0 ≤ z % ((mg : Int) + 1) := Int.emod_nonneg _ hmz
            have hi1 : z % ((mg : Int) + 1) < (mg : Int) + 1 := Int.emod_lt_of_pos z (show 0 < (mg : Int) + 1 by omega)
            obtain ⟨bg, offg, rfl, hbg, -⟩ := R_g.has.2.2.2.2.1 (by omega)
            obtain ⟨ai, ni, ci, hci, H_i, hri⟩ := all_row R_g.has (by omega) HNG.out (k := (z % ((mg : Int) + 1)).toNat) (by omega)
            rw [Int.toNat_of_nonneg hi0] at hri
            have HRI := hid hri
            have hse : (z % ((mg : Int) + 1) == z % ((mg : Int) + 1)) = true := by simp
            clear hri
            go_wp2_with fail
            refine (rank_any _ _ _ _ _ H_i).mono ?_
            rw [HRI.out]
            rintro e v17 ⟨rfl, st⟩
            replace R_g := R_g.below st (Nat.le_refl _)
            replace H_i := H_i.below st (Nat.le_refl _)
            replace hB := hB.trans (st.mono hB.size)
            clear st
            clear hci R_g
            go_wp2_with fail
            go_ret
            exact ⟨rfl, hB⟩
          · skip
            have HAL : Hid (allOf mm = ([], false)) := hid (allOf_no hM)
            clear hM
            go_wp2_with fail
            refine (allParking_any _ _).mono ?_
            rw [HAL.out]
            rintro e v13 ⟨a_g, n_g, c_g, rs, rfl, R_g, hng, st⟩
            replace hB := hB.trans (st.mono hB.size)
            clear st
            go_wp2_with fail
            refine (specAll_any _ _).mono ?_
            rw [HAL.out]
            rintro e v14 ⟨a_s, n_s, c_s, ss, rfl, R_s, hns, st⟩
            replace R_g := R_g.below st (Nat.le_refl _)
            replace hB := hB.trans (st.mono hB.size)
            clear st
            have HRS : Hid (sameR rs ss = true) := hid (sameR_self' (hng.trans hns.symm))
            have HNG := hid hng
            clear hng hns
            go_wp2_with fail
            refine (jRows_any _ _ _ _ _ _ _ _ _ R_g.has R_s.has).mono ?_
            rintro e v15 ⟨rfl, q⟩
            have st : Below v14.heap.size v14 v15 := q.below _
            replace R_g := R_g.below st (Nat.le_refl _)
            replace R_s := R_s.below st (Nat.le_refl _)
            replace hB := hB.trans (st.mono hB.size)
            clear st
            clear q
            rw [HRS.out]
            clear HRS R_s
            clear R_g
            go_wp2_with fail
            go_ret
            exact ⟨rfl, hB⟩
      · skip
        have HAT : Hid (atOf (k : Int) rr = ([], false)) := hid (at_no (by rw [hc]; exact hr))
        clear hc
        by_cases hneg : rr < 0
        · skip
          have g1 : decide ((0 : Int) ≤ rr) = false := by simp; omega
          go_wp2_with fail
          refine (parkingAt_any _ _ _).mono ?_
          rw [HAT.out]
          rintro e v2 ⟨a_l, n_l, c_l, rfl, o_l, st⟩
          replace hB := hB.trans (st.mono hB.size)
          clear st
          go_wp2_with fail
          refine (specAt_any _ _ _).mono ?_
          rw [HAT.out]
          rintro e v3 ⟨a_r, n_r, c_r, rfl, o_r, st⟩
          replace o_l := o_l.below st (Nat.le_refl _)
          replace hB := hB.trans (st.mono hB.size)
          clear st
          go_wp2_with fail
          refine (countParking_any _ _).mono ?_
          rw [HCT.out]
          rintro e v4 ⟨rfl, st⟩
          replace o_l := o_l.below st (Nat.le_refl _)
          replace o_r := o_r.below st (Nat.le_refl _)
          replace hB := hB.trans (st.mono hB.size)
          clear st
          go_wp2_with fail
          refine (specCountParking_any _ _).mono ?_
          rw [HCT.out]
          rintro e v5 ⟨rfl, st⟩
          replace o_l := o_l.below st (Nat.le_refl _)
          replace o_r := o_r.below st (Nat.le_refl _)
          replace hB := hB.trans (st.mono hB.size)
          clear st
          go_wp2_with fail
          refine (jSame_any _ _ _ _ _ _ _ _ _ o_l.has o_r.has).mono ?_
          rintro e v6 ⟨rfl, q⟩
          have st : Below v5.heap.size v5 v6 := q.below _
          replace o_l := o_l.below st (Nat.le_refl _)
          replace o_r := o_r.below st (Nat.le_refl _)
          replace hB := hB.trans (st.mono hB.size)
          clear st
          clear q
          rw [same_self]
          clear o_r
          clear o_l
          go_wp2_with fail
          refine (drawAllParking_any b m cap' _ (HM.out.grow hB (Nat.le_refl _))).mono ?_
          rintro e v7 ⟨mm, rfl, m0, m1, st⟩
          replace hB := hB.trans (st.mono hB.size)
          clear st
          by_cases hM : inB mm 0 5 = true
          · skip
            obtain ⟨j, rfl⟩ : ∃ j : Nat, mm = (j : Int) := ⟨mm.toNat, by have := (inB_iff.1 hM).1; omega⟩
            have hj5 : j ≤ 5 := by have := (inB_iff.1 hM).2; omega
            have HAL : Hid (allOf (j : Int) = (listL j j [], true)) := hid (by simp [allOf, hM])
            clear hM m0 m1
            go_wp2_with fail
            refine (allParking_any _ _).mono ?_
            rw [HAL.out]
            rintro e v8 ⟨a_g, n_g, c_g, rs, rfl, R_g, hng, st⟩
            replace hB := hB.trans (st.mono hB.size)
            clear st
            go_wp2_with fail
            refine (specAll_any _ _).mono ?_
            rw [HAL.out]
            rintro e v9 ⟨a_s, n_s, c_s, ss, rfl, R_s, hns, st⟩
            replace R_g := R_g.below st (Nat.le_refl _)
            replace hB := hB.trans (st.mono hB.size)
            clear st
            have HRS : Hid (sameR rs ss = true) := hid (sameR_self' (hng.trans hns.symm))
            have HNG := hid hng
            clear hng hns
            go_wp2_with fail
            refine (jRows_any _ _ _ _ _ _ _ _ _ R_g.has R_s.has).mono ?_
            rintro e v10 ⟨rfl, q⟩
            have st : Below v9.heap.size v9 v10 := q.below _
            replace R_g := R_g.below st (Nat.le_refl _)
            replace R_s := R_s.below st (Nat.le_refl _)
            replace hB := hB.trans (st.mono hB.size)
            clear st
            clear q
            rw [HRS.out]
            clear HRS R_s
            have HC : Hid (countOf (j : Int) = ((n_g : Int), true)) := hid (by rw [count_yes' (by omega), all_count R_g (by omega) HNG.out])
            obtain ⟨mg, hmg⟩ : ∃ mg, n_g = mg + 1 := ⟨n_g - 1, by have := all_count R_g (m := j) (by omega) HNG.out; have := (cnt_le (n := j) (by omega)).1; omega⟩
            subst hmg
            have hmk : mg + 1 ≤ 2097152 := R_g.has.2.2.2.1
            have hne0 := neq_self_int ((mg : Int) + 1)
            go_wp2_with fail
            refine (countParking_any _ _).mono ?_
            rw [HC.out]
            rintro e v11 ⟨rfl, st⟩
            replace R_g := R_g.below st (Nat.le_refl _)
            replace hB := hB.trans (st.mono hB.size)
            clear st
            go_wp2_with fail
            refine (numberOf_any _ _ _ w.heap.size _ (HA.out.below hB)).mono ?_
            rintro e _ ⟨z, rfl, z0, z1, rfl⟩
            have hmz : ¬ (mg : Int) + 1 = 0 := by omega
            have hi0 : 0 ≤ z % ((mg : Int) + 1) := Int.emod_nonneg _ hmz
            have hi1 : z % ((mg : Int) + 1) < (mg : Int) + 1 := Int.emod_lt_of_pos z (show 0 < (mg : Int) + 1 by omega)
            obtain ⟨bg, offg, rfl, hbg, -⟩ := R_g.has.2.2.2.2.1 (by omega)
            obtain ⟨ai, ni, ci, hci, H_i, hri⟩ := all_row R_g.has (by omega) HNG.out (k := (z % ((mg : Int) + 1)).toNat) (by omega)
            rw [Int.toNat_of_nonneg hi0] at hri
            have HRI := hid hri
            have hse : (z % ((mg : Int) + 1) == z % ((mg : Int) + 1)) = true := by simp
            clear hri
            go_wp2_with fail
            refine (rank_any _ _ _ _ _ H_i).mono ?_
            rw [HRI.out]
            rintro e v12 ⟨rfl, st⟩
            replace R_g := R_g.below st (Nat.le_refl _)
            replace H_i := H_i.below st (Nat.le_refl _)
            replace hB := hB.trans (st.mono hB.size)
            clear st
            clear hci R_g
            go_wp2_with fail
            go_ret
            exact ⟨rfl, hB⟩
          · skip
            have HAL : Hid (allOf mm = ([], false)) := hid (allOf_no hM)
            clear hM
            go_wp2_with fail
            refine (allParking_any _ _).mono ?_
            rw [HAL.out]
            rintro e v8 ⟨a_g, n_g, c_g, rs, rfl, R_g, hng, st⟩
            replace hB := hB.trans (st.mono hB.size)
            clear st
            go_wp2_with fail
            refine (specAll_any _ _).mono ?_
            rw [HAL.out]
            rintro e v9 ⟨a_s, n_s, c_s, ss, rfl, R_s, hns, st⟩
            replace R_g := R_g.below st (Nat.le_refl _)
            replace hB := hB.trans (st.mono hB.size)
            clear st
            have HRS : Hid (sameR rs ss = true) := hid (sameR_self' (hng.trans hns.symm))
            have HNG := hid hng
            clear hng hns
            go_wp2_with fail
            refine (jRows_any _ _ _ _ _ _ _ _ _ R_g.has R_s.has).mono ?_
            rintro e v10 ⟨rfl, q⟩
            have st : Below v9.heap.size v9 v10 := q.below _
            replace R_g := R_g.below st (Nat.le_refl _)
            replace R_s := R_s.below st (Nat.le_refl _)
            replace hB := hB.trans (st.mono hB.size)
            clear st
            clear q
            rw [HRS.out]
            clear HRS R_s
            clear R_g
            go_wp2_with fail
            go_ret
            exact ⟨rfl, hB⟩
        · skip
          have g1 : decide ((0 : Int) ≤ rr) = true := by simp; omega
          have g2 : decide (rr < (c : Int)) = false := by simp; omega
          clear r0 r1
          go_wp2_with fail
          refine (parkingAt_any _ _ _).mono ?_
          rw [HAT.out]
          rintro e v2 ⟨a_l, n_l, c_l, rfl, o_l, st⟩
          replace hB := hB.trans (st.mono hB.size)
          clear st
          go_wp2_with fail
          refine (specAt_any _ _ _).mono ?_
          rw [HAT.out]
          rintro e v3 ⟨a_r, n_r, c_r, rfl, o_r, st⟩
          replace o_l := o_l.below st (Nat.le_refl _)
          replace hB := hB.trans (st.mono hB.size)
          clear st
          go_wp2_with fail
          refine (countParking_any _ _).mono ?_
          rw [HCT.out]
          rintro e v4 ⟨rfl, st⟩
          replace o_l := o_l.below st (Nat.le_refl _)
          replace o_r := o_r.below st (Nat.le_refl _)
          replace hB := hB.trans (st.mono hB.size)
          clear st
          go_wp2_with fail
          refine (specCountParking_any _ _).mono ?_
          rw [HCT.out]
          rintro e v5 ⟨rfl, st⟩
          replace o_l := o_l.below st (Nat.le_refl _)
          replace o_r := o_r.below st (Nat.le_refl _)
          replace hB := hB.trans (st.mono hB.size)
          clear st
          go_wp2_with fail
          refine (jSame_any _ _ _ _ _ _ _ _ _ o_l.has o_r.has).mono ?_
          rintro e v6 ⟨rfl, q⟩
          have st : Below v5.heap.size v5 v6 := q.below _
          replace o_l := o_l.below st (Nat.le_refl _)
          replace o_r := o_r.below st (Nat.le_refl _)
          replace hB := hB.trans (st.mono hB.size)
          clear st
          clear q
          rw [same_self]
          clear o_r
          clear o_l
          go_wp2_with fail
          refine (drawAllParking_any b m cap' _ (HM.out.grow hB (Nat.le_refl _))).mono ?_
          rintro e v7 ⟨mm, rfl, m0, m1, st⟩
          replace hB := hB.trans (st.mono hB.size)
          clear st
          by_cases hM : inB mm 0 5 = true
          · skip
            obtain ⟨j, rfl⟩ : ∃ j : Nat, mm = (j : Int) := ⟨mm.toNat, by have := (inB_iff.1 hM).1; omega⟩
            have hj5 : j ≤ 5 := by have := (inB_iff.1 hM).2; omega
            have HAL : Hid (allOf (j : Int) = (listL j j [], true)) := hid (by simp [allOf, hM])
            clear hM m0 m1
            go_wp2_with fail
            refine (allParking_any _ _).mono ?_
            rw [HAL.out]
            rintro e v8 ⟨a_g, n_g, c_g, rs, rfl, R_g, hng, st⟩
            replace hB := hB.trans (st.mono hB.size)
            clear st
            go_wp2_with fail
            refine (specAll_any _ _).mono ?_
            rw [HAL.out]
            rintro e v9 ⟨a_s, n_s, c_s, ss, rfl, R_s, hns, st⟩
            replace R_g := R_g.below st (Nat.le_refl _)
            replace hB := hB.trans (st.mono hB.size)
            clear st
            have HRS : Hid (sameR rs ss = true) := hid (sameR_self' (hng.trans hns.symm))
            have HNG := hid hng
            clear hng hns
            go_wp2_with fail
            refine (jRows_any _ _ _ _ _ _ _ _ _ R_g.has R_s.has).mono ?_
            rintro e v10 ⟨rfl, q⟩
            have st : Below v9.heap.size v9 v10 := q.below _
            replace R_g := R_g.below st (Nat.le_refl _)
            replace R_s := R_s.below st (Nat.le_refl _)
            replace hB := hB.trans (st.mono hB.size)
            clear st
            clear q
            rw [HRS.out]
            clear HRS R_s
            have HC : Hid (countOf (j : Int) = ((n_g : Int), true)) := hid (by rw [count_yes' (by omega), all_count R_g (by omega) HNG.out])
            obtain ⟨mg, hmg⟩ : ∃ mg, n_g = mg + 1 := ⟨n_g - 1, by have := all_count R_g (m := j) (by omega) HNG.out; have := (cnt_le (n := j) (by omega)).1; omega⟩
            subst hmg
            have hmk : mg + 1 ≤ 2097152 := R_g.has.2.2.2.1
            have hne0 := neq_self_int ((mg : Int) + 1)
            go_wp2_with fail
            refine (countParking_any _ _).mono ?_
            rw [HC.out]
            rintro e v11 ⟨rfl, st⟩
            replace R_g := R_g.below st (Nat.le_refl _)
            replace hB := hB.trans (st.mono hB.size)
            clear st
            go_wp2_with fail
            refine (numberOf_any _ _ _ w.heap.size _ (HA.out.below hB)).mono ?_
            rintro e _ ⟨z, rfl, z0, z1, rfl⟩
            have hmz : ¬ (mg : Int) + 1 = 0 := by omega
            have hi0 : 0 ≤ z % ((mg : Int) + 1) := Int.emod_nonneg _ hmz
            have hi1 : z % ((mg : Int) + 1) < (mg : Int) + 1 := Int.emod_lt_of_pos z (show 0 < (mg : Int) + 1 by omega)
            obtain ⟨bg, offg, rfl, hbg, -⟩ := R_g.has.2.2.2.2.1 (by omega)
            obtain ⟨ai, ni, ci, hci, H_i, hri⟩ := all_row R_g.has (by omega) HNG.out (k := (z % ((mg : Int) + 1)).toNat) (by omega)
            rw [Int.toNat_of_nonneg hi0] at hri
            have HRI := hid hri
            have hse : (z % ((mg : Int) + 1) == z % ((mg : Int) + 1)) = true := by simp
            clear hri
            go_wp2_with fail
            refine (rank_any _ _ _ _ _ H_i).mono ?_
            rw [HRI.out]
            rintro e v12 ⟨rfl, st⟩
            replace R_g := R_g.below st (Nat.le_refl _)
            replace H_i := H_i.below st (Nat.le_refl _)
            replace hB := hB.trans (st.mono hB.size)
            clear st
            clear hci R_g
            go_wp2_with fail
            go_ret
            exact ⟨rfl, hB⟩
          · skip
            have HAL : Hid (allOf mm = ([], false)) := hid (allOf_no hM)
            clear hM
            go_wp2_with fail
            refine (allParking_any _ _).mono ?_
            rw [HAL.out]
            rintro e v8 ⟨a_g, n_g, c_g, rs, rfl, R_g, hng, st⟩
            replace hB := hB.trans (st.mono hB.size)
            clear st
            go_wp2_with fail
            refine (specAll_any _ _).mono ?_
            rw [HAL.out]
            rintro e v9 ⟨a_s, n_s, c_s, ss, rfl, R_s, hns, st⟩
            replace R_g := R_g.below st (Nat.le_refl _)
            replace hB := hB.trans (st.mono hB.size)
            clear st
            have HRS : Hid (sameR rs ss = true) := hid (sameR_self' (hng.trans hns.symm))
            have HNG := hid hng
            clear hng hns
            go_wp2_with fail
            refine (jRows_any _ _ _ _ _ _ _ _ _ R_g.has R_s.has).mono ?_
            rintro e v10 ⟨rfl, q⟩
            have st : Below v9.heap.size v9 v10 := q.below _
            replace R_g := R_g.below st (Nat.le_refl _)
            replace R_s := R_s.below st (Nat.le_refl _)
            replace hB := hB.trans (st.mono hB.size)
            clear st
            clear q
            rw [HRS.out]
            clear HRS R_s
            clear R_g
            go_wp2_with fail
            go_ret
            exact ⟨rfl, hB⟩
    · skip
      have HAT : Hid (atOf nn rr = ([], false)) := hid (at_no1 hN8).1
      have HCT : Hid (countOf nn = (0, false)) := hid (at_no1 (r := 0) hN8).2
      clear hN8
      go_wp2_with fail
      refine (parkingAt_any _ _ _).mono ?_
      rw [HAT.out]
      rintro e v2 ⟨a_l, n_l, c_l, rfl, o_l, st⟩
      replace hB := hB.trans (st.mono hB.size)
      clear st
      go_wp2_with fail
      refine (specAt_any _ _ _).mono ?_
      rw [HAT.out]
      rintro e v3 ⟨a_r, n_r, c_r, rfl, o_r, st⟩
      replace o_l := o_l.below st (Nat.le_refl _)
      replace hB := hB.trans (st.mono hB.size)
      clear st
      go_wp2_with fail
      refine (countParking_any _ _).mono ?_
      rw [HCT.out]
      rintro e v4 ⟨rfl, st⟩
      replace o_l := o_l.below st (Nat.le_refl _)
      replace o_r := o_r.below st (Nat.le_refl _)
      replace hB := hB.trans (st.mono hB.size)
      clear st
      go_wp2_with fail
      refine (specCountParking_any _ _).mono ?_
      rw [HCT.out]
      rintro e v5 ⟨rfl, st⟩
      replace o_l := o_l.below st (Nat.le_refl _)
      replace o_r := o_r.below st (Nat.le_refl _)
      replace hB := hB.trans (st.mono hB.size)
      clear st
      go_wp2_with fail
      refine (jSame_any _ _ _ _ _ _ _ _ _ o_l.has o_r.has).mono ?_
      rintro e v6 ⟨rfl, q⟩
      have st : Below v5.heap.size v5 v6 := q.below _
      replace o_l := o_l.below st (Nat.le_refl _)
      replace o_r := o_r.below st (Nat.le_refl _)
      replace hB := hB.trans (st.mono hB.size)
      clear st
      clear q
      rw [same_self]
      clear o_r
      clear o_l
      go_wp2_with fail
      refine (drawAllParking_any b m cap' _ (HM.out.grow hB (Nat.le_refl _))).mono ?_
      rintro e v7 ⟨mm, rfl, m0, m1, st⟩
      replace hB := hB.trans (st.mono hB.size)
      clear st
      by_cases hM : inB mm 0 5 = true
      · skip
        obtain ⟨j, rfl⟩ : ∃ j : Nat, mm = (j : Int) := ⟨mm.toNat, by have := (inB_iff.1 hM).1; omega⟩
        have hj5 : j ≤ 5 := by have := (inB_iff.1 hM).2; omega
        have HAL : Hid (allOf (j : Int) = (listL j j [], true)) := hid (by simp [allOf, hM])
        clear hM m0 m1
        go_wp2_with fail
        refine (allParking_any _ _).mono ?_
        rw [HAL.out]
        rintro e v8 ⟨a_g, n_g, c_g, rs, rfl, R_g, hng, st⟩
        replace hB := hB.trans (st.mono hB.size)
        clear st
        go_wp2_with fail
        refine (specAll_any _ _).mono ?_
        rw [HAL.out]
        rintro e v9 ⟨a_s, n_s, c_s, ss, rfl, R_s, hns, st⟩
        replace R_g := R_g.below st (Nat.le_refl _)
        replace hB := hB.trans (st.mono hB.size)
        clear st
        have HRS : Hid (sameR rs ss = true) := hid (sameR_self' (hng.trans hns.symm))
        have HNG := hid hng
        clear hng hns
        go_wp2_with fail
        refine (jRows_any _ _ _ _ _ _ _ _ _ R_g.has R_s.has).mono ?_
        rintro e v10 ⟨rfl, q⟩
        have st : Below v9.heap.size v9 v10 := q.below _
        replace R_g := R_g.below st (Nat.le_refl _)
        replace R_s := R_s.below st (Nat.le_refl _)
        replace hB := hB.trans (st.mono hB.size)
        clear st
        clear q
        rw [HRS.out]
        clear HRS R_s
        have HC : Hid (countOf (j : Int) = ((n_g : Int), true)) := hid (by rw [count_yes' (by omega), all_count R_g (by omega) HNG.out])
        obtain ⟨mg, hmg⟩ : ∃ mg, n_g = mg + 1 := ⟨n_g - 1, by have := all_count R_g (m := j) (by omega) HNG.out; have := (cnt_le (n := j) (by omega)).1; omega⟩
        subst hmg
        have hmk : mg + 1 ≤ 2097152 := R_g.has.2.2.2.1
        have hne0 := neq_self_int ((mg : Int) + 1)
        go_wp2_with fail
        refine (countParking_any _ _).mono ?_
        rw [HC.out]
        rintro e v11 ⟨rfl, st⟩
        replace R_g := R_g.below st (Nat.le_refl _)
        replace hB := hB.trans (st.mono hB.size)
        clear st
        go_wp2_with fail
        refine (numberOf_any _ _ _ w.heap.size _ (HA.out.below hB)).mono ?_
        rintro e _ ⟨z, rfl, z0, z1, rfl⟩
        have hmz : ¬ (mg : Int) + 1 = 0 := by omega
        have hi0 : 0 ≤ z % ((mg : Int) + 1) := Int.emod_nonneg _ hmz
        have hi1 : z % ((mg : Int) + 1) < (mg : Int) + 1 := Int.emod_lt_of_pos z (show 0 < (mg : Int) + 1 by omega)
        obtain ⟨bg, offg, rfl, hbg, -⟩ := R_g.has.2.2.2.2.1 (by omega)
        obtain ⟨ai, ni, ci, hci, H_i, hri⟩ := all_row R_g.has (by omega) HNG.out (k := (z % ((mg : Int) + 1)).toNat) (by omega)
        rw [Int.toNat_of_nonneg hi0] at hri
        have HRI := hid hri
        have hse : (z % ((mg : Int) + 1) == z % ((mg : Int) + 1)) = true := by simp
        clear hri
        go_wp2_with fail
        refine (rank_any _ _ _ _ _ H_i).mono ?_
        rw [HRI.out]
        rintro e v12 ⟨rfl, st⟩
        replace R_g := R_g.below st (Nat.le_refl _)
        replace H_i := H_i.below st (Nat.le_refl _)
        replace hB := hB.trans (st.mono hB.size)
        clear st
        clear hci R_g
        go_wp2_with fail
        go_ret
        exact ⟨rfl, hB⟩
      · skip
        have HAL : Hid (allOf mm = ([], false)) := hid (allOf_no hM)
        clear hM
        go_wp2_with fail
        refine (allParking_any _ _).mono ?_
        rw [HAL.out]
        rintro e v8 ⟨a_g, n_g, c_g, rs, rfl, R_g, hng, st⟩
        replace hB := hB.trans (st.mono hB.size)
        clear st
        go_wp2_with fail
        refine (specAll_any _ _).mono ?_
        rw [HAL.out]
        rintro e v9 ⟨a_s, n_s, c_s, ss, rfl, R_s, hns, st⟩
        replace R_g := R_g.below st (Nat.le_refl _)
        replace hB := hB.trans (st.mono hB.size)
        clear st
        have HRS : Hid (sameR rs ss = true) := hid (sameR_self' (hng.trans hns.symm))
        have HNG := hid hng
        clear hng hns
        go_wp2_with fail
        refine (jRows_any _ _ _ _ _ _ _ _ _ R_g.has R_s.has).mono ?_
        rintro e v10 ⟨rfl, q⟩
        have st : Below v9.heap.size v9 v10 := q.below _
        replace R_g := R_g.below st (Nat.le_refl _)
        replace R_s := R_s.below st (Nat.le_refl _)
        replace hB := hB.trans (st.mono hB.size)
        clear st
        clear q
        rw [HRS.out]
        clear HRS R_s
        clear R_g
        go_wp2_with fail
        go_ret
        exact ⟨rfl, hB⟩
end Go.Proofs.Ytkkhlkaieohklaa

