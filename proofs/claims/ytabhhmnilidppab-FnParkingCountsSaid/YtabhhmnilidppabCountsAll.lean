/- The law of counts by first favourites, distances and lucky cars, walked. -/
import Derived.Test.YtabhhmnilidppabCur
import Derived.Test.YtabhhmnilidppabDraw2
import Derived.Test.YtabhhmnilidppabSpecN
import Derived.Test.YtabhhmnilidppabMathG
import Derived.Test.YtabhhmnilidppabMathD
import Derived.Test.YtabhhmnilidppabImplN
import Derived.Test.YtabhhmnilidppabSpecS
import Derived.Test.YtabhhmnilidppabMathT
import Derived.Test.YtabhhmnilidppabImplC
import Derived.Test.YtabhhmnilidppabImplR
import Derived.Test.YtabhhmnilidppabImplAll
import Derived.Test.YtabhhmnilidppabImplDist
import Derived.Test.YtabhhmnilidppabSpecAt
import Derived.Test.YtabhhmnilidppabSpecDist
namespace Go.Proofs.Ytabhhmnilidppab
open Go.RowKit

theorem HasB.below {w w' : World} {a : Option Addr} {n K : Nat} (h : HasB w a n K) (hb : Below K w w') : HasB w' a n K := by
  refine ⟨h.1, fun hx => ?_⟩
  obtain ⟨b, off, ha, hbk, hc⟩ := h.2 hx
  refine ⟨b, off, ha, hbk, fun i hi => ?_⟩
  obtain ⟨u, u0, u1, hu⟩ := hc i hi
  exact ⟨u, u0, u1, by rw [hb.cell (p := ⟨b, off + i, none⟩) hbk]; exact hu⟩

/-- An argument's slice of bytes. -/
theorem hasB_of_row {w : World} {a : Option Addr} {len cap : Nat} {zs : List Int}
    (h : (a = none ∧ len = 0 ∧ cap = 0 ∧ zs = []) ∨ ∃ x, a = some x ∧ len ≤ cap ∧ cap ≤ maxLen ∧ zs.length = cap ∧ (∀ i, i < zs.length → w.cell? (x.add i) = some (.int .u8 (zs.getD i 0))) ∧ ∀ n ∈ zs, (Lit.int .u8 n).wf = true) :
    len ≤ maxLen ∧ (len ≤ 1048576 → HasB w a len w.heap.size) := by
  rcases h with ⟨rfl, rfl, rfl, rfl⟩ | ⟨x, rfl, h1, h2, h3, h4, h5⟩
  · exact ⟨by unfold maxLen; omega, fun _ => ⟨by omega, by omega⟩⟩
  · refine ⟨by omega, fun hl => ⟨by omega, fun hx => ?_⟩⟩
    obtain ⟨b, off, spot⟩ := x
    have hc := h4 0 (by omega)
    have hspot : spot = none := by simpa [Addr.add] using World.cell?_spot hc
    subst hspot
    refine ⟨b, off, rfl, by have := World.block_lt_of_cell? w _ hc; simpa [Addr.add] using this, fun i hi => ?_⟩
    have := h4 i (by omega)
    have e : (⟨b, off, none⟩ : Addr).add i = ⟨b, off + i, none⟩ := by unfold Addr.add; split <;> simp_all
    rw [e] at this
    have hm : zs.getD i 0 ∈ zs := by simp [show i < zs.length by omega]
    have hw := h5 _ hm
    generalize zs.getD i 0 = u at *
    have hw' : (0 : Int) ≤ u ∧ u ≤ 255 := by simpa [Lit.wf, IntKind.min, IntKind.max, IntKind.signed, IntKind.bits] using hw
    exact ⟨u, hw'.1, hw'.2, this⟩

/-- The law's answer. -/
def Holds (w : World) (e : Ending) (w' : World) : Prop := e = .returned (.bool true) ∧ Below w.heap.size w w'
end Go.Proofs.Ytabhhmnilidppab

namespace Go.Proofs.Ytabhhmnilidppab
open Go.RowKit

/-- A number that was drawn, for the caller of a draw. -/
def DrewNum (lo hi : Int) (w : World) (e : Ending) (w' : World) : Prop := ∃ v, e = .returned (.int .i64 v) ∧ lo ≤ v ∧ v ≤ hi ∧ Below w.heap.size w w'
/-- Two numbers. -/
def DrewNums (lo hi : Int) (w : World) (e : Ending) (w' : World) : Prop := ∃ v u, e = .returned (.tuple #[.int .i64 v, .int .i64 u]) ∧ lo ≤ v ∧ v ≤ hi ∧ lo ≤ u ∧ u ≤ hi ∧ Below w.heap.size w w'
/-- A list with any numbers. -/
def DrewAny (w : World) (e : Ending) (w' : World) : Prop := ∃ a n cap xs, e = .returned (.slice a n cap) ∧ Own w' w.heap.size a n cap xs ∧ n ≤ 20 ∧ Below w.heap.size w w'

theorem has_lit7 (w : World) (a b c d e f g : Int) : Has (w.alloc (.cells #[.int .i64 a, .int .i64 b, .int .i64 c, .int .i64 d, .int .i64 e, .int .i64 f, .int .i64 g] 3)) (some ⟨w.heap.size, 0, none⟩) 7 7 [a, b, c, d, e, f, g] := has_lit w [a, b, c, d, e, f, g] (by simp)
theorem has_lit8 (w : World) (a b c d e f g h : Int) : Has (w.alloc (.cells #[.int .i64 a, .int .i64 b, .int .i64 c, .int .i64 d, .int .i64 e, .int .i64 f, .int .i64 g, .int .i64 h] 3)) (some ⟨w.heap.size, 0, none⟩) 8 8 [a, b, c, d, e, f, g, h] := has_lit w [a, b, c, d, e, f, g, h] (by simp)
theorem has_lit9 (w : World) (a b c d e f g h i : Int) : Has (w.alloc (.cells #[.int .i64 a, .int .i64 b, .int .i64 c, .int .i64 d, .int .i64 e, .int .i64 f, .int .i64 g, .int .i64 h, .int .i64 i] 3)) (some ⟨w.heap.size, 0, none⟩) 9 9 [a, b, c, d, e, f, g, h, i] := has_lit w [a, b, c, d, e, f, g, h, i] (by simp)

set_option maxHeartbeats 800000 in
theorem number2_cur (g t : Nat) (w : World) (h : Cur w g t) (ht : t ≤ 1000) :
    Calls Try.prog 84 #[.pointer (some ⟨g, 0, none⟩)] w fun e w' => ∃ v : Int, e = .returned (.int .i64 v) ∧ -1 ≤ v ∧ v ≤ 9 ∧ ∃ t', t' ≤ t + 10 ∧ At w w' g t' := by
  have A0 : At w w g t := ⟨h, Below.refl _ _⟩
  go_enter Try.func84, Try.ntmps84
  go_wp2_with fail
  refine (one_cur g t 10 _ h (by omega) (by omega)).mono ?_
  rintro e w1 ⟨b, rfl, ⟨t1, ta, tb, hc1⟩, hg1⟩
  have A1 := A0.pick hc1 hg1
  clear hc1 hg1 A0
  cases b with
  | true =>
    have A2 := A1.later (alloc_below w1 (.cells #[.int .i64 (-1), .int .i64 0, .int .i64 8, .int .i64 9] 3)) A1.cur.lt
    go_wp2_with fail
    refine (among_cur g t1 _ 4 4 [-1, 0, 8, 9] _ A2.cur (by omega) (has_lit4 w1 (-1) 0 8 9) (by omega) (by omega) (lit_ne A1.cur)).mono ?_
    rintro e w2 ⟨v, rfl, hv, ⟨t2, tc, td, hc2⟩, hg2⟩
    have hv1 : -1 ≤ v ∧ v ≤ 9 := by simp at hv; omega
    have A3 := A2.pick hc2 hg2
    clear hv hc2 hg2 A1 A2
    go_wp2_with fail
    go_ret
    exact ⟨_, rfl, hv1.1, hv1.2, t2, by omega, A3⟩
  | false =>
    go_wp2_with fail
    refine (pick_cur g t1 7 _ A1.cur (by omega) (by omega)).mono ?_
    rintro e w2 ⟨v, rfl, v0, v1, ⟨t2, tc, td, hc2⟩, hg2⟩
    have A2 := A1.pick hc2 hg2
    have hv1 : -1 ≤ v ∧ v ≤ 9 := by omega
    clear hc2 hg2 A1 v1
    go_wp2_with fail
    go_ret
    exact ⟨_, rfl, hv1.1, hv1.2, t2, by omega, A2⟩

theorem fresh_below (w : World) (a : Option Addr) (n cap : Nat) : Below w.heap.size w (w.alloc (.cells #[.slice a n cap, .int .i64 0, .int .u64 0] 78)) := alloc_below _ _

set_option maxHeartbeats 800000 in
theorem drawCountParking_any (a : Option Addr) (n cap : Nat) (w : World) (h : HasB w a n w.heap.size) :
    Calls Try.prog 96 #[.slice a n cap] w (DrewNum (-1) 9 w) := by
  have C0 := cur_new (cap := cap) h
  go_enter Try.func96, Try.ntmps96
  go_wp2_with fail
  refine (number2_cur _ 0 _ C0 (by omega)).mono ?_
  rintro e w1 ⟨v, rfl, v0, v1, t1, ht1, A1⟩
  have hb := (fresh_below w a n cap).trans A1.below
  go_wp2_with fail
  go_ret
  exact ⟨_, rfl, v0, v1, hb⟩
set_option maxHeartbeats 400000 in
theorem drawCountByFirst_any (a : Option Addr) (n cap : Nat) (w : World) (h : HasB w a n w.heap.size) :
    Calls Try.prog 40 #[.slice a n cap] w (DrewNum (-1) 9 w) := by
  go_enter Try.func40, Try.ntmps40
  go_wp2_with fail
  refine (drawCountParking_any _ _ _ _ h).mono ?_
  rintro e w1 ⟨v, rfl, v0, v1, hb⟩
  go_wp2_with fail
  go_ret
  exact ⟨_, rfl, v0, v1, hb⟩
set_option maxHeartbeats 400000 in
theorem drawCountSorted_any (a : Option Addr) (n cap : Nat) (w : World) (h : HasB w a n w.heap.size) :
    Calls Try.prog 68 #[.slice a n cap] w (DrewNum (-1) 9 w) := by
  go_enter Try.func68, Try.ntmps68
  go_wp2_with fail
  refine (drawCountParking_any _ _ _ _ h).mono ?_
  rintro e w1 ⟨v, rfl, v0, v1, hb⟩
  go_wp2_with fail
  go_ret
  exact ⟨_, rfl, v0, v1, hb⟩

set_option maxRecDepth 100000 in
set_option maxHeartbeats 800000 in
theorem drawCountForStreet_any (a : Option Addr) (n cap : Nat) (w : World) (h : HasB w a n w.heap.size) :
    Calls Try.prog 48 #[.slice a n cap] w (DrewNums (-1) 20 w) := by
  have C0 := cur_new (cap := cap) h
  have hb0 := fresh_below w a n cap
  go_enter Try.func48, Try.ntmps48
  go_wp2_with fail
  refine (number2_cur _ 0 _ C0 (by omega)).mono ?_
  rintro e w1 ⟨v, rfl, v0, v1, t1, ht1, A1⟩
  have hbw := hb0.trans A1.below
  have A2 := A1.later (alloc_below w1 (.cells #[.int .i64 1, .int .i64 2, .int .i64 3, .int .i64 5, .int .i64 8, .int .i64 12, .int .i64 13, .int .i64 0] 3)) A1.cur.lt
  go_wp2_with fail
  refine (among_cur _ t1 _ 8 8 [1, 2, 3, 5, 8, 12, 13, 0] _ A2.cur (by omega) (has_lit8 w1 1 2 3 5 8 12 13 0) (by omega) (by omega) (lit_ne A1.cur)).mono ?_
  rintro e w2 ⟨u, rfl, hu, ⟨t2, tc, td, hc2⟩, hg2⟩
  have hu1 : -1 ≤ u ∧ u ≤ 20 := by simp at hu; omega
  have A3 := A2.pick hc2 hg2
  have hb := hb0.trans A3.below
  clear hu hc2 hg2 A1 A2
  go_wp2_with fail
  go_ret2
  exact ⟨_, _, rfl, v0, by omega, hu1.1, hu1.2, hb⟩

set_option maxRecDepth 100000 in
set_option maxHeartbeats 1600000 in
theorem drawParkingAt_any (a : Option Addr) (n cap : Nat) (w : World) (h : HasB w a n w.heap.size) :
    Calls Try.prog 27 #[.slice a n cap] w (DrewNums (-1) 5000000 w) := by
  have C0 := cur_new (cap := cap) h
  have hb0 := fresh_below w a n cap
  go_enter Try.func27, Try.ntmps27
  go_wp2_with fail
  refine (number2_cur _ 0 _ C0 (by omega)).mono ?_
  rintro e w1 ⟨v, rfl, v0, v1, t1, ht1, A1⟩
  go_wp2_with fail
  refine (l1Least_any _ _ _).mono ?_
  rintro e _ ⟨rfl, rfl⟩
  go_wp2_with fail
  refine (l1Most_any _ _ _).mono ?_
  rintro e _ ⟨rfl, rfl⟩
  obtain ⟨m, hm⟩ : ∃ m : Nat, max 0 (min v 8) = (m : Int) := ⟨(max 0 (min v 8)).toNat, by omega⟩
  have hm8 : m ≤ 8 := by omega
  rw [hm]
  clear hm
  go_wp2_with fail
  refine (cnCount_any _ _ hm8).mono ?_
  rintro e _ ⟨rfl, rfl⟩
  obtain ⟨c1, c2⟩ := cnt_le hm8
  obtain ⟨c, hc⟩ : ∃ c, cnt m = c := ⟨_, rfl⟩
  rw [hc] at c1 c2 ⊢
  clear hc
  go_wp2_with fail
  refine (l1Least_any _ _ _).mono ?_
  rintro e _ ⟨rfl, rfl⟩
  obtain ⟨q, hq⟩ : ∃ q, min (c : Int) 60000 = q := ⟨_, rfl⟩
  have hq1 : 1 ≤ q ∧ q ≤ 60000 := by omega
  have HQ := hid hq
  rw [hq]
  clear hq
  go_wp2_with fail
  refine (pick_cur _ t1 q _ A1.cur (by omega) (by omega)).mono ?_
  rintro e w2 ⟨x, rfl, x0, x1, ⟨t2, ta, tb, hc2⟩, hg2⟩
  have A2 := A1.pick hc2 hg2
  have hx : x ≤ 60000 := by omega
  clear hc2 hg2 A1 x1
  go_wp2_with fail
  refine (l1Least_any _ _ _).mono ?_
  rintro e _ ⟨rfl, rfl⟩
  rw [HQ.out]
  go_wp2_with fail
  refine (pick_cur _ t2 q _ A2.cur (by omega) (by omega)).mono ?_
  rintro e w3 ⟨y, rfl, y0, y1, ⟨t3, tc, td, hc3⟩, hg3⟩
  have A3 := A2.pick hc3 hg3
  have hy : y ≤ 60000 := by omega
  clear hc3 hg3 A2 y1
  have A4 := A3.later (alloc_below w3 (.cells #[.int .i64 0, .int .i64 1, .int .i64 ((c : Int) - 1), .int .i64 (c : Int), .int .i64 (-1), .int .i64 x, .int .i64 y] 3)) A3.cur.lt
  go_wp2_with fail
  refine (among_cur _ t3 _ 7 7 [0, 1, (c : Int) - 1, (c : Int), -1, x, y] _ A4.cur (by omega) (has_lit7 w3 0 1 ((c : Int) - 1) (c : Int) (-1) x y) (by omega) (by omega) (lit_ne A3.cur)).mono ?_
  rintro e w4 ⟨u, rfl, hu, ⟨t4, te, tf, hc4⟩, hg4⟩
  have hu1 : -1 ≤ u ∧ u ≤ 5000000 := by simp at hu; omega
  have A5 := A4.pick hc4 hg4
  have hb := hb0.trans A5.below
  clear hu hc4 hg4 A3 A4
  go_wp2_with fail
  go_ret2
  exact ⟨_, _, rfl, v0, by omega, hu1.1, hu1.2, hb⟩
end Go.Proofs.Ytabhhmnilidppab

namespace Go.Proofs.Ytabhhmnilidppab
open Go.RowKit

set_option maxRecDepth 100000 in
set_option maxHeartbeats 800000 in
theorem drawAllParking_any (a : Option Addr) (n cap : Nat) (w : World) (h : HasB w a n w.heap.size) :
    Calls Try.prog 37 #[.slice a n cap] w (DrewNum (-1) 9 w) := by
  have C0 := cur_new (cap := cap) h
  have hb0 := fresh_below w a n cap
  obtain ⟨w1, hw1⟩ : ∃ w1, w.alloc (.cells #[.slice a n cap, .int .i64 0, .int .u64 0] 78) = w1 := ⟨_, rfl⟩
  have hs1 : w1.heap.size = w.heap.size + 1 := by rw [← hw1]; simp
  rw [hw1] at C0 hb0
  have HW := hid hw1
  clear hw1
  go_enter Try.func37, Try.ntmps37
  go_wp2_with fail
  rw [HW.out]
  have A0 : At w1 w1 w.heap.size 0 := ⟨C0, Below.refl _ _⟩
  have A1 := A0.later (alloc_below w1 (.cells #[.int .i64 0, .int .i64 1, .int .i64 2, .int .i64 3, .int .i64 4, .int .i64 4, .int .i64 5, .int .i64 6, .int .i64 (-1)] 3)) C0.lt
  have hl := has_lit9 w1 0 1 2 3 4 4 5 6 (-1)
  have hn := lit_ne C0
  rw [hs1] at hl hn
  refine (among_cur w.heap.size 0 _ 9 9 [0, 1, 2, 3, 4, 4, 5, 6, -1] _ A1.cur (by omega) hl (by omega) (by omega) hn).mono ?_
  rintro e w2 ⟨v, rfl, hv, ⟨t2, tc, td, hc2⟩, hg2⟩
  have hv1 : -1 ≤ v ∧ v ≤ 9 := by simp at hv; omega
  have A2 := A1.pick hc2 hg2
  have hb := hb0.trans A2.below
  clear hv hc2 hg2 A1 A0
  go_wp2_with fail
  go_ret
  exact ⟨_, rfl, hv1.1, hv1.2, hb⟩

set_option maxRecDepth 100000 in
set_option maxHeartbeats 800000 in
theorem drawAllSorted_any (a : Option Addr) (n cap : Nat) (w : World) (h : HasB w a n w.heap.size) :
    Calls Try.prog 64 #[.slice a n cap] w (DrewNum (-1) 9 w) := by
  have C0 := cur_new (cap := cap) h
  have hb0 := fresh_below w a n cap
  obtain ⟨w1, hw1⟩ : ∃ w1, w.alloc (.cells #[.slice a n cap, .int .i64 0, .int .u64 0] 78) = w1 := ⟨_, rfl⟩
  have hs1 : w1.heap.size = w.heap.size + 1 := by rw [← hw1]; simp
  rw [hw1] at C0 hb0
  have HW := hid hw1
  clear hw1
  go_enter Try.func64, Try.ntmps64
  go_wp2_with fail
  rw [HW.out]
  have A0 : At w1 w1 w.heap.size 0 := ⟨C0, Below.refl _ _⟩
  have A1 := A0.later (alloc_below w1 (.cells #[.int .i64 0, .int .i64 1, .int .i64 2, .int .i64 3, .int .i64 4, .int .i64 5, .int .i64 6, .int .i64 7, .int .i64 (-1)] 3)) C0.lt
  have hl := has_lit9 w1 0 1 2 3 4 5 6 7 (-1)
  have hn := lit_ne C0
  rw [hs1] at hl hn
  refine (among_cur w.heap.size 0 _ 9 9 [0, 1, 2, 3, 4, 5, 6, 7, -1] _ A1.cur (by omega) hl (by omega) (by omega) hn).mono ?_
  rintro e w2 ⟨v, rfl, hv, ⟨t2, tc, td, hc2⟩, hg2⟩
  have hv1 : -1 ≤ v ∧ v ≤ 9 := by simp at hv; omega
  have A2 := A1.pick hc2 hg2
  have hb := hb0.trans A2.below
  clear hv hc2 hg2 A1 A0
  go_wp2_with fail
  go_ret
  exact ⟨_, rfl, hv1.1, hv1.2, hb⟩

set_option maxHeartbeats 400000 in
theorem drawCountByDistance_any (a : Option Addr) (n cap : Nat) (w : World) (h : HasB w a n w.heap.size) :
    Calls Try.prog 46 #[.slice a n cap] w (DrewNum (-1) 9 w) := by
  go_enter Try.func46, Try.ntmps46
  go_wp2_with fail
  refine (drawAllParking_any _ _ _ _ h).mono ?_
  rintro e w1 ⟨v, rfl, v0, v1, hb⟩
  go_wp2_with fail
  go_ret
  exact ⟨_, rfl, v0, v1, hb⟩
end Go.Proofs.Ytabhhmnilidppab

namespace Go.Proofs.Ytabhhmnilidppab
open Go.RowKit

/-- Numbers that may be added up. -/
def Sums (ys : List Int) : Prop := ys.length ≤ 12 ∧ ∀ i, i < ys.length → 0 ≤ nth ys i ∧ nth ys i ≤ 5000000
theorem sums_bounds {ys : List Int} (h : ∀ i, i < ys.length → 0 ≤ nth ys i ∧ nth ys i ≤ 5000000) : ∀ k, k ≤ ys.length → 0 ≤ total (ys.take k) ∧ total (ys.take k) ≤ 5000000 * (k : Int)
  | 0, _ => by simp [total]
  | k + 1, hk => by
    have ih := sums_bounds h k (by omega)
    have := h k (by omega)
    rw [total_succ (by omega)]
    omega
def firstsC (n : Nat) : List Int := (List.range n).map fun (x : Nat) => (N [(x : Int)] n : Int)
def luckysC (n : Nat) : List Int := (List.range (n + 1)).map fun (l : Nat) => (lucky n (n - 1) l : Int)
theorem first_fact : ∀ n, n < 9 → 1 ≤ n → total (firstsC n) = (cnt n : Int) ∧ (∀ i, i < (firstsC n).length → 0 ≤ nth (firstsC n) i ∧ nth (firstsC n) i ≤ 5000000) ∧ ∀ i, i < n → i + 1 < n → nth (firstsC n) (i + 1) ≤ nth (firstsC n) i := by decide +kernel
theorem lucky_fact : ∀ n, n < 9 → 1 ≤ n → total (luckysC n) = (cnt n : Int) ∧ ∀ i, i < (luckysC n).length → 0 ≤ nth (luckysC n) i ∧ nth (luckysC n) i ≤ 5000000 := by decide +kernel
/-- How many lucky cars a list has. -/
def lucksOf (n : Nat) (xs : List Int) : Nat := (idxs (fun i => nth (dists (n : Int) xs) i == 0) xs.length).length
def tallyOf (n : Nat) (ys : List Int) : List (List Int) → List Int
  | [] => ys
  | xs :: r => tallyOf n (ys.set (lucksOf n xs) (nth ys (lucksOf n xs) + 1)) r
def tally (n k : Nat) : List Int := tallyOf n (List.replicate (n + 1) 0) ((listL n n []).take k)
theorem tallyOf_snoc (n : Nat) (x : List Int) : ∀ (r : List (List Int)) (ys : List Int), tallyOf n ys (r ++ [x]) = (tallyOf n ys r).set (lucksOf n x) (nth (tallyOf n ys r) (lucksOf n x) + 1)
  | [], ys => rfl
  | a :: r, ys => by simp only [List.cons_append, tallyOf]; exact tallyOf_snoc n x r _
theorem tally_succ {n k : Nat} (h : k < (listL n n []).length) : tally n (k + 1) = (tally n k).set (lucksOf n ((listL n n []).getD k [])) (nth (tally n k) (lucksOf n ((listL n n []).getD k [])) + 1) := by
  unfold tally
  rw [List.take_succ_eq_append_getElem h, tallyOf_snoc, List.getD_eq_getElem?_getD, List.getElem?_eq_getElem h]
  rfl
theorem tally_all : ∀ n, n < 6 → 1 ≤ n → tally n (listL n n []).length = luckysC n := by decide +kernel
theorem tallyOf_bound (n : Nat) : ∀ (r : List (List Int)) (ys : List Int) (c : Int), (∀ i, 0 ≤ nth ys i ∧ nth ys i ≤ c) → (tallyOf n ys r).length = ys.length ∧ ∀ i, 0 ≤ nth (tallyOf n ys r) i ∧ nth (tallyOf n ys r) i ≤ c + r.length
  | [], ys, c, h => ⟨rfl, fun i => by simpa [tallyOf] using h i⟩
  | a :: r, ys, c, h => by
    have := tallyOf_bound n r (ys.set (lucksOf n a) (nth ys (lucksOf n a) + 1)) (c + 1) (fun i => by
      have h1 := h i
      have h2 := h (lucksOf n a)
      by_cases e : lucksOf n a = i
      · by_cases hl : i < ys.length
        · have : nth (ys.set (lucksOf n a) (nth ys (lucksOf n a) + 1)) i = nth ys (lucksOf n a) + 1 := by subst e; simp [nth, hl]
          omega
        · have : nth (ys.set (lucksOf n a) (nth ys (lucksOf n a) + 1)) i = nth ys i := by simp [nth, hl]
          omega
      · have : nth (ys.set (lucksOf n a) (nth ys (lucksOf n a) + 1)) i = nth ys i := by simp [nth, e]
        omega)
    simp only [tallyOf, List.length_cons]
    refine ⟨by rw [this.1]; simp, fun i => ?_⟩
    have := this.2 i
    omega
theorem tally_bound {n k : Nat} : (tally n k).length = n + 1 ∧ ∀ i, 0 ≤ nth (tally n k) i ∧ nth (tally n k) i ≤ k := by
  have := tallyOf_bound n ((listL n n []).take k) (List.replicate (n + 1) 0) 0 (fun i => by
    have : nth (List.replicate (n + 1) (0 : Int)) i = 0 := by simp [nth, List.getElem?_replicate]; split <;> rfl
    omega)
  unfold tally
  refine ⟨by rw [this.1]; simp, fun i => ?_⟩
  have h := this.2 i
  have : ((listL n n []).take k).length ≤ k := by simp; omega
  omega
theorem lucks_list {n : Nat} {xs : List Int} (hp : isPark xs = true) (hn : xs.length = n) (h1 : 1 ≤ n) : ∃ ls, luckyOf xs (n : Int) = (ls, true) ∧ ls.length = lucksOf n xs ∧ lucksOf n xs ≤ n := by
  obtain ⟨k1, k2, k3⟩ := isPark_iff.1 hp
  have hg : good xs (n : Int) = true := by
    subst hn
    have : inB (xs.length : Int) 1 12 = true := inB_iff.2 ⟨by omega, by omega⟩
    have ha : allB xs 0 ((xs.length : Int) - 1) = true := allB_iff.2 k2
    simp [good, k1, this, ha]
  refine ⟨_, by unfold luckyOf; rw [hg, ← hn, k3]; rfl, rfl, ?_⟩
  unfold lucksOf
  rw [hn]
  exact length_idxs _ _
theorem dist_total : ∀ n, n < 6 → total (distCounts n) = (cnt n : Int) ∧ (distCounts n).length ≤ 12 ∧ ∀ i, i < (distCounts n).length → 0 ≤ nth (distCounts n) i ∧ nth (distCounts n) i ≤ 5000000 := by decide +kernel
theorem street_same {n : Nat} : n < 9 → 1 ≤ n → streetCnt n n = cnt n := by
  have : ∀ n, n < 9 → 1 ≤ n → streetCnt n n = cnt n := by decide +kernel
  exact this n
end Go.Proofs.Ytabhhmnilidppab

namespace Go.Proofs.Ytabhhmnilidppab
open Go.RowKit

/-- The coefficients behind j factors. -/
def LTab (n j : Nat) (ys : List Int) : Prop := ∀ l, l ≤ n → nth ys l = (lucky n j l : Int)
/-- The next ones, as far as k of those are laid out. -/
def LPart (n j k : Nat) (zs : List Int) : Prop := ∀ l, l ≤ n → nth zs l = (((if l < k then (j + 1) * lucky n j l else 0) + (if 1 ≤ l ∧ l ≤ k then (n - j) * lucky n j (l - 1) else 0) : Nat) : Int)
/-- The next ones down to behind l. -/
def LDown (n j l : Nat) (zs : List Int) : Prop := ∀ x, x ≤ n → nth zs x = if l < x then (lucky n (j + 1) x : Int) else (lucky n j x : Int)
theorem lt_first (n : Nat) : LTab n 0 ((List.replicate (n + 1) 0).set 1 1) ∨ n = 0 := by
  by_cases h : n = 0
  · exact .inr h
  · refine .inl fun l hl => ?_
    rw [nth_set (by simp; omega), nth_replicate0]
    by_cases e : 1 = l
    · subst e; rfl
    · rw [if_neg e]; simp only [lucky]; rw [if_neg (fun h => e h.symm)]; rfl
theorem lp_first (n j : Nat) : LPart n j 0 (List.replicate (n + 1) 0) := fun l _ => by
  rw [nth_replicate0, if_neg (Nat.not_lt_zero l), if_neg (show ¬ (1 ≤ l ∧ l ≤ 0) by omega)]
  rfl
theorem lp_one {n j k : Nat} {ys zs : List Int} (h : LPart n j k zs) (hy : LTab n j ys) (hl : zs.length = n + 1) (hk : k ≤ n) :
    ∀ l, l ≤ n → nth (zs.set k (nth zs k + ((j : Int) + 1) * nth ys k)) l = (((if l < k + 1 then (j + 1) * lucky n j l else 0) + (if 1 ≤ l ∧ l ≤ k then (n - j) * lucky n j (l - 1) else 0) : Nat) : Int) := fun l hln => by
  rw [nth_set (by omega)]
  by_cases e : k = l
  · subst e
    rw [if_pos rfl, h k hk, hy k hk, if_neg (Nat.lt_irrefl k), if_pos (Nat.lt_succ_self k), show (j : Int) + 1 = ((j + 1 : Nat) : Int) by omega, ← Int.natCast_mul]
    omega
  · rw [if_neg e, h l hln]
    have : (l < k) = (l < k + 1) := by apply propext; omega
    simp only [this]
theorem lp_two {n j k : Nat} {ys zs : List Int} (h : ∀ l, l ≤ n → nth zs l = (((if l < k + 1 then (j + 1) * lucky n j l else 0) + (if 1 ≤ l ∧ l ≤ k then (n - j) * lucky n j (l - 1) else 0) : Nat) : Int)) (hy : LTab n j ys) (hl : zs.length = n + 1) (hk : k < n) (hj : j < n) :
    LPart n j (k + 1) (zs.set (k + 1) (nth zs (k + 1) + ((n : Int) - ((j : Int) + 1) + 1) * nth ys k)) := fun l hln => by
  rw [nth_set (by omega)]
  by_cases e : k + 1 = l
  · subst e
    rw [if_pos rfl, h _ hln, hy k (by omega), if_neg (show ¬ (1 ≤ k + 1 ∧ k + 1 ≤ k) by omega), if_pos (show 1 ≤ k + 1 ∧ k + 1 ≤ k + 1 by omega), if_neg (Nat.lt_irrefl (k + 1)), Nat.add_sub_cancel]
    rw [show (n : Int) - ((j : Int) + 1) + 1 = ((n - j : Nat) : Int) by omega]
    simp only [Int.natCast_add, Int.natCast_mul]
    simp
  · rw [if_neg e, h l hln]
    have : (1 ≤ l ∧ l ≤ k) = (1 ≤ l ∧ l ≤ k + 1) := by apply propext; omega
    simp only [this]
theorem lp_skip {n j : Nat} {zs : List Int} (h : ∀ l, l ≤ n → nth zs l = (((if l < n + 1 then (j + 1) * lucky n j l else 0) + (if 1 ≤ l ∧ l ≤ n then (n - j) * lucky n j (l - 1) else 0) : Nat) : Int)) : LTab n (j + 1) zs := fun l hl => by
  rw [h l hl, if_pos (show l < n + 1 by omega)]
  cases l with
  | zero => rw [if_neg (show ¬ (1 ≤ 0 ∧ 0 ≤ n) by omega), lucky_zero]; simp [lucky]
  | succ l => rw [if_pos (show 1 ≤ l + 1 ∧ l + 1 ≤ n by omega)]; rfl
theorem lt_le {n j : Nat} {ys : List Int} (h : LTab n j ys) (h8 : n ≤ 8) (hj : j < n) {l : Nat} (hl : l ≤ n) : 0 ≤ nth ys l ∧ nth ys l ≤ 4782969 := by
  rw [h l hl]
  have := lucky_le n (by omega) j hj l (by omega)
  omega
theorem lp_le {n j k : Nat} {zs : List Int} (h : LPart n j k zs) (h8 : n ≤ 8) (hj : j < n) {l : Nat} (hl : l ≤ n) : 0 ≤ nth zs l ∧ nth zs l ≤ 100000000 := by
  rw [h l hl]
  have h1 := Nat.mul_le_mul (show j + 1 ≤ 8 by omega) (lucky_le n (by omega) j hj l (by omega))
  have h2 := Nat.mul_le_mul (show n - j ≤ 8 by omega) (lucky_le n (by omega) j hj (l - 1) (by omega))
  split <;> split <;> omega
theorem times_le {x y : Int} (h0 : 0 ≤ x) (h1 : x ≤ 8) (g0 : 0 ≤ y) (g1 : y ≤ 4782969) : 0 ≤ x * y ∧ x * y ≤ 38263752 := by
  refine ⟨Int.mul_nonneg h0 g0, ?_⟩
  have := Int.mul_le_mul h1 g1 g0 (by omega)
  omega
theorem ld_first {n j : Nat} {ys : List Int} (h : LTab n j ys) : LDown n j n ys := fun x hx => by rw [if_neg (by omega), h x hx]
theorem ld_step {n j l : Nat} {zs : List Int} (h : LDown n j (l + 1) zs) (hl : zs.length = n + 1) (hn : l + 1 ≤ n) (hj : j < n) :
    LDown n j l (zs.set (l + 1) (((j : Int) + 1) * nth zs (l + 1) + ((n : Int) - ((j : Int) + 1) + 1) * nth zs l)) := fun x hx => by
  rw [nth_set (by omega)]
  by_cases e : l + 1 = x
  · subst e
    rw [if_pos rfl, if_pos (by omega), h (l + 1) hn, h l (by omega), if_neg (by omega), if_neg (by omega)]
    rw [show (n : Int) - ((j : Int) + 1) + 1 = ((n - j : Nat) : Int) by omega, show (j : Int) + 1 = ((j + 1 : Nat) : Int) by omega, ← Int.natCast_mul, ← Int.natCast_mul, ← Int.natCast_add]
    rfl
  · rw [if_neg e, h x hx]
    have : (l + 1 < x) = (l < x) := by apply propext; omega
    simp only [this]
theorem ld_done {n j : Nat} {zs : List Int} (h : LDown n j 0 zs) : LTab n (j + 1) zs := fun x hx => by
  rw [h x hx]
  cases x with
  | zero => rw [if_neg (by omega), lucky_zero, lucky_zero]
  | succ x => rw [if_pos (by omega)]
theorem ld_le {n j l : Nat} {zs : List Int} (h : LDown n j l zs) (h8 : n ≤ 8) (hj : j + 1 < n) {x : Nat} (hx : x ≤ n) : 0 ≤ nth zs x ∧ nth zs x ≤ 4782969 := by
  rw [h x hx]
  have h1 := lucky_le n (by omega) j (by omega) x (by omega)
  have h2 := lucky_le n (by omega) (j + 1) (by omega) x (by omega)
  split <;> omega
theorem lt_list {n : Nat} {ys : List Int} (h : LTab n (n - 1) ys) (hl : ys.length = n + 1) : ((List.range (n + 1)).map fun (l : Nat) => (lucky n (n - 1) l : Int)) = ys := by
  refine ext_nth (by simp [hl]) fun i hi => ?_
  simp at hi
  rw [h i (by omega)]
  simp [nth, show i < n + 1 by omega]
theorem luckyOfN_yes {n : Nat} (h : inB (n : Int) 1 8 = true) : luckyOfN n = (((List.range (n + 1)).map fun (l : Nat) => (lucky n (n - 1) l : Int)), true) := by simp [luckyOfN, h]
theorem luckyOfN_no {n : Int} (h : ¬ inB n 1 8 = true) : luckyOfN n = ([], false) := by simp [luckyOfN, h]

set_option maxRecDepth 100000 in
set_option maxHeartbeats 4000000 in
theorem specLuckyN_any (n : Int) (w : World) : Calls Try.prog 44 #[.int .i64 n] w (PostInts w (luckyOfN n)) := by
  by_cases hg : inB n 1 8 = true
  · obtain ⟨m, rfl⟩ : ∃ m : Nat, n = (m : Int) := ⟨n.toNat, by have := inB_iff.1 hg; omega⟩
    have hm : 1 ≤ m ∧ m ≤ 8 := by have := inB_iff.1 hg; omega
    obtain ⟨hm1, hm8⟩ := hm
    have HA := hid (luckyOfN_yes hg)
    have HG := hid hg
    obtain ⟨K, hK1, hK2⟩ : ∃ K, K ≤ m + 1 ∧ m + 1 ≤ K := ⟨m + 1, by omega, by omega⟩
    have HREP : Hid (List.replicate K (0 : Int) = List.replicate (m + 1) 0) := hid (by rw [show K = m + 1 by omega])
    have HF := hid ((lt_first m).resolve_right (by omega))
    have hK0 : (1 : Int) < (K : Int) := by omega
    clear hg
    go_enter Try.func44, Try.ntmps44
    go_wp2_with (first | (go_at_call 69; refine (l1In_any _ _ _ _).mono ?_; rintro e w' ⟨rfl, rfl⟩; rw [HG.out]) | (at_make; refine wpList_make_ints _ rfl _ _ rfl K (congrArg (Value.int .i64) (by omega)) (congrArg (Value.int .i64) (by omega)) (by omega) ?_; intro a1 cap1 w1 hown1 hb1; obtain ⟨g1, rfl, hg1, hg2, hg3, hg4⟩ := hown1.opened (by omega); have hgk := hg3 1 (by omega); have hgf := hg4 1; clear hg3 hg4))
    obtain ⟨s1, s2⟩ := hown1.set 1 1
    rw [HREP.out] at s1
    have hb2 := hb1.setCell (p := ⟨g1, 1, none⟩) hg1 (.int .i64 1)
    clear hown1 hb1 s2 hgk hgf
    generalize w1.setCell ⟨g1, 1, none⟩ (.int .i64 1) = w2 at *
    go_loopw [4, 5] (fun o i wr => ∃ (j : Nat) (a' : Option Addr) (cap' : Nat) (ys : List Int), j + 1 ≤ m ∧ i = .int .i64 ((j : Int) + 1) ∧ o = .slice a' K cap' ∧ Own wr w.heap.size a' K cap' ys ∧ Hid (LTab m j ys) ∧ Below w.heap.size w wr) (fun _ i _ => m - (intOf i).toNat)
    case atStart => exact ⟨0, some ⟨g1, 0, none⟩, cap1, _, hm1, rfl, rfl, s1, HF, hb2⟩
    case round =>
      clear s1 HF hb2 hg1 hg2
      obtain ⟨j, a', cap', ys, hj, rfl, rfl, hown, HT, hb⟩ := hrel
      obtain ⟨wo, hwo⟩ : ∃ wo : World, wo = wr := ⟨_, rfl⟩
      subst hwo
      by_cases hlt : j + 1 < m
      · have hlt' : (j : Int) + 1 < (m : Int) := by omega
        have hsz := hb.size
        have HZ0 := hid (lp_first m j)
        clear hlt
        go_wp2_with (at_make; refine wpList_make_ints _ rfl _ _ rfl K (congrArg (Value.int .i64) (by omega)) (congrArg (Value.int .i64) (by omega)) (by omega) ?_; intro a2 cap2 w3 hown3 hb3)
        rw [HREP.out] at hown3
        go_loopw [27] (fun i wr => ∃ (k : Nat) (zs : List Int), k ≤ K ∧ i = .int .i64 (k : Int) ∧ Own wr wo.heap.size a2 K cap2 zs ∧ Hid (if k = K then LTab m (j + 1) zs else LPart m j k zs) ∧ Below wo.heap.size wo wr) (fun i _ => K - (intOf i).toNat)
        case atStart => exact ⟨0, _, Nat.zero_le _, rfl, hown3, hid (by rw [if_neg (by omega)]; exact HZ0.out), hb3⟩
        case round =>
          clear hown3 hb3 HZ0
          obtain ⟨k, zs, hk, rfl, hz, HZ, hb4⟩ := hrel
          by_cases hkK : k < K
          · have HP : Hid (LPart m j k zs) := hid (by have := HZ.out; rw [if_neg (by omega)] at this; exact this)
            obtain ⟨-, -, -, -, hy4⟩ := hown.has
            obtain ⟨b, off, rfl, hbb, hc⟩ := hy4 (by omega)
            have hck : wr.cell? ⟨b, off + k, none⟩ = some (.int .i64 (nth ys k)) := by rw [hb4.cell (p := ⟨b, off + k, none⟩) hbb]; exact hc k hkK
            obtain ⟨y0, y1⟩ := lt_le HT.out hm8 (by omega) (l := k) (by omega)
            obtain ⟨g2, rfl, hg1, hg2, hg3, hg4⟩ := hz.opened (by omega)
            have hgk := hg3 k (by omega)
            have hgf := hg4 k
            obtain ⟨z0, z1⟩ := lp_le HP.out hm8 (by omega) (l := k) (by omega)
            obtain ⟨p0, p1⟩ := times_le (x := (j : Int) + 1) (by omega) (by omega) y0 y1
            have HONE := hid (lp_one HP.out HT.out (by rw [hz.len]; omega) (by omega))
            obtain ⟨s1, s2⟩ := hz.set k (nth zs k + ((j : Int) + 1) * nth ys k)
            have hb5 := hb4.setCell (p := ⟨g2, k, none⟩) hg1 (.int .i64 (nth zs k + ((j : Int) + 1) * nth ys k))
            have hkK' : (k : Int) < (K : Int) := by omega
            have hbg : b ≠ g2 := by omega
            clear hc hy4
            by_cases hkm : k < m
            · have hgk1 : (wr.setCell ⟨g2, k, none⟩ (.int .i64 (nth zs k + ((j : Int) + 1) * nth ys k))).cell? ⟨g2, k + 1, none⟩ = some (.int .i64 (nth zs (k + 1))) := by
                rw [World.cell?_setCell_other _ _ _ _ (by intro hh; injection hh with _ h5 _; omega)]
                exact hg3 (k + 1) (by omega)
              have hgf1 := hg4 (k + 1)
              obtain ⟨z2, z3⟩ := lp_le HP.out hm8 (by omega) (l := k + 1) (by omega)
              obtain ⟨q0, q1⟩ := times_le (x := (m : Int) - ((j : Int) + 1) + 1) (by omega) (by omega) y0 y1
              have hnz : nth (zs.set k (nth zs k + ((j : Int) + 1) * nth ys k)) (k + 1) = nth zs (k + 1) := by rw [nth_set (by rw [hz.len]; omega), if_neg (by omega)]
              have HTWO := hid (lp_two HONE.out HT.out (by rw [List.length_set, hz.len]; omega) hkm (by omega))
              rw [hnz] at HTWO
              obtain ⟨s3, s4⟩ := s1.set (k + 1) (nth zs (k + 1) + ((m : Int) - ((j : Int) + 1) + 1) * nth ys k)
              have hb6 := hb5.setCell (p := ⟨g2, k + 1, none⟩) hg1 (.int .i64 (nth zs (k + 1) + ((m : Int) - ((j : Int) + 1) + 1) * nth ys k))
              clear hnz hg3 hg4 s1 s2 s4 hz
              go_wp2_with fail
              go_roundw
              case rel => exact ⟨k + 1, _, by omega, by go_num, s3, hid (by rw [if_neg (by omega)]; exact HTWO.out), hb6⟩
              case measure => simp [intOf]; omega
            · have hke : k = m := by omega
              have HT' : Hid (LTab m (j + 1) (zs.set k (nth zs k + ((j : Int) + 1) * nth ys k))) := hid (lp_skip (by have := HONE.out; rw [hke] at this ⊢; exact this))
              clear hke hg3 hg4 s2 hz
              go_wp2_with fail
              go_roundw
              case rel => exact ⟨k + 1, _, by omega, by go_num, s1, hid (by rw [if_pos (by omega)]; exact HT'.out), hb5⟩
              case measure => simp [intOf]; omega
          · have HT' : Hid (LTab m (j + 1) zs) := hid (by have := HZ.out; rw [if_pos (by omega)] at this; exact this)
            go_wp2_with fail
            go_roundw
            case rel => exact ⟨j + 1, a2, cap2, zs, by omega, by go_num, rfl, hz.mono hsz, HT', hb.trans (hb4.mono hsz)⟩
            case measure => simp [intOf]; omega
      · have hje : m - 1 = j := by omega
        have HL : Hid (((List.range (m + 1)).map fun (l : Nat) => (lucky m (m - 1) l : Int)) = ys) := hid (lt_list (by rw [hje]; exact HT.out) (by rw [hown.len]; omega))
        have hlt' : ¬ (j : Int) + 1 < (m : Int) := by omega
        clear hje hlt
        go_wp2_with fail
        go_ret2
        exact postInts (by rw [HA.out, HL.out]) hown hb
  · have HA := hid (luckyOfN_no hg)
    have HG := hid hg
    clear hg
    go_enter Try.func44, Try.ntmps44
    go_wp2_with (go_at_call 69; refine (l1In_any _ _ _ _).mono ?_; rintro e w' ⟨rfl, rfl⟩; rw [Bool.eq_false_iff.2 HG.out])
    go_ret2
    exact postInts_no HA.out (Below.refl _ _)

set_option maxRecDepth 100000 in
set_option maxHeartbeats 4000000 in
theorem countByLucky_any (n : Int) (w : World) : Calls Try.prog 43 #[.int .i64 n] w (PostInts w (luckyOfN n)) := by
  by_cases h1 : 1 ≤ n
  · by_cases h2 : n ≤ 8
    · obtain ⟨m, rfl⟩ : ∃ m : Nat, n = (m : Int) := ⟨n.toNat, by omega⟩
      have hm1 : 1 ≤ m := by omega
      have hm8 : m ≤ 8 := by omega
      have HA := hid (luckyOfN_yes (inB_iff.2 ⟨h1, h2⟩))
      obtain ⟨K, hK1, hK2⟩ : ∃ K, K ≤ m + 1 ∧ m + 1 ≤ K := ⟨m + 1, by omega, by omega⟩
      have HREP : Hid (List.replicate K (0 : Int) = List.replicate (m + 1) 0) := hid (by rw [show K = m + 1 by omega])
      have HF := hid ((lt_first m).resolve_right (by omega))
      have hK0 : (1 : Int) < (K : Int) := by omega
      go_enter Try.func43, Try.ntmps43
      go_wp2_with (at_make; refine wpList_make_ints _ rfl _ _ rfl K (congrArg (Value.int .i64) (by omega)) (congrArg (Value.int .i64) (by omega)) (by omega) ?_; intro a1 cap1 w1 hown1 hb1; obtain ⟨g1, rfl, hg1, hg2, hg3, hg4⟩ := hown1.opened (by omega); have hgk := hg3 1 (by omega); have hgf := hg4 1; clear hg3 hg4)
      obtain ⟨s1, s2⟩ := hown1.set 1 1
      rw [HREP.out] at s1
      have hb2 := hb1.setCell (p := ⟨g1, 1, none⟩) hg1 (.int .i64 1)
      clear hown1 hb1 s2 hgk hgf
      generalize w1.setCell ⟨g1, 1, none⟩ (.int .i64 1) = w2 at *
      go_loopw [5] (fun i wr => ∃ (j : Nat) (ys : List Int), j + 1 ≤ m ∧ i = .int .i64 ((j : Int) + 1) ∧ Own wr w.heap.size (some ⟨g1, 0, none⟩) K cap1 ys ∧ Hid (LTab m j ys) ∧ Below w.heap.size w wr) (fun i _ => m - (intOf i).toNat)
      case atStart => exact ⟨0, _, hm1, rfl, s1, HF, hb2⟩
      case round =>
        clear s1 HF hb2
        obtain ⟨j, ys, hj, rfl, hown, HT, hb⟩ := hrel
        obtain ⟨wo, hwo⟩ : ∃ wo : World, wo = wr := ⟨_, rfl⟩
        subst hwo
        by_cases hlt : j + 1 < m
        · have hlt' : (j : Int) + 1 < (m : Int) := by omega
          have HD0 := hid (ld_first HT.out)
          go_wp2_with fail
          go_loopw [6] (fun i wr => ∃ (l : Nat) (zs : List Int), l ≤ m ∧ i = .int .i64 (l : Int) ∧ Own wr w.heap.size (some ⟨g1, 0, none⟩) K cap1 zs ∧ Hid (LDown m j l zs) ∧ Below w.heap.size w wr) (fun i _ => (intOf i).toNat)
          case atStart => exact ⟨m, ys, Nat.le_refl _, rfl, hown, HD0, hb⟩
          case round =>
            clear hown hb HD0
            obtain ⟨l, zs, hl, rfl, hz, HD, hb4⟩ := hrel
            match l, hl, HD with
            | 0, hl, HD =>
              have HT' := hid (ld_done HD.out)
              go_wp2_with fail
              go_roundw
              case rel => exact ⟨j + 1, zs, by omega, by go_num, hz, HT', hb4⟩
              case measure => simp [intOf]; omega
            | l + 1, hl, HD =>
              obtain ⟨g', hga, hg1, hg2, hg3, hg4⟩ := hz.opened (by omega)
              cases hga
              have hgk := hg3 (l + 1) (by omega)
              have hgk0 := hg3 l (by omega)
              have hgf := hg4 (l + 1)
              obtain ⟨y0, y1⟩ := ld_le HD.out hm8 hlt (x := l + 1) (by omega)
              obtain ⟨z0, z1⟩ := ld_le HD.out hm8 hlt (x := l) (by omega)
              obtain ⟨p0, p1⟩ := times_le (x := (j : Int) + 1) (by omega) (by omega) y0 y1
              obtain ⟨q0, q1⟩ := times_le (x := (m : Int) - ((j : Int) + 1) + 1) (by omega) (by omega) z0 z1
              have HD' := hid (ld_step HD.out (by rw [hz.len]; omega) hl (by omega))
              obtain ⟨s1, s2⟩ := hz.set (l + 1) (((j : Int) + 1) * nth zs (l + 1) + ((m : Int) - ((j : Int) + 1) + 1) * nth zs l)
              have hb5 := hb4.setCell (p := ⟨g1, l + 1, none⟩) hg1 (.int .i64 (((j : Int) + 1) * nth zs (l + 1) + ((m : Int) - ((j : Int) + 1) + 1) * nth zs l))
              have e1 : ((l + 1 : Nat) : Int) = (l : Int) + 1 := by omega
              rw [e1]
              clear hg3 hg4 s2 hz e1
              go_wp2_with fail
              have v1 : IntKind.i64.wrap (((j : Int) + 1) * nth zs (l + 1)) = ((j : Int) + 1) * nth zs (l + 1) := IntWalk.i64_in _ (by omega)
              have v2 : IntKind.i64.wrap ((m : Int) - ((j : Int) + 1)) = (m : Int) - ((j : Int) + 1) := IntWalk.i64_in _ (by omega)
              have v3 : IntKind.i64.wrap ((m : Int) - ((j : Int) + 1) + 1) = (m : Int) - ((j : Int) + 1) + 1 := IntWalk.i64_in _ (by omega)
              have v4 : IntKind.i64.wrap (l : Int) = (l : Int) := IntWalk.i64_in _ (by omega)
              have v5 : IntKind.i64.wrap (((m : Int) - ((j : Int) + 1) + 1) * nth zs l) = ((m : Int) - ((j : Int) + 1) + 1) * nth zs l := IntWalk.i64_in _ (by omega)
              have v6 : IntKind.i64.wrap (((j : Int) + 1) * nth zs (l + 1) + ((m : Int) - ((j : Int) + 1) + 1) * nth zs l) = ((j : Int) + 1) * nth zs (l + 1) + ((m : Int) - ((j : Int) + 1) + 1) * nth zs l := IntWalk.i64_in _ (by omega)
              have v7 : (l : Int) + 1 < (K : Int) := by omega
              have v8 : (0 : Int) ≤ (l : Int) + 1 := by omega
              have v9 : ((l : Int) + 1).toNat = l + 1 := by omega
              have v10 : (l : Int) < (K : Int) := by omega
              go_still_tail 20, (by kernel_rfl)
              clear v1 v2 v3 v4 v5 v6 v7 v8 v9 v10
              change wpList _ _ _ _ _ wr.drew
              go_wp2_with fail
              go_roundw
              case rel => exact ⟨l, _, by omega, by go_num, s1, HD', hb5.drew⟩
              case measure => simp [intOf]
        · have hje : m - 1 = j := by omega
          have HL : Hid (((List.range (m + 1)).map fun (l : Nat) => (lucky m (m - 1) l : Int)) = ys) := hid (lt_list (by rw [hje]; exact HT.out) (by rw [hown.len]; omega))
          have hlt' : ¬ (j : Int) + 1 < (m : Int) := by omega
          clear hje hlt
          go_wp2_with fail
          go_ret2
          exact postInts (by rw [HA.out, HL.out]) hown hb
    · have HA := hid (luckyOfN_no (n := n) (by rw [Bool.not_eq_true, inB_not]; omega))
      go_enter Try.func43, Try.ntmps43
      go_wp2_with fail
      go_ret2
      exact postInts_no HA.out (Below.refl _ _)
  · have HA := hid (luckyOfN_no (n := n) (by rw [Bool.not_eq_true, inB_not]; omega))
    go_enter Try.func43, Try.ntmps43
    go_wp2_with fail
    go_ret2
    exact postInts_no HA.out (Below.refl _ _)
end Go.Proofs.Ytabhhmnilidppab

namespace Go.Proofs.Ytabhhmnilidppab
open Go.RowKit

/-- Whether the bytes are too many. -/
def Big (n m : Nat) (w : World) (e : Ending) (w' : World) : Prop := ∃ r : Bool, e = .returned (.bool r) ∧ (r = false → n + m ≤ 1048576) ∧ w = w'

theorem big_any (a b : Option Addr) (n m cap cap' : Nat) (w : World) (hn : n ≤ 9223372036854775807) :
    Calls Try.prog 26 #[.slice a n cap, .slice b m cap'] w (Big n m w) := by
  by_cases h1 : (1048576 : Int) < (n : Int)
  · go_enter Try.func26, Try.ntmps26
    go_wp2_with fail
    go_ret
    exact ⟨true, ret_bool (by simp), by simp, rfl⟩
  · by_cases h2 : (1048576 : Int) - n < (m : Int)
    · go_enter Try.func26, Try.ntmps26
      go_wp2_with fail
      go_ret
      exact ⟨true, ret_bool (by simp), by simp, rfl⟩
    · go_enter Try.func26, Try.ntmps26
      go_wp2_with fail
      go_ret
      exact ⟨false, ret_bool (by simp), fun _ => by omega, rfl⟩

set_option maxHeartbeats 400000 in
theorem numberOf_any (a : Option Addr) (n cap K : Nat) (w : World) (h : HasB w a n K) :
    Calls Try.prog 39 #[.slice a n cap] w fun e w' => ∃ v : Int, e = .returned (.int .i64 v) ∧ 0 ≤ v ∧ v ≤ 1000002 ∧ w = w' := by
  obtain ⟨hn, h4⟩ := h
  go_enter Try.func39, Try.ntmps39
  go_wp2_with fail
  go_loop [3, 8] (fun c i => ∃ (k : Nat) (v : Int), k ≤ n ∧ i = .int .i64 k ∧ c = .int .i64 v ∧ 0 ≤ v ∧ v ≤ 1000002) (fun _ i => n - (intOf i).toNat)
  case atStart => exact ⟨0, 0, Nat.zero_le _, rfl, rfl, by omega, by omega⟩
  case round =>
    obtain ⟨k, v, hk, rfl, rfl, v0, v1⟩ := hrel
    by_cases hlt : k < n
    · obtain ⟨b, off, rfl, hb, hc⟩ := h4 (by omega)
      obtain ⟨u, u0, u1, hck⟩ := hc k hlt
      clear hc h4
      have m0 : 0 ≤ (31 * v + u) % 1000003 := Int.emod_nonneg _ (by omega)
      have m1 : (31 * v + u) % 1000003 ≤ 1000002 := by omega
      go_wp2_with fail
      go_round
      case rel => exact ⟨k + 1, (31 * v + u) % 1000003, by omega, by go_num, rfl, m0, m1⟩
      case measure => simp [intOf]; omega
    · go_wp2_with fail
      go_ret
      exact ⟨v, rfl, v0, v1, rfl⟩

set_option maxHeartbeats 400000 in
theorem jSum_any (a : Option Addr) (n cap : Nat) (ys : List Int) (w : World) (h : Has w a n cap ys) (hs : Small ys) :
    Calls Try.prog 45 #[.slice a n cap] w fun e w' => e = .returned (.int .i64 (total ys)) ∧ w = w' := by
  obtain ⟨h0, h1, h2, h3, h4⟩ := h
  go_enter Try.func45, Try.ntmps45
  go_wp2_with fail
  go_loop [3, 8] (fun c i => ∃ k : Nat, k ≤ n ∧ i = .int .i64 k ∧ c = .int .i64 (total (ys.take k))) (fun _ i => n - (intOf i).toNat)
  case atStart => exact ⟨0, Nat.zero_le _, rfl, rfl⟩
  case round =>
    obtain ⟨k, hk, rfl, rfl⟩ := hrel
    by_cases hlt : k < n
    · obtain ⟨b, off, rfl, hb, hc⟩ := h4 (by omega)
      have hck := hc k hlt
      have ht := total_bounds hs k (by omega)
      obtain ⟨hv0, hv1⟩ := hs k (by omega)
      have HS := hid (total_succ (xs := ys) (k := k) (by omega))
      clear hc h4 hs
      go_wp2_with fail
      go_round
      case rel => exact ⟨k + 1, by omega, by go_num, by rw [HS.out]⟩
      case measure => simp [intOf]; omega
    · obtain rfl : k = n := by omega
      go_wp2_with fail
      go_ret
      exact ⟨ret_int (by rw [List.take_of_length_le (by omega)]), rfl⟩

set_option maxHeartbeats 400000 in
theorem jSame_any (a b : Option Addr) (n m cap cap' : Nat) (xs ys : List Int) (w : World) (h : Has w a n cap xs) (h' : Has w b m cap' ys) :
    Calls Try.prog 32 #[.slice a n cap, .slice b m cap'] w fun e w' => e = .returned (.bool (same xs ys)) ∧ Quiet w w' := by
  obtain ⟨h0, h1, h2, h3, h4⟩ := h
  obtain ⟨k0, k1, k2, k3, k4⟩ := h'
  by_cases hnm : n = m
  · have hb : ((n : Int) != (m : Int)) = false := by simp [hnm]
    subst hnm
    go_enter Try.func32, Try.ntmps32
    go_wp2_with fail
    go_loopw [13] (fun i wr => ∃ k : Nat, k ≤ n ∧ i = .int .i64 k ∧ FromTo xs ys k ∧ Quiet w wr) (fun i _ => n - (intOf i).toNat)
    case atStart => exact ⟨0, Nat.zero_le _, rfl, fun i hi => by omega, ⟨0, rfl⟩⟩
    case round =>
      obtain ⟨k, hk, rfl, hft, q, hq⟩ := hrel
      subst hq
      by_cases hlt : k < n
      · obtain ⟨b1, off1, rfl, hb1, hc1⟩ := h4 (by omega)
        obtain ⟨b2, off2, rfl, hb2, hc2⟩ := k4 (by omega)
        have hck := hc1 k hlt
        have hdk := hc2 k hlt
        have hkk : (k : Int) < (n : Int) := by omega
        have hkz : (0 : Int) ≤ (k : Int) := by omega
        clear hc1 hc2 h4 k4
        by_cases he : nth xs k = nth ys k
        · have hbe : (nth xs k != nth ys k) = false := by simp [he]
          have HE := hid he
          clear he
          go_wp2_with fail
          go_quiet (fail)
          go_wp2_with fail
          go_roundw
          case rel => exact ⟨k + 1, by omega, by go_num, fun i hi => by rcases Nat.lt_succ_iff_lt_or_eq.1 hi with h | rfl; exact hft i h; exact HE.out.symm, ⟨_, rfl⟩⟩
          case measure => simp [intOf]; omega
        · have hbe : (nth xs k != nth ys k) = true := by simp [he]
          have HE := hid he
          clear he
          go_wp2_with fail
          go_quiet (fail)
          go_wp2_with fail
          go_ret
          exact ⟨ret_bool (same_no HE.out).symm, (Quiet.more ⟨_, rfl⟩ _)⟩
      · obtain rfl : k = n := by omega
        go_wp2_with fail
        go_ret
        exact ⟨ret_bool (same_yes (by omega) (by rw [h0]; exact hft)).symm, ⟨_, rfl⟩⟩
  · have hb : ((n : Int) != (m : Int)) = true := by simp; omega
    go_enter Try.func32, Try.ntmps32
    go_wp2_with fail
    go_ret
    exact ⟨ret_bool (show false = same xs ys from by unfold same; symm; rw [decide_eq_false_iff_not]; rintro rfl; omega), ⟨0, rfl⟩⟩

set_option maxHeartbeats 800000 in
theorem jSwapped_any (a : Option Addr) (n cap : Nat) (xs : List Int) (i : Nat) (w : World) (h : Has w a n cap xs) (hi : i + 1 < n) :
    Calls Try.prog 57 #[.slice a n cap, .int .i64 i] w fun e w' => ∃ a' cap', e = .returned (.slice a' n cap') ∧ Own w' w.heap.size a' n cap' (swapped xs i) ∧ Below w.heap.size w w' := by
  have hle := h.le
  have hb0 : Below w.heap.size w (w.alloc (.cells #[] 3)) := (Below.refl _ _).alloc (Nat.le_refl _) _
  go_enter Try.func57, Try.ntmps57
  go_wp2_with (at_builtin; refine wpList_append_ints _ rfl _ _ rfl w.heap.size _ _ _ _ _ _ [] xs rfl rfl (own_lit0 w _ (Nat.le_refl _)) (h.below hb0 (Nat.le_refl _)) (by omega) (by simp) ?_; intro a2 n2 cap2 w2 hn2 hown2 hb2)
  obtain rfl : n2 = n := by omega
  simp only [List.nil_append] at hown2
  clear hn2
  obtain ⟨g, rfl, hg, hgl, hc, hf⟩ := hown2.opened (by omega)
  have hci := hc i (by omega)
  have hcj := hc (i + 1) (by omega)
  have hfi := hf i
  have hfj := hf (i + 1)
  have HO := hid hown2
  have hi1 : (i : Int) + 1 < (n2 : Int) := by omega
  have hi2 : (i : Int) < (n2 : Int) := by omega
  clear hc hf hown2
  go_wp2_with fail
  go_quiet (fail)
  go_wp2_with fail
  go_ret
  obtain ⟨s1, s2⟩ := HO.out.set i (nth xs (i + 1))
  obtain ⟨s3, s4⟩ := s1.set (i + 1) (nth xs i)
  exact ⟨_, _, rfl, s3, (hb0.trans hb2).trans (((((Quiet.rfl' w2).more nq).below w.heap.size).setCell (p := ⟨g, i, none⟩) (by simpa using hg) _).setCell (p := ⟨g, i + 1, none⟩) (by simpa using hg) _)⟩
end Go.Proofs.Ytabhhmnilidppab

namespace Go.Proofs.Ytabhhmnilidppab
open Go.RowKit

theorem count_yesC {n : Nat} (h8 : n ≤ 8) : countOf (n : Int) = ((cnt n : Int), true) := by
  have h1 : inB (n : Int) 0 8 = true := inB_iff.2 ⟨by omega, by omega⟩
  simp [countOf, h1]
set_option maxHeartbeats 400000 in
theorem jSum_sums (a : Option Addr) (n cap : Nat) (ys : List Int) (w : World) (h : Has w a n cap ys) (hs : Hid (∀ i, i < ys.length → 0 ≤ nth ys i ∧ nth ys i ≤ 5000000)) (h12 : n ≤ 12) :
    Calls Try.prog 45 #[.slice a n cap] w fun e w' => e = .returned (.int .i64 (total ys)) ∧ w = w' := by
  obtain ⟨h0, h1, h2, h3, h4⟩ := h
  go_enter Try.func45, Try.ntmps45
  go_wp2_with fail
  go_loop [3, 8] (fun c i => ∃ k : Nat, k ≤ n ∧ i = .int .i64 k ∧ c = .int .i64 (total (ys.take k))) (fun _ i => n - (intOf i).toNat)
  case atStart => exact ⟨0, Nat.zero_le _, rfl, rfl⟩
  case round =>
    obtain ⟨k, hk, rfl, rfl⟩ := hrel
    by_cases hlt : k < n
    · obtain ⟨b, off, rfl, hb, hc⟩ := h4 (by omega)
      have hck := hc k hlt
      have ht := sums_bounds hs.out k (by omega)
      obtain ⟨hv0, hv1⟩ := hs.out k (by omega)
      have HS := hid (total_succ (xs := ys) (k := k) (by omega))
      clear hc h4
      go_wp2_with fail
      go_round
      case rel => exact ⟨k + 1, by omega, by go_num, by rw [HS.out]⟩
      case measure => simp [intOf]; omega
    · obtain rfl : k = n := by omega
      go_wp2_with fail
      go_ret
      exact ⟨ret_int (by rw [List.take_of_length_le (by omega)]), rfl⟩
theorem count_row {w : World} {b off q cap n : Nat} {rs : List Rw} (R : HasR w (some ⟨b, off, none⟩) q cap rs) (h5 : n ≤ 5) (h1 : 1 ≤ n) (hn : numsOf rs = listL n n []) {k : Nat} (hk : k < q) :
    ∃ ak mk ck, w.cell? ⟨b, off + k, none⟩ = some (.slice ak mk ck) ∧ Has w ak mk ck (nthR rs k).xs ∧ ∃ ls, luckyOf (nthR rs k).xs (n : Int) = (ls, true) ∧ ls.length ≤ n ∧ tally n (k + 1) = (tally n k).set ls.length (nth (tally n k) ls.length + 1) := by
  obtain ⟨r0, r1, r2, r3, r4, r5⟩ := R
  obtain ⟨b', off', e, _, hc⟩ := r4 (by omega)
  simp at e
  obtain ⟨rfl, rfl⟩ := e
  have h3 := hc k hk
  have h4 := r5 k hk
  unfold Rw.v at h3
  have hl : (numsOf rs).length = q := by simp [numsOf, r0]
  have e1 : (numsOf rs)[k]? = some (nthR rs k).xs := map_nthR Rw.xs (by omega)
  obtain ⟨_, _, _, hp⟩ := all_chain (n := n) (by omega)
  obtain ⟨p1, p2⟩ := hp k (by rw [← hn, hl]; exact hk)
  have hts := tally_succ (n := n) (k := k) (by rw [← hn, hl]; exact hk)
  have e2 : (listL n n []).getD k [] = (nthR rs k).xs := by rw [← hn, List.getD_eq_getElem?_getD, e1]; rfl
  rw [e2] at p1 p2 hts
  obtain ⟨ls, f1, f2, f3⟩ := lucks_list p1 p2 h1
  rw [← f2] at hts f3
  exact ⟨_, _, _, h3, h4, ls, f1, f3, hts⟩
theorem count_all {rs : List Rw} {q n : Nat} (h0 : rs.length = q) (h5 : n ≤ 5) (hn : numsOf rs = listL n n []) : q = cnt n ∧ q = (listL n n []).length := by
  obtain ⟨_, _, h, _⟩ := all_chain (n := n) (by omega)
  have hl : (numsOf rs).length = q := by simp [numsOf, h0]
  rw [hn] at hl
  exact ⟨by omega, hl.symm⟩

set_option maxRecDepth 100000 in
set_option maxHeartbeats 16000000 in
theorem counts_walk (a b : Option Addr) (n m cap cap' : Nat) (w : World) (hn : n ≤ maxLen) (h : n ≤ 1048576 → HasB w a n w.heap.size) (h' : m ≤ 1048576 → HasB w b m w.heap.size) :
    Calls Try.prog 8 #[.slice a n cap, .slice b m cap'] w (Holds w) := by
  have H1 := hid h
  have H2 := hid h'
  have HN := hid hn
  clear h h' hn
  have hB : Below w.heap.size w w := Below.refl _ _
  go_enter Try.func8, Try.ntmps8
  go_wp2_with fail
  refine (big_any _ _ _ _ _ _ _ (by have := HN.out; unfold maxLen at this; omega)).mono ?_
  rintro e _ ⟨r, rfl, hr, rfl⟩
  have HR := hid hr
  clear hr
  cases r with
  | true =>
    go_wp2_with fail
    go_ret
    exact ⟨rfl, hB⟩
  | false =>
    have hnm := HR.out rfl
    clear HR
    have HA := hid (H1.out (by omega))
    have HM := hid (H2.out (by omega))
    clear H1 H2 HN
    go_wp2_with fail
    refine (drawCountByFirst_any _ _ _ _ HA.out).mono ?_
    rintro e v1 ⟨nn, rfl, n0, n1, st⟩
    replace hB := hB.trans (st.mono hB.size)
    clear st
    by_cases hN8 : inB nn 1 8 = true
    · skip
      obtain ⟨k, rfl⟩ : ∃ k : Nat, nn = (k : Int) := ⟨nn.toNat, by have := (inB_iff.1 hN8).1; omega⟩
      have hk8 : k ≤ 8 := by have := (inB_iff.1 hN8).2; omega
      have hk1 : 1 ≤ k := by have := (inB_iff.1 hN8).1; omega
      obtain ⟨f1, f2, f3⟩ := first_fact k (by omega) hk1
      obtain ⟨l1, l2⟩ := lucky_fact k (by omega) hk1
      have hfl : (firstsC k).length = k := by simp [firstsC]
      have hll : (luckysC k).length = k + 1 := by simp [luckysC]
      have HF : Hid (firstOf (k : Int) = (firstsC k, true)) := hid (by simp [firstOf, hN8, firstsC])
      have HL : Hid (luckyOfN (k : Int) = (luckysC k, true)) := hid (luckyOfN_yes hN8)
      have HC : Hid (countOf (k : Int) = ((cnt k : Int), true)) := hid (count_yesC hk8)
      obtain ⟨fs, hfs⟩ : ∃ fs, firstsC k = fs := ⟨_, rfl⟩
      obtain ⟨ls, hls⟩ : ∃ ls, luckysC k = ls := ⟨_, rfl⟩
      obtain ⟨c, hc⟩ : ∃ c, cnt k = c := ⟨_, rfl⟩
      rw [hfs] at f1 f2 f3 hfl HF
      rw [hls] at l1 l2 hll HL
      rw [hc] at f1 l1 HC
      have HF1 := hid f1
      have HF2 := hid f2
      have HF3 := hid f3
      have HL1 := hid l1
      have HL2 := hid l2
      have HFL := hid hfl
      have HLL := hid hll
      have hne := neq_self_int (c : Int)
      clear f1 f2 f3 l1 l2 hfl hll hfs hls hc hN8 n0 n1
      go_wp2_with fail
      refine (countByFirst_any _ _).mono ?_
      rw [HF.out]
      rintro e v2 ⟨a_l, n_l, c_l, rfl, o_l, st⟩
      replace hB := hB.trans (st.mono hB.size)
      clear st
      go_wp2_with fail
      refine (specFirst_any _ _).mono ?_
      rw [HF.out]
      rintro e v3 ⟨a_r, n_r, c_r, rfl, o_r, st⟩
      replace o_l := o_l.below st (Nat.le_refl _)
      replace hB := hB.trans (st.mono hB.size)
      clear st
      go_wp2_with fail
      refine (countByLucky_any _ _).mono ?_
      rw [HL.out]
      rintro e v4 ⟨a_x, n_x, c_x, rfl, o_x, st⟩
      replace o_l := o_l.below st (Nat.le_refl _)
      replace o_r := o_r.below st (Nat.le_refl _)
      replace hB := hB.trans (st.mono hB.size)
      clear st
      go_wp2_with fail
      refine (specLuckyN_any _ _).mono ?_
      rw [HL.out]
      rintro e v5 ⟨a_y, n_y, c_y, rfl, o_y, st⟩
      replace o_l := o_l.below st (Nat.le_refl _)
      replace o_r := o_r.below st (Nat.le_refl _)
      replace o_x := o_x.below st (Nat.le_refl _)
      replace hB := hB.trans (st.mono hB.size)
      clear st
      go_wp2_with fail
      refine (countParking_any _ _).mono ?_
      rw [HC.out]
      rintro e v6 ⟨rfl, st⟩
      replace o_l := o_l.below st (Nat.le_refl _)
      replace o_r := o_r.below st (Nat.le_refl _)
      replace o_x := o_x.below st (Nat.le_refl _)
      replace o_y := o_y.below st (Nat.le_refl _)
      replace hB := hB.trans (st.mono hB.size)
      clear st
      go_wp2_with fail
      refine (jSame_any _ _ _ _ _ _ _ _ _ o_l.has o_r.has).mono ?_
      rintro e v7 ⟨rfl, q⟩
      have st : Below v6.heap.size v6 v7 := q.below _
      replace o_l := o_l.below st (Nat.le_refl _)
      replace o_r := o_r.below st (Nat.le_refl _)
      replace o_x := o_x.below st (Nat.le_refl _)
      replace o_y := o_y.below st (Nat.le_refl _)
      replace hB := hB.trans (st.mono hB.size)
      clear st
      clear q
      rw [same_self]
      clear o_r
      go_wp2_with fail
      refine (jSame_any _ _ _ _ _ _ _ _ _ o_x.has o_y.has).mono ?_
      rintro e v8 ⟨rfl, q⟩
      have st : Below v7.heap.size v7 v8 := q.below _
      replace o_l := o_l.below st (Nat.le_refl _)
      replace o_x := o_x.below st (Nat.le_refl _)
      replace o_y := o_y.below st (Nat.le_refl _)
      replace hB := hB.trans (st.mono hB.size)
      clear st
      clear q
      rw [same_self]
      clear o_y
      obtain rfl : k = n_l := by rw [← HFL.out]; exact o_l.len
      have hnx : n_x ≤ 12 := by rw [← o_x.len, HLL.out]; omega
      have hnl : k ≤ 12 := by omega
      go_wp2_with fail
      refine (jSum_sums _ _ _ _ _ o_l.has HF2 hnl).mono ?_
      rw [HF1.out]
      rintro e _ ⟨rfl, rfl⟩
      go_wp2_with fail
      refine (jSum_sums _ _ _ _ _ o_x.has HL2 hnx).mono ?_
      rw [HL1.out]
      rintro e _ ⟨rfl, rfl⟩
      clear o_x
      obtain ⟨bl, offl, rfl, hbl, hcl⟩ := o_l.has.2.2.2.2 (by omega)
      have HCL := hid hcl
      clear hcl
      go_wp2_with fail
      go_loopw [16] (fun i wr => ∃ j : Nat, j < k ∧ i = .int .i64 ((j : Int) + 1) ∧ Quiet v8 wr) (fun i _ => k - (intOf i).toNat)
      case atStart => exact ⟨0, by omega, rfl, ⟨0, rfl⟩⟩
      case round =>
        obtain ⟨wo, rfl⟩ : ∃ wo : World, wo = wr := ⟨_, rfl⟩
        obtain ⟨j, hj, rfl, hq⟩ := hrel
        have hV := hq
        have st : Below v8.heap.size v8 wo := hq.below _
        have HCW : Hid (∀ i, i < k → wo.cell? ⟨bl, offl + i, none⟩ = some (.int .i64 (nth fs i))) := hid (fun i hi => by rw [st.cell (p := ⟨bl, offl + i, none⟩) hbl]; exact HCL.out i hi)
        replace o_l := o_l.below st (Nat.le_refl _)
        replace hB := hB.trans (st.mono hB.size)
        clear st
        by_cases hlt : j + 1 < k
        · skip
          have c1 := HCW.out j (by omega)
          have c2 := HCW.out (j + 1) (by omega)
          have c3 := HF3.out j (by omega) (by omega)
          have e1 : ((j : Int) + 1).toNat = j + 1 := by omega
          have e2 : (j : Int) + 1 < (k : Int) := by omega
          have e3 : (0 : Int) ≤ (j : Int) + 1 := by omega
          have e4 : IntKind.i64.wrap ((j : Int) + 1 - 1) = (j : Int) := by rw [IntKind.wrap_i64]; omega
          have e5 : decide (nth fs j < nth fs (j + 1)) = false := by simp; omega
          have e6 : (0 : Int) ≤ (j : Int) := by omega
          have e7 : (j : Int) < (k : Int) := by omega
          have e8 : ((j : Int)).toNat = j := by omega
          go_wp2_with fail
          go_quiet (fail)
          go_wp2_with fail
          go_roundw
          case rel => exact ⟨j + 1, by omega, by go_num, hV.more _⟩
          case measure => simp [intOf] <;> omega
        · skip
          clear o_l
          go_wp2_with fail
          refine (drawCountByDistance_any b m cap' _ (HM.out.grow hB (Nat.le_refl _))).mono ?_
          rintro e v9 ⟨mm, rfl, m0, m1, st⟩
          replace hB := hB.trans (st.mono hB.size)
          clear st
          by_cases hM : inB mm 0 5 = true
          · skip
            obtain ⟨j, rfl⟩ : ∃ j : Nat, mm = (j : Int) := ⟨mm.toNat, by have := (inB_iff.1 hM).1; omega⟩
            have hj5 : j ≤ 5 := by have := (inB_iff.1 hM).2; omega
            have HAL := hid (allOf_yes hM)
            have HD := hid (distOfN_yes hM)
            obtain ⟨d1, d2, d3⟩ := dist_total j (by omega)
            obtain ⟨ds, hds⟩ : ∃ ds, distCounts j = ds := ⟨_, rfl⟩
            rw [hds] at d1 d2 d3 HD
            have HDT := hid d1
            have HDL := hid d2
            have HDS := hid d3
            clear hM m0 m1 hds d1 d2 d3
            go_wp2_with fail
            refine (countByDistance_any _ _).mono ?_
            rw [HD.out]
            rintro e v10 ⟨a_f, n_f, c_f, rfl, o_f, st⟩
            replace hB := hB.trans (st.mono hB.size)
            clear st
            go_wp2_with fail
            refine (specDist_any _ _).mono ?_
            rw [HD.out]
            rintro e v11 ⟨a_e, n_e, c_e, rfl, o_e, st⟩
            replace o_f := o_f.below st (Nat.le_refl _)
            replace hB := hB.trans (st.mono hB.size)
            clear st
            go_wp2_with fail
            refine (jSame_any _ _ _ _ _ _ _ _ _ o_f.has o_e.has).mono ?_
            rintro e v12 ⟨rfl, q⟩
            have st : Below v11.heap.size v11 v12 := q.below _
            replace o_f := o_f.below st (Nat.le_refl _)
            replace o_e := o_e.below st (Nat.le_refl _)
            replace hB := hB.trans (st.mono hB.size)
            clear st
            clear q
            rw [same_self]
            clear o_e
            go_wp2_with fail
            refine (allParking_any _ _).mono ?_
            rw [HAL.out]
            rintro e v13 ⟨a_g, n_g, c_g, rs, rfl, R_g, hng, st⟩
            replace o_f := o_f.below st (Nat.le_refl _)
            replace hB := hB.trans (st.mono hB.size)
            clear st
            obtain ⟨hq1, hq2⟩ := count_all R_g.len hj5 hng
            have HQ1 := hid hq1
            have HQ2 := hid hq2
            have HNG := hid hng
            clear hng hq1 hq2
            have hnf : n_f ≤ 12 := by rw [← o_f.len]; exact HDL.out
            have HDT2 : Hid (total ds = (n_g : Int)) := hid (by rw [HDT.out, HQ1.out])
            have hne0 := neq_self_int (n_g : Int)
            have hgk : n_g ≤ 1048576 := R_g.has.2.2.2.1
            have hg1 : 1 ≤ n_g := by rw [HQ1.out]; exact (cnt_le (n := j) (by omega)).1
            have hg2 : n_g ≤ 1296 := by rw [HQ1.out]; exact cnt_le5 hj5
            go_wp2_with fail
            refine (jSum_sums _ _ _ _ _ o_f.has HDS hnf).mono ?_
            rw [HDT2.out]
            rintro e _ ⟨rfl, rfl⟩
            clear o_f
            by_cases hj0 : j = 0
            · skip
              subst hj0
              clear R_g
              go_wp2_with fail
              refine (drawCountForStreet_any b m cap' _ (HM.out.grow hB (Nat.le_refl _))).mono ?_
              rintro e v14 ⟨cc, pp, rfl, c0, c1, p0, p1, st⟩
              replace hB := hB.trans (st.mono hB.size)
              clear st
              by_cases hst : inB cc 0 8 = true ∧ inB pp 1 12 = true
              · skip
                obtain ⟨k, rfl⟩ : ∃ k : Nat, cc = (k : Int) := ⟨cc.toNat, by have := (inB_iff.1 hst.1).1; omega⟩
                obtain ⟨l, rfl⟩ : ∃ l : Nat, pp = (l : Int) := ⟨pp.toNat, by have := (inB_iff.1 hst.2).1; omega⟩
                have hk8 : k ≤ 8 := by have := (inB_iff.1 hst.1).2; omega
                have hl1 : 1 ≤ l := by have := (inB_iff.1 hst.2).1; omega
                have HS0 : Hid (streetOf (k : Int) (l : Int) = ((streetCnt k l : Int), true)) := hid (by simp [streetOf, hst.1, hst.2])
                have HSS : Hid (k = l → streetCnt k l = cnt k) := hid (fun e => by subst e; exact street_same (by omega) hl1)
                obtain ⟨s, hs⟩ : ∃ s, streetCnt k l = s := ⟨_, rfl⟩
                rw [hs] at HS0 HSS
                clear hs hst c0 c1 p0 p1
                have hne := neq_self_int (s : Int)
                go_wp2_with fail
                refine (countForStreet_any _ _ _).mono ?_
                rw [HS0.out]
                rintro e v15 ⟨rfl, st⟩
                replace hB := hB.trans (st.mono hB.size)
                clear st
                go_wp2_with fail
                refine (specStreet_any _ _ _).mono ?_
                rw [HS0.out]
                rintro e v16 ⟨rfl, st⟩
                replace hB := hB.trans (st.mono hB.size)
                clear st
                by_cases hkl : k = l
                · skip
                  subst hkl
                  have HCC : Hid (countOf (k : Int) = ((s : Int), true)) := hid (by rw [count_yesC hk8, HSS.out rfl])
                  have hss : ((s : Int) == (s : Int)) = true := by simp
                  have hkk : ((k : Int) == (k : Int)) = true := by simp
                  go_wp2_with fail
                  refine (countParking_any _ _).mono ?_
                  rw [HCC.out]
                  rintro e v17 ⟨rfl, st⟩
                  replace hB := hB.trans (st.mono hB.size)
                  clear st
                  go_wp2_with fail
                  go_ret
                  exact ⟨rfl, hB⟩
                · skip
                  have hkk : ((k : Int) == (l : Int)) = false := by simp; omega
                  go_wp2_with fail
                  go_ret
                  exact ⟨rfl, hB⟩
              · skip
                have HS0 : Hid (streetOf cc pp = (0, false)) := hid (by unfold streetOf; rw [if_neg (by simpa using hst)])
                clear hst c0 c1 p0 p1
                go_wp2_with fail
                refine (countForStreet_any _ _ _).mono ?_
                rw [HS0.out]
                rintro e v15 ⟨rfl, st⟩
                replace hB := hB.trans (st.mono hB.size)
                clear st
                go_wp2_with fail
                refine (specStreet_any _ _ _).mono ?_
                rw [HS0.out]
                rintro e v16 ⟨rfl, st⟩
                replace hB := hB.trans (st.mono hB.size)
                clear st
                go_wp2_with fail
                go_ret
                exact ⟨rfl, hB⟩
            · skip
              have hj1 : 1 ≤ j := by omega
              have hjd : decide ((1 : Int) ≤ (j : Int)) = true := by simp; omega
              obtain ⟨bg, offg, rfl, hbg, -⟩ := R_g.has.2.2.2.2.1 (by omega)
              have HLN := hid (luckyOfN_yes (n := j) (inB_iff.2 ⟨by omega, by omega⟩))
              have hjw : IntKind.i64.wrap ((j : Int) + 1) = ((j + 1 : Nat) : Int) := by rw [IntKind.wrap_i64]; omega
              go_wp2_with (refine wpList_make_ints _ rfl _ _ rfl (j + 1) (by simp [Act.eval]) (by simp [Act.eval]) (by omega) ?_; intro a_o c_o w_o o_o st)
              obtain ⟨g, rfl, hg1, -, -, -⟩ := o_o.opened (by omega)
              go_loopw [171] (fun i wr => ∃ k : Nat, k ≤ n_g ∧ i = .int .i64 (k : Int) ∧ Own wr v13.heap.size (some ⟨g, 0, none⟩) (j + 1) c_o (tally j k) ∧ Below v13.heap.size v13 wr) (fun i _ => n_g - (intOf i).toNat)
              case atStart => exact ⟨0, Nat.zero_le _, rfl, o_o, st⟩
              case round =>
                clear o_o st
                obtain ⟨wo, rfl⟩ : ∃ wo : World, wo = wr := ⟨_, rfl⟩
                obtain ⟨k, hk, rfl, o_o, st⟩ := hrel
                have hV := st
                replace R_g := R_g.below st (Nat.le_refl _)
                replace hB := hB.trans (st.mono hB.size)
                clear st
                by_cases hlt : k < n_g
                · skip
                  obtain ⟨ak, mk, ck, hck, H_k, us, f1, f2, f3⟩ := count_row R_g.has hj5 hj1 HNG.out (k := k) hlt
                  have HLK := hid f1
                  have HUL := hid f2
                  have HT := hid f3
                  clear f1 f2 f3
                  go_wp2_with fail
                  refine (luckyCars_any _ _ _ _ _ _ H_k).mono ?_
                  rw [HLK.out]
                  rintro e v14 ⟨a_u, n_u, c_u, rfl, o_u, st⟩
                  replace o_o := o_o.below st (Nat.le_refl _)
                  replace R_g := R_g.below st (Nat.le_refl _)
                  replace H_k := H_k.below st (Nat.le_refl _)
                  replace hB := hB.trans (st.mono hB.size)
                  replace hV := hV.trans (st.mono hV.size)
                  clear st
                  clear hck
                  have HUN := hid o_u.len
                  rw [HUN.out] at HUL HT
                  obtain ⟨g2, hg2, -, -, hl3, hl4⟩ := o_o.opened (by omega)
                  obtain rfl : g = g2 := by simpa using hg2
                  have hun := HUL.out
                  have hgk := hl3 n_u (by omega)
                  have hgf := hl4 n_u
                  clear hl3 hl4 hg2
                  obtain ⟨r0, r1⟩ := (tally_bound (n := j) (k := k)).2 n_u
                  obtain ⟨rv, hrv⟩ : ∃ rv, nth (tally j k) n_u = rv := ⟨_, rfl⟩
                  rw [hrv] at hgk r0 r1 HT
                  clear hrv
                  have e1 : IntKind.i64.wrap (rv + 1) = rv + 1 := by rw [IntKind.wrap_i64]; omega
                  have e2 : (n_u : Int) < (j : Int) + 1 := by omega
                  have e3 : (0 : Int) ≤ (n_u : Int) := by omega
                  go_wp2_with fail
                  go_roundw
                  case rel => exact ⟨k + 1, by omega, by go_num, by rw [HT.out]; exact (o_o.set n_u (rv + 1)).1, hV.setCell hg1 _⟩
                  case measure => simp [intOf]; omega
                · skip
                  obtain rfl : k = n_g := by omega
                  clear R_g
                  have hta := tally_all j (by omega) hj1
                  rw [← HQ2.out] at hta
                  rw [hta] at o_o
                  clear hta
                  go_wp2_with fail
                  refine (countByLucky_any _ _).mono ?_
                  rw [HLN.out]
                  rintro e v14 ⟨a_t, n_t, c_t, rfl, o_t, st⟩
                  replace o_o := o_o.below st (Nat.le_refl _)
                  replace hB := hB.trans (st.mono hB.size)
                  replace hV := hV.trans (st.mono hV.size)
                  clear st
                  have HSM : Hid (same (luckysC j) ((List.range (j + 1)).map fun (l : Nat) => (lucky j (j - 1) l : Int)) = true) := hid (same_self _)
                  go_wp2_with fail
                  refine (jSame_any _ _ _ _ _ _ _ _ _ o_o.has o_t.has).mono ?_
                  rintro e v15 ⟨rfl, q⟩
                  have st : Below v14.heap.size v14 v15 := q.below _
                  replace o_o := o_o.below st (Nat.le_refl _)
                  replace o_t := o_t.below st (Nat.le_refl _)
                  replace hB := hB.trans (st.mono hB.size)
                  replace hV := hV.trans (st.mono hV.size)
                  clear st
                  clear q
                  rw [HSM.out]
                  clear o_t o_o
                  clear hV
                  go_wp2_with fail
                  refine (drawCountForStreet_any b m cap' _ (HM.out.grow hB (Nat.le_refl _))).mono ?_
                  rintro e v16 ⟨cc, pp, rfl, c0, c1, p0, p1, st⟩
                  replace hB := hB.trans (st.mono hB.size)
                  clear st
                  by_cases hst : inB cc 0 8 = true ∧ inB pp 1 12 = true
                  · skip
                    obtain ⟨k, rfl⟩ : ∃ k : Nat, cc = (k : Int) := ⟨cc.toNat, by have := (inB_iff.1 hst.1).1; omega⟩
                    obtain ⟨l, rfl⟩ : ∃ l : Nat, pp = (l : Int) := ⟨pp.toNat, by have := (inB_iff.1 hst.2).1; omega⟩
                    have hk8 : k ≤ 8 := by have := (inB_iff.1 hst.1).2; omega
                    have hl1 : 1 ≤ l := by have := (inB_iff.1 hst.2).1; omega
                    have HS0 : Hid (streetOf (k : Int) (l : Int) = ((streetCnt k l : Int), true)) := hid (by simp [streetOf, hst.1, hst.2])
                    have HSS : Hid (k = l → streetCnt k l = cnt k) := hid (fun e => by subst e; exact street_same (by omega) hl1)
                    obtain ⟨s, hs⟩ : ∃ s, streetCnt k l = s := ⟨_, rfl⟩
                    rw [hs] at HS0 HSS
                    clear hs hst c0 c1 p0 p1
                    have hne := neq_self_int (s : Int)
                    go_wp2_with fail
                    refine (countForStreet_any _ _ _).mono ?_
                    rw [HS0.out]
                    rintro e v17 ⟨rfl, st⟩
                    replace hB := hB.trans (st.mono hB.size)
                    clear st
                    go_wp2_with fail
                    refine (specStreet_any _ _ _).mono ?_
                    rw [HS0.out]
                    rintro e v18 ⟨rfl, st⟩
                    replace hB := hB.trans (st.mono hB.size)
                    clear st
                    by_cases hkl : k = l
                    · skip
                      subst hkl
                      have HCC : Hid (countOf (k : Int) = ((s : Int), true)) := hid (by rw [count_yesC hk8, HSS.out rfl])
                      have hss : ((s : Int) == (s : Int)) = true := by simp
                      have hkk : ((k : Int) == (k : Int)) = true := by simp
                      go_wp2_with fail
                      refine (countParking_any _ _).mono ?_
                      rw [HCC.out]
                      rintro e v19 ⟨rfl, st⟩
                      replace hB := hB.trans (st.mono hB.size)
                      clear st
                      go_wp2_with fail
                      go_ret
                      exact ⟨rfl, hB⟩
                    · skip
                      have hkk : ((k : Int) == (l : Int)) = false := by simp; omega
                      go_wp2_with fail
                      go_ret
                      exact ⟨rfl, hB⟩
                  · skip
                    have HS0 : Hid (streetOf cc pp = (0, false)) := hid (by unfold streetOf; rw [if_neg (by simpa using hst)])
                    clear hst c0 c1 p0 p1
                    go_wp2_with fail
                    refine (countForStreet_any _ _ _).mono ?_
                    rw [HS0.out]
                    rintro e v17 ⟨rfl, st⟩
                    replace hB := hB.trans (st.mono hB.size)
                    clear st
                    go_wp2_with fail
                    refine (specStreet_any _ _ _).mono ?_
                    rw [HS0.out]
                    rintro e v18 ⟨rfl, st⟩
                    replace hB := hB.trans (st.mono hB.size)
                    clear st
                    go_wp2_with fail
                    go_ret
                    exact ⟨rfl, hB⟩
          · skip
            have HD := hid (distOfN_no hM)
            clear hM m0 m1
            go_wp2_with fail
            refine (countByDistance_any _ _).mono ?_
            rw [HD.out]
            rintro e v10 ⟨a_f, n_f, c_f, rfl, o_f, st⟩
            replace hB := hB.trans (st.mono hB.size)
            clear st
            go_wp2_with fail
            refine (specDist_any _ _).mono ?_
            rw [HD.out]
            rintro e v11 ⟨a_e, n_e, c_e, rfl, o_e, st⟩
            replace o_f := o_f.below st (Nat.le_refl _)
            replace hB := hB.trans (st.mono hB.size)
            clear st
            go_wp2_with fail
            refine (jSame_any _ _ _ _ _ _ _ _ _ o_f.has o_e.has).mono ?_
            rintro e v12 ⟨rfl, q⟩
            have st : Below v11.heap.size v11 v12 := q.below _
            replace o_f := o_f.below st (Nat.le_refl _)
            replace o_e := o_e.below st (Nat.le_refl _)
            replace hB := hB.trans (st.mono hB.size)
            clear st
            clear q
            rw [same_self]
            clear o_e o_f
            go_wp2_with fail
            refine (drawCountForStreet_any b m cap' _ (HM.out.grow hB (Nat.le_refl _))).mono ?_
            rintro e v13 ⟨cc, pp, rfl, c0, c1, p0, p1, st⟩
            replace hB := hB.trans (st.mono hB.size)
            clear st
            by_cases hst : inB cc 0 8 = true ∧ inB pp 1 12 = true
            · skip
              obtain ⟨k, rfl⟩ : ∃ k : Nat, cc = (k : Int) := ⟨cc.toNat, by have := (inB_iff.1 hst.1).1; omega⟩
              obtain ⟨l, rfl⟩ : ∃ l : Nat, pp = (l : Int) := ⟨pp.toNat, by have := (inB_iff.1 hst.2).1; omega⟩
              have hk8 : k ≤ 8 := by have := (inB_iff.1 hst.1).2; omega
              have hl1 : 1 ≤ l := by have := (inB_iff.1 hst.2).1; omega
              have HS0 : Hid (streetOf (k : Int) (l : Int) = ((streetCnt k l : Int), true)) := hid (by simp [streetOf, hst.1, hst.2])
              have HSS : Hid (k = l → streetCnt k l = cnt k) := hid (fun e => by subst e; exact street_same (by omega) hl1)
              obtain ⟨s, hs⟩ : ∃ s, streetCnt k l = s := ⟨_, rfl⟩
              rw [hs] at HS0 HSS
              clear hs hst c0 c1 p0 p1
              have hne := neq_self_int (s : Int)
              go_wp2_with fail
              refine (countForStreet_any _ _ _).mono ?_
              rw [HS0.out]
              rintro e v14 ⟨rfl, st⟩
              replace hB := hB.trans (st.mono hB.size)
              clear st
              go_wp2_with fail
              refine (specStreet_any _ _ _).mono ?_
              rw [HS0.out]
              rintro e v15 ⟨rfl, st⟩
              replace hB := hB.trans (st.mono hB.size)
              clear st
              by_cases hkl : k = l
              · skip
                subst hkl
                have HCC : Hid (countOf (k : Int) = ((s : Int), true)) := hid (by rw [count_yesC hk8, HSS.out rfl])
                have hss : ((s : Int) == (s : Int)) = true := by simp
                have hkk : ((k : Int) == (k : Int)) = true := by simp
                go_wp2_with fail
                refine (countParking_any _ _).mono ?_
                rw [HCC.out]
                rintro e v16 ⟨rfl, st⟩
                replace hB := hB.trans (st.mono hB.size)
                clear st
                go_wp2_with fail
                go_ret
                exact ⟨rfl, hB⟩
              · skip
                have hkk : ((k : Int) == (l : Int)) = false := by simp; omega
                go_wp2_with fail
                go_ret
                exact ⟨rfl, hB⟩
            · skip
              have HS0 : Hid (streetOf cc pp = (0, false)) := hid (by unfold streetOf; rw [if_neg (by simpa using hst)])
              clear hst c0 c1 p0 p1
              go_wp2_with fail
              refine (countForStreet_any _ _ _).mono ?_
              rw [HS0.out]
              rintro e v14 ⟨rfl, st⟩
              replace hB := hB.trans (st.mono hB.size)
              clear st
              go_wp2_with fail
              refine (specStreet_any _ _ _).mono ?_
              rw [HS0.out]
              rintro e v15 ⟨rfl, st⟩
              replace hB := hB.trans (st.mono hB.size)
              clear st
              go_wp2_with fail
              go_ret
              exact ⟨rfl, hB⟩
    · skip
      have HF := hid (firstOf_no hN8)
      have HL := hid (luckyOfN_no hN8)
      obtain ⟨⟨cv, cb⟩, hcv⟩ : ∃ r, countOf nn = r := ⟨_, rfl⟩
      have HC := hid hcv
      clear hN8 n0 n1 hcv
      go_wp2_with fail
      refine (countByFirst_any _ _).mono ?_
      rw [HF.out]
      rintro e v2 ⟨a_l, n_l, c_l, rfl, o_l, st⟩
      replace hB := hB.trans (st.mono hB.size)
      clear st
      go_wp2_with fail
      refine (specFirst_any _ _).mono ?_
      rw [HF.out]
      rintro e v3 ⟨a_r, n_r, c_r, rfl, o_r, st⟩
      replace o_l := o_l.below st (Nat.le_refl _)
      replace hB := hB.trans (st.mono hB.size)
      clear st
      go_wp2_with fail
      refine (countByLucky_any _ _).mono ?_
      rw [HL.out]
      rintro e v4 ⟨a_x, n_x, c_x, rfl, o_x, st⟩
      replace o_l := o_l.below st (Nat.le_refl _)
      replace o_r := o_r.below st (Nat.le_refl _)
      replace hB := hB.trans (st.mono hB.size)
      clear st
      go_wp2_with fail
      refine (specLuckyN_any _ _).mono ?_
      rw [HL.out]
      rintro e v5 ⟨a_y, n_y, c_y, rfl, o_y, st⟩
      replace o_l := o_l.below st (Nat.le_refl _)
      replace o_r := o_r.below st (Nat.le_refl _)
      replace o_x := o_x.below st (Nat.le_refl _)
      replace hB := hB.trans (st.mono hB.size)
      clear st
      go_wp2_with fail
      refine (countParking_any _ _).mono ?_
      rw [HC.out]
      rintro e v6 ⟨rfl, st⟩
      replace o_l := o_l.below st (Nat.le_refl _)
      replace o_r := o_r.below st (Nat.le_refl _)
      replace o_x := o_x.below st (Nat.le_refl _)
      replace o_y := o_y.below st (Nat.le_refl _)
      replace hB := hB.trans (st.mono hB.size)
      clear st
      go_wp2_with fail
      refine (jSame_any _ _ _ _ _ _ _ _ _ o_l.has o_r.has).mono ?_
      rintro e v7 ⟨rfl, q⟩
      have st : Below v6.heap.size v6 v7 := q.below _
      replace o_l := o_l.below st (Nat.le_refl _)
      replace o_r := o_r.below st (Nat.le_refl _)
      replace o_x := o_x.below st (Nat.le_refl _)
      replace o_y := o_y.below st (Nat.le_refl _)
      replace hB := hB.trans (st.mono hB.size)
      clear st
      clear q
      rw [same_self]
      clear o_r
      go_wp2_with fail
      refine (jSame_any _ _ _ _ _ _ _ _ _ o_x.has o_y.has).mono ?_
      rintro e v8 ⟨rfl, q⟩
      have st : Below v7.heap.size v7 v8 := q.below _
      replace o_l := o_l.below st (Nat.le_refl _)
      replace o_x := o_x.below st (Nat.le_refl _)
      replace o_y := o_y.below st (Nat.le_refl _)
      replace hB := hB.trans (st.mono hB.size)
      clear st
      clear q
      rw [same_self]
      clear o_y
      clear o_x o_l
      go_wp2_with fail
      refine (drawCountByDistance_any b m cap' _ (HM.out.grow hB (Nat.le_refl _))).mono ?_
      rintro e v9 ⟨mm, rfl, m0, m1, st⟩
      replace hB := hB.trans (st.mono hB.size)
      clear st
      by_cases hM : inB mm 0 5 = true
      · skip
        obtain ⟨j, rfl⟩ : ∃ j : Nat, mm = (j : Int) := ⟨mm.toNat, by have := (inB_iff.1 hM).1; omega⟩
        have hj5 : j ≤ 5 := by have := (inB_iff.1 hM).2; omega
        have HAL := hid (allOf_yes hM)
        have HD := hid (distOfN_yes hM)
        obtain ⟨d1, d2, d3⟩ := dist_total j (by omega)
        obtain ⟨ds, hds⟩ : ∃ ds, distCounts j = ds := ⟨_, rfl⟩
        rw [hds] at d1 d2 d3 HD
        have HDT := hid d1
        have HDL := hid d2
        have HDS := hid d3
        clear hM m0 m1 hds d1 d2 d3
        go_wp2_with fail
        refine (countByDistance_any _ _).mono ?_
        rw [HD.out]
        rintro e v10 ⟨a_f, n_f, c_f, rfl, o_f, st⟩
        replace hB := hB.trans (st.mono hB.size)
        clear st
        go_wp2_with fail
        refine (specDist_any _ _).mono ?_
        rw [HD.out]
        rintro e v11 ⟨a_e, n_e, c_e, rfl, o_e, st⟩
        replace o_f := o_f.below st (Nat.le_refl _)
        replace hB := hB.trans (st.mono hB.size)
        clear st
        go_wp2_with fail
        refine (jSame_any _ _ _ _ _ _ _ _ _ o_f.has o_e.has).mono ?_
        rintro e v12 ⟨rfl, q⟩
        have st : Below v11.heap.size v11 v12 := q.below _
        replace o_f := o_f.below st (Nat.le_refl _)
        replace o_e := o_e.below st (Nat.le_refl _)
        replace hB := hB.trans (st.mono hB.size)
        clear st
        clear q
        rw [same_self]
        clear o_e
        go_wp2_with fail
        refine (allParking_any _ _).mono ?_
        rw [HAL.out]
        rintro e v13 ⟨a_g, n_g, c_g, rs, rfl, R_g, hng, st⟩
        replace o_f := o_f.below st (Nat.le_refl _)
        replace hB := hB.trans (st.mono hB.size)
        clear st
        obtain ⟨hq1, hq2⟩ := count_all R_g.len hj5 hng
        have HQ1 := hid hq1
        have HQ2 := hid hq2
        have HNG := hid hng
        clear hng hq1 hq2
        have hnf : n_f ≤ 12 := by rw [← o_f.len]; exact HDL.out
        have HDT2 : Hid (total ds = (n_g : Int)) := hid (by rw [HDT.out, HQ1.out])
        have hne0 := neq_self_int (n_g : Int)
        have hgk : n_g ≤ 1048576 := R_g.has.2.2.2.1
        have hg1 : 1 ≤ n_g := by rw [HQ1.out]; exact (cnt_le (n := j) (by omega)).1
        have hg2 : n_g ≤ 1296 := by rw [HQ1.out]; exact cnt_le5 hj5
        go_wp2_with fail
        refine (jSum_sums _ _ _ _ _ o_f.has HDS hnf).mono ?_
        rw [HDT2.out]
        rintro e _ ⟨rfl, rfl⟩
        clear o_f
        by_cases hj0 : j = 0
        · skip
          subst hj0
          clear R_g
          go_wp2_with fail
          refine (drawCountForStreet_any b m cap' _ (HM.out.grow hB (Nat.le_refl _))).mono ?_
          rintro e v14 ⟨cc, pp, rfl, c0, c1, p0, p1, st⟩
          replace hB := hB.trans (st.mono hB.size)
          clear st
          by_cases hst : inB cc 0 8 = true ∧ inB pp 1 12 = true
          · skip
            obtain ⟨k, rfl⟩ : ∃ k : Nat, cc = (k : Int) := ⟨cc.toNat, by have := (inB_iff.1 hst.1).1; omega⟩
            obtain ⟨l, rfl⟩ : ∃ l : Nat, pp = (l : Int) := ⟨pp.toNat, by have := (inB_iff.1 hst.2).1; omega⟩
            have hk8 : k ≤ 8 := by have := (inB_iff.1 hst.1).2; omega
            have hl1 : 1 ≤ l := by have := (inB_iff.1 hst.2).1; omega
            have HS0 : Hid (streetOf (k : Int) (l : Int) = ((streetCnt k l : Int), true)) := hid (by simp [streetOf, hst.1, hst.2])
            have HSS : Hid (k = l → streetCnt k l = cnt k) := hid (fun e => by subst e; exact street_same (by omega) hl1)
            obtain ⟨s, hs⟩ : ∃ s, streetCnt k l = s := ⟨_, rfl⟩
            rw [hs] at HS0 HSS
            clear hs hst c0 c1 p0 p1
            have hne := neq_self_int (s : Int)
            go_wp2_with fail
            refine (countForStreet_any _ _ _).mono ?_
            rw [HS0.out]
            rintro e v15 ⟨rfl, st⟩
            replace hB := hB.trans (st.mono hB.size)
            clear st
            go_wp2_with fail
            refine (specStreet_any _ _ _).mono ?_
            rw [HS0.out]
            rintro e v16 ⟨rfl, st⟩
            replace hB := hB.trans (st.mono hB.size)
            clear st
            by_cases hkl : k = l
            · skip
              subst hkl
              have HCC : Hid (countOf (k : Int) = ((s : Int), true)) := hid (by rw [count_yesC hk8, HSS.out rfl])
              have hss : ((s : Int) == (s : Int)) = true := by simp
              have hkk : ((k : Int) == (k : Int)) = true := by simp
              go_wp2_with fail
              refine (countParking_any _ _).mono ?_
              rw [HCC.out]
              rintro e v17 ⟨rfl, st⟩
              replace hB := hB.trans (st.mono hB.size)
              clear st
              go_wp2_with fail
              go_ret
              exact ⟨rfl, hB⟩
            · skip
              have hkk : ((k : Int) == (l : Int)) = false := by simp; omega
              go_wp2_with fail
              go_ret
              exact ⟨rfl, hB⟩
          · skip
            have HS0 : Hid (streetOf cc pp = (0, false)) := hid (by unfold streetOf; rw [if_neg (by simpa using hst)])
            clear hst c0 c1 p0 p1
            go_wp2_with fail
            refine (countForStreet_any _ _ _).mono ?_
            rw [HS0.out]
            rintro e v15 ⟨rfl, st⟩
            replace hB := hB.trans (st.mono hB.size)
            clear st
            go_wp2_with fail
            refine (specStreet_any _ _ _).mono ?_
            rw [HS0.out]
            rintro e v16 ⟨rfl, st⟩
            replace hB := hB.trans (st.mono hB.size)
            clear st
            go_wp2_with fail
            go_ret
            exact ⟨rfl, hB⟩
        · skip
          have hj1 : 1 ≤ j := by omega
          have hjd : decide ((1 : Int) ≤ (j : Int)) = true := by simp; omega
          obtain ⟨bg, offg, rfl, hbg, -⟩ := R_g.has.2.2.2.2.1 (by omega)
          have HLN := hid (luckyOfN_yes (n := j) (inB_iff.2 ⟨by omega, by omega⟩))
          have hjw : IntKind.i64.wrap ((j : Int) + 1) = ((j + 1 : Nat) : Int) := by rw [IntKind.wrap_i64]; omega
          go_wp2_with (refine wpList_make_ints _ rfl _ _ rfl (j + 1) (by simp [Act.eval]) (by simp [Act.eval]) (by omega) ?_; intro a_o c_o w_o o_o st)
          obtain ⟨g, rfl, hg1, -, -, -⟩ := o_o.opened (by omega)
          go_loopw [171] (fun i wr => ∃ k : Nat, k ≤ n_g ∧ i = .int .i64 (k : Int) ∧ Own wr v13.heap.size (some ⟨g, 0, none⟩) (j + 1) c_o (tally j k) ∧ Below v13.heap.size v13 wr) (fun i _ => n_g - (intOf i).toNat)
          case atStart => exact ⟨0, Nat.zero_le _, rfl, o_o, st⟩
          case round =>
            clear o_o st
            obtain ⟨wo, rfl⟩ : ∃ wo : World, wo = wr := ⟨_, rfl⟩
            obtain ⟨k, hk, rfl, o_o, st⟩ := hrel
            have hV := st
            replace R_g := R_g.below st (Nat.le_refl _)
            replace hB := hB.trans (st.mono hB.size)
            clear st
            by_cases hlt : k < n_g
            · skip
              obtain ⟨ak, mk, ck, hck, H_k, us, f1, f2, f3⟩ := count_row R_g.has hj5 hj1 HNG.out (k := k) hlt
              have HLK := hid f1
              have HUL := hid f2
              have HT := hid f3
              clear f1 f2 f3
              go_wp2_with fail
              refine (luckyCars_any _ _ _ _ _ _ H_k).mono ?_
              rw [HLK.out]
              rintro e v14 ⟨a_u, n_u, c_u, rfl, o_u, st⟩
              replace o_o := o_o.below st (Nat.le_refl _)
              replace R_g := R_g.below st (Nat.le_refl _)
              replace H_k := H_k.below st (Nat.le_refl _)
              replace hB := hB.trans (st.mono hB.size)
              replace hV := hV.trans (st.mono hV.size)
              clear st
              clear hck
              have HUN := hid o_u.len
              rw [HUN.out] at HUL HT
              obtain ⟨g2, hg2, -, -, hl3, hl4⟩ := o_o.opened (by omega)
              obtain rfl : g = g2 := by simpa using hg2
              have hun := HUL.out
              have hgk := hl3 n_u (by omega)
              have hgf := hl4 n_u
              clear hl3 hl4 hg2
              obtain ⟨r0, r1⟩ := (tally_bound (n := j) (k := k)).2 n_u
              obtain ⟨rv, hrv⟩ : ∃ rv, nth (tally j k) n_u = rv := ⟨_, rfl⟩
              rw [hrv] at hgk r0 r1 HT
              clear hrv
              have e1 : IntKind.i64.wrap (rv + 1) = rv + 1 := by rw [IntKind.wrap_i64]; omega
              have e2 : (n_u : Int) < (j : Int) + 1 := by omega
              have e3 : (0 : Int) ≤ (n_u : Int) := by omega
              go_wp2_with fail
              go_roundw
              case rel => exact ⟨k + 1, by omega, by go_num, by rw [HT.out]; exact (o_o.set n_u (rv + 1)).1, hV.setCell hg1 _⟩
              case measure => simp [intOf]; omega
            · skip
              obtain rfl : k = n_g := by omega
              clear R_g
              have hta := tally_all j (by omega) hj1
              rw [← HQ2.out] at hta
              rw [hta] at o_o
              clear hta
              go_wp2_with fail
              refine (countByLucky_any _ _).mono ?_
              rw [HLN.out]
              rintro e v14 ⟨a_t, n_t, c_t, rfl, o_t, st⟩
              replace o_o := o_o.below st (Nat.le_refl _)
              replace hB := hB.trans (st.mono hB.size)
              replace hV := hV.trans (st.mono hV.size)
              clear st
              have HSM : Hid (same (luckysC j) ((List.range (j + 1)).map fun (l : Nat) => (lucky j (j - 1) l : Int)) = true) := hid (same_self _)
              go_wp2_with fail
              refine (jSame_any _ _ _ _ _ _ _ _ _ o_o.has o_t.has).mono ?_
              rintro e v15 ⟨rfl, q⟩
              have st : Below v14.heap.size v14 v15 := q.below _
              replace o_o := o_o.below st (Nat.le_refl _)
              replace o_t := o_t.below st (Nat.le_refl _)
              replace hB := hB.trans (st.mono hB.size)
              replace hV := hV.trans (st.mono hV.size)
              clear st
              clear q
              rw [HSM.out]
              clear o_t o_o
              clear hV
              go_wp2_with fail
              refine (drawCountForStreet_any b m cap' _ (HM.out.grow hB (Nat.le_refl _))).mono ?_
              rintro e v16 ⟨cc, pp, rfl, c0, c1, p0, p1, st⟩
              replace hB := hB.trans (st.mono hB.size)
              clear st
              by_cases hst : inB cc 0 8 = true ∧ inB pp 1 12 = true
              · skip
                obtain ⟨k, rfl⟩ : ∃ k : Nat, cc = (k : Int) := ⟨cc.toNat, by have := (inB_iff.1 hst.1).1; omega⟩
                obtain ⟨l, rfl⟩ : ∃ l : Nat, pp = (l : Int) := ⟨pp.toNat, by have := (inB_iff.1 hst.2).1; omega⟩
                have hk8 : k ≤ 8 := by have := (inB_iff.1 hst.1).2; omega
                have hl1 : 1 ≤ l := by have := (inB_iff.1 hst.2).1; omega
                have HS0 : Hid (streetOf (k : Int) (l : Int) = ((streetCnt k l : Int), true)) := hid (by simp [streetOf, hst.1, hst.2])
                have HSS : Hid (k = l → streetCnt k l = cnt k) := hid (fun e => by subst e; exact street_same (by omega) hl1)
                obtain ⟨s, hs⟩ : ∃ s, streetCnt k l = s := ⟨_, rfl⟩
                rw [hs] at HS0 HSS
                clear hs hst c0 c1 p0 p1
                have hne := neq_self_int (s : Int)
                go_wp2_with fail
                refine (countForStreet_any _ _ _).mono ?_
                rw [HS0.out]
                rintro e v17 ⟨rfl, st⟩
                replace hB := hB.trans (st.mono hB.size)
                clear st
                go_wp2_with fail
                refine (specStreet_any _ _ _).mono ?_
                rw [HS0.out]
                rintro e v18 ⟨rfl, st⟩
                replace hB := hB.trans (st.mono hB.size)
                clear st
                by_cases hkl : k = l
                · skip
                  subst hkl
                  have HCC : Hid (countOf (k : Int) = ((s : Int), true)) := hid (by rw [count_yesC hk8, HSS.out rfl])
                  have hss : ((s : Int) == (s : Int)) = true := by simp
                  have hkk : ((k : Int) == (k : Int)) = true := by simp
                  go_wp2_with fail
                  refine (countParking_any _ _).mono ?_
                  rw [HCC.out]
                  rintro e v19 ⟨rfl, st⟩
                  replace hB := hB.trans (st.mono hB.size)
                  clear st
                  go_wp2_with fail
                  go_ret
                  exact ⟨rfl, hB⟩
                · skip
                  have hkk : ((k : Int) == (l : Int)) = false := by simp; omega
                  go_wp2_with fail
                  go_ret
                  exact ⟨rfl, hB⟩
              · skip
                have HS0 : Hid (streetOf cc pp = (0, false)) := hid (by unfold streetOf; rw [if_neg (by simpa using hst)])
                clear hst c0 c1 p0 p1
                go_wp2_with fail
                refine (countForStreet_any _ _ _).mono ?_
                rw [HS0.out]
                rintro e v17 ⟨rfl, st⟩
                replace hB := hB.trans (st.mono hB.size)
                clear st
                go_wp2_with fail
                refine (specStreet_any _ _ _).mono ?_
                rw [HS0.out]
                rintro e v18 ⟨rfl, st⟩
                replace hB := hB.trans (st.mono hB.size)
                clear st
                go_wp2_with fail
                go_ret
                exact ⟨rfl, hB⟩
      · skip
        have HD := hid (distOfN_no hM)
        clear hM m0 m1
        go_wp2_with fail
        refine (countByDistance_any _ _).mono ?_
        rw [HD.out]
        rintro e v10 ⟨a_f, n_f, c_f, rfl, o_f, st⟩
        replace hB := hB.trans (st.mono hB.size)
        clear st
        go_wp2_with fail
        refine (specDist_any _ _).mono ?_
        rw [HD.out]
        rintro e v11 ⟨a_e, n_e, c_e, rfl, o_e, st⟩
        replace o_f := o_f.below st (Nat.le_refl _)
        replace hB := hB.trans (st.mono hB.size)
        clear st
        go_wp2_with fail
        refine (jSame_any _ _ _ _ _ _ _ _ _ o_f.has o_e.has).mono ?_
        rintro e v12 ⟨rfl, q⟩
        have st : Below v11.heap.size v11 v12 := q.below _
        replace o_f := o_f.below st (Nat.le_refl _)
        replace o_e := o_e.below st (Nat.le_refl _)
        replace hB := hB.trans (st.mono hB.size)
        clear st
        clear q
        rw [same_self]
        clear o_e o_f
        go_wp2_with fail
        refine (drawCountForStreet_any b m cap' _ (HM.out.grow hB (Nat.le_refl _))).mono ?_
        rintro e v13 ⟨cc, pp, rfl, c0, c1, p0, p1, st⟩
        replace hB := hB.trans (st.mono hB.size)
        clear st
        by_cases hst : inB cc 0 8 = true ∧ inB pp 1 12 = true
        · skip
          obtain ⟨k, rfl⟩ : ∃ k : Nat, cc = (k : Int) := ⟨cc.toNat, by have := (inB_iff.1 hst.1).1; omega⟩
          obtain ⟨l, rfl⟩ : ∃ l : Nat, pp = (l : Int) := ⟨pp.toNat, by have := (inB_iff.1 hst.2).1; omega⟩
          have hk8 : k ≤ 8 := by have := (inB_iff.1 hst.1).2; omega
          have hl1 : 1 ≤ l := by have := (inB_iff.1 hst.2).1; omega
          have HS0 : Hid (streetOf (k : Int) (l : Int) = ((streetCnt k l : Int), true)) := hid (by simp [streetOf, hst.1, hst.2])
          have HSS : Hid (k = l → streetCnt k l = cnt k) := hid (fun e => by subst e; exact street_same (by omega) hl1)
          obtain ⟨s, hs⟩ : ∃ s, streetCnt k l = s := ⟨_, rfl⟩
          rw [hs] at HS0 HSS
          clear hs hst c0 c1 p0 p1
          have hne := neq_self_int (s : Int)
          go_wp2_with fail
          refine (countForStreet_any _ _ _).mono ?_
          rw [HS0.out]
          rintro e v14 ⟨rfl, st⟩
          replace hB := hB.trans (st.mono hB.size)
          clear st
          go_wp2_with fail
          refine (specStreet_any _ _ _).mono ?_
          rw [HS0.out]
          rintro e v15 ⟨rfl, st⟩
          replace hB := hB.trans (st.mono hB.size)
          clear st
          by_cases hkl : k = l
          · skip
            subst hkl
            have HCC : Hid (countOf (k : Int) = ((s : Int), true)) := hid (by rw [count_yesC hk8, HSS.out rfl])
            have hss : ((s : Int) == (s : Int)) = true := by simp
            have hkk : ((k : Int) == (k : Int)) = true := by simp
            go_wp2_with fail
            refine (countParking_any _ _).mono ?_
            rw [HCC.out]
            rintro e v16 ⟨rfl, st⟩
            replace hB := hB.trans (st.mono hB.size)
            clear st
            go_wp2_with fail
            go_ret
            exact ⟨rfl, hB⟩
          · skip
            have hkk : ((k : Int) == (l : Int)) = false := by simp; omega
            go_wp2_with fail
            go_ret
            exact ⟨rfl, hB⟩
        · skip
          have HS0 : Hid (streetOf cc pp = (0, false)) := hid (by unfold streetOf; rw [if_neg (by simpa using hst)])
          clear hst c0 c1 p0 p1
          go_wp2_with fail
          refine (countForStreet_any _ _ _).mono ?_
          rw [HS0.out]
          rintro e v14 ⟨rfl, st⟩
          replace hB := hB.trans (st.mono hB.size)
          clear st
          go_wp2_with fail
          refine (specStreet_any _ _ _).mono ?_
          rw [HS0.out]
          rintro e v15 ⟨rfl, st⟩
          replace hB := hB.trans (st.mono hB.size)
          clear st
          go_wp2_with fail
          go_ret
          exact ⟨rfl, hB⟩
end Go.Proofs.Ytabhhmnilidppab

