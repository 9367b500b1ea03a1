/- The law of sorted parking functions, walked. -/
import Derived.Test.YtkkhlkaieohklaaCur
import Derived.Test.YtkkhlkaieohklaaDraw2
import Derived.Test.YtkkhlkaieohklaaSpecN
import Derived.Test.YtkkhlkaieohklaaImplD
import Derived.StillTailTactics
import Derived.Test.YtkkhlkaieohklaaSpecS
import Derived.Test.YtkkhlkaieohklaaImplUn
import Derived.Test.YtkkhlkaieohklaaIdx
import Derived.Test.YtkkhlkaieohklaaMathG
import Derived.Test.YtkkhlkaieohklaaSpecAll
import Derived.Test.YtkkhlkaieohklaaCopy
import Derived.Test.YtkkhlkaieohklaaMathT
import Derived.Test.YtkkhlkaieohklaaHelp2
import Derived.Test.YtkkhlkaieohklaaMathQ
import Derived.Test.YtkkhlkaieohklaaMathR
import Derived.Test.YtkkhlkaieohklaaImplC
import Derived.Test.YtkkhlkaieohklaaImplN
import Derived.Test.YtkkhlkaieohklaaImplOrd
import Derived.Test.YtkkhlkaieohklaaSpecOrd
namespace Go.Proofs.Ytkkhlkaieohklaa
open Go.RowKit

theorem HasB.below {w w' : World} {a : Option Addr} {n K : Nat} (h : HasB w a n K) (hb : Below K w w') : HasB w' a n K := by
  refine ⟨h.1, fun hx => ?_⟩
  obtain ⟨b, off, ha, hbk, hc⟩ := h.2 hx
  refine ⟨b, off, ha, hbk, fun i hi => ?_⟩
  obtain ⟨u, u0, u1, hu⟩ := hc i hi
  exact ⟨u, u0, u1, by rw [hb.cell (p := ⟨b, off + i, none⟩) hbk]; exact hu⟩

/-- An argument's slice of bytes. -/
theorem hasB_of_row {w : World} {a : Option Addr} {len cap : Nat} {zs : List Int}
    (h : (a = none ∧ len = 0 ∧ cap = 0 ∧ zs = []) ∨ ∃ x, a = some x ∧ len ≤ cap ∧ cap ≤ maxLen ∧ zs.length = cap ∧ (∀ i, i < zs.length → w.cell? (x.add i) = some (.int .u8 (zs.getD i 0))) ∧ ∀ n ∈ zs, (Lit.int .u8 n).wf = true) :
    len ≤ maxLen ∧ (len ≤ 1048576 → HasB w a len w.heap.size) := by
  rcases h with ⟨rfl, rfl, rfl, rfl⟩ | ⟨x, rfl, h1, h2, h3, h4, h5⟩
  · exact ⟨by unfold maxLen; omega, fun _ => ⟨by omega, by omega⟩⟩
  · refine ⟨by omega, fun hl => ⟨by omega, fun hx => ?_⟩⟩
    obtain ⟨b, off, spot⟩ := x
    have hc := h4 0 (by omega)
    have hspot : spot = none := by simpa [Addr.add] using World.cell?_spot hc
    subst hspot
    refine ⟨b, off, rfl, by have := World.block_lt_of_cell? w _ hc; simpa [Addr.add] using this, fun i hi => ?_⟩
    have := h4 i (by omega)
    have e : (⟨b, off, none⟩ : Addr).add i = ⟨b, off + i, none⟩ := by unfold Addr.add; split <;> simp_all
    rw [e] at this
    have hm : zs.getD i 0 ∈ zs := by simp [show i < zs.length by omega]
    have hw := h5 _ hm
    generalize zs.getD i 0 = u at *
    have hw' : (0 : Int) ≤ u ∧ u ≤ 255 := by simpa [Lit.wf, IntKind.min, IntKind.max, IntKind.signed, IntKind.bits] using hw
    exact ⟨u, hw'.1, hw'.2, this⟩

/-- The law's answer. -/
def Holds (w : World) (e : Ending) (w' : World) : Prop := e = .returned (.bool true) ∧ Below w.heap.size w w'
end Go.Proofs.Ytkkhlkaieohklaa

namespace Go.Proofs.Ytkkhlkaieohklaa
open Go.RowKit

/-- A number that was drawn, for the caller of a draw. -/
def DrewNum (lo hi : Int) (w : World) (e : Ending) (w' : World) : Prop := ∃ v, e = .returned (.int .i64 v) ∧ lo ≤ v ∧ v ≤ hi ∧ Below w.heap.size w w'
/-- Two numbers. -/
def DrewNums (lo hi : Int) (w : World) (e : Ending) (w' : World) : Prop := ∃ v u, e = .returned (.tuple #[.int .i64 v, .int .i64 u]) ∧ lo ≤ v ∧ v ≤ hi ∧ lo ≤ u ∧ u ≤ hi ∧ Below w.heap.size w w'
/-- A list with any numbers. -/
def DrewAny (w : World) (e : Ending) (w' : World) : Prop := ∃ a n cap xs, e = .returned (.slice a n cap) ∧ Own w' w.heap.size a n cap xs ∧ n ≤ 20 ∧ Below w.heap.size w w'

theorem has_lit7 (w : World) (a b c d e f g : Int) : Has (w.alloc (.cells #[.int .i64 a, .int .i64 b, .int .i64 c, .int .i64 d, .int .i64 e, .int .i64 f, .int .i64 g] 3)) (some ⟨w.heap.size, 0, none⟩) 7 7 [a, b, c, d, e, f, g] := has_lit w [a, b, c, d, e, f, g] (by simp)
theorem has_lit8 (w : World) (a b c d e f g h : Int) : Has (w.alloc (.cells #[.int .i64 a, .int .i64 b, .int .i64 c, .int .i64 d, .int .i64 e, .int .i64 f, .int .i64 g, .int .i64 h] 3)) (some ⟨w.heap.size, 0, none⟩) 8 8 [a, b, c, d, e, f, g, h] := has_lit w [a, b, c, d, e, f, g, h] (by simp)
theorem has_lit9 (w : World) (a b c d e f g h i : Int) : Has (w.alloc (.cells #[.int .i64 a, .int .i64 b, .int .i64 c, .int .i64 d, .int .i64 e, .int .i64 f, .int .i64 g, .int .i64 h, .int .i64 i] 3)) (some ⟨w.heap.size, 0, none⟩) 9 9 [a, b, c, d, e, f, g, h, i] := has_lit w [a, b, c, d, e, f, g, h, i] (by simp)

set_option maxHeartbeats 800000 in
theorem number2_cur (g t : Nat) (w : World) (h : Cur w g t) (ht : t ≤ 1000) :
    Calls Try.prog 36 #[.pointer (some ⟨g, 0, none⟩)] w fun e w' => ∃ v : Int, e = .returned (.int .i64 v) ∧ -1 ≤ v ∧ v ≤ 9 ∧ ∃ t', t' ≤ t + 10 ∧ At w w' g t' := by
  have A0 : At w w g t := ⟨h, Below.refl _ _⟩
  go_enter Try.func36, Try.ntmps36
  go_wp2_with fail
  refine (one_cur g t 10 _ h (by omega) (by omega)).mono ?_
  rintro e w1 ⟨b, rfl, ⟨t1, ta, tb, hc1⟩, hg1⟩
  have A1 := A0.pick hc1 hg1
  clear hc1 hg1 A0
  cases b with
  | true =>
    have A2 := A1.later (alloc_below w1 (.cells #[.int .i64 (-1), .int .i64 0, .int .i64 8, .int .i64 9] 3)) A1.cur.lt
    go_wp2_with fail
    refine (among_cur g t1 _ 4 4 [-1, 0, 8, 9] _ A2.cur (by omega) (has_lit4 w1 (-1) 0 8 9) (by omega) (by omega) (lit_ne A1.cur)).mono ?_
    rintro e w2 ⟨v, rfl, hv, ⟨t2, tc, td, hc2⟩, hg2⟩
    have hv1 : -1 ≤ v ∧ v ≤ 9 := by simp at hv; omega
    have A3 := A2.pick hc2 hg2
    clear hv hc2 hg2 A1 A2
    go_wp2_with fail
    go_ret
    exact ⟨_, rfl, hv1.1, hv1.2, t2, by omega, A3⟩
  | false =>
    go_wp2_with fail
    refine (pick_cur g t1 7 _ A1.cur (by omega) (by omega)).mono ?_
    rintro e w2 ⟨v, rfl, v0, v1, ⟨t2, tc, td, hc2⟩, hg2⟩
    have A2 := A1.pick hc2 hg2
    have hv1 : -1 ≤ v ∧ v ≤ 9 := by omega
    clear hc2 hg2 A1 v1
    go_wp2_with fail
    go_ret
    exact ⟨_, rfl, hv1.1, hv1.2, t2, by omega, A2⟩

theorem fresh_below (w : World) (a : Option Addr) (n cap : Nat) : Below w.heap.size w (w.alloc (.cells #[.slice a n cap, .int .i64 0, .int .u64 0] 47)) := alloc_below _ _

set_option maxHeartbeats 800000 in
theorem drawCountParking_any (a : Option Addr) (n cap : Nat) (w : World) (h : HasB w a n w.heap.size) :
    Calls Try.prog 63 #[.slice a n cap] w (DrewNum (-1) 9 w) := by
  have C0 := cur_new (cap := cap) h
  go_enter Try.func63, Try.ntmps63
  go_wp2_with fail
  refine (number2_cur _ 0 _ C0 (by omega)).mono ?_
  rintro e w1 ⟨v, rfl, v0, v1, t1, ht1, A1⟩
  have hb := (fresh_below w a n cap).trans A1.below
  go_wp2_with fail
  go_ret
  exact ⟨_, rfl, v0, v1, hb⟩
set_option maxHeartbeats 400000 in
theorem drawCountSorted_any (a : Option Addr) (n cap : Nat) (w : World) (h : HasB w a n w.heap.size) :
    Calls Try.prog 30 #[.slice a n cap] w (DrewNum (-1) 9 w) := by
  go_enter Try.func30, Try.ntmps30
  go_wp2_with fail
  refine (drawCountParking_any _ _ _ _ h).mono ?_
  rintro e w1 ⟨v, rfl, v0, v1, hb⟩
  go_wp2_with fail
  go_ret
  exact ⟨_, rfl, v0, v1, hb⟩

set_option maxRecDepth 100000 in
set_option maxHeartbeats 1600000 in
theorem drawParkingAt_any (a : Option Addr) (n cap : Nat) (w : World) (h : HasB w a n w.heap.size) :
    Calls Try.prog 7 #[.slice a n cap] w (DrewNums (-1) 5000000 w) := by
  have C0 := cur_new (cap := cap) h
  have hb0 := fresh_below w a n cap
  go_enter Try.func7, Try.ntmps7
  go_wp2_with fail
  refine (number2_cur _ 0 _ C0 (by omega)).mono ?_
  rintro e w1 ⟨v, rfl, v0, v1, t1, ht1, A1⟩
  go_wp2_with fail
  refine (l1Least_any _ _ _).mono ?_
  rintro e _ ⟨rfl, rfl⟩
  go_wp2_with fail
  refine (l1Most_any _ _ _).mono ?_
  rintro e _ ⟨rfl, rfl⟩
  obtain ⟨m, hm⟩ : ∃ m : Nat, max 0 (min v 8) = (m : Int) := ⟨(max 0 (min v 8)).toNat, by omega⟩
  have hm8 : m ≤ 8 := by omega
  rw [hm]
  clear hm
  go_wp2_with fail
  refine (cnCount_any _ _ hm8).mono ?_
  rintro e _ ⟨rfl, rfl⟩
  obtain ⟨c1, c2⟩ := cnt_le hm8
  obtain ⟨c, hc⟩ : ∃ c, cnt m = c := ⟨_, rfl⟩
  rw [hc] at c1 c2 ⊢
  clear hc
  go_wp2_with fail
  refine (l1Least_any _ _ _).mono ?_
  rintro e _ ⟨rfl, rfl⟩
  obtain ⟨q, hq⟩ : ∃ q, min (c : Int) 60000 = q := ⟨_, rfl⟩
  have hq1 : 1 ≤ q ∧ q ≤ 60000 := by omega
  have HQ := hid hq
  rw [hq]
  clear hq
  go_wp2_with fail
  refine (pick_cur _ t1 q _ A1.cur (by omega) (by omega)).mono ?_
  rintro e w2 ⟨x, rfl, x0, x1, ⟨t2, ta, tb, hc2⟩, hg2⟩
  have A2 := A1.pick hc2 hg2
  have hx : x ≤ 60000 := by omega
  clear hc2 hg2 A1 x1
  go_wp2_with fail
  refine (l1Least_any _ _ _).mono ?_
  rintro e _ ⟨rfl, rfl⟩
  rw [HQ.out]
  go_wp2_with fail
  refine (pick_cur _ t2 q _ A2.cur (by omega) (by omega)).mono ?_
  rintro e w3 ⟨y, rfl, y0, y1, ⟨t3, tc, td, hc3⟩, hg3⟩
  have A3 := A2.pick hc3 hg3
  have hy : y ≤ 60000 := by omega
  clear hc3 hg3 A2 y1
  have A4 := A3.later (alloc_below w3 (.cells #[.int .i64 0, .int .i64 1, .int .i64 ((c : Int) - 1), .int .i64 (c : Int), .int .i64 (-1), .int .i64 x, .int .i64 y] 3)) A3.cur.lt
  go_wp2_with fail
  refine (among_cur _ t3 _ 7 7 [0, 1, (c : Int) - 1, (c : Int), -1, x, y] _ A4.cur (by omega) (has_lit7 w3 0 1 ((c : Int) - 1) (c : Int) (-1) x y) (by omega) (by omega) (lit_ne A3.cur)).mono ?_
  rintro e w4 ⟨u, rfl, hu, ⟨t4, te, tf, hc4⟩, hg4⟩
  have hu1 : -1 ≤ u ∧ u ≤ 5000000 := by simp at hu; omega
  have A5 := A4.pick hc4 hg4
  have hb := hb0.trans A5.below
  clear hu hc4 hg4 A3 A4
  go_wp2_with fail
  go_ret2
  exact ⟨_, _, rfl, v0, by omega, hu1.1, hu1.2, hb⟩
end Go.Proofs.Ytkkhlkaieohklaa

namespace Go.Proofs.Ytkkhlkaieohklaa
open Go.RowKit

set_option maxRecDepth 100000 in
set_option maxHeartbeats 800000 in
theorem drawAllParking_any (a : Option Addr) (n cap : Nat) (w : World) (h : HasB w a n w.heap.size) :
    Calls Try.prog 17 #[.slice a n cap] w (DrewNum (-1) 9 w) := by
  have C0 := cur_new (cap := cap) h
  have hb0 := fresh_below w a n cap
  obtain ⟨w1, hw1⟩ : ∃ w1, w.alloc (.cells #[.slice a n cap, .int .i64 0, .int .u64 0] 47) = w1 := ⟨_, rfl⟩
  have hs1 : w1.heap.size = w.heap.size + 1 := by rw [← hw1]; simp
  rw [hw1] at C0 hb0
  have HW := hid hw1
  clear hw1
  go_enter Try.func17, Try.ntmps17
  go_wp2_with fail
  rw [HW.out]
  have A0 : At w1 w1 w.heap.size 0 := ⟨C0, Below.refl _ _⟩
  have A1 := A0.later (alloc_below w1 (.cells #[.int .i64 0, .int .i64 1, .int .i64 2, .int .i64 3, .int .i64 4, .int .i64 4, .int .i64 5, .int .i64 6, .int .i64 (-1)] 3)) C0.lt
  have hl := has_lit9 w1 0 1 2 3 4 4 5 6 (-1)
  have hn := lit_ne C0
  rw [hs1] at hl hn
  refine (among_cur w.heap.size 0 _ 9 9 [0, 1, 2, 3, 4, 4, 5, 6, -1] _ A1.cur (by omega) hl (by omega) (by omega) hn).mono ?_
  rintro e w2 ⟨v, rfl, hv, ⟨t2, tc, td, hc2⟩, hg2⟩
  have hv1 : -1 ≤ v ∧ v ≤ 9 := by simp at hv; omega
  have A2 := A1.pick hc2 hg2
  have hb := hb0.trans A2.below
  clear hv hc2 hg2 A1 A0
  go_wp2_with fail
  go_ret
  exact ⟨_, rfl, hv1.1, hv1.2, hb⟩

set_option maxRecDepth 100000 in
set_option maxHeartbeats 800000 in
theorem drawAllSorted_any (a : Option Addr) (n cap : Nat) (w : World) (h : HasB w a n w.heap.size) :
    Calls Try.prog 22 #[.slice a n cap] w (DrewNum (-1) 9 w) := by
  have C0 := cur_new (cap := cap) h
  have hb0 := fresh_below w a n cap
  obtain ⟨w1, hw1⟩ : ∃ w1, w.alloc (.cells #[.slice a n cap, .int .i64 0, .int .u64 0] 47) = w1 := ⟨_, rfl⟩
  have hs1 : w1.heap.size = w.heap.size + 1 := by rw [← hw1]; simp
  rw [hw1] at C0 hb0
  have HW := hid hw1
  clear hw1
  go_enter Try.func22, Try.ntmps22
  go_wp2_with fail
  rw [HW.out]
  have A0 : At w1 w1 w.heap.size 0 := ⟨C0, Below.refl _ _⟩
  have A1 := A0.later (alloc_below w1 (.cells #[.int .i64 0, .int .i64 1, .int .i64 2, .int .i64 3, .int .i64 4, .int .i64 5, .int .i64 6, .int .i64 7, .int .i64 (-1)] 3)) C0.lt
  have hl := has_lit9 w1 0 1 2 3 4 5 6 7 (-1)
  have hn := lit_ne C0
  rw [hs1] at hl hn
  refine (among_cur w.heap.size 0 _ 9 9 [0, 1, 2, 3, 4, 5, 6, 7, -1] _ A1.cur (by omega) hl (by omega) (by omega) hn).mono ?_
  rintro e w2 ⟨v, rfl, hv, ⟨t2, tc, td, hc2⟩, hg2⟩
  have hv1 : -1 ≤ v ∧ v ≤ 9 := by simp at hv; omega
  have A2 := A1.pick hc2 hg2
  have hb := hb0.trans A2.below
  clear hv hc2 hg2 A1 A0
  go_wp2_with fail
  go_ret
  exact ⟨_, rfl, hv1.1, hv1.2, hb⟩

end Go.Proofs.Ytkkhlkaieohklaa

namespace Go.Proofs.Ytkkhlkaieohklaa
open Go.RowKit

/-- The first k numbers of a mixture are laid. -/
def Mixed (zs ys : List Int) (k : Nat) : Prop := ∀ i, i < k → nth ys i = nth zs i

theorem mix_nth {xs ys : List Int} {low : Bool} {k : Nat} (hx : k < xs.length) (hy : k < ys.length) : nth (mixWith xs ys low) k = if low then min (nth xs k) (nth ys k) else max (nth xs k) (nth ys k) := by
  simp [nth, mixWith, List.getElem?_zipWith, hx, hy]

end Go.Proofs.Ytkkhlkaieohklaa

namespace Go.Proofs.Ytkkhlkaieohklaa
open Go.RowKit

set_option maxHeartbeats 800000 in
theorem pnext_any (a : Option Addr) (n cap : Nat) (xs : List Int) (w : World) (h : Has w a n cap xs) (h8 : n ≤ 8) (hx : ∀ i, i < n → 0 ≤ nth xs i ∧ nth xs i ≤ 8) :
    Calls Try.prog 51 #[.slice a n cap] w (PostInts w (nextP xs n)) := by
  have HE := hid (nextU_idx h.len h8 n (Nat.le_refl _))
  have HX : Hid (∀ i, i < n → 0 ≤ nth xs i ∧ nth xs i ≤ 13) := hid (fun i hi => by have := hx i hi; omega)
  obtain ⟨⟨ys, ok⟩, hr⟩ : ∃ r, nextP xs n = r := ⟨_, rfl⟩
  have HR := hid hr
  clear hr hx
  go_enter Try.func51, Try.ntmps51
  go_wp2_with fail
  refine (indices_any n _ (by omega)).mono ?_
  rintro e w1 ⟨a1, cap1, rfl, hown1, hb1⟩
  go_wp2_with fail
  refine (nextU_any _ _ _ _ _ _ _ _ (h.below hb1 (Nat.le_refl _)) hown1.has h8 HX.out).mono ?_
  rw [HE.out, HR.out]
  rintro e w2 ⟨a2, m2, cap2, rfl, hown2, hb2⟩
  go_wp2_with fail
  go_ret2
  exact postInts HR.out (hown2.mono hb1.size) (hb1.trans (hb2.mono hb1.size))

theorem parks_small {xs : List Int} {n : Nat} (h : isPark xs = true) (hn : xs.length = n) : n ≤ 8 ∧ ∀ i, i < n → 0 ≤ nth xs i ∧ nth xs i ≤ 8 := by
  obtain ⟨h1, h2⟩ := isPark_bounds h
  refine ⟨by omega, fun i hi => ?_⟩
  have := h2 _ (nth_mem (xs := xs) (i := i) (by omega))
  omega
theorem nextOf_none {xs : List Int} (h : ¬ isPark xs = true) : nextOf xs = ([], false) := by simp [nextOf, h]

set_option maxHeartbeats 800000 in
theorem nextParking_any (a : Option Addr) (n cap : Nat) (xs : List Int) (w : World) (h : Has w a n cap xs) :
    Calls Try.prog 14 #[.slice a n cap] w (PostInts w (nextOf xs)) := by
  by_cases hg : isPark xs = true
  · obtain ⟨h8, hx⟩ := parks_small hg h.len
    have HN : Hid (nextP xs n = nextOf xs) := hid (by rw [← h.len]; exact nextP_eq hg)
    have HG := hid hg
    clear hg
    go_enter Try.func14, Try.ntmps14
    go_wp2_with (go_at_call 49; refine (isParkingFunction_any _ _ _ _ _ h).mono ?_; rintro e w1 ⟨rfl, hb1⟩; rw [HG.out])
    refine (pnext_any _ _ _ _ _ (h.below hb1 (Nat.le_refl _)) h8 hx).mono ?_
    rw [HN.out]
    obtain ⟨⟨ys, ok⟩, hq⟩ : ∃ r, nextOf xs = r := ⟨_, rfl⟩
    rw [hq]
    have HQ := hid hq
    clear hq
    rintro e w2 ⟨a2, m2, cap2, rfl, hown2, hb2⟩
    go_wp2_with fail
    go_ret2
    exact postInts HQ.out (hown2.mono hb1.size) (hb1.trans (hb2.mono hb1.size))
  · have HN := hid (nextOf_none hg)
    have HG := hid hg
    clear hg
    go_enter Try.func14, Try.ntmps14
    go_wp2_with (go_at_call 49; refine (isParkingFunction_any _ _ _ _ _ h).mono ?_; rintro e w1 ⟨rfl, hb1⟩; rw [Bool.eq_false_iff.2 HG.out])
    go_ret2
    exact postInts_no HN.out hb1

set_option maxHeartbeats 800000 in
theorem pnextSorted_any (a : Option Addr) (n cap : Nat) (xs : List Int) (w : World) (h : Has w a n cap xs) (h8 : n ≤ 8) (hx : ∀ i, i < n → 0 ≤ nth xs i ∧ nth xs i ≤ 8) :
    Calls Try.prog 55 #[.slice a n cap] w (PostInts w (nextS xs n)) := by
  have HE := hid (nextW_idx (xs := xs) n (Nat.le_refl _))
  have HX : Hid (∀ i, i < n → 0 ≤ nth xs i ∧ nth xs i ≤ 13) := hid (fun i hi => by have := hx i hi; omega)
  obtain ⟨⟨ys, ok⟩, hr⟩ : ∃ r, nextS xs n = r := ⟨_, rfl⟩
  have HR := hid hr
  clear hr hx
  go_enter Try.func55, Try.ntmps55
  go_wp2_with fail
  refine (indices_any n _ (by omega)).mono ?_
  rintro e w1 ⟨a1, cap1, rfl, hown1, hb1⟩
  go_wp2_with fail
  refine (nextW_any _ _ _ _ _ _ _ _ (h.below hb1 (Nat.le_refl _)) hown1.has h8 HX.out).mono ?_
  rw [HE.out, HR.out]
  rintro e w2 ⟨a2, m2, cap2, rfl, hown2, hb2⟩
  go_wp2_with fail
  go_ret2
  exact postInts HR.out (hown2.mono hb1.size) (hb1.trans (hb2.mono hb1.size))
end Go.Proofs.Ytkkhlkaieohklaa

namespace Go.Proofs.Ytkkhlkaieohklaa
open Go.RowKit

set_option maxHeartbeats 4000000 in
theorem allNext_any (n : Nat) (L : List (List Int)) (hch : Chain (fun xs => nextP xs xs.length) L) (h8 : n ≤ 8) (hq : L.length ≤ 100000) (hv : ∀ k, k < L.length → (L.getD k []).length = n ∧ ∀ i, i < n → 0 ≤ nth (L.getD k []) i ∧ nth (L.getD k []) i ≤ 8)
    (w0 w : World) (a : Option Addr) (m cap : Nat) (xs : List Int) (hb0 : Below w0.heap.size w0 w) (hfirst : Own w w0.heap.size a m cap xs) (hx : L.getD 0 [] = xs) :
    Calls Try.prog 53 #[.slice a m cap, .func (.func 51) #[] #[]] w (PostRowsOnly w0 L) := by
  obtain ⟨hL0, hL1, hL2⟩ := hch
  have H1 := hid hL1
  have H2 := hid hL2
  have HV := hid hv
  have HX := hid hx
  clear hL1 hL2 hv hx
  go_enter Try.func53, Try.ntmps53
  go_wp2_with fail
  go_loopw [5, 6, 7] (fun o s b wr => ∃ (k : Nat) (wk : World) (a' : Option Addr) (cap' : Nat) (rs : List Rw) (a1 : Option Addr) (m1 c1 : Nat) (ys : List Int) (ok : Bool), k ≤ L.length ∧ o = .slice a' k cap' ∧ s = .slice a1 m1 c1 ∧ b = .bool ok ∧ Hid (ok = decide (k < L.length)) ∧
    OwnR wk w0.heap.size a' k cap' rs ∧ Hid (numsOf rs = L.take k) ∧ Below wk.heap.size wk wr ∧ w0.heap.size ≤ wk.heap.size ∧ Own wr wk.heap.size a1 m1 c1 ys ∧ Hid (k < L.length → L.getD k [] = ys) ∧ Below w0.heap.size w0 wr) (fun o _ _ _ => L.length + 1 - (match o with | .slice _ k _ => k | _ => 0))
  case atStart => exact ⟨0, w0, none, 0, [], a, m, cap, xs, true, Nat.zero_le _, rfl, rfl, rfl, hid (by simp [hL0]), OwnR.nil _ _, hid rfl, hb0, Nat.le_refl _, hfirst, hid (fun _ => HX.out), hb0⟩
  case round =>
    clear hb0 hfirst
    obtain ⟨k, wk, a', cap', rs, a1, m1, c1, ys, ok, hk, rfl, rfl, rfl, HOK, hrows, HR, hbk, hwk, hys, HY, hb⟩ := hrel
    by_cases hlt : k < L.length
    · obtain rfl : ok = true := by rw [HOK.out]; simp [hlt]
      obtain ⟨v1, v2⟩ := HV.out k hlt
      have hyl := HY.out hlt
      rw [hyl] at v1 v2
      obtain rfl : n = m1 := by rw [← v1]; exact hys.len
      have V2 := hid v2
      have V1 := hid v1
      have HYL := hid hyl
      have HT := hid (take_getD hlt)
      have HR' : Hid (numsOf rs ++ [ys] = L.take (k + 1)) := hid (by rw [HT.out, HR.out, HYL.out])
      have hlen := hrows.len
      have HLEN := hid hlen
      clear v1 v2 hyl hlen
      go_wp2_with (at_builtin; refine wpList_append_row wk wr rfl _ _ rfl w0.heap.size _ _ _ _ _ _ _ _ rfl rfl hrows hbk hys (by omega) hwk ?_; intro a2 cap2 w2 hrows2 hb2)
      have hrow : Has w2 a1 n c1 ys := by
        have := hrows2.has.2.2.2.2.2 k (by omega)
        rw [nthR_append_right (by rw [HLEN.out]; exact Nat.le_refl _), HLEN.out, Nat.sub_self, nthR_one] at this
        simpa [V1.out] using this
      refine (pnext_any _ _ _ _ _ hrow h8 V2.out).mono ?_
      have hw2 : w0.heap.size ≤ w2.heap.size := Nat.le_trans (Nat.le_trans hwk hbk.size) hb2.size
      have hbw := hb.trans hb2
      by_cases hk1 : k + 1 < L.length
      · have HF := H1.out k hk1
        rw [HYL.out] at HF
        simp only [V1.out] at HF
        rw [HF]
        rintro e w3 ⟨a3, m3, cap3, rfl, hown3, hb3⟩
        clear HF
        go_wp2_with fail
        go_roundw
        case rel => exact ⟨k + 1, w2, a2, cap2, _, a3, m3, cap3, _, true, by omega, rfl, rfl, rfl, hid (by simp [hk1]), hrows2, hid (by rw [← HR'.out]; simp [numsOf]), hb3, hw2, hown3, hid (fun _ => rfl), hbw.trans (hb3.mono hw2)⟩
        case measure => simp; omega
      · have HF := H2.out
        rw [show L.length - 1 = k by omega, HYL.out] at HF
        simp only [V1.out] at HF
        rw [HF]
        rintro e w3 ⟨a3, m3, cap3, rfl, hown3, hb3⟩
        clear HF
        go_wp2_with fail
        go_roundw
        case rel => exact ⟨k + 1, w2, a2, cap2, _, a3, m3, cap3, _, false, by omega, rfl, rfl, rfl, hid (by simp [hk1]), hrows2, hid (by rw [← HR'.out]; simp [numsOf]), hb3, hw2, hown3, hid (fun h => absurd h hk1), hbw.trans (hb3.mono hw2)⟩
        case measure => simp; omega
    · obtain rfl : ok = false := by rw [HOK.out]; simp [hlt]
      have HE : Hid (numsOf rs = L) := hid (by rw [HR.out, List.take_of_length_le (by omega)])
      go_wp2_with fail
      go_ret
      exact ⟨a', k, cap', rs, rfl, hrows.below hbk (Nat.le_refl _), HE.out, hb⟩

set_option maxHeartbeats 4000000 in
theorem allSort_any (n : Nat) (L : List (List Int)) (hch : Chain (fun xs => nextS xs xs.length) L) (h8 : n ≤ 8) (hq : L.length ≤ 100000) (hv : ∀ k, k < L.length → (L.getD k []).length = n ∧ ∀ i, i < n → 0 ≤ nth (L.getD k []) i ∧ nth (L.getD k []) i ≤ 8)
    (w0 w : World) (a : Option Addr) (m cap : Nat) (xs : List Int) (hb0 : Below w0.heap.size w0 w) (hfirst : Own w w0.heap.size a m cap xs) (hx : L.getD 0 [] = xs) :
    Calls Try.prog 53 #[.slice a m cap, .func (.func 55) #[] #[]] w (PostRowsOnly w0 L) := by
  obtain ⟨hL0, hL1, hL2⟩ := hch
  have H1 := hid hL1
  have H2 := hid hL2
  have HV := hid hv
  have HX := hid hx
  clear hL1 hL2 hv hx
  go_enter Try.func53, Try.ntmps53
  go_wp2_with fail
  go_loopw [5, 6, 7] (fun o s b wr => ∃ (k : Nat) (wk : World) (a' : Option Addr) (cap' : Nat) (rs : List Rw) (a1 : Option Addr) (m1 c1 : Nat) (ys : List Int) (ok : Bool), k ≤ L.length ∧ o = .slice a' k cap' ∧ s = .slice a1 m1 c1 ∧ b = .bool ok ∧ Hid (ok = decide (k < L.length)) ∧
    OwnR wk w0.heap.size a' k cap' rs ∧ Hid (numsOf rs = L.take k) ∧ Below wk.heap.size wk wr ∧ w0.heap.size ≤ wk.heap.size ∧ Own wr wk.heap.size a1 m1 c1 ys ∧ Hid (k < L.length → L.getD k [] = ys) ∧ Below w0.heap.size w0 wr) (fun o _ _ _ => L.length + 1 - (match o with | .slice _ k _ => k | _ => 0))
  case atStart => exact ⟨0, w0, none, 0, [], a, m, cap, xs, true, Nat.zero_le _, rfl, rfl, rfl, hid (by simp [hL0]), OwnR.nil _ _, hid rfl, hb0, Nat.le_refl _, hfirst, hid (fun _ => HX.out), hb0⟩
  case round =>
    clear hb0 hfirst
    obtain ⟨k, wk, a', cap', rs, a1, m1, c1, ys, ok, hk, rfl, rfl, rfl, HOK, hrows, HR, hbk, hwk, hys, HY, hb⟩ := hrel
    by_cases hlt : k < L.length
    · obtain rfl : ok = true := by rw [HOK.out]; simp [hlt]
      obtain ⟨v1, v2⟩ := HV.out k hlt
      have hyl := HY.out hlt
      rw [hyl] at v1 v2
      obtain rfl : n = m1 := by rw [← v1]; exact hys.len
      have V2 := hid v2
      have V1 := hid v1
      have HYL := hid hyl
      have HT := hid (take_getD hlt)
      have HR' : Hid (numsOf rs ++ [ys] = L.take (k + 1)) := hid (by rw [HT.out, HR.out, HYL.out])
      have hlen := hrows.len
      have HLEN := hid hlen
      clear v1 v2 hyl hlen
      go_wp2_with (at_builtin; refine wpList_append_row wk wr rfl _ _ rfl w0.heap.size _ _ _ _ _ _ _ _ rfl rfl hrows hbk hys (by omega) hwk ?_; intro a2 cap2 w2 hrows2 hb2)
      have hrow : Has w2 a1 n c1 ys := by
        have := hrows2.has.2.2.2.2.2 k (by omega)
        rw [nthR_append_right (by rw [HLEN.out]; exact Nat.le_refl _), HLEN.out, Nat.sub_self, nthR_one] at this
        simpa [V1.out] using this
      refine (pnextSorted_any _ _ _ _ _ hrow h8 V2.out).mono ?_
      have hw2 : w0.heap.size ≤ w2.heap.size := Nat.le_trans (Nat.le_trans hwk hbk.size) hb2.size
      have hbw := hb.trans hb2
      by_cases hk1 : k + 1 < L.length
      · have HF := H1.out k hk1
        rw [HYL.out] at HF
        simp only [V1.out] at HF
        rw [HF]
        rintro e w3 ⟨a3, m3, cap3, rfl, hown3, hb3⟩
        clear HF
        go_wp2_with fail
        go_roundw
        case rel => exact ⟨k + 1, w2, a2, cap2, _, a3, m3, cap3, _, true, by omega, rfl, rfl, rfl, hid (by simp [hk1]), hrows2, hid (by rw [← HR'.out]; simp [numsOf]), hb3, hw2, hown3, hid (fun _ => rfl), hbw.trans (hb3.mono hw2)⟩
        case measure => simp; omega
      · have HF := H2.out
        rw [show L.length - 1 = k by omega, HYL.out] at HF
        simp only [V1.out] at HF
        rw [HF]
        rintro e w3 ⟨a3, m3, cap3, rfl, hown3, hb3⟩
        clear HF
        go_wp2_with fail
        go_roundw
        case rel => exact ⟨k + 1, w2, a2, cap2, _, a3, m3, cap3, _, false, by omega, rfl, rfl, rfl, hid (by simp [hk1]), hrows2, hid (by rw [← HR'.out]; simp [numsOf]), hb3, hw2, hown3, hid (fun h => absurd h hk1), hbw.trans (hb3.mono hw2)⟩
        case measure => simp; omega
    · obtain rfl : ok = false := by rw [HOK.out]; simp [hlt]
      have HE : Hid (numsOf rs = L) := hid (by rw [HR.out, List.take_of_length_le (by omega)])
      go_wp2_with fail
      go_ret
      exact ⟨a', k, cap', rs, rfl, hrows.below hbk (Nat.le_refl _), HE.out, hb⟩

theorem chain_next {n : Nat} (h8 : n ≤ 8) : Chain (fun xs => nextP xs xs.length) (listL n n []) := by
  obtain ⟨⟨c1, c2, c3⟩, _, _, hp⟩ := all_chain h8
  refine ⟨c1, fun k hk => ?_, ?_⟩
  · show nextP _ _ = _
    rw [nextP_eq (hp k (by omega)).1]
    exact c2 k hk
  · show nextP _ _ = _
    rw [nextP_eq (hp _ (by omega)).1]
    exact c3
theorem cnt_le5 {n : Nat} (h : n ≤ 5) : cnt n ≤ 1296 := by
  have : ∀ n, n < 6 → cnt n ≤ 1296 := by decide +kernel
  exact this n (by omega)

set_option maxHeartbeats 400000 in
theorem allParking_any (n : Int) (w : World) : Calls Try.prog 18 #[.int .i64 n] w (PostRows w (allOf n)) := by
  by_cases h1 : 0 ≤ n
  · by_cases h2 : n ≤ 5
    · obtain ⟨m, rfl⟩ : ∃ m : Nat, n = (m : Int) := ⟨n.toNat, by omega⟩
      have hm : m ≤ 5 := by omega
      have HA := hid (allOf_yes (inB_iff.2 ⟨h1, h2⟩))
      obtain ⟨_, hf, hl, hp⟩ := all_chain (n := m) (by omega)
      have hc5 := cnt_le5 hm
      have HF := hid hf
      have HC := hid (chain_next (n := m) (by omega))
      have HV : Hid (∀ k, k < (listL m m []).length → ((listL m m []).getD k []).length = m ∧ ∀ i, i < m → 0 ≤ nth ((listL m m []).getD k []) i ∧ nth ((listL m m []).getD k []) i ≤ 8) := hid (fun k hk => ⟨(hp k hk).2, (parks_small (hp k hk).1 (hp k hk).2).2⟩)
      have HL : Hid ((listL m m []).length ≤ 100000) := hid (by omega)
      clear hf hl hp
      go_enter Try.func18, Try.ntmps18
      go_wp2_with (refine wpList_make_intsT 58 Try.underlying58 _ rfl _ _ rfl m rfl rfl (by omega) ?_; intro a1 cap1 w1 hown1 hb1)
      refine (allNext_any m (listL m m []) HC.out (by omega) HL.out HV.out w _ _ _ _ _ hb1 hown1 HF.out).mono ?_
      rintro e w2 ⟨a2, q2, cap2, rs2, rfl, hown2, hn2, hb2⟩
      go_wp2_with fail
      go_ret2
      exact postRows HA.out hown2 hn2 hb2
    · have HA := hid (allOf_no (n := n) (by rw [Bool.not_eq_true, inB_not]; omega))
      go_enter Try.func18, Try.ntmps18
      go_wp2_with fail
      go_ret2
      exact postRows_no HA.out (Below.refl _ _)
  · have HA := hid (allOf_no (n := n) (by rw [Bool.not_eq_true, inB_not]; omega))
    go_enter Try.func18, Try.ntmps18
    go_wp2_with fail
    go_ret2
    exact postRows_no HA.out (Below.refl _ _)

theorem allSortedOf_yes {n : Nat} (h : inB (n : Int) 0 6 = true) : allSortedOf n = (sortL n [], true) := by simp [allSortedOf, h]
theorem allSortedOf_no {n : Int} (h : ¬ inB n 0 6 = true) : allSortedOf n = ([], false) := by simp [allSortedOf, h]
theorem sorted_facts {n : Nat} (h : n ≤ 6) : Chain (fun xs => nextS xs xs.length) (sortL n []) ∧ (sortL n []).getD 0 [] = List.replicate n 0 ∧ (sortL n []).length ≤ 132 ∧
    ∀ k, k < (sortL n []).length → ((sortL n []).getD k []).length = n ∧ ∀ i, i < n → 0 ≤ nth ((sortL n []).getD k []) i ∧ nth ((sortL n []).getD k []) i ≤ 8 := by
  obtain ⟨c1, c2, c3, c4⟩ := sorted_chain n (by omega)
  refine ⟨chain_of c1, c2, c3, fun k hk => ?_⟩
  have hm : (sortL n []).getD k [] ∈ sortL n [] := by simp [hk]
  have := List.all_eq_true.1 c4 _ hm
  simp only [Bool.and_eq_true, decide_eq_true_eq] at this
  refine ⟨this.1, fun i hi => ?_⟩
  have := allB_nth this.2 (k := i) (by omega)
  omega

set_option maxHeartbeats 400000 in
theorem allSorted_any (n : Int) (w : World) : Calls Try.prog 23 #[.int .i64 n] w (PostRows w (allSortedOf n)) := by
  by_cases h1 : 0 ≤ n
  · by_cases h2 : n ≤ 6
    · obtain ⟨m, rfl⟩ : ∃ m : Nat, n = (m : Int) := ⟨n.toNat, by omega⟩
      have hm : m ≤ 6 := by omega
      have HA := hid (allSortedOf_yes (inB_iff.2 ⟨h1, h2⟩))
      obtain ⟨hc, hf, hl, hp⟩ := sorted_facts hm
      have HF := hid hf
      have HC := hid hc
      have HV := hid hp
      have HL : Hid ((sortL m []).length ≤ 100000) := hid (by omega)
      clear hf hl hp hc
      go_enter Try.func23, Try.ntmps23
      go_wp2_with (refine wpList_make_intsT 58 Try.underlying58 _ rfl _ _ rfl m rfl rfl (by omega) ?_; intro a1 cap1 w1 hown1 hb1)
      refine (allSort_any m (sortL m []) HC.out (by omega) HL.out HV.out w _ _ _ _ _ hb1 hown1 HF.out).mono ?_
      rintro e w2 ⟨a2, q2, cap2, rs2, rfl, hown2, hn2, hb2⟩
      go_wp2_with fail
      go_ret2
      exact postRows HA.out hown2 hn2 hb2
    · have HA := hid (allSortedOf_no (n := n) (by rw [Bool.not_eq_true, inB_not]; omega))
      go_enter Try.func23, Try.ntmps23
      go_wp2_with fail
      go_ret2
      exact postRows_no HA.out (Below.refl _ _)
  · have HA := hid (allSortedOf_no (n := n) (by rw [Bool.not_eq_true, inB_not]; omega))
    go_enter Try.func23, Try.ntmps23
    go_wp2_with fail
    go_ret2
    exact postRows_no HA.out (Below.refl _ _)
end Go.Proofs.Ytkkhlkaieohklaa

namespace Go.Proofs.Ytkkhlkaieohklaa
open Go.RowKit

/-- Whether the bytes are too many. -/
def Big (n m : Nat) (w : World) (e : Ending) (w' : World) : Prop := ∃ r : Bool, e = .returned (.bool r) ∧ (r = false → n + m ≤ 1048576) ∧ w = w'

theorem big_any (a b : Option Addr) (n m cap cap' : Nat) (w : World) (hn : n ≤ 9223372036854775807) :
    Calls Try.prog 6 #[.slice a n cap, .slice b m cap'] w (Big n m w) := by
  by_cases h1 : (1048576 : Int) < (n : Int)
  · go_enter Try.func6, Try.ntmps6
    go_wp2_with fail
    go_ret
    exact ⟨true, ret_bool (by simp), by simp, rfl⟩
  · by_cases h2 : (1048576 : Int) - n < (m : Int)
    · go_enter Try.func6, Try.ntmps6
      go_wp2_with fail
      go_ret
      exact ⟨true, ret_bool (by simp), by simp, rfl⟩
    · go_enter Try.func6, Try.ntmps6
      go_wp2_with fail
      go_ret
      exact ⟨false, ret_bool (by simp), fun _ => by omega, rfl⟩

set_option maxHeartbeats 400000 in
theorem numberOf_any (a : Option Addr) (n cap K : Nat) (w : World) (h : HasB w a n K) :
    Calls Try.prog 21 #[.slice a n cap] w fun e w' => ∃ v : Int, e = .returned (.int .i64 v) ∧ 0 ≤ v ∧ v ≤ 1000002 ∧ w = w' := by
  obtain ⟨hn, h4⟩ := h
  go_enter Try.func21, Try.ntmps21
  go_wp2_with fail
  go_loop [3, 8] (fun c i => ∃ (k : Nat) (v : Int), k ≤ n ∧ i = .int .i64 k ∧ c = .int .i64 v ∧ 0 ≤ v ∧ v ≤ 1000002) (fun _ i => n - (intOf i).toNat)
  case atStart => exact ⟨0, 0, Nat.zero_le _, rfl, rfl, by omega, by omega⟩
  case round =>
    obtain ⟨k, v, hk, rfl, rfl, v0, v1⟩ := hrel
    by_cases hlt : k < n
    · obtain ⟨b, off, rfl, hb, hc⟩ := h4 (by omega)
      obtain ⟨u, u0, u1, hck⟩ := hc k hlt
      clear hc h4
      have m0 : 0 ≤ (31 * v + u) % 1000003 := Int.emod_nonneg _ (by omega)
      have m1 : (31 * v + u) % 1000003 ≤ 1000002 := by omega
      go_wp2_with fail
      go_round
      case rel => exact ⟨k + 1, (31 * v + u) % 1000003, by omega, by go_num, rfl, m0, m1⟩
      case measure => simp [intOf]; omega
    · go_wp2_with fail
      go_ret
      exact ⟨v, rfl, v0, v1, rfl⟩

set_option maxHeartbeats 400000 in
theorem jSame_any (a b : Option Addr) (n m cap cap' : Nat) (xs ys : List Int) (w : World) (h : Has w a n cap xs) (h' : Has w b m cap' ys) :
    Calls Try.prog 12 #[.slice a n cap, .slice b m cap'] w fun e w' => e = .returned (.bool (same xs ys)) ∧ Quiet w w' := by
  obtain ⟨h0, h1, h2, h3, h4⟩ := h
  obtain ⟨k0, k1, k2, k3, k4⟩ := h'
  by_cases hnm : n = m
  · have hb : ((n : Int) != (m : Int)) = false := by simp [hnm]
    subst hnm
    go_enter Try.func12, Try.ntmps12
    go_wp2_with fail
    go_loopw [13] (fun i wr => ∃ k : Nat, k ≤ n ∧ i = .int .i64 k ∧ FromTo xs ys k ∧ Quiet w wr) (fun i _ => n - (intOf i).toNat)
    case atStart => exact ⟨0, Nat.zero_le _, rfl, fun i hi => by omega, ⟨0, rfl⟩⟩
    case round =>
      obtain ⟨k, hk, rfl, hft, q, hq⟩ := hrel
      subst hq
      by_cases hlt : k < n
      · obtain ⟨b1, off1, rfl, hb1, hc1⟩ := h4 (by omega)
        obtain ⟨b2, off2, rfl, hb2, hc2⟩ := k4 (by omega)
        have hck := hc1 k hlt
        have hdk := hc2 k hlt
        have hkk : (k : Int) < (n : Int) := by omega
        have hkz : (0 : Int) ≤ (k : Int) := by omega
        clear hc1 hc2 h4 k4
        by_cases he : nth xs k = nth ys k
        · have hbe : (nth xs k != nth ys k) = false := by simp [he]
          have HE := hid he
          clear he
          go_wp2_with fail
          go_quiet (fail)
          go_wp2_with fail
          go_roundw
          case rel => exact ⟨k + 1, by omega, by go_num, fun i hi => by rcases Nat.lt_succ_iff_lt_or_eq.1 hi with h | rfl; exact hft i h; exact HE.out.symm, ⟨_, rfl⟩⟩
          case measure => simp [intOf]; omega
        · have hbe : (nth xs k != nth ys k) = true := by simp [he]
          have HE := hid he
          clear he
          go_wp2_with fail
          go_quiet (fail)
          go_wp2_with fail
          go_ret
          exact ⟨ret_bool (same_no HE.out).symm, (Quiet.more ⟨_, rfl⟩ _)⟩
      · obtain rfl : k = n := by omega
        go_wp2_with fail
        go_ret
        exact ⟨ret_bool (same_yes (by omega) (by rw [h0]; exact hft)).symm, ⟨_, rfl⟩⟩
  · have hb : ((n : Int) != (m : Int)) = true := by simp; omega
    go_enter Try.func12, Try.ntmps12
    go_wp2_with fail
    go_ret
    exact ⟨ret_bool (show false = same xs ys from by unfold same; symm; rw [decide_eq_false_iff_not]; rintro rfl; omega), ⟨0, rfl⟩⟩

end Go.Proofs.Ytkkhlkaieohklaa

namespace Go.Proofs.Ytkkhlkaieohklaa
open Go.RowKit

set_option maxHeartbeats 800000 in
theorem jRows_any (a b : Option Addr) (n m cap cap' : Nat) (rs ss : List Rw) (w : World) (h : HasR w a n cap rs) (h' : HasR w b m cap' ss) :
    Calls Try.prog 20 #[.slice a n cap, .slice b m cap'] w fun e w' => e = .returned (.bool (sameR rs ss)) ∧ Quiet w w' := by
  obtain ⟨h0, h1, h2, h3, h4, h5⟩ := h
  obtain ⟨k0, k1, k2, k3, k4, k5⟩ := h'
  by_cases hnm : n = m
  · have hb : ((n : Int) != (m : Int)) = false := by simp [hnm]
    subst hnm
    have HL := hid h0
    have HL' := hid k0
    have H5 := hid h5
    have K5 := hid k5
    clear h0 k0 h5 k5
    go_enter Try.func20, Try.ntmps20
    go_wp2_with fail
    go_loopw [13] (fun i wr => ∃ k : Nat, k ≤ n ∧ i = .int .i64 k ∧ Hid (∀ j, j < k → same (nthR rs j).xs (nthR ss j).xs = true) ∧ Quiet w wr) (fun i _ => n - (intOf i).toNat)
    case atStart => exact ⟨0, Nat.zero_le _, rfl, hid (fun i hi => by omega), ⟨0, rfl⟩⟩
    case round =>
      obtain ⟨k, hk, rfl, HF, HQ⟩ := hrel
      by_cases hlt : k < n
      · obtain ⟨b1, off1, rfl, hb1, hc1⟩ := h4 (by omega)
        obtain ⟨b2, off2, rfl, hb2, hc2⟩ := k4 (by omega)
        have hck : wr.cell? ⟨b1, off1 + k, none⟩ = some (nthR rs k).v := by obtain ⟨q, hq⟩ := HQ; rw [hq]; exact hc1 k hlt
        have hdk : wr.cell? ⟨b2, off2 + k, none⟩ = some (nthR ss k).v := by obtain ⟨q, hq⟩ := HQ; rw [hq]; exact hc2 k hlt
        have hkk : (k : Int) < (n : Int) := by omega
        have hkz : (0 : Int) ≤ (k : Int) := by omega
        have cq : ∀ j, Calls Try.prog 12 #[(nthR rs k).v, (nthR ss k).v] (wr.drewN j) fun e w' => e = .returned (.bool (same (nthR rs k).xs (nthR ss k).xs)) ∧ ∃ m, w' = (wr.drewN j).drewN m := fun j =>
          jSame_any _ _ _ _ _ _ _ _ _ (by obtain ⟨q, hq⟩ := HQ; rw [hq]; exact H5.out k hlt) (by obtain ⟨q, hq⟩ := HQ; rw [hq]; exact K5.out k hlt)
        clear hc1 hc2 h4 k4
        have HN := hid (sameR_no (rs := rs) (ss := ss) (k := k) (by rw [HL.out]; omega) (by rw [HL'.out]; omega))
        have HF2 := hid (fun (hh : same (nthR rs k).xs (nthR ss k).xs = true) (j : Nat) (hj : j < k + 1) => (show same (nthR rs j).xs (nthR ss j).xs = true from by rcases Nat.lt_succ_iff_lt_or_eq.1 hj with h1 | rfl; exact HF.out j h1; exact hh))
        generalize nthR rs k = rk at *
        generalize nthR ss k = sk at *
        by_cases he : same rk.xs sk.xs = true
        · have HE := hid he
          rw [he] at cq
          have CQ := hid cq
          clear he cq
          go_wp2_with fail
          go_quiet ((go_at_call 12; exact Calls.quiet_of (CQ.out _)))
          go_wp2_with fail
          go_roundw
          case rel => exact ⟨k + 1, by omega, by go_num, hid (HF2.out HE.out), Quiet.more HQ _⟩
          case measure => simp [intOf]; omega
        · have he' := Bool.eq_false_iff.2 he
          have HE := hid he'
          rw [he'] at cq
          have CQ := hid cq
          clear he he' cq
          go_wp2_with fail
          go_quiet ((go_at_call 12; exact Calls.quiet_of (CQ.out _)))
          go_wp2_with fail
          go_ret
          exact ⟨ret_bool (HN.out HE.out).symm, Quiet.more HQ _⟩
      · obtain rfl : k = n := by omega
        go_wp2_with fail
        go_ret
        exact ⟨ret_bool (sameR_yes (by rw [HL.out, HL'.out]) (by rw [HL.out]; exact HF.out)).symm, HQ⟩
  · have hb : ((n : Int) != (m : Int)) = true := by simp; omega
    have HR : Hid (sameR rs ss = false) := hid (by
      unfold sameR; rw [decide_eq_false_iff_not]
      intro e
      have : (numsOf rs).length = (numsOf ss).length := by rw [e]
      simp [numsOf] at this
      omega)
    go_enter Try.func20, Try.ntmps20
    go_wp2_with fail
    go_ret
    exact ⟨ret_bool HR.out.symm, ⟨0, rfl⟩⟩


set_option maxHeartbeats 800000 in
theorem jLess_any (a b : Option Addr) (n cap cap' : Nat) (xs ys : List Int) (w : World) (h : Has w a n cap xs) (h' : Has w b n cap' ys) :
    Calls Try.prog 16 #[.slice a n cap, .slice b n cap'] w fun e w' => e = .returned (.bool (lexLess xs ys)) ∧ Quiet w w' := by
  obtain ⟨h0, h1, h2, h3, h4⟩ := h
  obtain ⟨k0, k1, k2, k3, k4⟩ := h'
  have HL := hid h0
  have HL' := hid k0
  clear h0 k0
  go_enter Try.func16, Try.ntmps16
  go_wp2_with fail
  go_loopw [8] (fun i wr => ∃ k : Nat, k ≤ n ∧ i = .int .i64 k ∧ Hid (∀ i, i < k → nth xs i = nth ys i) ∧ Quiet w wr) (fun i _ => n - (intOf i).toNat)
  case atStart => exact ⟨0, Nat.zero_le _, rfl, hid (fun i hi => by omega), ⟨0, rfl⟩⟩
  case round =>
    obtain ⟨k, hk, rfl, HF, q, hq⟩ := hrel
    subst hq
    by_cases hlt : k < n
    · obtain ⟨b1, off1, rfl, hb1, hc1⟩ := h4 (by omega)
      obtain ⟨b2, off2, rfl, hb2, hc2⟩ := k4 (by omega)
      have hck := hc1 k hlt
      have hdk := hc2 k hlt
      have hkk : (k : Int) < (n : Int) := by omega
      have hkz : (0 : Int) ≤ (k : Int) := by omega
      have HX := hid (fun (hne : nth xs k ≠ nth ys k) => lexLess_at k xs ys (by rw [HL.out]; exact hlt) (by rw [HL.out, HL'.out]) HF.out hne)
      clear hc1 hc2 h4 k4
      by_cases he : nth xs k = nth ys k
      · have hbe : (nth xs k != nth ys k) = false := by simp [he]
        have HE := hid he
        clear he
        go_wp2_with fail
        go_quiet (fail)
        go_wp2_with fail
        go_roundw
        case rel => exact ⟨k + 1, by omega, by go_num, hid (fun i hi => by rcases Nat.lt_succ_iff_lt_or_eq.1 hi with h | rfl; exact HF.out i h; exact HE.out), ⟨_, rfl⟩⟩
        case measure => simp [intOf]; omega
      · have hbe : (nth xs k != nth ys k) = true := by simp [he]
        have HR := hid (HX.out he)
        clear he HX
        go_wp2_with fail
        go_quiet (fail)
        go_wp2_with fail
        go_quiet (fail)
        go_wp2_with fail
        go_ret
        exact ⟨ret_bool HR.out.symm, (Quiet.more (Quiet.more ⟨_, rfl⟩ _) _)⟩
    · obtain rfl : k = n := by omega
      have HR : Hid (lexLess xs ys = false) := hid (by
        rw [ext_nth (xs := xs) (ys := ys) (by rw [HL.out, HL'.out]) (by rw [HL.out]; exact HF.out)]
        exact lexLess_same _)
      go_wp2_with fail
      go_ret
      exact ⟨ret_bool HR.out.symm, ⟨_, rfl⟩⟩

/-- A slice of bytes below block K, with its bytes. -/
def Bytes (w : World) (a : Option Addr) (n K : Nat) (bs : List Int) : Prop :=
  bs.length = n ∧ n ≤ 1099511627776 ∧ (0 < n → ∃ b off, a = some ⟨b, off, none⟩ ∧ b < K ∧ ∀ i, i < n → 0 ≤ nth bs i ∧ nth bs i ≤ 255 ∧ w.cell? ⟨b, off + i, none⟩ = some (.int .u8 (nth bs i)))
theorem bytes_of {w : World} {a : Option Addr} {n K : Nat} (h : HasB w a n K) : ∃ bs, Bytes w a n K bs := by
  obtain ⟨hn, h⟩ := h
  by_cases hx : 0 < n
  · obtain ⟨b, off, ha, hb, hc⟩ := h hx
    have key : ∀ m, m ≤ n → ∃ bs : List Int, bs.length = m ∧ ∀ i, i < m → 0 ≤ nth bs i ∧ nth bs i ≤ 255 ∧ w.cell? ⟨b, off + i, none⟩ = some (.int .u8 (nth bs i)) := by
      intro m
      induction m with
      | zero => intro _; exact ⟨[], rfl, fun i hi => by omega⟩
      | succ m ih =>
        intro hm
        obtain ⟨bs, hl, hbs⟩ := ih (by omega)
        obtain ⟨u, u0, u1, hu⟩ := hc m (by omega)
        refine ⟨bs ++ [u], by simp [hl], fun i hi => ?_⟩
        by_cases e : i = m
        · subst e
          have : nth (bs ++ [u]) i = u := by rw [← hl]; exact nth_append_at
          rw [this]
          exact ⟨u0, u1, hu⟩
        · rw [nth_append_left (by omega)]
          exact hbs i (by omega)
    obtain ⟨bs, hl, hbs⟩ := key n (Nat.le_refl _)
    exact ⟨bs, hl, hn, fun _ => ⟨b, off, ha, hb, hbs⟩⟩
  · exact ⟨List.replicate n 0, by simp, hn, fun h => absurd h hx⟩
theorem Bytes.below {w w' : World} {a : Option Addr} {n K : Nat} {bs : List Int} (h : Bytes w a n K bs) (hb : Below K w w') : Bytes w' a n K bs := by
  obtain ⟨h1, h2, h3⟩ := h
  refine ⟨h1, h2, fun hx => ?_⟩
  obtain ⟨b, off, ha, hbk, hc⟩ := h3 hx
  exact ⟨b, off, ha, hbk, fun i hi => by rw [hb.cell (p := ⟨b, off + i, none⟩) hbk]; exact hc i hi⟩
/-- The number of some bytes. -/
def numOf (bs : List Int) : Int := bs.foldl (fun v u => (31 * v + u) % 1000003) 0
theorem numOf_succ {bs : List Int} {k : Nat} (h : k < bs.length) : numOf (bs.take (k + 1)) = (31 * numOf (bs.take k) + nth bs k) % 1000003 := by
  rw [take_succ_nth h]
  simp [numOf]
theorem numOf_bounds (bs : List Int) : 0 ≤ numOf bs ∧ numOf bs ≤ 1000002 := by
  unfold numOf
  have : ∀ (bs : List Int) (v : Int), 0 ≤ v ∧ v ≤ 1000002 → 0 ≤ bs.foldl (fun v u => (31 * v + u) % 1000003) v ∧ bs.foldl (fun v u => (31 * v + u) % 1000003) v ≤ 1000002 := by
    intro bs
    induction bs with
    | nil => intro v h; exact h
    | cons b bs ih => intro v h; exact ih _ (by show 0 ≤ (31 * v + b) % 1000003 ∧ (31 * v + b) % 1000003 ≤ 1000002; omega)
  exact this bs 0 (by omega)

set_option maxHeartbeats 400000 in
theorem numberOf_val (a : Option Addr) (n cap K : Nat) (bs : List Int) (w : World) (h : Bytes w a n K bs) :
    Calls Try.prog 21 #[.slice a n cap] w fun e w' => e = .returned (.int .i64 (numOf bs)) ∧ w = w' := by
  obtain ⟨hl, hn, h4⟩ := h
  have HL := hid hl
  clear hl
  go_enter Try.func21, Try.ntmps21
  go_wp2_with fail
  go_loop [3, 8] (fun c i => ∃ k : Nat, k ≤ n ∧ i = .int .i64 k ∧ c = .int .i64 (numOf (bs.take k))) (fun _ i => n - (intOf i).toNat)
  case atStart => exact ⟨0, Nat.zero_le _, rfl, rfl⟩
  case round =>
    obtain ⟨k, hk, rfl, rfl⟩ := hrel
    by_cases hlt : k < n
    · obtain ⟨b, off, rfl, hb, hc⟩ := h4 (by omega)
      obtain ⟨u0, u1, hck⟩ := hc k hlt
      have HS := hid (numOf_succ (bs := bs) (k := k) (by rw [HL.out]; exact hlt))
      obtain ⟨v0, v1⟩ := numOf_bounds (bs.take k)
      clear hc h4
      generalize numOf (bs.take k) = v at *
      generalize nth bs k = u at *
      have m0 : 0 ≤ (31 * v + u) % 1000003 := Int.emod_nonneg _ (by omega)
      have m1 : (31 * v + u) % 1000003 ≤ 1000002 := by omega
      go_wp2_with fail
      go_round
      case rel => exact ⟨k + 1, by omega, by go_num, by rw [HS.out]⟩
      case measure => simp [intOf]; omega
    · obtain rfl : k = n := by omega
      go_wp2_with fail
      go_ret
      exact ⟨ret_int (by rw [List.take_of_length_le (by rw [HL.out]; exact Nat.le_refl _)]), rfl⟩
end Go.Proofs.Ytkkhlkaieohklaa

namespace Go.Proofs.Ytkkhlkaieohklaa
open Go.RowKit

/-- The orders of the first k of some lists, together. -/
def ordersTo (n k : Nat) : Nat := sumTo (fun i => ordersN ((sortL n []).getD i []) n) k
theorem sorted_sum : ∀ n, n < 7 → ordersTo n (sortL n []).length = cnt n := by decide +kernel
theorem sorted_count : ∀ n, n < 7 → (sortL n []).length = chs (2 * n) n / (n + 1) ∧ 0 < (sortL n []).length := by decide +kernel
theorem sorted_each : ∀ n, n < 7 → ∀ i, i < (sortL n []).length → ((sortL n []).getD i []).length = n ∧ isPark ((sortL n []).getD i []) = true ∧ asked ((sortL n []).getD i []) = true := by decide +kernel
theorem sorted_less : ∀ n, n < 7 → ∀ i, i < (sortL n []).length → i + 1 < (sortL n []).length → lexLess ((sortL n []).getD i []) ((sortL n []).getD (i + 1) []) = true := by decide +kernel
theorem sortedU_facts {n i : Nat} (h : n ≤ 6) (hi : i < (sortL n []).length) : ∃ o : Nat, ordersOf ((sortL n []).getD i []) = ((o : Int), true) ∧ isParking ((sortL n []).getD i []) = (true, true) ∧ ordersTo n (i + 1) = ordersTo n i + o := by
  obtain ⟨h1, h2, h3⟩ := sorted_each n (by omega) i hi
  refine ⟨ordersN ((sortL n []).getD i []) n, ?_, ?_, rfl⟩
  · unfold ordersOf
    rw [if_pos h2, h1]
  · unfold isParking
    rw [if_pos h3, h2]
theorem ordersTo_le {n i : Nat} (h : n ≤ 6) (hi : i ≤ (sortL n []).length) : ordersTo n i ≤ 16807 := by
  have h1 := sumTo_mono (fun i => ordersN ((sortL n []).getD i []) n) hi
  have h2 := sorted_sum n (by omega)
  have h3 : ∀ n, n < 7 → cnt n ≤ 16807 := by decide +kernel
  have h4 := h3 n (by omega)
  unfold ordersTo at h2 ⊢
  omega
theorem count_yesS {n : Nat} (h8 : n ≤ 8) : countOf (n : Int) = ((cnt n : Int), true) := by
  have h1 : inB (n : Int) 0 8 = true := inB_iff.2 ⟨by omega, by omega⟩
  simp [countOf, h1]
/-- A list that was drawn, for the caller of a draw. -/
def DrewListS (w : World) (e : Ending) (w' : World) : Prop :=
  ∃ a n cap xs, e = .returned (.slice a n cap) ∧ Own w' w.heap.size a n cap xs ∧ n ≤ 10 ∧ Within xs (-1) 100 ∧ Below w.heap.size w w'
set_option maxHeartbeats 800000 in
theorem drawRankParking_any (a : Option Addr) (n cap : Nat) (w : World) (h : HasB w a n w.heap.size) :
    Calls Try.prog 61 #[.slice a n cap] w (DrewListS w) := by
  have C0 := cur_new (cap := cap) h
  go_enter Try.func61, Try.ntmps61
  go_wp2_with fail
  refine (park_cur _ 0 7 _ C0 (by omega) (by omega) (by omega)).mono ?_
  rintro e w1 ⟨a1, n1, cap1, xs1, t1, rfl, o1, hn1, hw1, A1, ht1⟩
  have o1' := o1.mono (B' := w.heap.size) (by simp)
  have hb := (alloc_below w (.cells #[.slice a n cap, .int .i64 0, .int .u64 0] 47)).trans A1.below
  go_wp2_with fail
  go_ret
  exact ⟨_, _, _, _, rfl, o1', hn1, hw1, hb⟩

set_option maxHeartbeats 400000 in
theorem drawCountOrders_any (a : Option Addr) (n cap : Nat) (w : World) (h : HasB w a n w.heap.size) :
    Calls Try.prog 28 #[.slice a n cap] w (DrewListS w) := by
  go_enter Try.func28, Try.ntmps28
  go_wp2_with fail
  refine (drawRankParking_any _ _ _ _ h).mono ?_
  rintro e w1 ⟨a1, n1, c1, xs1, rfl, o1, hn1, hw1, hb⟩
  go_wp2_with fail
  go_ret
  exact ⟨_, _, _, _, rfl, o1, hn1, hw1, hb⟩

theorem sorted_at {rs : List Rw} {n q k : Nat} (h0 : rs.length = q) (hn : numsOf rs = sortL n []) (hk : k < q) : (nthR rs k).xs = (sortL n []).getD k [] ∧ (sortL n []).length = q := by
  have hl : (numsOf rs).length = q := by simp [numsOf, h0]
  have h1 : (numsOf rs)[k]? = some (nthR rs k).xs := map_nthR Rw.xs (by omega)
  rw [← hn]
  refine ⟨?_, hl⟩
  rw [List.getD_eq_getElem?_getD, h1]
  rfl
theorem sorted_row {w : World} {b off q cap n m : Nat} {rs : List Rw} (R : HasR w (some ⟨b, off, none⟩) q cap rs) (h6 : n ≤ 6) (hn : numsOf rs = sortL n []) (hm : n = m) {k : Nat} (hk : k < q) :
    ∃ ak ck, w.cell? ⟨b, off + k, none⟩ = some (.slice ak m ck) ∧ Has w ak m ck (nthR rs k).xs ∧ ∃ o : Nat, ordersOf (nthR rs k).xs = ((o : Int), true) ∧ isParking (nthR rs k).xs = (true, true) ∧ ordersTo n (k + 1) = ordersTo n k + o := by
  obtain ⟨r0, r1, r2, r3, r4, r5⟩ := R
  obtain ⟨b', off', e, _, hc⟩ := r4 (by omega)
  simp at e
  obtain ⟨rfl, rfl⟩ := e
  have h3 := hc k hk
  have h4 := r5 k hk
  unfold Rw.v at h3
  obtain ⟨e1, e2⟩ := sorted_at r0 hn hk
  obtain ⟨o, f1, f2, f3⟩ := sortedU_facts h6 (i := k) (by omega)
  have h5 := (sorted_each n (by omega) k (by omega)).1
  rw [← e1] at f1 f2 h5
  rw [h5, hm] at h3 h4
  exact ⟨_, _, h3, h4, o, f1, f2, f3⟩
theorem sorted_row_less {rs : List Rw} {n q k : Nat} (h0 : rs.length = q) (h6 : n ≤ 6) (hn : numsOf rs = sortL n []) (hk : k + 1 < q) : lexLess (nthR rs k).xs (nthR rs (k + 1)).xs = true := by
  obtain ⟨e1, e2⟩ := sorted_at h0 hn (k := k) (by omega)
  obtain ⟨e3, _⟩ := sorted_at h0 hn (k := k + 1) (by omega)
  rw [e1, e3]
  exact sorted_less n (by omega) k (by omega) (by omega)
theorem sorted_num {rs : List Rw} {n q : Nat} (h0 : rs.length = q) (h6 : n ≤ 6) (hn : numsOf rs = sortL n []) : countSortedOf (n : Int) = ((q : Int), true) ∧ 0 < q ∧ ordersTo n q = cnt n := by
  have hl : (numsOf rs).length = q := by simp [numsOf, h0]
  rw [hn] at hl
  obtain ⟨h1, h2⟩ := sorted_count n (by omega)
  have h3 : inB (n : Int) 0 8 = true := inB_iff.2 ⟨by omega, by omega⟩
  refine ⟨?_, by omega, ?_⟩
  · simp only [countSortedOf, if_pos h3, Int.toNat_natCast]
    rw [← h1, hl]
  · rw [← hl]
    exact sorted_sum n (by omega)

set_option maxRecDepth 100000 in
set_option maxHeartbeats 16000000 in
theorem sorted_walk (a b : Option Addr) (n m cap cap' : Nat) (w : World) (hn : n ≤ maxLen) (h : n ≤ 1048576 → HasB w a n w.heap.size) (h' : m ≤ 1048576 → HasB w b m w.heap.size) :
    Calls Try.prog 4 #[.slice a n cap, .slice b m cap'] w (Holds w) := by
  have H1 := hid h
  have H2 := hid h'
  have HN := hid hn
  clear h h' hn
  have hB : Below w.heap.size w w := Below.refl _ _
  go_enter Try.func4, Try.ntmps4
  go_wp2_with fail
  refine (big_any _ _ _ _ _ _ _ (by have := HN.out; unfold maxLen at this; omega)).mono ?_
  rintro e _ ⟨r, rfl, hr, rfl⟩
  have HR := hid hr
  clear hr
  cases r with
  | true =>
    go_wp2_with fail
    go_ret
    exact ⟨rfl, hB⟩
  | false =>
    have hnm := HR.out rfl
    clear HR
    have HA := hid (H1.out (by omega))
    have HM := hid (H2.out (by omega))
    clear H1 H2 HN
    go_wp2_with fail
    refine (drawAllSorted_any _ _ _ _ HA.out).mono ?_
    rintro e v1 ⟨nn, rfl, n0, n1, st⟩
    replace hB := hB.trans (st.mono hB.size)
    clear st
    by_cases hN6 : inB nn 0 6 = true
    · skip
      obtain ⟨k, rfl⟩ : ∃ k : Nat, nn = (k : Int) := ⟨nn.toNat, by have := (inB_iff.1 hN6).1; omega⟩
      have hk6 : k ≤ 6 := by have := (inB_iff.1 hN6).2; omega
      have HAS : Hid (allSortedOf (k : Int) = (sortL k [], true)) := hid (by simp [allSortedOf, hN6])
      clear hN6 n0 n1
      go_wp2_with fail
      refine (allSorted_any _ _).mono ?_
      rw [HAS.out]
      rintro e v2 ⟨a_g, n_g, c_g, rs, rfl, R_g, hng, st⟩
      replace hB := hB.trans (st.mono hB.size)
      clear st
      go_wp2_with fail
      refine (specAllSorted_any _ _).mono ?_
      rw [HAS.out]
      rintro e v3 ⟨a_s, n_s, c_s, ss, rfl, R_s, hns, st⟩
      replace R_g := R_g.below st (Nat.le_refl _)
      replace hB := hB.trans (st.mono hB.size)
      clear st
      have HRS : Hid (sameR rs ss = true) := hid (sameR_self' (hng.trans hns.symm))
      have HNG := hid hng
      clear hng hns
      have hgl := R_g.len
      obtain ⟨s1, s2, s3⟩ := sorted_num hgl hk6 HNG.out
      obtain ⟨mg, hmg⟩ : ∃ mg, n_g = mg + 1 := ⟨n_g - 1, by omega⟩
      subst hmg
      have HC := hid s1
      have HS3 := hid s3
      have HGL := hid hgl
      have hne0 := neq_self_int ((mg : Int) + 1)
      have HCP : Hid (countOf (k : Int) = ((cnt k : Int), true)) := hid (count_yesS (by omega))
      clear s1 s2 s3 hgl
      go_wp2_with fail
      refine (countSorted_any _ _).mono ?_
      rw [HC.out]
      rintro e v4 ⟨rfl, st⟩
      replace R_g := R_g.below st (Nat.le_refl _)
      replace R_s := R_s.below st (Nat.le_refl _)
      replace hB := hB.trans (st.mono hB.size)
      clear st
      go_wp2_with fail
      refine (specCountSorted_any _ _).mono ?_
      rw [HC.out]
      rintro e v5 ⟨rfl, st⟩
      replace R_g := R_g.below st (Nat.le_refl _)
      replace R_s := R_s.below st (Nat.le_refl _)
      replace hB := hB.trans (st.mono hB.size)
      clear st
      go_wp2_with fail
      refine (jRows_any _ _ _ _ _ _ _ _ _ R_g.has R_s.has).mono ?_
      rintro e v6 ⟨rfl, q⟩
      have st : Below v5.heap.size v5 v6 := q.below _
      replace R_g := R_g.below st (Nat.le_refl _)
      replace R_s := R_s.below st (Nat.le_refl _)
      replace hB := hB.trans (st.mono hB.size)
      clear st
      clear q
      rw [HRS.out]
      clear HRS R_s
      have hgl2 : mg + 1 ≤ 2097152 := R_g.has.2.2.2.1
      obtain ⟨bg, offg, rfl, hbg, -⟩ := R_g.has.2.2.2.2.1 (by omega)
      go_wp2_with fail
      go_loopw [14, 88] (fun s i wr => ∃ j sN : Nat, j ≤ mg + 1 ∧ Hid (ordersTo k j = sN) ∧ s = .int .i64 sN ∧ i = .int .i64 j ∧ Below v6.heap.size v6 wr) (fun _ i _ => mg + 1 - (intOf i).toNat)
      case atStart => exact ⟨0, 0, by omega, hid rfl, rfl, rfl, Below.refl _ _⟩
      case round =>
        obtain ⟨wo, rfl⟩ : ∃ wo : World, wo = wr := ⟨_, rfl⟩
        obtain ⟨j, sN, hj, HSN, rfl, rfl, st⟩ := hrel
        have hV := st
        replace R_g := R_g.below st (Nat.le_refl _)
        replace hB := hB.trans (st.mono hB.size)
        clear st
        by_cases hlt : j < mg + 1
        · skip
          obtain ⟨ak, ck, hck, H_k, o, f1, f2, f3⟩ := sorted_row R_g.has hk6 HNG.out rfl (k := j) (by omega)
          have hsn : sN + o ≤ 16807 := by have h1 := ordersTo_le (n := k) (i := j + 1) hk6 (by rw [← HNG.out]; simp [numsOf, HGL.out]; omega); rw [f3, HSN.out] at h1; exact h1
          have hwr : IntKind.i64.wrap ((sN : Int) + (o : Int)) = (sN : Int) + (o : Int) := by rw [IntKind.wrap_i64]; omega
          have HSN2 : Hid (ordersTo k (j + 1) = sN + o) := hid (by rw [f3, HSN.out])
          have HO := hid f1
          have HP := hid f2
          clear f1 f2 f3
          by_cases hj0 : j = 0
          · skip
            subst hj0
            rw [Nat.add_zero] at hck
            go_wp2_with fail
            refine (countOrders_any _ _ _ _ _ H_k).mono ?_
            rw [HO.out]
            rintro e v7 ⟨rfl, st⟩
            replace R_g := R_g.below st (Nat.le_refl _)
            replace H_k := H_k.below st (Nat.le_refl _)
            replace hB := hB.trans (st.mono hB.size)
            replace hV := hV.trans (st.mono hV.size)
            clear st
            clear hck
            go_wp2_with fail
            refine (isParking_any _ _ _ _ _ H_k).mono ?_
            rw [HP.out]
            rintro e v8 ⟨rfl, st⟩
            replace R_g := R_g.below st (Nat.le_refl _)
            replace H_k := H_k.below st (Nat.le_refl _)
            replace hB := hB.trans (st.mono hB.size)
            replace hV := hV.trans (st.mono hV.size)
            clear st
            go_wp2_with fail
            go_roundw
            case rel => exact ⟨1, sN + o, by omega, HSN2, by go_num, by go_num, hV⟩
            case measure => simp [intOf] <;> omega
          · skip
            obtain ⟨i, rfl⟩ : ∃ i, j = i + 1 := ⟨j - 1, by omega⟩
            go_wp2_with fail
            refine (countOrders_any _ _ _ _ _ H_k).mono ?_
            rw [HO.out]
            rintro e v7 ⟨rfl, st⟩
            replace R_g := R_g.below st (Nat.le_refl _)
            replace H_k := H_k.below st (Nat.le_refl _)
            replace hB := hB.trans (st.mono hB.size)
            replace hV := hV.trans (st.mono hV.size)
            clear st
            clear hck
            go_wp2_with fail
            refine (isParking_any _ _ _ _ _ H_k).mono ?_
            rw [HP.out]
            rintro e v8 ⟨rfl, st⟩
            replace R_g := R_g.below st (Nat.le_refl _)
            replace H_k := H_k.below st (Nat.le_refl _)
            replace hB := hB.trans (st.mono hB.size)
            replace hV := hV.trans (st.mono hV.size)
            clear st
            obtain ⟨aj, cj, hcj, H_j, -⟩ := sorted_row R_g.has hk6 HNG.out rfl (k := i) (by omega)
            have HLS := hid (sorted_row_less HGL.out hk6 HNG.out (k := i) (by omega))
            go_wp2_with fail
            refine (jLess_any _ _ _ _ _ _ _ _ H_j H_k).mono ?_
            rintro e v9 ⟨rfl, q⟩
            have st : Below v8.heap.size v8 v9 := q.below _
            replace R_g := R_g.below st (Nat.le_refl _)
            replace H_k := H_k.below st (Nat.le_refl _)
            replace H_j := H_j.below st (Nat.le_refl _)
            replace hB := hB.trans (st.mono hB.size)
            replace hV := hV.trans (st.mono hV.size)
            clear st
            clear q hcj
            rw [HLS.out]
            go_wp2_with fail
            go_roundw
            case rel => exact ⟨i + 2, sN + o, by omega, HSN2, by go_num, by go_num, hV⟩
            case measure => simp [intOf] <;> omega
        · skip
          obtain rfl : j = mg + 1 := by omega
          obtain rfl : sN = cnt k := by rw [← HSN.out, HS3.out]
          clear R_g
          obtain ⟨c, hc⟩ : ∃ c, cnt k = c := ⟨_, rfl⟩
          rw [hc] at HCP HSN HS3 ⊢
          clear hc
          have hcc := neq_self_int (c : Int)
          go_wp2_with fail
          refine (countParking_any _ _).mono ?_
          rw [HCP.out]
          rintro e v7 ⟨rfl, st⟩
          replace hB := hB.trans (st.mono hB.size)
          replace hV := hV.trans (st.mono hV.size)
          clear st
          go_wp2_with fail
          refine (drawCountOrders_any b m cap' _ (HM.out.grow hB (Nat.le_refl _))).mono ?_
          rintro e v8 ⟨a_q, n_q, c_q, qs, rfl, o_q, hnq, _, st⟩
          replace hB := hB.trans (st.mono hB.size)
          replace hV := hV.trans (st.mono hV.size)
          clear st
          by_cases hq : isPark qs = true
          · skip
            obtain ⟨x, hx⟩ : ∃ x, ((ordersN qs qs.length : Nat) : Int) = x := ⟨_, rfl⟩
            have HQ : Hid (ordersOf qs = (x, true)) := hid (by simp [ordersOf, hq, hx])
            have hxx : (x == x) = true := by simp
            clear hx hq
            go_wp2_with fail
            refine (countOrders_any _ _ _ _ _ o_q.has).mono ?_
            rw [HQ.out]
            rintro e v9 ⟨rfl, st⟩
            replace o_q := o_q.below st (Nat.le_refl _)
            replace hB := hB.trans (st.mono hB.size)
            replace hV := hV.trans (st.mono hV.size)
            clear st
            go_wp2_with fail
            refine (specOrders_any _ _ _ _ _ o_q.has).mono ?_
            rw [HQ.out]
            rintro e v10 ⟨rfl, st⟩
            replace o_q := o_q.below st (Nat.le_refl _)
            replace hB := hB.trans (st.mono hB.size)
            replace hV := hV.trans (st.mono hV.size)
            clear st
            clear o_q
            go_wp2_with fail
            refine (drawCountSorted_any b m cap' _ (HM.out.grow hB (Nat.le_refl _))).mono ?_
            rintro e v11 ⟨mm, rfl, m0, m1, st⟩
            replace hB := hB.trans (st.mono hB.size)
            replace hV := hV.trans (st.mono hV.size)
            clear st
            by_cases hm8 : inB mm 0 8 = true
            · skip
              obtain ⟨y, hy⟩ : ∃ y, ((chs (2 * mm.toNat) mm.toNat / (mm.toNat + 1) : Nat) : Int) = y := ⟨_, rfl⟩
              have HY : Hid (countSortedOf mm = (y, true)) := hid (by simp only [countSortedOf, if_pos hm8]; rw [hy])
              have hyy : (y == y) = true := by simp
              clear hy hm8
              go_wp2_with fail
              refine (countSorted_any _ _).mono ?_
              rw [HY.out]
              rintro e v12 ⟨rfl, st⟩
              replace hB := hB.trans (st.mono hB.size)
              replace hV := hV.trans (st.mono hV.size)
              clear st
              go_wp2_with fail
              refine (specCountSorted_any _ _).mono ?_
              rw [HY.out]
              rintro e v13 ⟨rfl, st⟩
              replace hB := hB.trans (st.mono hB.size)
              replace hV := hV.trans (st.mono hV.size)
              clear st
              go_wp2_with fail
              go_ret
              exact ⟨rfl, hB⟩
            · skip
              have HY : Hid (countSortedOf mm = (0, false)) := hid (by simp [countSortedOf, hm8])
              clear hm8
              go_wp2_with fail
              refine (countSorted_any _ _).mono ?_
              rw [HY.out]
              rintro e v12 ⟨rfl, st⟩
              replace hB := hB.trans (st.mono hB.size)
              replace hV := hV.trans (st.mono hV.size)
              clear st
              go_wp2_with fail
              refine (specCountSorted_any _ _).mono ?_
              rw [HY.out]
              rintro e v13 ⟨rfl, st⟩
              replace hB := hB.trans (st.mono hB.size)
              replace hV := hV.trans (st.mono hV.size)
              clear st
              go_wp2_with fail
              go_ret
              exact ⟨rfl, hB⟩
          · skip
            have HQ : Hid (ordersOf qs = (0, false)) := hid (by simp [ordersOf, hq])
            clear hq
            go_wp2_with fail
            refine (countOrders_any _ _ _ _ _ o_q.has).mono ?_
            rw [HQ.out]
            rintro e v9 ⟨rfl, st⟩
            replace o_q := o_q.below st (Nat.le_refl _)
            replace hB := hB.trans (st.mono hB.size)
            replace hV := hV.trans (st.mono hV.size)
            clear st
            go_wp2_with fail
            refine (specOrders_any _ _ _ _ _ o_q.has).mono ?_
            rw [HQ.out]
            rintro e v10 ⟨rfl, st⟩
            replace o_q := o_q.below st (Nat.le_refl _)
            replace hB := hB.trans (st.mono hB.size)
            replace hV := hV.trans (st.mono hV.size)
            clear st
            clear o_q
            go_wp2_with fail
            refine (drawCountSorted_any b m cap' _ (HM.out.grow hB (Nat.le_refl _))).mono ?_
            rintro e v11 ⟨mm, rfl, m0, m1, st⟩
            replace hB := hB.trans (st.mono hB.size)
            replace hV := hV.trans (st.mono hV.size)
            clear st
            by_cases hm8 : inB mm 0 8 = true
            · skip
              obtain ⟨y, hy⟩ : ∃ y, ((chs (2 * mm.toNat) mm.toNat / (mm.toNat + 1) : Nat) : Int) = y := ⟨_, rfl⟩
              have HY : Hid (countSortedOf mm = (y, true)) := hid (by simp only [countSortedOf, if_pos hm8]; rw [hy])
              have hyy : (y == y) = true := by simp
              clear hy hm8
              go_wp2_with fail
              refine (countSorted_any _ _).mono ?_
              rw [HY.out]
              rintro e v12 ⟨rfl, st⟩
              replace hB := hB.trans (st.mono hB.size)
              replace hV := hV.trans (st.mono hV.size)
              clear st
              go_wp2_with fail
              refine (specCountSorted_any _ _).mono ?_
              rw [HY.out]
              rintro e v13 ⟨rfl, st⟩
              replace hB := hB.trans (st.mono hB.size)
              replace hV := hV.trans (st.mono hV.size)
              clear st
              go_wp2_with fail
              go_ret
              exact ⟨rfl, hB⟩
            · skip
              have HY : Hid (countSortedOf mm = (0, false)) := hid (by simp [countSortedOf, hm8])
              clear hm8
              go_wp2_with fail
              refine (countSorted_any _ _).mono ?_
              rw [HY.out]
              rintro e v12 ⟨rfl, st⟩
              replace hB := hB.trans (st.mono hB.size)
              replace hV := hV.trans (st.mono hV.size)
              clear st
              go_wp2_with fail
              refine (specCountSorted_any _ _).mono ?_
              rw [HY.out]
              rintro e v13 ⟨rfl, st⟩
              replace hB := hB.trans (st.mono hB.size)
              replace hV := hV.trans (st.mono hV.size)
              clear st
              go_wp2_with fail
              go_ret
              exact ⟨rfl, hB⟩
    · skip
      have HAS : Hid (allSortedOf nn = ([], false)) := hid (allSortedOf_no' hN6)
      clear hN6
      by_cases hn8 : inB nn 0 8 = true
      · skip
        go_wp2_with fail
        refine (allSorted_any _ _).mono ?_
        rw [HAS.out]
        rintro e v2 ⟨a_g, n_g, c_g, rs, rfl, R_g, hng, st⟩
        replace hB := hB.trans (st.mono hB.size)
        clear st
        go_wp2_with fail
        refine (specAllSorted_any _ _).mono ?_
        rw [HAS.out]
        rintro e v3 ⟨a_s, n_s, c_s, ss, rfl, R_s, hns, st⟩
        replace R_g := R_g.below st (Nat.le_refl _)
        replace hB := hB.trans (st.mono hB.size)
        clear st
        have HRS : Hid (sameR rs ss = true) := hid (sameR_self' (hng.trans hns.symm))
        have HNG := hid hng
        clear hng hns
        obtain ⟨y, hy⟩ : ∃ y, ((chs (2 * nn.toNat) nn.toNat / (nn.toNat + 1) : Nat) : Int) = y := ⟨_, rfl⟩
        have HC : Hid (countSortedOf nn = (y, true)) := hid (by simp only [countSortedOf, if_pos hn8]; rw [hy])
        have hyy := neq_self_int y
        clear hy hn8
        go_wp2_with fail
        refine (countSorted_any _ _).mono ?_
        rw [HC.out]
        rintro e v4 ⟨rfl, st⟩
        replace R_g := R_g.below st (Nat.le_refl _)
        replace R_s := R_s.below st (Nat.le_refl _)
        replace hB := hB.trans (st.mono hB.size)
        clear st
        go_wp2_with fail
        refine (specCountSorted_any _ _).mono ?_
        rw [HC.out]
        rintro e v5 ⟨rfl, st⟩
        replace R_g := R_g.below st (Nat.le_refl _)
        replace R_s := R_s.below st (Nat.le_refl _)
        replace hB := hB.trans (st.mono hB.size)
        clear st
        go_wp2_with fail
        refine (jRows_any _ _ _ _ _ _ _ _ _ R_g.has R_s.has).mono ?_
        rintro e v6 ⟨rfl, q⟩
        have st : Below v5.heap.size v5 v6 := q.below _
        replace R_g := R_g.below st (Nat.le_refl _)
        replace R_s := R_s.below st (Nat.le_refl _)
        replace hB := hB.trans (st.mono hB.size)
        clear st
        clear q
        rw [HRS.out]
        clear HRS R_s
        clear R_g
        go_wp2_with fail
        refine (drawCountOrders_any b m cap' _ (HM.out.grow hB (Nat.le_refl _))).mono ?_
        rintro e v7 ⟨a_q, n_q, c_q, qs, rfl, o_q, hnq, _, st⟩
        replace hB := hB.trans (st.mono hB.size)
        clear st
        by_cases hq : isPark qs = true
        · skip
          obtain ⟨x, hx⟩ : ∃ x, ((ordersN qs qs.length : Nat) : Int) = x := ⟨_, rfl⟩
          have HQ : Hid (ordersOf qs = (x, true)) := hid (by simp [ordersOf, hq, hx])
          have hxx : (x == x) = true := by simp
          clear hx hq
          go_wp2_with fail
          refine (countOrders_any _ _ _ _ _ o_q.has).mono ?_
          rw [HQ.out]
          rintro e v8 ⟨rfl, st⟩
          replace o_q := o_q.below st (Nat.le_refl _)
          replace hB := hB.trans (st.mono hB.size)
          clear st
          go_wp2_with fail
          refine (specOrders_any _ _ _ _ _ o_q.has).mono ?_
          rw [HQ.out]
          rintro e v9 ⟨rfl, st⟩
          replace o_q := o_q.below st (Nat.le_refl _)
          replace hB := hB.trans (st.mono hB.size)
          clear st
          clear o_q
          go_wp2_with fail
          refine (drawCountSorted_any b m cap' _ (HM.out.grow hB (Nat.le_refl _))).mono ?_
          rintro e v10 ⟨mm, rfl, m0, m1, st⟩
          replace hB := hB.trans (st.mono hB.size)
          clear st
          by_cases hm8 : inB mm 0 8 = true
          · skip
            obtain ⟨y, hy⟩ : ∃ y, ((chs (2 * mm.toNat) mm.toNat / (mm.toNat + 1) : Nat) : Int) = y := ⟨_, rfl⟩
            have HY : Hid (countSortedOf mm = (y, true)) := hid (by simp only [countSortedOf, if_pos hm8]; rw [hy])
            have hyy : (y == y) = true := by simp
            clear hy hm8
            go_wp2_with fail
            refine (countSorted_any _ _).mono ?_
            rw [HY.out]
            rintro e v11 ⟨rfl, st⟩
            replace hB := hB.trans (st.mono hB.size)
            clear st
            go_wp2_with fail
            refine (specCountSorted_any _ _).mono ?_
            rw [HY.out]
            rintro e v12 ⟨rfl, st⟩
            replace hB := hB.trans (st.mono hB.size)
            clear st
            go_wp2_with fail
            go_ret
            exact ⟨rfl, hB⟩
          · skip
            have HY : Hid (countSortedOf mm = (0, false)) := hid (by simp [countSortedOf, hm8])
            clear hm8
            go_wp2_with fail
            refine (countSorted_any _ _).mono ?_
            rw [HY.out]
            rintro e v11 ⟨rfl, st⟩
            replace hB := hB.trans (st.mono hB.size)
            clear st
            go_wp2_with fail
            refine (specCountSorted_any _ _).mono ?_
            rw [HY.out]
            rintro e v12 ⟨rfl, st⟩
            replace hB := hB.trans (st.mono hB.size)
            clear st
            go_wp2_with fail
            go_ret
            exact ⟨rfl, hB⟩
        · skip
          have HQ : Hid (ordersOf qs = (0, false)) := hid (by simp [ordersOf, hq])
          clear hq
          go_wp2_with fail
          refine (countOrders_any _ _ _ _ _ o_q.has).mono ?_
          rw [HQ.out]
          rintro e v8 ⟨rfl, st⟩
          replace o_q := o_q.below st (Nat.le_refl _)
          replace hB := hB.trans (st.mono hB.size)
          clear st
          go_wp2_with fail
          refine (specOrders_any _ _ _ _ _ o_q.has).mono ?_
          rw [HQ.out]
          rintro e v9 ⟨rfl, st⟩
          replace o_q := o_q.below st (Nat.le_refl _)
          replace hB := hB.trans (st.mono hB.size)
          clear st
          clear o_q
          go_wp2_with fail
          refine (drawCountSorted_any b m cap' _ (HM.out.grow hB (Nat.le_refl _))).mono ?_
          rintro e v10 ⟨mm, rfl, m0, m1, st⟩
          replace hB := hB.trans (st.mono hB.size)
          clear st
          by_cases hm8 : inB mm 0 8 = true
          · skip
            obtain ⟨y, hy⟩ : ∃ y, ((chs (2 * mm.toNat) mm.toNat / (mm.toNat + 1) : Nat) : Int) = y := ⟨_, rfl⟩
            have HY : Hid (countSortedOf mm = (y, true)) := hid (by simp only [countSortedOf, if_pos hm8]; rw [hy])
            have hyy : (y == y) = true := by simp
            clear hy hm8
            go_wp2_with fail
            refine (countSorted_any _ _).mono ?_
            rw [HY.out]
            rintro e v11 ⟨rfl, st⟩
            replace hB := hB.trans (st.mono hB.size)
            clear st
            go_wp2_with fail
            refine (specCountSorted_any _ _).mono ?_
            rw [HY.out]
            rintro e v12 ⟨rfl, st⟩
            replace hB := hB.trans (st.mono hB.size)
            clear st
            go_wp2_with fail
            go_ret
            exact ⟨rfl, hB⟩
          · skip
            have HY : Hid (countSortedOf mm = (0, false)) := hid (by simp [countSortedOf, hm8])
            clear hm8
            go_wp2_with fail
            refine (countSorted_any _ _).mono ?_
            rw [HY.out]
            rintro e v11 ⟨rfl, st⟩
            replace hB := hB.trans (st.mono hB.size)
            clear st
            go_wp2_with fail
            refine (specCountSorted_any _ _).mono ?_
            rw [HY.out]
            rintro e v12 ⟨rfl, st⟩
            replace hB := hB.trans (st.mono hB.size)
            clear st
            go_wp2_with fail
            go_ret
            exact ⟨rfl, hB⟩
      · skip
        go_wp2_with fail
        refine (allSorted_any _ _).mono ?_
        rw [HAS.out]
        rintro e v2 ⟨a_g, n_g, c_g, rs, rfl, R_g, hng, st⟩
        replace hB := hB.trans (st.mono hB.size)
        clear st
        go_wp2_with fail
        refine (specAllSorted_any _ _).mono ?_
        rw [HAS.out]
        rintro e v3 ⟨a_s, n_s, c_s, ss, rfl, R_s, hns, st⟩
        replace R_g := R_g.below st (Nat.le_refl _)
        replace hB := hB.trans (st.mono hB.size)
        clear st
        have HRS : Hid (sameR rs ss = true) := hid (sameR_self' (hng.trans hns.symm))
        have HNG := hid hng
        clear hng hns
        have HC : Hid (countSortedOf nn = (0, false)) := hid (by simp [countSortedOf, hn8])
        clear hn8
        go_wp2_with fail
        refine (countSorted_any _ _).mono ?_
        rw [HC.out]
        rintro e v4 ⟨rfl, st⟩
        replace R_g := R_g.below st (Nat.le_refl _)
        replace R_s := R_s.below st (Nat.le_refl _)
        replace hB := hB.trans (st.mono hB.size)
        clear st
        go_wp2_with fail
        refine (specCountSorted_any _ _).mono ?_
        rw [HC.out]
        rintro e v5 ⟨rfl, st⟩
        replace R_g := R_g.below st (Nat.le_refl _)
        replace R_s := R_s.below st (Nat.le_refl _)
        replace hB := hB.trans (st.mono hB.size)
        clear st
        go_wp2_with fail
        refine (jRows_any _ _ _ _ _ _ _ _ _ R_g.has R_s.has).mono ?_
        rintro e v6 ⟨rfl, q⟩
        have st : Below v5.heap.size v5 v6 := q.below _
        replace R_g := R_g.below st (Nat.le_refl _)
        replace R_s := R_s.below st (Nat.le_refl _)
        replace hB := hB.trans (st.mono hB.size)
        clear st
        clear q
        rw [HRS.out]
        clear HRS R_s
        clear R_g
        go_wp2_with fail
        refine (drawCountOrders_any b m cap' _ (HM.out.grow hB (Nat.le_refl _))).mono ?_
        rintro e v7 ⟨a_q, n_q, c_q, qs, rfl, o_q, hnq, _, st⟩
        replace hB := hB.trans (st.mono hB.size)
        clear st
        by_cases hq : isPark qs = true
        · skip
          obtain ⟨x, hx⟩ : ∃ x, ((ordersN qs qs.length : Nat) : Int) = x := ⟨_, rfl⟩
          have HQ : Hid (ordersOf qs = (x, true)) := hid (by simp [ordersOf, hq, hx])
          have hxx : (x == x) = true := by simp
          clear hx hq
          go_wp2_with fail
          refine (countOrders_any _ _ _ _ _ o_q.has).mono ?_
          rw [HQ.out]
          rintro e v8 ⟨rfl, st⟩
          replace o_q := o_q.below st (Nat.le_refl _)
          replace hB := hB.trans (st.mono hB.size)
          clear st
          go_wp2_with fail
          refine (specOrders_any _ _ _ _ _ o_q.has).mono ?_
          rw [HQ.out]
          rintro e v9 ⟨rfl, st⟩
          replace o_q := o_q.below st (Nat.le_refl _)
          replace hB := hB.trans (st.mono hB.size)
          clear st
          clear o_q
          go_wp2_with fail
          refine (drawCountSorted_any b m cap' _ (HM.out.grow hB (Nat.le_refl _))).mono ?_
          rintro e v10 ⟨mm, rfl, m0, m1, st⟩
          replace hB := hB.trans (st.mono hB.size)
          clear st
          by_cases hm8 : inB mm 0 8 = true
          · skip
            obtain ⟨y, hy⟩ : ∃ y, ((chs (2 * mm.toNat) mm.toNat / (mm.toNat + 1) : Nat) : Int) = y := ⟨_, rfl⟩
            have HY : Hid (countSortedOf mm = (y, true)) := hid (by simp only [countSortedOf, if_pos hm8]; rw [hy])
            have hyy : (y == y) = true := by simp
            clear hy hm8
            go_wp2_with fail
            refine (countSorted_any _ _).mono ?_
            rw [HY.out]
            rintro e v11 ⟨rfl, st⟩
            replace hB := hB.trans (st.mono hB.size)
            clear st
            go_wp2_with fail
            refine (specCountSorted_any _ _).mono ?_
            rw [HY.out]
            rintro e v12 ⟨rfl, st⟩
            replace hB := hB.trans (st.mono hB.size)
            clear st
            go_wp2_with fail
            go_ret
            exact ⟨rfl, hB⟩
          · skip
            have HY : Hid (countSortedOf mm = (0, false)) := hid (by simp [countSortedOf, hm8])
            clear hm8
            go_wp2_with fail
            refine (countSorted_any _ _).mono ?_
            rw [HY.out]
            rintro e v11 ⟨rfl, st⟩
            replace hB := hB.trans (st.mono hB.size)
            clear st
            go_wp2_with fail
            refine (specCountSorted_any _ _).mono ?_
            rw [HY.out]
            rintro e v12 ⟨rfl, st⟩
            replace hB := hB.trans (st.mono hB.size)
            clear st
            go_wp2_with fail
            go_ret
            exact ⟨rfl, hB⟩
        · skip
          have HQ : Hid (ordersOf qs = (0, false)) := hid (by simp [ordersOf, hq])
          clear hq
          go_wp2_with fail
          refine (countOrders_any _ _ _ _ _ o_q.has).mono ?_
          rw [HQ.out]
          rintro e v8 ⟨rfl, st⟩
          replace o_q := o_q.below st (Nat.le_refl _)
          replace hB := hB.trans (st.mono hB.size)
          clear st
          go_wp2_with fail
          refine (specOrders_any _ _ _ _ _ o_q.has).mono ?_
          rw [HQ.out]
          rintro e v9 ⟨rfl, st⟩
          replace o_q := o_q.below st (Nat.le_refl _)
          replace hB := hB.trans (st.mono hB.size)
          clear st
          clear o_q
          go_wp2_with fail
          refine (drawCountSorted_any b m cap' _ (HM.out.grow hB (Nat.le_refl _))).mono ?_
          rintro e v10 ⟨mm, rfl, m0, m1, st⟩
          replace hB := hB.trans (st.mono hB.size)
          clear st
          by_cases hm8 : inB mm 0 8 = true
          · skip
            obtain ⟨y, hy⟩ : ∃ y, ((chs (2 * mm.toNat) mm.toNat / (mm.toNat + 1) : Nat) : Int) = y := ⟨_, rfl⟩
            have HY : Hid (countSortedOf mm = (y, true)) := hid (by simp only [countSortedOf, if_pos hm8]; rw [hy])
            have hyy : (y == y) = true := by simp
            clear hy hm8
            go_wp2_with fail
            refine (countSorted_any _ _).mono ?_
            rw [HY.out]
            rintro e v11 ⟨rfl, st⟩
            replace hB := hB.trans (st.mono hB.size)
            clear st
            go_wp2_with fail
            refine (specCountSorted_any _ _).mono ?_
            rw [HY.out]
            rintro e v12 ⟨rfl, st⟩
            replace hB := hB.trans (st.mono hB.size)
            clear st
            go_wp2_with fail
            go_ret
            exact ⟨rfl, hB⟩
          · skip
            have HY : Hid (countSortedOf mm = (0, false)) := hid (by simp [countSortedOf, hm8])
            clear hm8
            go_wp2_with fail
            refine (countSorted_any _ _).mono ?_
            rw [HY.out]
            rintro e v11 ⟨rfl, st⟩
            replace hB := hB.trans (st.mono hB.size)
            clear st
            go_wp2_with fail
            refine (specCountSorted_any _ _).mono ?_
            rw [HY.out]
            rintro e v12 ⟨rfl, st⟩
            replace hB := hB.trans (st.mono hB.size)
            clear st
            go_wp2_with fail
            go_ret
            exact ⟨rfl, hB⟩
end Go.Proofs.Ytkkhlkaieohklaa

