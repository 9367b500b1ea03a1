/- The law of defects, walked. -/
import Derived.Test.YthlmfbcnaciafaaCur
import Derived.Test.YthlmfbcnaciafaaSpecS
import Derived.Test.YthlmfbcnaciafaaMathT
import Derived.Deep.LoopGhost
import Derived.Test.YthlmfbcnaciafaaMathAt
import Derived.Test.YthlmfbcnaciafaaMathX
import Derived.Test.YthlmfbcnaciafaaImplLs
import Derived.Test.YthlmfbcnaciafaaSpecC
import Derived.Test.YthlmfbcnaciafaaMathLl
import Derived.Test.YthlmfbcnaciafaaImplA
import Derived.Test.YthlmfbcnaciafaaImplC
import Derived.Test.YthlmfbcnaciafaaMathLo
import Derived.RangeFuncNested
import Derived.RangeFuncBound
import Derived.RangeFuncCalls
import Derived.RangeFuncLeaves
import Derived.Shelf.Abstract
import Derived.WalkKit
import Derived.OwnWalkIn
import Derived.TacticsInMore
import Derived.LoopNIn
import Derived.LoopIn
import Derived.Test.YthlmfbcnaciafaaRep
import Derived.Test.YthlmfbcnaciafaaStepA
import Derived.Test.YthlmfbcnaciafaaImplN
import Derived.Deep.RegionHeld3
import Derived.Deep.DeepCutAuto
import Derived.Test.YthlmfbcnaciafaaOutL
import Derived.Test.YthlmfbcnaciafaaNamed
namespace Go.Proofs.Ythlmfbcnaciafaa
open Go.RowKit

/-- Whether the bytes are too many. -/
def Big (n m : Nat) (w : World) (e : Ending) (w' : World) : Prop := ∃ r : Bool, e = .returned (.bool r) ∧ (r = false → n + m ≤ 1048576) ∧ w = w'

theorem big_any (a b : Option Addr) (n m cap cap' : Nat) (w : World) (hn : n ≤ 9223372036854775807) :
    Calls Try.prog 4 #[.slice a n cap, .slice b m cap'] w (Big n m w) := by
  by_cases h1 : (1048576 : Int) < (n : Int)
  · go_enter Try.func4, Try.ntmps4
    go_wp2_with fail
    go_ret
    exact ⟨true, ret_bool (by simp), by simp, rfl⟩
  · by_cases h2 : (1048576 : Int) - n < (m : Int)
    · go_enter Try.func4, Try.ntmps4
      go_wp2_with fail
      go_ret
      exact ⟨true, ret_bool (by simp), by simp, rfl⟩
    · go_enter Try.func4, Try.ntmps4
      go_wp2_with fail
      go_ret
      exact ⟨false, ret_bool (by simp), fun _ => by omega, rfl⟩

set_option maxHeartbeats 400000 in
theorem numberOf_any (a : Option Addr) (n cap K : Nat) (w : World) (h : HasB w a n K) :
    Calls Try.prog 12 #[.slice a n cap] w fun e w' => ∃ v : Int, e = .returned (.int .i64 v) ∧ 0 ≤ v ∧ v ≤ 1000002 ∧ w = w' := by
  obtain ⟨hn, h4⟩ := h
  go_enter Try.func12, Try.ntmps12
  go_wp2_with fail
  go_loop [3, 8] (fun c i => ∃ (k : Nat) (v : Int), k ≤ n ∧ i = .int .i64 k ∧ c = .int .i64 v ∧ 0 ≤ v ∧ v ≤ 1000002) (fun _ i => n - (intOf i).toNat)
  case atStart => exact ⟨0, 0, Nat.zero_le _, rfl, rfl, by omega, by omega⟩
  case round =>
    obtain ⟨k, v, hk, rfl, rfl, v0, v1⟩ := hrel
    by_cases hlt : k < n
    · obtain ⟨b, off, rfl, hb, hc⟩ := h4 (by omega)
      obtain ⟨u, u0, u1, hck⟩ := hc k hlt
      clear hc h4
      have m0 : 0 ≤ (31 * v + u) % 1000003 := Int.emod_nonneg _ (by omega)
      have m1 : (31 * v + u) % 1000003 ≤ 1000002 := by omega
      go_wp2_with fail
      go_round
      case rel => exact ⟨k + 1, (31 * v + u) % 1000003, by omega, by go_num, rfl, m0, m1⟩
      case measure => simp [intOf]; omega
    · go_wp2_with fail
      go_ret
      exact ⟨v, rfl, v0, v1, rfl⟩

set_option maxHeartbeats 400000 in
theorem jSum_any (a : Option Addr) (n cap : Nat) (ys : List Int) (w : World) (h : Has w a n cap ys) (hs : Small ys) :
    Calls Try.prog 17 #[.slice a n cap] w fun e w' => e = .returned (.int .i64 (total ys)) ∧ w = w' := by
  obtain ⟨h0, h1, h2, h3, h4⟩ := h
  go_enter Try.func17, Try.ntmps17
  go_wp2_with fail
  go_loop [3, 8] (fun c i => ∃ k : Nat, k ≤ n ∧ i = .int .i64 k ∧ c = .int .i64 (total (ys.take k))) (fun _ i => n - (intOf i).toNat)
  case atStart => exact ⟨0, Nat.zero_le _, rfl, rfl⟩
  case round =>
    obtain ⟨k, hk, rfl, rfl⟩ := hrel
    by_cases hlt : k < n
    · obtain ⟨b, off, rfl, hb, hc⟩ := h4 (by omega)
      have hck := hc k hlt
      have ht := total_bounds hs k (by omega)
      obtain ⟨hv0, hv1⟩ := hs k (by omega)
      have HS := hid (total_succ (xs := ys) (k := k) (by omega))
      clear hc h4 hs
      go_wp2_with fail
      go_round
      case rel => exact ⟨k + 1, by omega, by go_num, by rw [HS.out]⟩
      case measure => simp [intOf]; omega
    · obtain rfl : k = n := by omega
      go_wp2_with fail
      go_ret
      exact ⟨ret_int (by rw [List.take_of_length_le (by omega)]), rfl⟩

set_option maxHeartbeats 400000 in
theorem jSame_any (a b : Option Addr) (n m cap cap' : Nat) (xs ys : List Int) (w : World) (h : Has w a n cap xs) (h' : Has w b m cap' ys) :
    Calls Try.prog 10 #[.slice a n cap, .slice b m cap'] w fun e w' => e = .returned (.bool (same xs ys)) ∧ Quiet w w' := by
  obtain ⟨h0, h1, h2, h3, h4⟩ := h
  obtain ⟨k0, k1, k2, k3, k4⟩ := h'
  by_cases hnm : n = m
  · have hb : ((n : Int) != (m : Int)) = false := by simp [hnm]
    subst hnm
    go_enter Try.func10, Try.ntmps10
    go_wp2_with fail
    go_loopw [13] (fun i wr => ∃ k : Nat, k ≤ n ∧ i = .int .i64 k ∧ FromTo xs ys k ∧ Quiet w wr) (fun i _ => n - (intOf i).toNat)
    case atStart => exact ⟨0, Nat.zero_le _, rfl, fun i hi => by omega, ⟨0, rfl⟩⟩
    case round =>
      obtain ⟨k, hk, rfl, hft, q, hq⟩ := hrel
      subst hq
      by_cases hlt : k < n
      · obtain ⟨b1, off1, rfl, hb1, hc1⟩ := h4 (by omega)
        obtain ⟨b2, off2, rfl, hb2, hc2⟩ := k4 (by omega)
        have hck := hc1 k hlt
        have hdk := hc2 k hlt
        have hkk : (k : Int) < (n : Int) := by omega
        have hkz : (0 : Int) ≤ (k : Int) := by omega
        clear hc1 hc2 h4 k4
        by_cases he : nth xs k = nth ys k
        · have hbe : (nth xs k != nth ys k) = false := by simp [he]
          have HE := hid he
          clear he
          go_wp2_with fail
          go_quiet (fail)
          go_wp2_with fail
          go_roundw
          case rel => exact ⟨k + 1, by omega, by go_num, fun i hi => by rcases Nat.lt_succ_iff_lt_or_eq.1 hi with h | rfl; exact hft i h; exact HE.out.symm, ⟨_, rfl⟩⟩
          case measure => simp [intOf]; omega
        · have hbe : (nth xs k != nth ys k) = true := by simp [he]
          have HE := hid he
          clear he
          go_wp2_with fail
          go_quiet (fail)
          go_wp2_with fail
          go_ret
          exact ⟨ret_bool (same_no HE.out).symm, (Quiet.more ⟨_, rfl⟩ _)⟩
      · obtain rfl : k = n := by omega
        go_wp2_with fail
        go_ret
        exact ⟨ret_bool (same_yes (by omega) (by rw [h0]; exact hft)).symm, ⟨_, rfl⟩⟩
  · have hb : ((n : Int) != (m : Int)) = true := by simp; omega
    go_enter Try.func10, Try.ntmps10
    go_wp2_with fail
    go_ret
    exact ⟨ret_bool (show false = same xs ys from by unfold same; symm; rw [decide_eq_false_iff_not]; rintro rfl; omega), ⟨0, rfl⟩⟩

set_option maxHeartbeats 800000 in
theorem jSwapped_any (a : Option Addr) (n cap : Nat) (xs : List Int) (i : Nat) (w : World) (h : Has w a n cap xs) (hi : i + 1 < n) :
    Calls Try.prog 11 #[.slice a n cap, .int .i64 i] w fun e w' => ∃ a' cap', e = .returned (.slice a' n cap') ∧ Own w' w.heap.size a' n cap' (swapped xs i) ∧ Below w.heap.size w w' := by
  have hle := h.le
  have hb0 : Below w.heap.size w (w.alloc (.cells #[] 3)) := (Below.refl _ _).alloc (Nat.le_refl _) _
  go_enter Try.func11, Try.ntmps11
  go_wp2_with (at_builtin; refine wpList_append_ints _ rfl _ _ rfl w.heap.size _ _ _ _ _ _ [] xs rfl rfl (own_lit0 w _ (Nat.le_refl _)) (h.below hb0 (Nat.le_refl _)) (by omega) (by simp) ?_; intro a2 n2 cap2 w2 hn2 hown2 hb2)
  obtain rfl : n2 = n := by omega
  simp only [List.nil_append] at hown2
  clear hn2
  obtain ⟨g, rfl, hg, hgl, hc, hf⟩ := hown2.opened (by omega)
  have hci := hc i (by omega)
  have hcj := hc (i + 1) (by omega)
  have hfi := hf i
  have hfj := hf (i + 1)
  have HO := hid hown2
  have hi1 : (i : Int) + 1 < (n2 : Int) := by omega
  have hi2 : (i : Int) < (n2 : Int) := by omega
  clear hc hf hown2
  go_wp2_with fail
  go_quiet (fail)
  go_wp2_with fail
  go_ret
  obtain ⟨s1, s2⟩ := HO.out.set i (nth xs (i + 1))
  obtain ⟨s3, s4⟩ := s1.set (i + 1) (nth xs i)
  exact ⟨_, _, rfl, s3, (hb0.trans hb2).trans (((((Quiet.rfl' w2).more nq).below w.heap.size).setCell (p := ⟨g, i, none⟩) (by simpa using hg) _).setCell (p := ⟨g, i + 1, none⟩) (by simpa using hg) _)⟩
end Go.Proofs.Ythlmfbcnaciafaa

namespace Go.Proofs.Ythlmfbcnaciafaa
open Go.RowKit

/-- The cursor stands, and below its block all is as it was. -/
structure At (w0 w : World) (g t : Nat) : Prop where
  cur : Cur w g t
  below : Below g w0 w

theorem At.pick {w0 w w' : World} {g t t' : Nat} (h : At w0 w g t) (hc : Cur w' g t') (hg : w.grownBy w' (some g)) : At w0 w' g t' :=
  ⟨hc, h.below.trans (below_grown hg (Nat.le_of_lt h.cur.lt) (by intro k hk; cases hk; exact Nat.le_refl _))⟩
theorem At.later {w0 w w' : World} {g t K : Nat} (h : At w0 w g t) (hb : Below K w w') (hK : g < K) : At w0 w' g t :=
  ⟨h.cur.below hb hK, h.below.trans (hb.mono (Nat.le_of_lt hK))⟩
theorem At.size {w0 w : World} {g t : Nat} (h : At w0 w g t) : w0.heap.size ≤ w.heap.size := h.below.size

theorem has_lit (w : World) (xs : List Int) (hx : xs.length ≤ 100) : Has (w.alloc (.cells (xs.map (Value.int .i64)).toArray 3)) (some ⟨w.heap.size, 0, none⟩) xs.length xs.length xs := by
  have := World.ownsRow_lit (base := w.heap.size) (e := 3) (size := 1) w (xs.map (Value.int .i64)).toArray xs.length (Nat.le_refl _) (by unfold maxLen; omega) (by simp)
  exact Own.has (B := w.heap.size) ⟨by simpa using this, rfl, by omega⟩
theorem has_lit3 (w : World) (a b c : Int) : Has (w.alloc (.cells #[.int .i64 a, .int .i64 b, .int .i64 c] 3)) (some ⟨w.heap.size, 0, none⟩) 3 3 [a, b, c] := has_lit w [a, b, c] (by simp)
theorem has_lit4 (w : World) (a b c d : Int) : Has (w.alloc (.cells #[.int .i64 a, .int .i64 b, .int .i64 c, .int .i64 d] 3)) (some ⟨w.heap.size, 0, none⟩) 4 4 [a, b, c, d] := has_lit w [a, b, c, d] (by simp)
theorem has_lit6 (w : World) (a b c d e f : Int) : Has (w.alloc (.cells #[.int .i64 a, .int .i64 b, .int .i64 c, .int .i64 d, .int .i64 e, .int .i64 f] 3)) (some ⟨w.heap.size, 0, none⟩) 6 6 [a, b, c, d, e, f] := has_lit w [a, b, c, d, e, f] (by simp)
theorem alloc_below (w : World) (o : Obj) : Below w.heap.size w (w.alloc o) := (Below.refl _ _).alloc (Nat.le_refl _) _
theorem lit_ne {w : World} {g t : Nat} (h : Cur w g t) : ∀ p, (some ⟨w.heap.size, 0, none⟩ : Option Addr) = some p → p.block ≠ g := by
  intro p hp
  cases hp
  have := h.lt
  simp
  omega

/-- Favourites and a number of places, whatever they are. -/
def DrewFav (w : World) (g : Nat) (e : Ending) (w' : World) : Prop :=
  ∃ a n cap xs p, e = .returned (.tuple #[.slice a n cap, .int .i64 p]) ∧ Own w' w.heap.size a n cap xs ∧ n ≤ 10 ∧ -1 ≤ p ∧ p ≤ 13 ∧ Below g w w'

/-- The same, and the cursor stands. -/
def DrewFavC (w : World) (g : Nat) (e : Ending) (w' : World) : Prop :=
  ∃ a n cap xs p, e = .returned (.tuple #[.slice a n cap, .int .i64 p]) ∧ Own w' w.heap.size a n cap xs ∧ n ≤ 10 ∧ -1 ≤ p ∧ p ≤ 13 ∧ ∃ t', At w w' g t' ∧ t' ≤ 4000

set_option maxHeartbeats 4000000 in
theorem favourites_at (g t : Nat) (w : World) (h : Cur w g t) (ht : t ≤ 1000) :
    Calls Try.prog 36 #[.pointer (some ⟨g, 0, none⟩)] w (DrewFavC w g) := by
  have hgl := h.lt
  have A0 : At w w g t := ⟨h, Below.refl _ _⟩
  have A1 := A0.later (alloc_below w (.cells #[.int .i64 4, .int .i64 7, .int .i64 12] 3)) hgl
  go_enter Try.func36, Try.ntmps36
  go_wp2_with fail
  refine (among_cur g t _ 3 3 [4, 7, 12] _ A1.cur (by omega) (has_lit3 w 4 7 12) (by omega) (by omega) (lit_ne h)).mono ?_
  rintro e w1 ⟨v, rfl, hv, ⟨t1, ta, tb, hc1⟩, hg1⟩
  have hv1 : 4 ≤ v ∧ v ≤ 12 := by simp at hv; omega
  have A2 := A1.pick hc1 hg1
  clear hv hc1 hg1 A1 A0
  go_wp2_with fail
  refine (pick_cur g t1 v _ A2.cur (by omega) (by omega)).mono ?_
  rintro e w2 ⟨q, rfl, q0, q1, ⟨t2, tc, td, hc2⟩, hg2⟩
  have A3 := A2.pick hc2 hg2
  have hq : q ≤ 11 := by omega
  clear hc2 hg2 A2 q1
  go_wp2_with fail
  refine (l1Least_any _ _ _).mono ?_
  rintro e _ ⟨rfl, rfl⟩
  obtain ⟨m, hm⟩ : ∃ m, min (1 + q) 8 = m := ⟨_, rfl⟩
  have hm1 : 1 ≤ m ∧ m ≤ 8 := by omega
  rw [hm]
  clear hm
  go_wp2_with fail
  refine (pick_cur g t2 (m + 1) _ A3.cur (by omega) (by omega)).mono ?_
  rintro e w3 ⟨n0, rfl, n1, n2, ⟨t3, te, tf, hc3⟩, hg3⟩
  have A4 := A3.pick hc3 hg3
  obtain ⟨nn, rfl⟩ : ∃ nn : Nat, n0 = (nn : Int) := ⟨_, (Int.toNat_of_nonneg n1).symm⟩
  have hnn : nn ≤ 8 := by omega
  clear hc3 hg3 A3 n2 n1
  go_wp2_with fail
  go_loopw [5, 6] (fun o n wr => ∃ (k j : Nat) (a' : Option Addr) (cap' : Nat) (xs : List Int) (t' : Nat), k + j ≤ 8 ∧ n = .int .i64 (k : Int) ∧ o = .slice a' j cap' ∧ Own wr w.heap.size a' j cap' xs ∧ At w wr g t' ∧ t' ≤ 2000 + 8 * j) (fun _ n _ => (intOf n).toNat)
  case atStart => exact ⟨nn, 0, none, 0, [], t3, by omega, rfl, rfl, Own.nil _ _, A4, by omega⟩
  case round =>
    obtain ⟨k, j, a', cap', xs, t', hkj, rfl, rfl, hown, A, ht'⟩ := hrel
    clear A4
    by_cases hk : 0 < k
    · go_wp2_with fail
      refine (pick_cur g t' (1 + q) _ A.cur (by omega) (by omega)).mono ?_
      rintro e w5 ⟨v5, rfl, v50, v51, ⟨t5, x1, x2, hc5⟩, hg5⟩
      have A5 := A.pick hc5 hg5
      have o5 := hown.kept hg5 (.inl hgl)
      have hv5 : v5 ≤ q := by omega
      clear hc5 hg5 hown A v51
      go_wp2_with fail
      refine (l1Most_any _ _ _).mono ?_
      rintro e _ ⟨rfl, rfl⟩
      obtain ⟨y, hy⟩ : ∃ y, max 1 (1 + q - v5) = y := ⟨_, rfl⟩
      have hy1 : 1 ≤ y ∧ y ≤ 12 := by omega
      rw [hy]
      clear hy
      go_wp2_with fail
      refine (pick_cur g t5 y _ A5.cur (by omega) (by omega)).mono ?_
      rintro e w6 ⟨v6, rfl, v60, v61, ⟨t6, x3, x4, hc6⟩, hg6⟩
      have A6 := A5.pick hc6 hg6
      have o6 := o5.kept hg6 (.inl hgl)
      have hs6 := A6.size
      clear hc6 hg6 o5 A5 v61
      go_wp2_with (at_builtin; refine wpList_append_int _ rfl _ _ rfl w.heap.size _ _ _ _ _ rfl rfl o6 (by omega) hs6 ?_; intro a7 cap7 w7 o7 hb7)
      have A7 := A6.later hb7 hgl
      clear A6 o6 hb7
      go_roundw
      case rel => exact ⟨k - 1, j + 1, a7, cap7, _, t6, by omega, congrArg (Value.int .i64) (by omega), rfl, o7, A7, by omega⟩
      case measure => simp [intOf]; omega
    · go_wp2_with fail
      refine (pick_cur g t' 20 _ A.cur (by omega) (by omega)).mono ?_
      rintro e w5 ⟨z, rfl, z0, z1, ⟨t5, x1, x2, hc5⟩, hg5⟩
      have A5 := A.pick hc5 hg5
      have o5 := hown.kept hg5 (.inl hgl)
      have hs5 := A5.size
      have hg5l := A5.cur.lt
      clear hc5 hg5 hown A z1
      by_cases h0 : (z == 0) = true
      · go_wp2_with fail
        refine (among_cur g t5 _ 4 4 [-1, 1 + q, 0, 4611686018427387904] _ (A5.later (alloc_below _ _) (by omega)).cur (by omega) (has_lit4 w5 (-1) (1 + q) 0 4611686018427387904) (by omega) (by omega) (lit_ne A5.cur)).mono ?_
        rintro e w6 ⟨v6, rfl, _, ⟨t6, x3, x4, hc6⟩, hg6⟩
        have A5' := A5.later (alloc_below w5 (.cells #[.int .i64 (-1), .int .i64 (1 + q), .int .i64 0, .int .i64 4611686018427387904] 3)) (by omega)
        have A6 := A5'.pick hc6 hg6
        have o6 := (o5.below (alloc_below w5 (.cells #[.int .i64 (-1), .int .i64 (1 + q), .int .i64 0, .int .i64 4611686018427387904] 3)) (Nat.le_refl _)).kept hg6 (.inl hgl)
        have hs6 := A6.size
        clear hc6 hg6 o5 A5 A5'
        go_wp2_with (at_builtin; refine wpList_append_int _ rfl _ _ rfl w.heap.size _ _ _ _ _ rfl rfl o6 (by omega) hs6 ?_; intro a7 cap7 w7 o7 hb7)
        have A7 := A6.later hb7 hgl
        clear A6 o6 hb7
        go_ret2
        exact ⟨_, _, _, _, 1 + q, rfl, o7, by omega, by omega, by omega, _, A7, by omega⟩
      · have h0' := Bool.eq_false_iff.2 h0
        clear h0
        by_cases h1 : (z == 1) = true
        · go_wp2_with fail
          go_loopg [5] (10 - j) (fun q2 o wr => ∃ (m : Nat) (a' : Option Addr) (cap' : Nat) (xs : List Int) (t' : Nat), m + q2 = 10 ∧ 0 < q2 ∧ o = .slice a' m cap' ∧ Own wr w.heap.size a' m cap' xs ∧ At w wr g t' ∧ t' ≤ 3000 + 8 * m)
          case atStart => exact ⟨j, a', cap', xs, t5, by omega, by omega, rfl, o5, A5, by omega⟩
          case round =>
            obtain ⟨m, a', cap', xs, t', hmq, hq0, rfl, hown, A, ht'⟩ := hrel
            clear A5 o5
            go_wp2_with fail
            refine (pick_cur g t' 2 _ A.cur (by omega) (by omega)).mono ?_
            rintro e w6 ⟨v6, rfl, v60, v61, ⟨t6, x3, x4, hc6⟩, hg6⟩
            have A6 := A.pick hc6 hg6
            have o6 := hown.kept hg6 (.inl hgl)
            have hv6 : v6 ≤ 1 := by omega
            clear hc6 hg6 hown A v61
            by_cases hlt : (m : Int) < 8 + v6
            · go_wp2_with fail
              refine (pick_cur g t6 (1 + q) _ A6.cur (by omega) (by omega)).mono ?_
              rintro e w7 ⟨v7, rfl, v70, v71, ⟨t7, x5, x6, hc7⟩, hg7⟩
              have A7 := A6.pick hc7 hg7
              have o7 := o6.kept hg7 (.inl hgl)
              have hs7 := A7.size
              clear hc7 hg7 o6 A6 v71
              go_wp2_with (at_builtin; refine wpList_append_int _ rfl _ _ rfl w.heap.size _ _ _ _ _ rfl rfl o7 (by omega) hs7 ?_; intro a8 cap8 w8 o8 hb8)
              have A8 := A7.later hb8 hgl
              clear A7 o7 hb8
              go_roundg (gk - 1)
              case rel => exact ⟨m + 1, a8, cap8, _, t7, by omega, by omega, rfl, o8, A8, by omega⟩
              case measure => omega
            · go_wp2_with fail
              go_ret2
              exact ⟨_, _, _, _, 1 + q, rfl, o6, by omega, by omega, by omega, _, A6, by omega⟩
        · have h1' := Bool.eq_false_iff.2 h1
          clear h1
          by_cases h2 : (z == 2) = true
          · go_wp2_with fail
            refine (among_cur g t5 _ 4 4 [0, -1, 12, 13] _ (A5.later (alloc_below _ _) (by omega)).cur (by omega) (has_lit4 w5 0 (-1) 12 13) (by omega) (by omega) (lit_ne A5.cur)).mono ?_
            rintro e w6 ⟨v6, rfl, hv6, ⟨t6, x3, x4, hc6⟩, hg6⟩
            have hv6' : -1 ≤ v6 ∧ v6 ≤ 13 := by simp at hv6; omega
            have A5' := A5.later (alloc_below w5 (.cells #[.int .i64 0, .int .i64 (-1), .int .i64 12, .int .i64 13] 3)) (by omega)
            have A6 := A5'.pick hc6 hg6
            have o6 := (o5.below (alloc_below w5 (.cells #[.int .i64 0, .int .i64 (-1), .int .i64 12, .int .i64 13] 3)) (Nat.le_refl _)).kept hg6 (.inl hgl)
            clear hc6 hg6 o5 A5 A5' hv6
            go_wp2_with fail
            go_ret2
            exact ⟨_, _, _, _, _, rfl, o6, by omega, by omega, by omega, _, A6, by omega⟩
          · have h2' := Bool.eq_false_iff.2 h2
            clear h2
            go_wp2_with fail
            go_ret2
            exact ⟨_, _, _, _, _, rfl, o5, by omega, by omega, by omega, _, A5, by omega⟩

theorem favourites_cur (g t : Nat) (w : World) (h : Cur w g t) (ht : t ≤ 1000) :
    Calls Try.prog 36 #[.pointer (some ⟨g, 0, none⟩)] w (DrewFav w g) :=
  (favourites_at g t w h ht).mono fun _ _ ⟨a, n, cap, xs, p, h1, h2, h3, h4, h5, _, h6, _⟩ => ⟨a, n, cap, xs, p, h1, h2, h3, h4, h5, h6.below⟩

/-- A slice of bytes that came in. -/
theorem cur_new {w : World} {a : Option Addr} {n cap : Nat} (h : HasB w a n w.heap.size) : Cur (w.alloc (.cells #[.slice a n cap, .int .i64 0, .int .u64 0] 50)) w.heap.size 0 := by
  refine ⟨⟨a, n, cap, ?_, h.1, fun hp => ?_⟩, ?_, ⟨0, by omega, by omega, ?_⟩, fun i => ?_, by simp⟩
  · rw [World.cell?_alloc_at _ _ _ _ rfl]; rfl
  · obtain ⟨b, off, ha, hb, hc⟩ := h.2 hp
    refine ⟨b, off, ha, hb, fun i hi => ?_⟩
    obtain ⟨u, u0, u1, hu⟩ := hc i hi
    exact ⟨u, u0, u1, by rw [World.cell?_alloc_past _ _ _ hb]; exact hu⟩
  · rw [World.cell?_alloc_at _ _ _ _ rfl]; rfl
  · rw [World.cell?_alloc_at _ _ _ _ rfl]; rfl
  · rw [World.frozen?_alloc_at _ _ _ _ rfl]

/-- What a draw of favourites leaves to its caller. -/
def DrewFav' (w : World) (e : Ending) (w' : World) : Prop :=
  ∃ a n cap xs p, e = .returned (.tuple #[.slice a n cap, .int .i64 p]) ∧ Own w' w.heap.size a n cap xs ∧ n ≤ 10 ∧ -1 ≤ p ∧ p ≤ 13 ∧ Below w.heap.size w w'

end Go.Proofs.Ythlmfbcnaciafaa

namespace Go.Proofs.Ythlmfbcnaciafaa
open Go.RowKit

theorem HasB.grow {w w' : World} {a : Option Addr} {n K : Nat} (h : HasB w a n K) (hb : Below K w w') (hK : K ≤ w.heap.size) : HasB w' a n w'.heap.size := by
  refine ⟨h.1, fun hx => ?_⟩
  obtain ⟨b, off, ha, hbk, hc⟩ := h.2 hx
  refine ⟨b, off, ha, Nat.lt_of_lt_of_le hbk (Nat.le_trans hK hb.size), fun i hi => ?_⟩
  obtain ⟨u, u0, u1, hu⟩ := hc i hi
  exact ⟨u, u0, u1, by rw [hb.cell (p := ⟨b, off + i, none⟩) hbk]; exact hu⟩

/-- A number put into a list. -/
def putIn (xs : List Int) (j : Nat) (x : Int) : List Int := xs.take j ++ [x] ++ xs.drop j
theorem mem_putIn {xs : List Int} {j : Nat} {x y : Int} : y ∈ putIn xs j x ↔ y = x ∨ y ∈ xs := by
  unfold putIn
  have : y ∈ xs ↔ y ∈ xs.take j ∨ y ∈ xs.drop j := by rw [← List.mem_append, List.take_append_drop]
  simp only [List.mem_append, List.mem_singleton, this]
  constructor
  · rintro ((h | h) | h)
    · exact .inr (.inl h)
    · exact .inl h
    · exact .inr (.inr h)
  · rintro (h | h | h)
    · exact .inl (.inr h)
    · exact .inl (.inl h)
    · exact .inr h
def Within (xs : List Int) (lo hi : Int) : Prop := ∀ x ∈ xs, lo ≤ x ∧ x ≤ hi
theorem Within.put {xs : List Int} {lo hi x : Int} {j : Nat} (h : Within xs lo hi) (hx : lo ≤ x ∧ x ≤ hi) : Within (putIn xs j x) lo hi := by
  intro y hy
  rcases mem_putIn.1 hy with rfl | hy
  · exact hx
  · exact h y hy
theorem Within.snoc {xs : List Int} {lo hi x : Int} (h : Within xs lo hi) (hx : lo ≤ x ∧ x ≤ hi) : Within (xs ++ [x]) lo hi := by
  intro y hy
  rcases List.mem_append.1 hy with hy | hy
  · exact h y hy
  · rw [List.mem_singleton] at hy; subst hy; exact hx
theorem Within.set {xs : List Int} {lo hi x : Int} {i : Nat} (h : Within xs lo hi) (hx : lo ≤ x ∧ x ≤ hi) : Within (xs.set i x) lo hi := by
  intro y hy
  rcases List.mem_or_eq_of_mem_set hy with hy | rfl
  · exact h y hy
  · exact hx
theorem Within.wide {xs : List Int} {lo hi lo' hi' : Int} (h : Within xs lo hi) (h1 : lo' ≤ lo) (h2 : hi ≤ hi') : Within xs lo' hi' := fun y hy => by have := h y hy; omega

/-- The cursor stands; its block alone was written among those that were there. -/
structure AtG (w0 w : World) (g t : Nat) : Prop where
  cur : Cur w g t
  grew : w0.grownBy w (some g)
  lt : g < w0.heap.size
theorem AtG.new {w : World} {g t : Nat} (h : Cur w g t) : AtG w w g t := ⟨h, World.grownBy.refl _ _, h.lt⟩
theorem AtG.size {w0 w : World} {g t : Nat} (h : AtG w0 w g t) : w0.heap.size ≤ w.heap.size := h.grew.size
theorem grown_then {w w1 w2 : World} {r : Option Nat} (h : w.grownBy w1 r) (h' : w1.grownBy w2 r) : w.grownBy w2 r :=
  ⟨h'.os.trans h.os, h'.tape.trans h.tape, h'.output.trans h.output, Nat.le_trans h.size h'.size, fun j hj hne => (h'.block j (Nat.lt_of_lt_of_le hj h.size) hne).trans (h.block j hj hne)⟩
theorem AtG.pick {w0 w w' : World} {g t t' : Nat} (h : AtG w0 w g t) (hc : Cur w' g t') (hg : w.grownBy w' (some g)) : AtG w0 w' g t' := ⟨hc, grown_then h.grew hg, h.lt⟩
theorem AtG.later {w0 w w' : World} {g t K : Nat} (h : AtG w0 w g t) (hb : Below K w w') (hK : w0.heap.size ≤ K) : AtG w0 w' g t :=
  ⟨h.cur.below hb (Nat.lt_of_lt_of_le h.lt hK), ⟨hb.os.trans h.grew.os, hb.tape.trans h.grew.tape, hb.output.trans h.grew.output, Nat.le_trans h.grew.size hb.size, fun j hj hne => (hb.block j (Nat.lt_of_lt_of_le hj hK)).trans (h.grew.block j hj hne)⟩, h.lt⟩
theorem AtG.below {w0 w : World} {g t : Nat} (h : AtG w0 w g t) : Below g w0 w := below_grown h.grew (Nat.le_of_lt h.lt) fun k hk => by cases hk; exact Nat.le_refl _
theorem AtG.trans {w0 w w' : World} {g t t' : Nat} (h : AtG w0 w g t) (h' : AtG w w' g t') : AtG w0 w' g t' := ⟨h'.cur, grown_then h.grew h'.grew, h.lt⟩

/-- A list that was drawn. -/
def DrewList (w : World) (g t : Nat) (e : Ending) (w' : World) : Prop :=
  ∃ a n cap xs t', e = .returned (.slice a n cap) ∧ Own w' w.heap.size a n cap xs ∧ n ≤ 10 ∧ Within xs (-1) 100 ∧ AtG w w' g t' ∧ t' ≤ t + 100

end Go.Proofs.Ythlmfbcnaciafaa

namespace Go.Proofs.Ythlmfbcnaciafaa
open Go.RowKit

theorem has_lit7D (w : World) (a b c d e f g : Int) : Has (w.alloc (.cells #[.int .i64 a, .int .i64 b, .int .i64 c, .int .i64 d, .int .i64 e, .int .i64 f, .int .i64 g] 3)) (some ⟨w.heap.size, 0, none⟩) 7 7 [a, b, c, d, e, f, g] := has_lit w [a, b, c, d, e, f, g] (by simp)
set_option maxHeartbeats 800000 in
theorem drawLeastBack_any (a : Option Addr) (n cap : Nat) (w : World) (h : HasB w a n w.heap.size) :
    Calls Try.prog 22 #[.slice a n cap] w (DrewFav' w) := by
  have C0 := cur_new (cap := cap) h
  go_enter Try.func22, Try.ntmps22
  go_wp2_with fail
  refine (favourites_cur _ 0 _ C0 (by omega)).mono ?_
  rintro e w1 ⟨a1, n1, cap1, xs1, p1, rfl, o1, hn1, hp1, hp2, hb1⟩
  have o1' := o1.mono (B' := w.heap.size) (by simp)
  have hb := (alloc_below w (.cells #[.slice a n cap, .int .i64 0, .int .u64 0] 50)).trans hb1
  go_wp2_with fail
  go_ret2
  exact ⟨_, _, _, _, _, rfl, o1', hn1, hp1, hp2, hb⟩
set_option maxHeartbeats 400000 in
theorem drawDefect_any (a : Option Addr) (n cap : Nat) (w : World) (h : HasB w a n w.heap.size) :
    Calls Try.prog 5 #[.slice a n cap] w (DrewFav' w) := by
  go_enter Try.func5, Try.ntmps5
  go_wp2_with fail
  refine (drawLeastBack_any _ _ _ _ h).mono ?_
  rintro e w1 ⟨a1, n1, cap1, xs1, p1, rfl, o1, hn1, hp1, hp2, hb1⟩
  go_wp2_with fail
  go_ret2
  exact ⟨_, _, _, _, _, rfl, o1, hn1, hp1, hp2, hb1⟩
set_option maxHeartbeats 800000 in
theorem drawNeeded_any (a : Option Addr) (n cap : Nat) (w : World) (h : HasB w a n w.heap.size) :
    Calls Try.prog 18 #[.slice a n cap] w fun e w' => ∃ a n cap xs, e = .returned (.slice a n cap) ∧ Own w' w.heap.size a n cap xs ∧ n ≤ 10 ∧ Below w.heap.size w w' := by
  have C0 := cur_new (cap := cap) h
  go_enter Try.func18, Try.ntmps18
  go_wp2_with fail
  refine (favourites_cur _ 0 _ C0 (by omega)).mono ?_
  rintro e w1 ⟨a1, n1, cap1, xs1, p1, rfl, o1, hn1, hp1, hp2, hb1⟩
  have o1' := o1.mono (B' := w.heap.size) (by simp)
  have hb := (alloc_below w (.cells #[.slice a n cap, .int .i64 0, .int .u64 0] 50)).trans hb1
  go_wp2_with fail
  go_ret
  exact ⟨_, _, _, _, rfl, o1', hn1, hb⟩
set_option maxRecDepth 100000 in
set_option maxHeartbeats 800000 in
theorem drawByDefect_any (a : Option Addr) (n cap : Nat) (w : World) (h : HasB w a n w.heap.size) :
    Calls Try.prog 13 #[.slice a n cap] w fun e w' => ∃ z : Int, e = .returned (.int .i64 z) ∧ Below w.heap.size w w' := by
  have C0 := cur_new (cap := cap) h
  have hb0 := alloc_below w (.cells #[.slice a n cap, .int .i64 0, .int .u64 0] 50)
  obtain ⟨w1, hw1⟩ : ∃ w1, w.alloc (.cells #[.slice a n cap, .int .i64 0, .int .u64 0] 50) = w1 := ⟨_, rfl⟩
  have hs1 : w1.heap.size = w.heap.size + 1 := by rw [← hw1]; simp
  rw [hw1] at C0 hb0
  have HW := hid hw1
  clear hw1
  go_enter Try.func13, Try.ntmps13
  go_wp2_with fail
  rw [HW.out]
  have A0 : At w1 w1 w.heap.size 0 := ⟨C0, Below.refl _ _⟩
  have A1 := A0.later (alloc_below w1 (.cells #[.int .i64 1, .int .i64 2, .int .i64 3, .int .i64 4, .int .i64 5, .int .i64 6, .int .i64 0] 3)) C0.lt
  have hl := has_lit7D w1 1 2 3 4 5 6 0
  have hn := lit_ne C0
  rw [hs1] at hl hn
  refine (among_cur w.heap.size 0 _ 7 7 [1, 2, 3, 4, 5, 6, 0] _ A1.cur (by omega) hl (by omega) (by omega) hn).mono ?_
  rintro e w2 ⟨v, rfl, -, ⟨t2, tc, td, hc2⟩, hg2⟩
  have A2 := A1.pick hc2 hg2
  have hb := hb0.trans A2.below
  clear hc2 hg2 A1 A0
  go_wp2_with fail
  go_ret
  exact ⟨_, rfl, hb⟩
end Go.Proofs.Ythlmfbcnaciafaa

namespace Go.Proofs.Ythlmfbcnaciafaa
open Go.RowKit

/-- How often a number occurs. -/
def occ5 (s : List Int) (v : Int) : Int := (s.count v : Int)
theorem occ5_succ {s : List Int} {k : Nat} (h : k < s.length) (v : Int) : occ5 (s.take (k + 1)) v = occ5 (s.take k) v + if nth s k = v then 1 else 0 := by
  unfold occ5
  rw [take_succ_nth h, List.count_append, List.count_singleton]
  simp only [beq_iff_eq]
  split <;> omega
/-- The counts of the first k. -/
def Hist5 (ts : List Int) (m k : Nat) (zs : List Int) : Prop := ∀ d : Nat, d < m → nth zs d = occ5 (ts.take k) d
theorem hist5_first (ts : List Int) (m : Nat) : Hist5 ts m 0 (List.replicate m 0) := fun d hd => by
  rw [nth_rep hd]
  simp [occ5]
theorem hist5_step {ts zs : List Int} {m k d : Nat} (h : Hist5 ts m k zs) (hk : k < ts.length) (hd : nth ts k = (d : Int)) (hm : d < m) (hl : zs.length = m) : Hist5 ts m (k + 1) (zs.set d (nth zs d + 1)) := fun e he => by
  rw [nth_set (by omega), occ5_succ hk, hd]
  by_cases x : d = e
  · subst x
    rw [if_pos rfl, if_pos rfl, h d hm]
  · rw [if_neg x, if_neg (by omega), h e he, Int.add_zero]
theorem hist5_le {ts zs : List Int} {m k d : Nat} (h : Hist5 ts m k zs) (hd : d < m) (hk : k ≤ ts.length) : 0 ≤ nth zs d ∧ nth zs d ≤ ts.length := by
  rw [h d hd]
  unfold occ5
  have := List.count_le_length (a := (d : Int)) (l := ts.take k)
  simp at this
  omega

/-- The defects of all lists. -/
def defTs (n : Nat) : List Int := (allTried n).map fun l => (fails (drive n l) : Int)
def byDefect (n : Nat) : List Int := (List.range n).map fun (d : Nat) => occ5 (defTs n) d
def byDefectOf (n : Int) : List Int × Bool := if inB n 1 5 then (byDefect n.toNat, true) else ([], false)
theorem length_defTs {n : Nat} (hn : 1 ≤ n) : (defTs n).length = n ^ n := by simp [defTs, length_allTried hn]
theorem nth_defTs {n k : Nat} (hn : 1 ≤ n) (hk : k < n ^ n) : nth (defTs n) k = (fails (drive n ((allTried n).getD k [])) : Int) := by
  have hk' : k < (allTried n).length := by rw [length_allTried hn]; exact hk
  simp [nth, defTs, hk']
/-- At least the first car parks. -/
theorem fails_lt {n : Nat} {l : List Int} (hn : 1 ≤ n) (hl : l.length = n) (hb : ∀ x ∈ l, 0 ≤ x ∧ x ≤ (n : Int) - 1) : fails (drive n l) < n := by
  have hd := length_drive (n : Int) l
  have h0 := drive_get (p := (n : Int)) (xs := l) (k := 0) (by omega)
  obtain ⟨x0, x1⟩ := hb _ (nth_mem (xs := l) (i := 0) (by omega))
  have hp := place_new (p := (n : Int)) (out := drive n (l.take 0)) (x := nth l 0) (by omega)
  rw [← h0] at hp
  have hpos : 0 ≤ nth (drive n l) 0 := by
    rcases hp with hp | hp
    · have h9 := place_of (p := (n : Int)) (out := drive n (l.take 0)) (Runs.refl _ _ (nth l 0)) (by simp [drive]) (by omega)
      rw [if_neg (by omega), ← h0] at h9
      omega
    · omega
  generalize drive n l = ys at *
  cases ys with
  | nil => simp at hd; omega
  | cons y ys =>
    rw [nth_cons_zero] at hpos
    have := fails_le ys
    have e : fails (y :: ys) = fails ys := by unfold fails; rw [List.countP_cons]; simp; omega
    rw [e]
    simp at hd
    omega
end Go.Proofs.Ythlmfbcnaciafaa

namespace Go.Proofs.Ythlmfbcnaciafaa
open Go.RowKit
theorem def_sum : ∀ n, n < 6 → 1 ≤ n → total (byDefect n) = ((n ^ n : Nat) : Int) ∧ nth (byDefect n) 0 = (cnt n : Int) ∧ (byDefect n).all (fun x => decide (0 ≤ x) && decide (x ≤ 3125)) = true ∧ (byDefect n).length = n := by decide +kernel
/-- The surpluses, and the cars that fail. -/
structure DefF (xs : List Int) (n P : Nat) (d : Int) : Prop where
  one : 1 ≤ P ∧ P ≤ 12
  h8 : n ≤ 8
  def' : defectOf xs (P : Int) = (d, true)
  drv : driveSomeOf xs (P : Int) = (drive (P : Int) xs, true)
  most : d = defTo xs P P
  fail : (fails (drive (P : Int) xs) : Int) = d
  len : (drive (P : Int) xs).length = n
  bd : ∀ k, k < n → -1 ≤ nth (drive (P : Int) xs) k
  bx : ∀ k, k < n → 0 ≤ nth xs k ∧ nth xs k < (P : Int)
  swap : ∀ i, i + 1 < n → defectOf (swapped xs i) (P : Int) = (d, true)
theorem defF {xs : List Int} {n : Nat} {p : Int} (hg : good xs p = true) (hl : xs.length = n) : ∃ (P : Nat) (d : Int), p = (P : Int) ∧ DefF xs n P d := by
  subst hl
  obtain ⟨⟨p1, p2⟩, h8, hb⟩ := good_iff.1 hg
  obtain ⟨P, rfl⟩ : ∃ P : Nat, p = (P : Int) := ⟨p.toNat, by omega⟩
  refine ⟨P, (fails (drive (P : Int) xs) : Int), rfl, by omega, h8, by rw [defectOf, if_pos hg], by rw [driveSomeOf, if_pos hg], fails_defect (by omega) hb, rfl, length_drive _ _, fun k hk => ?_, fun k hk => ?_, fun i hi => ?_⟩
  · have := drive_lt (p := (P : Int)) (by omega) hb xs.length (Nat.le_refl _) (nth (drive (P : Int) xs) k) (by rw [List.take_of_length_le (Nat.le_refl _)]; exact nth_mem (by rw [length_drive]; exact hk))
    exact this.1
  · have := hb _ (nth_mem hk)
    omega
  · have hp := swapped_perm hi
    have hg2 : good (swapped xs i) (P : Int) = true := good_iff.2 ⟨⟨p1, p2⟩, by rw [hp.length_eq]; exact h8, fun x hx => hb x (hp.subset hx)⟩
    have hd := drive_swapped (p := (P : Int)) hi (fun x hx => by have := hb x hx; omega)
    rw [defectOf, if_pos hg2]
    have : fails (drive (P : Int) (swapped xs i)) = fails (drive (P : Int) xs) := hd.countP_eq _
    rw [this]
theorem def_no {xs : List Int} {p : Int} (h : ¬ good xs p = true) : defectOf xs p = (0, false) ∧ driveSomeOf xs p = ([], false) := by simp [defectOf, driveSomeOf, h]
theorem need_facts {xs : List Int} (h : (good xs 12 && allPark 12 xs) = true) : ∃ N : Nat, neededOf xs = ((N : Int), true) ∧ 1 ≤ N ∧ N ≤ 12 ∧ doAllPark xs (N : Int) = (true, true) ∧ (1 < N → ∃ ok, doAllPark xs ((N : Int) - 1) = (false, ok)) := by
  obtain ⟨h1, h2⟩ := Bool.and_eq_true_iff.1 h
  obtain ⟨_, h8, hb⟩ := good_iff.1 h1
  have hb' : ∀ x ∈ xs, 0 ≤ x ∧ x ≤ 11 := fun x hx => by have := hb x hx; omega
  obtain ⟨n1, n2, n3⟩ := needTo_max (drive 12 xs)
  have hN12 : needTo (drive 12 xs) ≤ 12 := by
    rcases n3 with e | ⟨y, hy, e⟩
    · omega
    · have := drive_lt (p := 12) (by omega) hb xs.length (Nat.le_refl _) y (by rw [List.take_of_length_le (Nat.le_refl _)]; exact hy)
      omega
  obtain ⟨N, hN⟩ : ∃ N : Nat, needTo (drive 12 xs) = (N : Int) := ⟨(needTo (drive 12 xs)).toNat, by omega⟩
  have s1 := (serves_iff hb' (p := (N : Int)) (by omega) (by omega)).2 ⟨h2, by omega⟩
  refine ⟨N, by rw [neededOf, if_pos h, hN], by omega, by omega, ?_, fun hlt => ?_⟩
  · unfold serves at s1
    obtain ⟨a1, a2⟩ := Bool.and_eq_true_iff.1 s1
    have hg : good xs (N : Int) = true := good_iff.2 ⟨⟨by omega, by omega⟩, h8, allB_iff.1 a1⟩
    rw [doAllPark, if_pos hg, a2]
  · have s2 : ¬ serves xs ((N : Int) - 1) = true := fun hh => by
      have := ((serves_iff hb' (p := (N : Int) - 1) (by omega) (by omega)).1 hh).2
      omega
    by_cases hg : good xs ((N : Int) - 1) = true
    · refine ⟨true, ?_⟩
      rw [doAllPark, if_pos hg]
      have : allPark ((N : Int) - 1) xs = false := by
        rw [Bool.eq_false_iff]
        intro hh
        exact s2 (by unfold serves; rw [hh, Bool.and_true]; exact allB_iff.2 (good_iff.1 hg).2.2)
      rw [this]
    · exact ⟨false, by rw [doAllPark, if_neg hg]⟩
theorem need_no {xs : List Int} (h : ¬ (good xs 12 && allPark 12 xs) = true) : neededOf xs = (0, false) := by rw [neededOf, if_neg h]
end Go.Proofs.Ythlmfbcnaciafaa

namespace Go.Proofs.Ythlmfbcnaciafaa
open Go.RowKit

theorem task_good {xs ls : List Int} (h : lenB ls = true) : (good xs (total ls) && decide (ls.length = xs.length)) = taskB xs ls := by
  obtain ⟨h1, h2, h3⟩ := lenB_iff.1 h
  have h4 := total_ge (fun x hx => (h2 x hx).1) ls.length (Nat.le_refl _)
  rw [List.take_of_length_le (Nat.le_refl _)] at h4
  have hi : inB (total ls) 1 12 = true := inB_iff.2 (by omega)
  unfold taskB good
  rw [h, hi, Bool.true_and, Bool.true_and]
  by_cases e : ls.length = xs.length
  · have e1 : xs.length ≤ 8 := by omega
    simp [e, e1]
  · have e1 : ¬ xs.length = ls.length := fun x => e x.symm
    simp [e, e1]

theorem longZ_yes {p : Int} {xs ls zs : List Int} (hl : zs.length = xs.length) (h : LongZ p xs ls zs xs.length) (hb : (longAt p xs ls xs.length).2.2 = true) : zs = (longAt p xs ls xs.length).1 ∧ hasB zs (-1) = false := by
  have e := h.1 hb
  rw [List.take_of_length_le (by omega)] at e
  refine ⟨e, ?_⟩
  rw [e, hasB_not]
  intro hm
  have := (longAt_facts p xs ls xs.length).1 _ hm
  omega
theorem longZ_no {p : Int} {xs ls zs : List Int} (hl : zs.length = xs.length) (h : LongZ p xs ls zs xs.length) (hb : (longAt p xs ls xs.length).2.2 = false) : hasB zs (-1) = true ∧ idxTo zs (-1) xs.length = (longAt p xs ls xs.length).1.length := by
  obtain ⟨h1, h2⟩ := h.2 hb
  have hf := (longAt_facts p xs ls xs.length).1
  generalize (longAt p xs ls xs.length).1 = out at *
  have hm : (-1 : Int) ∈ zs := List.mem_of_mem_take (i := out.length + 1) (by rw [h2]; simp)
  refine ⟨hasB_iff.2 hm, ?_⟩
  have h3 : nth zs out.length = -1 := by
    have : nth (zs.take (out.length + 1)) out.length = nth (out ++ [-1]) out.length := by rw [h2]
    rw [nth_take (by omega), nth_append_at] at this
    exact this
  have h4 : zs.take out.length = out := by
    have : (zs.take (out.length + 1)).take out.length = (out ++ [-1]).take out.length := by rw [h2]
    rw [List.take_take, Nat.min_eq_left (by omega)] at this
    simpa using this
  have h5 : idxTo zs (-1) out.length = -1 := (idxTo_none (by omega)).2 (by
    rw [h4]
    intro hm
    have := hf _ hm
    omega)
  have h6 : idxTo zs (-1) (out.length + 1) = (out.length : Int) := by rw [idxTo, if_pos h5, if_pos h3]
  rw [idxTo_keep (k := out.length + 1) (by rw [h6]; omega) _ (by omega), h6]

theorem backSome_yes {xs : List Int} {p k : Int} (h : backB xs p k = true) : backSomeOf xs p k = (backs p k.toNat xs, true) := by simp [backSomeOf, h]
theorem backSome_no {xs : List Int} {p k : Int} (h : ¬ backB xs p k = true) : backSomeOf xs p k = ([], false) := by simp [backSomeOf, h]
theorem none_has : hasB [] (-1) = false := rfl

theorem driveSome_any (a : Option Addr) (n cap : Nat) (xs : List Int) (p : Int) (w : World) (h : Has w a n cap xs) :
    Calls Try.prog 8 #[.slice a n cap, .int .i64 p] w (PostInts w (driveSomeOf xs p)) := by
  go_enter Try.func8, Try.ntmps8
  go_wp2_with fail
  refine (standsF_any _ _ _ _ _ _ h).mono ?_
  rintro e w1 ⟨a1, n1, cap1, rfl, hown1, hb1⟩
  go_wp2_with fail
  go_ret2
  exact ⟨_, _, _, rfl, hown1, hb1⟩

theorem lens_yes {ls : List Int} (h : lenB ls = true) : lensOf ls = (total ls, true) := by simp [lensOf, h]
theorem lens_no {ls : List Int} (h : ¬ lenB ls = true) : lensOf ls = (0, false) := by simp [lensOf, h]

end Go.Proofs.Ythlmfbcnaciafaa

namespace Go.Proofs.Ythlmfbcnaciafaa
open Go.RowKit

end Go.Proofs.Ythlmfbcnaciafaa

namespace Go.Proofs.Ythlmfbcnaciafaa
open Go.RowKit

theorem small_lengths {ls : List Int} (h : allB ls 1 12 = true) : Small ls := fun i hi => by
  have := allB_nth h hi
  omega

theorem lenB_sum {ls : List Int} (h : lenB ls = true) : Small ls ∧ 1 ≤ total ls ∧ total ls ≤ 12 ∧ 1 ≤ ls.length ∧ ls.length ≤ 8 ∧ ∀ i, i < ls.length → 1 ≤ nth ls i ∧ nth ls i ≤ 12 := by
  obtain ⟨h1, h2, h3⟩ := lenB_iff.1 h
  have h4 := total_ge (fun x hx => (h2 x hx).1) ls.length (Nat.le_refl _)
  rw [List.take_of_length_le (Nat.le_refl _)] at h4
  exact ⟨fun i hi => by have := h2 _ (nth_mem hi); omega, by omega, h3, h1.1, h1.2, fun i hi => h2 _ (nth_mem hi)⟩

/-- Bools in a block of their own. -/
structure Bls (w : World) (g p : Nat) (f : Nat → Bool) : Prop where
  lt : g < w.heap.size
  cells : ∀ i, i < p → w.cell? ⟨g, i, none⟩ = some (.bool (f i))
  free : ∀ i, w.frozen? ⟨g, i, none⟩ = false

theorem Bls.below {w w' : World} {g p K : Nat} {f : Nat → Bool} (h : Bls w g p f) (hb : Below K w w') (hK : g < K) : Bls w' g p f := by
  have := hb.size
  have := h.lt
  refine ⟨by omega, fun i hi => ?_, fun i => ?_⟩
  · rw [hb.cell (p := ⟨g, i, none⟩) (by simpa using hK)]; exact h.cells i hi
  · rw [hb.frozen (p := ⟨g, i, none⟩) (by simpa using hK)]; exact h.free i
theorem Bls.congr {w : World} {g p : Nat} {f f' : Nat → Bool} (h : Bls w g p f) (e : ∀ i, i < p → f' i = f i) : Bls w g p f' := ⟨h.lt, fun i hi => by rw [e i hi]; exact h.cells i hi, h.free⟩
theorem Bls.set {w : World} {g p x : Nat} {f : Nat → Bool} (h : Bls w g p f) (hx : x < p) : Bls (w.setCell ⟨g, x, none⟩ (.bool true)) g p (fun i => if i = x then true else f i) := by
  refine ⟨by simpa using h.lt, fun i hi => ?_, fun i => by rw [World.frozen?_setCell]; exact h.free i⟩
  by_cases e : i = x
  · subst e
    rw [World.cell?_setCell_same _ _ _ (h.cells i hx)]; simp
  · rw [World.cell?_setCell_other _ _ _ _ (by intro hh; injection hh with _ h5 _; exact e h5.symm), h.cells i hi]; simp [e]

/-- What driving long cars comes to: the places up to the first blocked car. -/
def PostOut (w : World) (out : List Int) (e : Ending) (w' : World) : Prop := ∃ a k cap, e = .returned (.slice a k cap) ∧ Own w' w.heap.size a k cap out ∧ Below w.heap.size w w'
theorem long_blocked {xs ls out T : List Int} {P : Int} {k n : Nat} (hP : total ls = P) (hn : xs.length = n) (hk : k < n) (h : longAt P xs ls k = (out, T, true)) (hb : ¬ (0 ≤ place P T (nth xs k) ∧ fits T P (place P T (nth xs k)) (nth ls k).toNat = true)) : longN xs ls = out := by
  have hs := longAt_stop h hb
  have := longAt_end (p := P) (xs := xs) (ls := ls) (k := k + 1) (by rw [hs]) n (by omega)
  unfold longN
  rw [hP, hn, this, hs]
theorem place_blocked {T : List Int} {P x y q L : Nat} (hr : Runs T P x y) (hy : ¬ ((y : Int) < P ∧ (y : Int) ∈ T)) (hyP : y ≤ P) (h1 : y ≤ q) (h2 : q < y + L) (hq : ¬ (q < P ∧ hasB T q = false)) : ¬ (0 ≤ place (P : Int) T x ∧ fits T P (place (P : Int) T x) L = true) := by
  rw [place_of hr hy (by omega)]
  rintro ⟨h3, h4⟩
  by_cases e : (P : Int) ≤ y
  · rw [if_pos e] at h3; omega
  · rw [if_neg e] at h4
    rw [fits_no (L := q - y) (M := L) (by
      have : (y : Int) + ((q - y : Nat) : Int) = (q : Int) := by omega
      rw [this]
      intro h
      exact hq ⟨by omega, h.2⟩) (by omega)] at h4
    simp at h4

end Go.Proofs.Ythlmfbcnaciafaa

namespace Go.Proofs.Ythlmfbcnaciafaa
open Go.RowKit

theorem task_facts {xs ls : List Int} {n m : Nat} (h : taskB xs ls = true) (hn : xs.length = n) (hm : ls.length = m) : lenB ls = true ∧ n = m ∧ ∃ P : Nat, total ls = (P : Int) ∧ ∀ i, i < n → 0 ≤ nth xs i ∧ nth xs i ≤ (P : Int) - 1 := by
  unfold taskB at h
  simp only [Bool.and_eq_true, decide_eq_true_eq] at h
  obtain ⟨h1, h2, h3⟩ := h
  obtain ⟨-, t1, -, -, -, -⟩ := lenB_sum h1
  refine ⟨h1, by omega, (total ls).toNat, by omega, fun i hi => ?_⟩
  have := allB_nth h3 (k := i) (by omega)
  omega

theorem mul_bounds {x y : Int} (h1 : 1 ≤ x) (h2 : x ≤ 37822859361) (h3 : 1 ≤ y) (h4 : y ≤ 21) : 1 ≤ x * y ∧ x * y ≤ 794280046581 := by
  have a := Int.mul_le_mul h1 h3 (by omega) (by omega)
  have b := Int.mul_le_mul h2 h4 (by omega) (by omega)
  omega

end Go.Proofs.Ythlmfbcnaciafaa

namespace Go.Proofs.Ythlmfbcnaciafaa
open Go.RowKit

/-- The two tests ahead of driving back. -/
theorem backB_parts {xs : List Int} {p k : Int} : backB xs p k = true ↔ good xs p = true ∧ inB k 0 8 = true := by simp [backB]

theorem leastFrom_step {xs : List Int} {p : Int} {f k : Nat} (h : hasB (backs p k xs) (-1) = true) : leastFrom xs p (f + 1) k = leastFrom xs p f (k + 1) := by rw [leastFrom, if_pos h]
theorem leastFrom_hit {xs : List Int} {p : Int} {f k : Nat} (h : hasB (backs p k xs) (-1) = false) : leastFrom xs p (f + 1) k = ((k : Int), true) := by rw [leastFrom, if_neg (by rw [h]; simp)]

set_option maxHeartbeats 400000 in
theorem specDriveSome_any (a : Option Addr) (n cap : Nat) (xs : List Int) (p : Int) (w : World) (h : Has w a n cap xs) :
    Calls Try.prog 9 #[.slice a n cap, .int .i64 p] w (PostInts w (driveSomeOf xs p)) := by
  by_cases hg : good xs p = true
  · obtain ⟨g1, g2, g3, g4⟩ := good_nth hg h.len
    have HR : Hid (driveSomeOf xs p = (drive p xs, true)) := hid (by simp [driveSomeOf, hg])
    have HG := hid hg
    clear hg
    go_enter Try.func9, Try.ntmps9
    go_wp2_with (go_at_call 25; refine (paGood_any _ _ _ _ _ _ h).mono ?_; rintro e w' ⟨rfl, rfl⟩; rw [HG.out])
    refine (paDrive_any _ _ _ _ _ _ h g1 g3 g4).mono ?_
    rintro e w1 ⟨a1, cap1, rfl, hown1, hb1⟩
    go_wp2_with fail
    go_ret2
    exact postInts HR.out hown1 hb1
  · have HR : Hid (driveSomeOf xs p = ([], false)) := hid (by simp [driveSomeOf, hg])
    have HG := hid hg
    clear hg
    go_enter Try.func9, Try.ntmps9
    go_wp2_with (go_at_call 25; refine (paGood_any _ _ _ _ _ _ h).mono ?_; rintro e w' ⟨rfl, rfl⟩; rw [Bool.eq_false_iff.2 HG.out])
    go_ret2
    exact postInts_no HR.out (Below.refl _ _)

set_option maxHeartbeats 400000 in
theorem loDefect_any (a : Option Addr) (n cap : Nat) (xs : List Int) (p : Int) (w : World) (h : Has w a n cap xs) (h8 : n ≤ 8) (hp : p ≤ 12) (hge : ∀ i, i < n → 0 ≤ nth xs i ∧ nth xs i ≤ p - 1) :
    Calls Try.prog 26 #[.slice a n cap, .int .i64 p] w fun e w' => e = .returned (.int .i64 (fails (drive p xs) : Int)) ∧ Below w.heap.size w w' := by
  have HGE := hid hge
  clear hge
  go_enter Try.func26, Try.ntmps26
  go_wp2_with fail
  refine (paDrive_any _ _ _ _ _ _ h h8 hp HGE.out).mono ?_
  rintro e w1 ⟨a1, cap1, rfl, hown1, hb1⟩
  obtain ⟨ys, hys⟩ : ∃ ys, drive p xs = ys := ⟨_, rfl⟩
  rw [hys] at hown1
  have HY := hid hys
  have HL := hid hown1.len
  have hh := hown1.has
  clear hys
  go_wp2_with fail
  go_loop [5, 12] (fun c i => ∃ (k v : Nat), k ≤ n ∧ i = .int .i64 k ∧ c = .int .i64 v ∧ v ≤ k ∧ Hid (v = fails (ys.take k))) (fun _ i => n - (intOf i).toNat)
  case atStart => exact ⟨0, 0, Nat.zero_le _, rfl, rfl, Nat.le_refl _, hid rfl⟩
  case round =>
    obtain ⟨k, v, hk, rfl, rfl, hv, HV⟩ := hrel
    by_cases hlt : k < n
    · obtain ⟨b, off, rfl, hbb, hc⟩ := hh.2.2.2.2 (by omega)
      have hck := hc k hlt
      have HS := hid (fails_succ (ys := ys) (k := k) (by rw [HL.out]; exact hlt))
      clear hc
      by_cases hn : nth ys k < 0
      · go_wp2_with fail
        go_round
        case rel => exact ⟨k + 1, v + 1, by omega, by go_num, by go_num, by omega, hid (by rw [HS.out, HV.out, if_pos hn])⟩
        case measure => simp [intOf]; omega
      · go_wp2_with fail
        go_round
        case rel => exact ⟨k + 1, v, by omega, by go_num, rfl, by omega, hid (by rw [HS.out, HV.out, if_neg hn]; rfl)⟩
        case measure => simp [intOf]; omega
    · obtain rfl : k = n := by omega
      go_wp2_with fail
      go_ret
      exact ⟨ret_int (by rw [HV.out, HY.out, List.take_of_length_le (by rw [HL.out]; exact Nat.le_refl _)]), hb1⟩

set_option maxHeartbeats 400000 in
theorem specDefect_any (a : Option Addr) (n cap : Nat) (xs : List Int) (p : Int) (w : World) (h : Has w a n cap xs) :
    Calls Try.prog 7 #[.slice a n cap, .int .i64 p] w (PostInt w (defectOf xs p)) := by
  by_cases hg : good xs p = true
  · obtain ⟨g1, g2, g3, g4⟩ := good_nth hg h.len
    have HR : Hid (defectOf xs p = ((fails (drive p xs) : Int), true)) := hid (by simp [defectOf, hg])
    have HG := hid hg
    clear hg
    go_enter Try.func7, Try.ntmps7
    go_wp2_with (go_at_call 25; refine (paGood_any _ _ _ _ _ _ h).mono ?_; rintro e w' ⟨rfl, rfl⟩; rw [HG.out])
    refine (loDefect_any _ _ _ _ _ _ h g1 g3 g4).mono ?_
    rintro e w1 ⟨rfl, hb1⟩
    go_wp2_with fail
    go_ret2
    exact postInt HR.out hb1
  · have HR : Hid (defectOf xs p = (0, false)) := hid (by simp [defectOf, hg])
    have HG := hid hg
    clear hg
    go_enter Try.func7, Try.ntmps7
    go_wp2_with (go_at_call 25; refine (paGood_any _ _ _ _ _ _ h).mono ?_; rintro e w' ⟨rfl, rfl⟩; rw [Bool.eq_false_iff.2 HG.out])
    go_ret2
    exact postInt HR.out (Below.refl _ _)

set_option maxHeartbeats 800000 in
theorem specNeeded_any (a : Option Addr) (n cap : Nat) (xs : List Int) (w : World) (h : Has w a n cap xs) :
    Calls Try.prog 20 #[.slice a n cap] w (PostInt w (neededOf xs)) := by
  by_cases hg : good xs 12 = true
  · obtain ⟨g1, -, -, g4⟩ := good_nth hg h.len
    have HG := hid hg
    have HGE := hid g4
    have hb : ∀ x ∈ xs, 0 ≤ x ∧ x ≤ 11 := (good_iff.1 hg).2.2
    have HS := hid (fun (p : Int) h1 h2 => serves_iff hb (p := p) h1 h2)
    have HN := hid h.len
    have HM := hid (needTo_max (drive 12 xs)).1
    have HR1 : Hid (∀ k : Nat, 1 ≤ k → k ≤ 12 → serves xs k = true → (∀ j : Nat, 1 ≤ j → j < k → serves xs j = false) → neededOf xs = ((k : Int), true)) := hid (fun k k1 k2 hs hj => by
      obtain ⟨h1, h2⟩ := (HS.out k (by omega) (by omega)).1 hs
      have h3 : needTo (drive 12 xs) = k := by
        by_cases e : needTo (drive 12 xs) = k
        · exact e
        · have h4 := HM.out
          obtain ⟨j, hjj⟩ : ∃ j : Nat, needTo (drive 12 xs) = (j : Int) := ⟨(needTo (drive 12 xs)).toNat, by omega⟩
          have h5 := hj j (by omega) (by omega)
          rw [(HS.out j (by omega) (by omega)).2 ⟨h1, by omega⟩] at h5
          simp at h5
      simp [neededOf, hg, h1, h3])
    have HR2 : Hid ((∀ j : Nat, 1 ≤ j → j < 13 → serves xs j = false) → neededOf xs = (0, false)) := hid (fun hj => by
      have h1 : allPark 12 xs = false := by
        rw [Bool.eq_false_iff]
        intro e
        have h5 : serves xs 12 = false := hj 12 (by omega) (by omega)
        rw [(HS.out 12 (by omega) (by omega)).2 ⟨e, ?_⟩] at h5
        · simp at h5
        · obtain ⟨n1, n2, n3⟩ := needTo_max (drive 12 xs)
          rcases n3 with h | ⟨y, hy, h⟩
          · omega
          · have := drive_lt (p := 12) (by omega) (by simpa using hb) xs.length (Nat.le_refl _) y (by rw [List.take_of_length_le (Nat.le_refl _)]; exact hy)
            omega
      simp [neededOf, h1])
    clear hg g4 hb
    go_enter Try.func20, Try.ntmps20
    go_wp2_with (go_at_call 25; refine (paGood_any _ _ _ _ _ _ h).mono ?_; rintro e w' ⟨rfl, rfl⟩; rw [HG.out])
    go_loopw [4] (fun i wr => ∃ k : Nat, 1 ≤ k ∧ k ≤ 13 ∧ i = .int .i64 k ∧ Hid (∀ j : Nat, 1 ≤ j → j < k → serves xs j = false) ∧ Below w.heap.size w wr) (fun i _ => 13 - (intOf i).toNat)
    case atStart => exact ⟨1, Nat.le_refl _, by omega, rfl, hid (fun j h1 h2 => by omega), Below.refl _ _⟩
    case round =>
      obtain ⟨k, hk1, hk2, rfl, HJ, hb⟩ := hrel
      have hw := h.below hb (Nat.le_refl _)
      have hbs := hb.size
      by_cases hlt : k ≤ 12
      · by_cases ha : allB xs 0 ((k : Int) - 1) = true
        · have hge : ∀ i, i < n → 0 ≤ nth xs i ∧ nth xs i ≤ (k : Int) - 1 := fun i hi => allB_nth ha (by rw [HN.out]; exact hi)
          have HGK := hid hge
          have HA := hid ha
          by_cases hp : allPark k xs = true
          · have HP := hid hp
            have HE := hid (HR1.out k hk1 hlt (by simp [serves, ha, hp]) HJ.out)
            clear ha hp hge
            go_wp2_with (first | (go_at_call 38; refine (l1All_any _ _ _ _ _ _ _ hw).mono ?_; rintro e w' ⟨rfl, rfl⟩; rw [HA.out]) | (go_at_call 39; refine (paAll_any _ _ _ _ _ _ hw g1 (by omega) HGK.out).mono ?_; rintro e w2 ⟨rfl, hb2⟩; rw [HP.out]))
            go_ret2
            exact postInt HE.out (hb.trans (hb2.mono hbs))
          · have hp' : allPark k xs = false := by simpa using hp
            have HP := hid hp'
            have HN2 : Hid (serves xs k = false) := hid (by simp [serves, hp'])
            clear ha hp hp' hge
            go_wp2_with (first | (go_at_call 38; refine (l1All_any _ _ _ _ _ _ _ hw).mono ?_; rintro e w' ⟨rfl, rfl⟩; rw [HA.out]) | (go_at_call 39; refine (paAll_any _ _ _ _ _ _ hw g1 (by omega) HGK.out).mono ?_; rintro e w2 ⟨rfl, hb2⟩; rw [HP.out]))
            go_roundw
            case rel => exact ⟨k + 1, by omega, by omega, by go_num, hid (fun j h1 h2 => by
              by_cases e : j < k
              · exact HJ.out j h1 e
              · rw [show j = k from by omega]; exact HN2.out), hb.trans (hb2.mono hbs)⟩
            case measure => simp [intOf]; omega
        · have ha' : allB xs 0 ((k : Int) - 1) = false := by simpa using ha
          have HA := hid ha'
          have HN2 : Hid (serves xs k = false) := hid (by simp [serves, ha'])
          clear ha ha'
          go_wp2_with (go_at_call 38; refine (l1All_any _ _ _ _ _ _ _ hw).mono ?_; rintro e w' ⟨rfl, rfl⟩; rw [HA.out])
          go_roundw
          case rel => exact ⟨k + 1, by omega, by omega, by go_num, hid (fun j h1 h2 => by
            by_cases e : j < k
            · exact HJ.out j h1 e
            · rw [show j = k from by omega]; exact HN2.out), hb⟩
          case measure => simp [intOf]; omega
      · obtain rfl : k = 13 := by omega
        have HE := hid (HR2.out HJ.out)
        go_wp2_with fail
        go_ret2
        exact postInt HE.out hb
  · have HR : Hid (neededOf xs = (0, false)) := hid (by simp [neededOf, hg])
    have HG := hid hg
    clear hg
    go_enter Try.func20, Try.ntmps20
    go_wp2_with (go_at_call 25; refine (paGood_any _ _ _ _ _ _ h).mono ?_; rintro e w' ⟨rfl, rfl⟩; rw [Bool.eq_false_iff.2 HG.out])
    go_ret2
    exact postInt HR.out (Below.refl _ _)

theorem small_of {ls : List Int} (h : ∀ i, i < ls.length → 1 ≤ nth ls i ∧ nth ls i ≤ 12) : ∀ x ∈ ls, 0 ≤ x := fun x hx => by
  obtain ⟨j, hj, e⟩ := List.getElem_of_mem hx
  have := h j hj
  have e2 : nth ls j = x := by simp [nth, hj, e]
  omega

end Go.Proofs.Ythlmfbcnaciafaa

namespace Go.Proofs.Ythlmfbcnaciafaa
open Go.RowKit

set_option maxHeartbeats 400000 in
theorem surplus_any (a : Option Addr) (n cap : Nat) (xs : List Int) (p j : Int) (w : World) (h : Has w a n cap xs) (h8 : n ≤ 8) (hp0 : 0 ≤ p) (hp : p ≤ 100) (hj : 0 ≤ j) (hj2 : j ≤ 100) :
    Calls Try.prog 24 #[.slice a n cap, .int .i64 p, .int .i64 j] w fun e w' => e = .returned (.int .i64 (surplus xs p j)) ∧ w = w' := by
  have hbl := below_le xs j
  rw [h.len] at hbl
  have HR : Hid (surplus xs p j = (n : Int) - below xs j - (p - j)) := hid (by unfold surplus; rw [h.len])
  go_enter Try.func24, Try.ntmps24
  go_wp2_with (go_at_call 43; refine (countBelow_any _ _ _ _ _ _ h).mono ?_; rintro e w' ⟨rfl, rfl⟩)
  go_ret
  exact ⟨ret_int HR.out.symm, rfl⟩

theorem defTo_bounds {xs : List Int} {p : Int} (h8 : xs.length ≤ 8) (hp : 0 ≤ p) (hp2 : p ≤ 12) : ∀ q : Nat, (q : Int) ≤ p → 0 ≤ defTo xs p q ∧ defTo xs p q ≤ 8
  | 0, _ => by simp [defTo]
  | q + 1, hq => by
    have ih := defTo_bounds h8 hp hp2 q (by omega)
    have := below_le xs q
    rw [defTo]
    unfold surplus
    omega

set_option maxHeartbeats 400000 in
theorem defect_any (a : Option Addr) (n cap : Nat) (xs : List Int) (p : Int) (w : World) (h : Has w a n cap xs) :
    Calls Try.prog 6 #[.slice a n cap, .int .i64 p] w (PostInt w (defectOf xs p)) := by
  by_cases hg : good xs p = true
  · obtain ⟨g1, g2, g3, g4⟩ := good_nth hg h.len
    obtain ⟨P, rfl⟩ : ∃ P : Nat, p = (P : Int) := ⟨p.toNat, by omega⟩
    have HN := hid h.len
    have HR : Hid (defectOf xs P = (defTo xs P P, true)) := hid (by
      rw [defectOf, if_pos hg, fails_defect (by omega) (good_iff.1 hg).2.2])
    have HB := hid (fun (q : Nat) (hq : (q : Int) ≤ P) => defTo_bounds (xs := xs) (p := (P : Int)) (by rw [HN.out]; exact g1) (by omega) g3 q hq)
    have HSB := hid (fun (q : Nat) => below_le xs q)
    have HG := hid hg
    clear hg g4
    go_enter Try.func6, Try.ntmps6
    go_wp2_with (go_at_call 23; refine (areFavourites_any _ _ _ _ _ _ h).mono ?_; rintro e w' ⟨rfl, rfl⟩; rw [HG.out])
    go_loop [6, 13] (fun c i => ∃ (k : Nat) (v : Int), k ≤ P ∧ i = .int .i64 k ∧ c = .int .i64 v ∧ Hid (v = defTo xs P k)) (fun _ i => P - (intOf i).toNat)
    case atStart => exact ⟨0, 0, Nat.zero_le _, rfl, rfl, hid rfl⟩
    case round =>
      obtain ⟨k, v, hk, rfl, rfl, HV⟩ := hrel
      by_cases hlt : k < P
      · obtain ⟨v0, v1⟩ := HB.out k (by omega)
        rw [← HV.out] at v0 v1
        have hs0 : -100 ≤ surplus xs P k ∧ surplus xs P k ≤ 100 := by
          have := HSB.out k
          have h3 := HN.out
          unfold surplus
          omega
        obtain ⟨s0, s1⟩ := hs0
        have HD : Hid (defTo xs P (k + 1) = max v (surplus xs P k)) := hid (by rw [defTo, HV.out])
        by_cases hc : surplus xs P k ≤ v
        · have HM : Hid (max v (surplus xs P k) = v) := hid (Int.max_eq_left hc)
          have hc2 : ¬ v < surplus xs P k := by omega
          go_wp2_with (go_at_call 24; refine (surplus_any _ _ _ _ _ _ _ h g1 (by omega) (by omega) (by omega) (by omega)).mono ?_; rintro e w' ⟨rfl, rfl⟩)
          go_round
          case rel => exact ⟨k + 1, v, by omega, by go_num, rfl, hid (by rw [HD.out, HM.out])⟩
          case measure => simp [intOf]; omega
        · have HM : Hid (max v (surplus xs P k) = surplus xs P k) := hid (Int.max_eq_right (by omega))
          have hc2 : v < surplus xs P k := by omega
          go_wp2_with (go_at_call 24; refine (surplus_any _ _ _ _ _ _ _ h g1 (by omega) (by omega) (by omega) (by omega)).mono ?_; rintro e w' ⟨rfl, rfl⟩)
          go_round
          case rel => exact ⟨k + 1, surplus xs P k, by omega, by go_num, rfl, hid (by rw [HD.out, HM.out])⟩
          case measure => simp [intOf]; omega
      · obtain rfl : k = P := by omega
        go_wp2_with fail
        go_ret2
        exact postInt (by rw [HR.out, HV.out]) (Below.refl _ _)
  · have HR : Hid (defectOf xs p = (0, false)) := hid (by simp [defectOf, hg])
    have HG := hid hg
    clear hg
    go_enter Try.func6, Try.ntmps6
    go_wp2_with (go_at_call 23; refine (areFavourites_any _ _ _ _ _ _ h).mono ?_; rintro e w' ⟨rfl, rfl⟩; rw [Bool.eq_false_iff.2 HG.out])
    go_ret2
    exact postInt HR.out (Below.refl _ _)

end Go.Proofs.Ythlmfbcnaciafaa

namespace Go.Proofs.Ythlmfbcnaciafaa
open Go.RowKit

theorem driveBackOf_no {xs : List Int} {p : Int} {k : Nat} (hm : hasB (backs p k xs) (-1) = true) : driveBackOf xs p k = ([], false) := by simp [driveBackOf, hm]
theorem driveBackOf_yes {xs : List Int} {p : Int} {k : Nat} (h : backB xs p k = true) (hm : hasB (backs p k xs) (-1) = false) : driveBackOf xs p k = (backs p k xs, true) := by simp [driveBackOf, h, hm]

theorem needTo_bounds {ys : List Int} (h : ∀ y ∈ ys, y < 12) : 1 ≤ needTo ys ∧ needTo ys ≤ 12 := by
  obtain ⟨n1, n2, n3⟩ := needTo_max ys
  rcases n3 with e | ⟨y, hy, e⟩
  · omega
  · have := h y hy; omega

set_option maxHeartbeats 400000 in
theorem needed_any (a : Option Addr) (n cap : Nat) (xs : List Int) (w : World) (h : Has w a n cap xs) :
    Calls Try.prog 19 #[.slice a n cap] w (PostInt w (neededOf xs)) := by
  by_cases hg : good xs 12 = true ∧ allPark 12 xs = true
  · have HS : Hid (driveCars xs 12 = (drive 12 xs, true)) := hid (by simp [driveCars, hg])
    have HR : Hid (neededOf xs = (needTo (drive 12 xs), true)) := hid (by simp [neededOf, hg])
    have hb := (good_iff.1 hg.1).2.2
    have hlt : ∀ y ∈ drive 12 xs, -1 ≤ y ∧ y < 12 := fun y hy => drive_lt (p := 12) (by omega) hb xs.length (Nat.le_refl _) y (by rw [List.take_of_length_le (Nat.le_refl _)]; exact hy)
    have HLT := hid hlt
    clear hg hb hlt
    go_enter Try.func19, Try.ntmps19
    go_wp2_with fail
    refine (driveCars_any _ _ _ _ _ _ h).mono ?_
    rw [HS.out]
    rintro e w1 ⟨a1, n1, cap1, rfl, hown1, hb1⟩
    have HL := hid hown1.len
    have hh := hown1.has
    obtain ⟨ys, hys⟩ : ∃ ys, drive 12 xs = ys := ⟨_, rfl⟩
    have HYS := hid hys
    have HLY := hid (hys ▸ HLT.out : ∀ y ∈ ys, -1 ≤ y ∧ y < 12)
    simp only [hys] at hh
    have HL2 : Hid (ys.length = n1) := hid (by rw [← HL.out, hys])
    have hn1 := hh.2.2.2.1
    clear hys hown1
    go_wp2_with fail
    go_loop [6, 18] (fun c i => ∃ (k : Nat) (v : Int), k ≤ n1 ∧ i = .int .i64 k ∧ c = .int .i64 v ∧ 1 ≤ v ∧ v ≤ 12 ∧ Hid (v = needTo (ys.take k))) (fun _ i => n1 - (intOf i).toNat)
    case atStart => exact ⟨0, 1, Nat.zero_le _, rfl, rfl, by omega, by omega, hid rfl⟩
    case round =>
      obtain ⟨k, v, hk, rfl, rfl, v0, v1, HV⟩ := hrel
      by_cases hlt : k < n1
      · obtain ⟨b0, off, rfl, hbb, hc⟩ := hh.2.2.2.2 (by omega)
        have hck := hc k hlt
        obtain ⟨y0, y1⟩ := HLY.out _ (nth_mem (xs := ys) (i := k) (by rw [HL2.out]; exact hlt))
        have HD : Hid (needTo (ys.take (k + 1)) = max v (nth ys k + 1)) := hid (by rw [needTo_succ (by rw [HL2.out]; exact hlt), HV.out])
        clear hc
        by_cases hc : nth ys k + 1 ≤ v
        · have HM : Hid (max v (nth ys k + 1) = v) := hid (Int.max_eq_left hc)
          have hc2 : ¬ v < nth ys k + 1 := by omega
          go_wp2_with fail
          go_round
          case rel => exact ⟨k + 1, v, by omega, by go_num, rfl, v0, v1, hid (by rw [HD.out, HM.out])⟩
          case measure => simp [intOf]; omega
        · have HM : Hid (max v (nth ys k + 1) = nth ys k + 1) := hid (Int.max_eq_right (by omega))
          have hc2 : v < nth ys k + 1 := by omega
          go_wp2_with fail
          go_round
          case rel => exact ⟨k + 1, nth ys k + 1, by omega, by go_num, by go_num, by omega, by omega, hid (by rw [HD.out, HM.out])⟩
          case measure => simp [intOf]; omega
      · obtain rfl : k = n1 := by omega
        go_wp2_with fail
        go_ret2
        exact postInt (by rw [HR.out, HV.out, List.take_of_length_le (by rw [HL2.out]; exact Nat.le_refl _), HYS.out]) hb1
  · have HS : Hid (driveCars xs 12 = ([], false)) := hid (by simp only [driveCars, Bool.and_eq_true, if_neg hg])
    have HR : Hid (neededOf xs = (0, false)) := hid (by simp only [neededOf, Bool.and_eq_true, if_neg hg])
    clear hg
    go_enter Try.func19, Try.ntmps19
    go_wp2_with fail
    refine (driveCars_any _ _ _ _ _ _ h).mono ?_
    rw [HS.out]
    rintro e w1 ⟨a1, n1, cap1, rfl, hown1, hb1⟩
    go_wp2_with fail
    go_ret2
    exact postInt HR.out hb1
end Go.Proofs.Ythlmfbcnaciafaa

namespace Go.Proofs.Ythlmfbcnaciafaa
open Go.RowKit Go.Shelf

attribute [local go_sem] Oper.semAt_some

def zcells (n : Nat) : Array Value := madeCells #[.int .i64 0] n
theorem run_mk (n : Nat) (hn : n ≤ 2097152) (w : World) : (Instr.makeSlice 24 (.int .i64 (n : Int)) (.int .i64 (n : Int))).run Try.prog w = .ok (.slice (some ⟨w.heap.size, 0, none⟩) n n) (w.alloc (.cells (zcells n) 3)) := by
  obtain ⟨i0, hi, hz0, hz1, hz2⟩ := info_parts Try.infoInt
  have h := run_makeSlice (P := Try.prog) w 24 3 i0 (.int .i64 0) Try.underlying24 hi hz0 .i64 .i64 n n (by omega) (Int.le_refl _) (by simp [hz1]; omega) (by rw [hz2]; omega) (by omega)
  simp only [Int.toNat_natCast, hz1, Nat.mul_one] at h
  exact h
/-- What such a make lays. -/
theorem own_mk {W : World} {B n b : Nat} (hn : n ≤ 2097152) (hb : b = W.heap.size) (hB : B ≤ W.heap.size) : Own (W.alloc (.cells (zcells n) 3)) B (some ⟨b, 0, none⟩) n n (List.replicate n 0) := by
  subst hb
  have hz : (zcells n).toList = (List.replicate n (0 : Int)).map (Value.int .i64) := by
    unfold zcells
    rw [toList_madeCells_one]
    simp
  refine ⟨⟨by simp, .inr ⟨W.heap.size, n, zcells n, rfl, hB, heap_alloc_new W _, Nat.le_refl _, by unfold maxLen; omega, by simp [zcells, size_madeCells], ?_⟩⟩, by simp, hn⟩
  rw [hz]
  simp
theorem Own.al {W : World} {B : Nat} {a : Option Addr} {n cap : Nat} {xs : List Int} (h : Own W B a n cap xs) (O : Obj) : Own (W.alloc O) B a n cap xs := h.below ((Below.refl W.heap.size W).alloc (Nat.le_refl _) O) (Nat.le_refl _)
theorem Own.ct {W W' : World} {B : Nat} {a : Option Addr} {n cap : Nat} {xs : List Int} (hb : Below W.heap.size W W') (h : Own W B a n cap xs) : Own W' B a n cap xs := h.below hb (Nat.le_refl _)
theorem Own.dr {W : World} {B : Nat} {a : Option Addr} {n cap : Nat} {xs : List Int} (h : Own W B a n cap xs) : Own W.drew B a n cap xs := h
theorem below_al {B : Nat} {W V : World} {O : Obj} (hB : B ≤ V.heap.size) (h : Below B W V) : Below B W (V.alloc O) := h.alloc hB O
theorem below_dr {B : Nat} {W V : World} (h : Below B W V) : Below B W V.drew := h.drew
theorem below_ct {B K : Nat} {W V V' : World} (hb : Below K V V') (hK : B ≤ K) (h : Below B W V) : Below B W V' := h.trans (hb.mono hK)
theorem has_cell {W : World} {b : Nat} {x : Int} (hb : b < W.heap.size) (hc : W.cell? ⟨b, 0, none⟩ = some (.int .i64 x)) : Has W (some ⟨b, 0, none⟩) 1 1 [x] := by
  refine ⟨rfl, Nat.le_refl _, by unfold maxLen; omega, by omega, fun _ => ⟨b, 0, rfl, hb, fun i hi => ?_⟩⟩
  obtain rfl : i = 0 := by omega
  exact hc
theorem cell_past {w : World} {bn : Nat} {v : Value} (hb : bn < w.heap.size) (hc : w.cell? ⟨bn, 0, none⟩ = some v) :
    (∀ O, (w.alloc O).cell? ⟨bn, 0, none⟩ = some v) ∧ (∀ O1 O2, ((w.alloc O1).alloc O2).cell? ⟨bn, 0, none⟩ = some v) ∧ (∀ O1 O2 O3, (((w.alloc O1).alloc O2).alloc O3).cell? ⟨bn, 0, none⟩ = some v) := by
  have k1 : ∀ (w : World), bn < w.heap.size → w.cell? ⟨bn, 0, none⟩ = some v → ∀ O, (w.alloc O).cell? ⟨bn, 0, none⟩ = some v := fun w hb hc O => by rw [World.cell?_alloc_past _ _ _ (by simpa using hb)]; exact hc
  exact ⟨k1 w hb hc, fun O1 O2 => k1 _ (by simp; omega) (k1 w hb hc O1) O2, fun O1 O2 O3 => k1 _ (by simp; omega) (k1 _ (by simp; omega) (k1 w hb hc O1) O2) O3⟩
theorem lit0 (W : World) (b : Nat) (x : Int) (t : TypeId) (h : b = W.heap.size) : ((W.alloc (.cells #[.int .i64 x] t)).drew).cell? ⟨b, 0, none⟩ = some (.int .i64 x) := by
  show (W.alloc (.cells #[.int .i64 x] t)).cell? ⟨b, 0, none⟩ = _
  rw [World.cell?_alloc_at _ _ _ _ (by simpa using h)]; rfl
theorem lit1 (W : World) (O : Obj) (b : Nat) (x : Int) (t : TypeId) (h : b = W.heap.size) : (((W.alloc (.cells #[.int .i64 x] t)).alloc O).drew).cell? ⟨b, 0, none⟩ = some (.int .i64 x) := by
  show ((W.alloc (.cells #[.int .i64 x] t)).alloc O).cell? ⟨b, 0, none⟩ = _
  rw [World.cell?_alloc_past _ _ _ (by simp; omega)]
  exact lit0 W b x t h
theorem lit2 (W : World) (O O' : Obj) (b : Nat) (x : Int) (t : TypeId) (h : b = W.heap.size) : ((((W.alloc (.cells #[.int .i64 x] t)).alloc O).alloc O').drew).cell? ⟨b, 0, none⟩ = some (.int .i64 x) := by
  show (((W.alloc (.cells #[.int .i64 x] t)).alloc O).alloc O').cell? ⟨b, 0, none⟩ = _
  rw [World.cell?_alloc_past _ _ _ (by simp; omega)]
  exact lit1 W O b x t h

/-- What lies at or beyond a block, and lay there, lies as it lay. -/
def Kept (base : Nat) (W W' : World) : Prop := W.heap.size ≤ W'.heap.size ∧ ∀ b, base ≤ b → b < W.heap.size → W'.heap[b]? = W.heap[b]?
theorem Own.keptFrom {W W' : World} {B : Nat} {a : Option Addr} {n cap : Nat} {xs : List Int} (h : Own W B a n cap xs) (hk : Kept B W W') : Own W' B a n cap xs := by
  obtain ⟨⟨h1, h2⟩, h3⟩ := h
  refine ⟨⟨h1, ?_⟩, h3⟩
  rcases h2 with h2 | ⟨g, cap', cur, hv, hg, hh, r⟩
  · exact .inl h2
  · exact .inr ⟨g, cap', cur, hv, hg, by rw [hk.2 g hg (Array.getElem?_eq_some_iff.1 hh).1]; exact hh, r⟩

/-- The three lists of the iterator: the present one, the least and the greatest. -/
structure Tri (W : World) (base n g1 : Nat) (a2 a3 : Option Addr) (c2 c3 : Nat) (zs : List Int) : Prop where
  l : Own W base (some ⟨g1, 0, none⟩) n n zs
  lo : Own W base a2 n c2 (List.replicate n 0)
  hi : Own W base a3 n c3 (List.replicate n ((n : Int) - 1))
  ne2 : ∀ g, (some ⟨g1, 0, none⟩ : Option Addr) = some ⟨g, 0, none⟩ → ∀ q, a2 = some q → q.block ≠ g
  ne3 : ∀ g, (some ⟨g1, 0, none⟩ : Option Addr) = some ⟨g, 0, none⟩ → ∀ q, a3 = some q → q.block ≠ g

theorem Own.marked_ne {w w' : World} {B : Nat} {a : Option Addr} {g1 n cap : Nat} {xs : List Int} (h : Own w B a n cap xs) (hm : Marked w w' (some ⟨g1, 0, none⟩)) (hne : ∀ q, a = some q → q.block ≠ g1) : Own w' B a n cap xs := by
  obtain ⟨row, hgr, hr⟩ := hm
  cases row with
  | none => exact ⟨h.1.kept hgr ((Classical.em _).elim .inl fun h => .inr h), h.2⟩
  | some g =>
    obtain ⟨p, hp, rfl⟩ := hr g rfl
    cases hp
    exact h.kept hgr (.inr hne)
theorem Tri.keptFrom {W W' : World} {base n g1 : Nat} {a2 a3 : Option Addr} {c2 c3 : Nat} {zs : List Int} (h : Tri W base n g1 a2 a3 c2 c3 zs) (hk : Kept base W W') : Tri W' base n g1 a2 a3 c2 c3 zs :=
  ⟨h.l.keptFrom hk, h.lo.keptFrom hk, h.hi.keptFrom hk, h.ne2, h.ne3⟩

/-- Behind the statement that makes the three lists. -/
def RegPost (W : World) (base n : Nat) (y : Value) (bn : Nat) (e : Exit) (a : Act) (w' : World) : Prop :=
  e = .normal ∧ ∃ (g1 g2 g0 : Nat) (a3 : Option Addr) (c3 : Nat), a = { tmps := #[y, .pointer (some ⟨bn, 0, none⟩), undef, .slice (some ⟨g1, 0, none⟩) n n, .slice (some ⟨g2, 0, none⟩) n n, .slice a3 n c3, .int .i64 (n : Int), .slice (some ⟨g1, 0, none⟩) n n, .int .i64 (n : Int), .slice (some ⟨g2, 0, none⟩) n n, .int .i64 (n : Int), .int .i64 ((n : Int) - 1), .slice (some ⟨g0, 0, none⟩) 1 1, .int .i64 (n : Int), .slice a3 n c3, undef, undef, undef, undef, undef, undef, undef, undef, undef, undef, undef, undef, undef, undef], defers := [] } ∧
    Tri w' base n g1 (some ⟨g2, 0, none⟩) a3 n c3 (List.replicate n 0) ∧ Below base W w'

set_option maxRecDepth 100000 in
set_option maxHeartbeats 8000000 in
theorem tried1_in (m l bn n N : Nat) (hN : n ^ n = N) (hn1 : 1 ≤ n) (hn5 : n ≤ 5) (J : Nat → World → Prop) (W : World) (base : Nat) (hbase : base = W.heap.size) (hbn : bn < base)
    (hJc : ∀ k V, J k V → V.cell? ⟨bn, 0, none⟩ = some (.int .i64 (n : Int)) ∧ base ≤ V.heap.size)
    (hJb : ∀ k V V', J k V → Below base V V' → J k V')
    (hY : ∀ k V g, J k V → k < N → Own V base (some ⟨g, 0, none⟩) n n ((allTried n).getD k []) → YieldAt Fence.wide (m - 1) Try.prog l #[.slice (some ⟨g, 0, none⟩) n n] V fun e V' => e = .returned (.bool true) ∧ J (k + 1) V' ∧ Kept base V V')
    (h0 : J 0 W) :
    CallsIn Fence.wide m Try.prog 48 #[.func (.yield l) #[] #[], .pointer (some ⟨bn, 0, none⟩)] W fun e W' => (∃ r, e = .returned r) ∧ J N W' := by
  subst hbase
  obtain ⟨hc, -⟩ := hJc 0 W h0
  have hb : bn < W.heap.size := hbn
  have hmk := run_mk n (by omega)
  have hwr : IntKind.i64.wrap ((n : Int) - 1) = (n : Int) - 1 := IntWalk.i64_in _ (by omega)
  obtain ⟨k1, k2, k3⟩ := cell_past hb hc
  refine callsIn_of_wp Try.func48 rfl trivial ?_ rfl
  simp only [Try.ntmps48, List.size_toArray, List.length_cons, List.length_nil, Nat.reduceAdd, Nat.reduceSub, Array.replicate_succ, Array.replicate_zero, List.push_toArray, List.append_toArray, List.nil_append, List.cons_append]
  gi_wp2
  refine wpIn_wide.2 (Code.wp_mono (Q := RegPost W W.heap.size n (.func (.yield l) #[] #[]) bn) ?_ ?_)
  · rintro e a w1 ⟨rfl, g1, g2, g0, a3, c3, rfl, T, hb1⟩
    have hN5 : N ≤ 3125 := by
      rw [← hN]
      exact Nat.le_trans (Nat.pow_le_pow_left hn5 n) (Nat.pow_le_pow_right (by omega) hn5)
    have HNN := hid hN
    have HLS := hid (SeqTo.at [] (tried_seq hn1))
    have HLL : Hid ((allTried n).length = N) := hid (by rw [length_allTried hn1, hN])
    have hJ0 := hJb 0 W w1 h0 hb1
    have HY := hid hY
    have HJC := hid hJc
    have HJB := hid hJb
    obtain ⟨hc1, -⟩ := hJc 0 w1 hJ0
    clear hY hN k1 k2 k3 hmk hJc hJb hc h0
    have hwd : Fence.wide.depth.isSome = true → 1 ≤ m := fun h => by cases h
    gi_wp2_with (refine ⟨trivial, hwd, ?_⟩; gi_at_call 50; refine (callsIn_wide.2 (power_at n n N _ _ _ rfl rfl (by omega) (by omega) HNN)).mono ?_; rintro e w' ⟨rfl, rfl⟩)
    gi_loopw [18] (fun i wr => ∃ (k : Nat) (zs : List Int), k ≤ N ∧ i = .int .i64 k ∧ J k wr ∧ Tri wr W.heap.size n g1 (some ⟨g2, 0, none⟩) a3 n c3 zs ∧ Hid (k < N → zs = (allTried n).getD k []) ∧ Hid (∀ x ∈ zs, 0 ≤ x)) (fun i _ => N - (intOf i).toNat)
    case atStart => exact ⟨0, _, Nat.zero_le _, rfl, hJ0, T, hid (fun _ => HLS.out.1.symm), hid (fun x hx => by have := List.eq_of_mem_replicate hx; omega)⟩
    case round =>
      clear T hJ0 hc1
      obtain ⟨k, zs, hk, rfl, hJ, T, HZ, HZN⟩ := hrel
      by_cases hlt : k < N
      · obtain ⟨fn, tmps, assign, body, hy, hR⟩ := HY.out k wr g1 hJ hlt (by rw [← HZ.out hlt]; exact T.l)
        have HR := hid hR
        clear hR
        gi_wp2
        refine ⟨hwd, HR.out.mono ?_⟩
        rintro e W3 ⟨rfl, hJ3, hK3⟩
        have T3 := T.keptFrom hK3
        have STEP := stepApart_any W.heap.size _ _ _ n n n c3 zs _ _ W3 T3.l T3.lo.has T3.hi.has T3.ne2 T3.ne3 (fun i hi => by rw [nth_rep hi]; omega) (fun i hi => HZN.out _ (nth_mem (by rw [T3.l.len]; exact hi)))
        have HS := hid STEP
        obtain ⟨-, hb3⟩ := HJC.out (k + 1) W3 hJ3
        clear STEP
        gi_wp2_with (refine ⟨trivial, hwd, ?_⟩; gi_at_call 51; refine (callsIn_wide.2 HS.out).mono ?_; rintro e W4 ⟨rfl, hl4, hm4⟩)
        go_roundw
        case rel =>
          refine ⟨k + 1, _, by omega, by go_num, HJB.out (k + 1) W3 W4 hJ3 (hm4.below T3.l.ge hb3), ⟨hl4, T3.lo.marked_ne hm4 (T3.ne2 _ rfl), T3.hi.marked_ne hm4 (T3.ne3 _ rfl), T3.ne2, T3.ne3⟩, hid (fun hlt2 => ?_), hid (stepC_nonneg _ _ _ HZN.out (fun x hx => by have := List.eq_of_mem_replicate hx; omega))⟩
          rw [HZ.out hlt]
          exact HLS.out.2 k (by rw [HLL.out]; exact hlt2)
        case measure => simp [intOf]; omega
      · obtain rfl : k = N := by omega
        gi_wp2
        go_end0
        exact ⟨⟨_, rfl⟩, hJ⟩
  · go_region_held3 (fun w' => w'.cell? ⟨bn, 0, none⟩ = some (.int .i64 (n : Int))) (first | go_keep | skip) (first | (go_at_call 49; refine (repeat_any _ 1 n ((n : Int) - 1) _ (has_cell (by simp; try omega) (by first | exact lit0 _ _ _ _ (by simp) | exact lit1 _ _ _ _ _ (by simp) | exact lit2 _ _ _ _ _ _ (by simp))) hn5).mono ?_; rintro e w' ⟨a', cap', rfl, hown, hbw⟩; have hkk : w'.cell? ⟨bn, 0, none⟩ = some (.int .i64 (n : Int)) := (by rw [hbw.cell (p := ⟨bn, 0, none⟩) (by simp; omega)]; simp [*]); obtain ⟨j1, j2, -⟩ := cell_past (show bn < w'.heap.size by have := hbw.size; simp at this; omega) hkk))
    all_goals
      have hsz := hbw.size
      simp at hsz
      refine ⟨rfl, _, _, _, _, _, rfl, ⟨?_, ?_, ?_, ?_, ?_⟩, ?_⟩
      · repeat (first | ((with_reducible refine own_mk ?_ ?_ ?_) <;> first | omega | (simp; done) | (simp; omega)) | with_reducible refine Own.dr ?_ | with_reducible refine Own.al ?_ _ | with_reducible refine Own.ct hbw ?_)
      · repeat (first | ((with_reducible refine own_mk ?_ ?_ ?_) <;> first | omega | (simp; done) | (simp; omega)) | with_reducible refine Own.dr ?_ | with_reducible refine Own.al ?_ _ | with_reducible refine Own.ct hbw ?_)
      · repeat (first | ((with_reducible refine hown.mono ?_); focus (first | (simp; done) | (simp; omega))) | with_reducible refine Own.al ?_ _)
      · intro g e q hq; cases e; cases hq; simp; try omega
      · intro g e q hq; cases e
        have hg3 := hown.ge q hq
        have hl3 := hown.lt q hq
        simp at hg3
        omega
      · repeat (first | with_reducible exact Below.refl _ _ | ((with_reducible refine below_al ?_ ?_); (focus first | omega | (simp; omega) | simp)) | with_reducible refine below_dr ?_ | ((with_reducible refine below_ct hbw ?_ ?_); (focus first | omega | (simp; omega) | simp)))
/-! END OF tried1_in -/

/-- The iterator that triedLists hands back: the block of n. -/
def TrFn (bn : Nat) : Value := .func (.func 48) #[] #[.pointer (some ⟨bn, 0, none⟩)]
theorem tried_any (v : Int) (w : World) :
    Calls Try.prog 31 #[.int .i64 v] w fun e w' => e = .returned (TrFn w.heap.size) ∧ w' = w.alloc (.cells #[.int .i64 v] 3) := by
  have hmf : ∀ (fn : Fn) (first cap : Array Value) (w : World), (Instr.makeFunc fn first cap).run Try.prog w = .ok (.func fn first cap) w := fun _ _ _ _ => rfl
  go_enter Try.func31, Try.ntmps31
  go_wp2_with fail
  go_ret
  exact ⟨rfl, rfl⟩

/-- How a round of such a loop ends: it goes on. -/
def trPost (B base : Nat) (I : Nat → World → Prop) (k : Nat) (W : World) : Exit → Act → World → Prop
  | .normal, _, W' => KeepsFrom B W W' ∧ I (k + 1) W' ∧ Kept base W W'
  | _, _, _ => False

set_option maxHeartbeats 1000000 in
/-- 'for list := range triedLists(n)'. -/
theorem wpIn_tried (m : Nat) {g : Operand} {tp : Tmp} {assign body : Code} {Q : Exit → Act → World → Prop} {a : Act} {w : World} (bn n N : Nat) (hN : n ^ n = N) (hn1 : 1 ≤ n) (hn5 : n ≤ 5) (hbn : bn < w.heap.size)
    (hg : a.eval g = TrFn bn) (I : Nat → World → Prop) (hIc : ∀ k V, I k V → V.cell? ⟨bn, 0, none⟩ = some (.int .i64 (n : Int)))
    (hIb : ∀ k V V', I k V → Below (w.heap.size + 2) V V' → I k V') (hI : OwnFrom w.heap.size I) (h0 : I 0 w) (a₁ : Value → Act)
    (hassign : ∀ (l : Nat) (x : Value) (W : World) (K : Act → World → Prop), K (a₁ x) W →
      assign.wpIn (Fence.wide.inRound l) (m - 1 - 1) Try.prog (Exit.then K (fun _ _ _ => False)) { tmps := a.tmps.setIfInBounds tp x, defers := [] } W)
    (hbody : ∀ (l k gl : Nat) (W : World), I k W → w.heap.size + 2 ≤ W.heap.size → k < N → Own W (w.heap.size + 2) (some ⟨gl, 0, none⟩) n n ((allTried n).getD k []) → body.wpIn (Fence.wide.inRound l) (m - 1 - 1) Try.prog (trPost w.heap.size (w.heap.size + 2) I k W) (a₁ (.slice (some ⟨gl, 0, none⟩) n n)) W)
    (hdone : ∀ (D : Nat) (W : World), w.heap.size ≤ D → I N W → W.heap[D]? = some (.deferred (some [])) → Q .normal { a with defers := { target := .collected D, args := #[] } :: a.defers } W) :
    (Code.rangeFunc g #[tp] assign body).wpIn Fence.wide m Try.prog Q a w := by
  refine wpIn_rangeFunc fun fn hfn => ?_
  have key : ∀ rec : LoopState → Option Code → Loop, rec = (fun st pe => { state := st, pending := pe, fn := fn, tmps := a.tmps, params := #[tp], assign := assign, body := body, defers := w.heap.size }) →
      ∀ W1, (w.alloc (.deferred (some []))).alloc (.loop (rec .ready none)) = W1 → CallsIn Fence.wide (m - 1) Try.prog 48 #[.func (.yield (w.heap.size + 1)) #[] #[], .pointer (some ⟨bn, 0, none⟩)] W1
        (rangePost Fence.wide m Try.prog (w.heap.size + 1) Q { a with defers := { target := .collected w.heap.size, args := #[] } :: a.defers }) := by
    intro rec hrec W1 hW1
    have hblk : (w.alloc (.deferred (some []))).heap.size = w.heap.size + 1 := World.size_alloc w _
    have hsz1 : W1.heap.size = w.heap.size + 2 := by rw [← hW1]; simp
    have hl1 : W1.heap[w.heap.size + 1]? = some (.loop (rec .ready none)) := by
      rw [← hW1, ← hblk]; exact World.alloc_heap_new _ _
    have hd1 : W1.heap[w.heap.size]? = some (.deferred (some [])) := by
      rw [← hW1]; exact (Below.heap_alloc _ _ _ (by simp)).trans (World.alloc_heap_new w _)
    have hi1 : I 0 W1 := by rw [← hW1]; exact hI.alloc _ (hI.alloc _ h0)
    refine (tried1_in (m - 1) (w.heap.size + 1) bn n N hN hn1 hn5
      (fun k W => I k W ∧ W.heap[w.heap.size + 1]? = some (.loop (rec .ready none)) ∧ W.heap[w.heap.size]? = some (.deferred (some [])))
      W1 W1.heap.size rfl (by rw [hsz1]; omega) (fun k V h => ⟨hIc k V h.1, by rw [hsz1]; have := (Array.getElem?_eq_some_iff.1 h.2.1).1; omega⟩) ?_ ?_ ⟨hi1, hl1, hd1⟩).mono ?_
    · rintro k V V' ⟨h1, h2, h3⟩ hb
      rw [hsz1] at hb
      exact ⟨hIb k V V' h1 hb, by rw [hb.block _ (by omega)]; exact h2, by rw [hb.block _ (by omega)]; exact h3⟩
    · rintro k W gl ⟨hi, hl, hd⟩ hlt hown
      have hlt2 : w.heap.size + 1 < W.heap.size := (Array.getElem?_eq_some_iff.1 hl).1
      have hy := run_yield (P := Try.prog) (args := #[.slice (some ⟨gl, 0, none⟩) n n]) hl (by rw [hrec]; rfl)
      rw [hrec] at hy
      have hz : ∀ (ts : Array Value) (y : Value), ((#[tp] : Array Tmp).zip #[y]).foldl (fun t (p, v) => t.setIfInBounds p v) ts = ts.setIfInBounds tp y := fun ts y => by simp
      refine ⟨fn, _, assign, body, hy, roundIn_of_wpIn hfn ?_⟩
      rw [hz]
      refine hassign _ (.slice (some ⟨gl, 0, none⟩) n n) W _ ?_
      clear hy
      refine ⟨_, run_beginRound hl (by rw [hrec]), ?_⟩
      generalize hWb : W.putObj (w.heap.size + 1) (.loop { rec .ready none with state := .busy }) = Wb
      have hszb : Wb.heap.size = W.heap.size := by rw [← hWb]; simp
      have hlb : Wb.heap[w.heap.size + 1]? = some (.loop { rec .ready none with state := .busy }) := by rw [← hWb]; exact World.putObj_heap_same hlt2
      have hdb : Wb.heap[w.heap.size]? = some (.deferred (some [])) := by rw [← hWb]; exact (World.putObj_heap_other (by omega)).trans hd
      have hib : I k Wb := by rw [← hWb]; exact hI.putObj _ hi (by omega) hl rfl
      have hkb : Kept W1.heap.size W Wb := ⟨by omega, fun b h1 h2 => by rw [← hWb]; exact World.putObj_heap_other (by omega)⟩
      have hob := hown.keptFrom hkb
      rw [hsz1] at hob
      refine wpIn_mono (hbody _ k gl Wb hib (by omega) hlt hob) ?_
      rintro e a3 W3 hp
      cases e with
      | normal =>
        obtain ⟨hk3, hi3, hkk⟩ := hp
        have h3 := hk3.same _ _ (by omega) hlb rfl
        have h4 := hk3.same _ _ (Nat.le_refl _) hdb rfl
        have he := run_endRound (P := Try.prog) none h3
        rw [hrec] at he h3
        have hsz3 : w.heap.size + 1 < W3.heap.size := (Array.getElem?_eq_some_iff.1 h3).1
        refine ⟨_, _, he, rfl, ⟨hI.putObj _ hi3 (by omega) h3 rfl, by rw [hrec]; exact World.putObj_heap_same hsz3, (World.putObj_heap_other (by omega)).trans h4⟩, ?_⟩
        refine ⟨?_, fun b h1 h2 => ?_⟩
        · have := hkk.1
          simp
          omega
        · rw [World.putObj_heap_other (by omega), hkk.2 b (by omega) (by omega)]
          exact hkb.2 b h1 h2
      | ret => exact hp.elim
      | exit id => exact hp.elim
      | goto t => exact hp.elim
      | panic ch => exact hp.elim
      | outgrown => exact hp.elim
    · rintro e W2 ⟨⟨r, rfl⟩, hi, hl, hd⟩
      refine ⟨none, _, by have := run_endLoop (P := Try.prog) hl (by rw [hrec]; simp); rw [hrec] at this; exact this, ?_⟩
      exact hdone _ _ (Nat.le_refl _) (hI.putObj _ hi (by omega) hl rfl) ((World.putObj_heap_other (by omega)).trans hd)
  obtain ⟨W1, hW1⟩ : ∃ W1, (w.alloc (.deferred (some []))).alloc (.loop { state := .ready, pending := none, fn := fn, tmps := a.tmps, params := #[tp], assign := assign, body := body, defers := w.heap.size }) = W1 := ⟨_, rfl⟩
  refine ⟨w.heap.size + 1, [{ target := .collected w.heap.size, args := #[] }], W1, { target := .fn (.func 48) #[.pointer (some ⟨bn, 0, none⟩)], args := #[.func (.yield (w.heap.size + 1)) #[] #[]] }, W1, 48,
    #[.func (.yield (w.heap.size + 1)) #[] #[], .pointer (some ⟨bn, 0, none⟩)], W1, (by rw [← hW1]; exact run_enterLoop_outer _ _ _ _ _), ?_, (fun _ _ => trivial), ?_, (fun h => by cases h), key _ rfl W1 hW1⟩
  · simp only [resolve, hg, TrFn]
    simp [go_sem]
  · simp [invoke, go_sem]
end Go.Proofs.Ythlmfbcnaciafaa

namespace Go.Proofs.Ythlmfbcnaciafaa
open Go.RowKit Go.Shelf

attribute [local go_sem] Oper.semAt_some

theorem isTried_any (n : Int) (w : World) : Calls Try.prog 30 #[.int .i64 n] w fun e w' => e = .returned (.bool (inB n 1 5)) ∧ w = w' := by
  by_cases h1 : 1 ≤ n
  · by_cases h2 : n ≤ 5
    · have HR : Hid (inB n 1 5 = true) := hid (inB_iff.2 ⟨h1, h2⟩)
      go_enter Try.func30, Try.ntmps30
      go_wp2_with fail
      go_ret
      exact ⟨ret_bool HR.out.symm, rfl⟩
    · have HR : Hid (inB n 1 5 = false) := hid (inB_not.2 (by omega))
      go_enter Try.func30, Try.ntmps30
      go_wp2_with fail
      go_ret
      exact ⟨ret_bool HR.out.symm, rfl⟩
  · have HR : Hid (inB n 1 5 = false) := hid (inB_not.2 (by omega))
    go_enter Try.func30, Try.ntmps30
    go_wp2_with fail
    go_ret
    exact ⟨ret_bool HR.out.symm, rfl⟩

theorem keeps_below {B K : Nat} {W W' : World} (hb : Below K W W') (hK : W.heap.size ≤ K) : KeepsFrom B W W' :=
  ⟨hb.size, fun k o _ hk _ => by rw [hb.block k (by have := (Array.getElem?_eq_some_iff.1 hk).1; omega)]; exact hk⟩
theorem kept_below {base K : Nat} {W W' : World} (hb : Below K W W') (hK : W.heap.size ≤ K) : Kept base W W' :=
  ⟨hb.size, fun b _ h2 => hb.block b (by omega)⟩
theorem kept_set {base : Nat} (W : World) (g i : Nat) (v : Value) (hg : g < base) : Kept base W (W.setCell ⟨g, i, none⟩ v) :=
  ⟨by simp, fun b h1 _ => heap_setCell_other W ⟨g, i, none⟩ b v (by simp; omega)⟩
theorem Kept.trans {base : Nat} {A B C : World} (h : Kept base A B) (h' : Kept base B C) : Kept base A C :=
  ⟨Nat.le_trans h.1 h'.1, fun b h1 h2 => by rw [h'.2 b h1 (by have := h.1; omega), h.2 b h1 h2]⟩

theorem alloc_keep {w : World} {b : Nat} {v : Value} (h : w.cell? ⟨b, 0, none⟩ = some v) (hb : b < w.heap.size) (O : Obj) : (w.alloc O).cell? ⟨b, 0, none⟩ = some v := by
  rw [World.cell?_alloc_past _ _ _ (by simpa using hb)]; exact h
end Go.Proofs.Ythlmfbcnaciafaa

namespace Go.Proofs.Ythlmfbcnaciafaa
open Go.RowKit

/-- All lists of k numbers less than n. -/
def lexK (n k : Nat) : List (List Int) := lex (List.replicate k 0) (List.replicate k ((n : Int) - 1))
def lexKTo (n k c : Nat) : List (List Int) := (upFrom 0 c).flatMap fun x => (lexK n k).map (x :: ·)
theorem lexKTo_succ (n k c : Nat) : lexKTo n k (c + 1) = lexKTo n k c ++ (lexK n k).map ((c : Int) :: ·) := by
  simp [lexKTo, upFrom_snoc]
theorem lexK_step {n k : Nat} : lexK n (k + 1) = lexKTo n k n := by
  unfold lexK lexKTo
  rw [List.replicate_succ, List.replicate_succ, lex]
  have : span 0 ((n : Int) - 1) = n := by unfold span; omega
  rw [this]
  rfl
theorem length_lexK {n : Nat} (hn : 1 ≤ n) (k : Nat) : (lexK n k).length = n ^ k := length_lexRep n hn k
theorem length_lexKTo {n : Nat} (hn : 1 ≤ n) (k : Nat) : ∀ c, (lexKTo n k c).length = c * n ^ k
  | 0 => by simp [lexKTo, upFrom]
  | c + 1 => by rw [lexKTo_succ, List.length_append, length_lexKTo hn k c, List.length_map, length_lexK hn, Nat.add_mul]; omega

set_option maxHeartbeats 4000000 in
theorem loAll_any (n : Nat) (hn1 : 1 ≤ n) (hn5 : n ≤ 5) : ∀ (k m : Nat) (a2 : Option Addr) (cap2 : Nat) (pre : List Int) (w : World), m + k = n → Has w a2 m cap2 pre →
    Calls Try.prog 33 #[.slice a2 m cap2, .int .i64 (n : Int)] w (RetRows w ((lexK n k).map (pre ++ ·))) := by
  intro k
  induction k with
  | zero =>
    intro m a2 cap2 pre w hmk h2
    obtain rfl : m = n := by omega
    have HR : Hid ((lexK m 0).map (pre ++ ·) = [pre]) := hid (by simp [lexK, lex])
    have hbe : ((m : Int) == (m : Int)) = true := by simp
    go_enter Try.func33, Try.ntmps33
    go_wp2_with fail
    refine (l1Own_any _ _ _ _ _ h2).mono ?_
    rintro e w1 ⟨a1, cap1, rfl, hown1, hb1⟩
    have hlit := ownR_lit1 hown1 hb1.size
    have hba := hb1.alloc hb1.size (.cells #[.slice a1 m cap1] 24)
    go_wp2_with fail
    go_ret
    exact ⟨_, _, _, _, rfl, hlit, by rw [HR.out]; rfl, hba⟩
  | succ k ih =>
    intro m a2 cap2 pre w hmk h2
    have hmn : m < n := by omega
    have IH := hid ih
    clear ih
    have HS := hid (lexK_step (n := n) (k := k))
    have HLT := hid (fun c => length_lexKTo hn1 k c)
    have HLK := hid (length_lexK hn1 k)
    have hpow : ∀ c, c ≤ n → c * n ^ k ≤ 3125 := fun c hc => by
      have h1 : c * n ^ k ≤ n * n ^ k := Nat.mul_le_mul_right _ hc
      have h2 : n * n ^ k = n ^ (k + 1) := by rw [Nat.pow_succ, Nat.mul_comm]
      have h3 : n ^ (k + 1) ≤ 5 ^ (k + 1) := Nat.pow_le_pow_left hn5 _
      have h4 : 5 ^ (k + 1) ≤ 5 ^ 5 := Nat.pow_le_pow_right (by omega) (by omega)
      have : (5 : Nat) ^ 5 = 3125 := by decide
      omega
    have hpos : 0 < n ^ k := Nat.pow_pos hn1
    have HPOW := hid hpow
    have HPOS := hid hpos
    have hbe : ((m : Int) == (n : Int)) = false := by simp; omega
    clear hpow hpos
    go_enter Try.func33, Try.ntmps33
    go_wp2_with fail
    go_loopw [5, 6] (fun o x wr => ∃ (c : Nat) (a' : Option Addr) (q cap' : Nat) (rs : List Rw), x = .int .i64 (c : Int) ∧ c ≤ n ∧ o = .slice a' q cap' ∧ OwnR wr w.heap.size a' q cap' rs ∧ Hid (numsOf rs = (lexKTo n k c).map (pre ++ ·)) ∧ Below w.heap.size w wr) (fun _ x _ => (n - (intOf x).toNat))
    case atStart => exact ⟨0, none, 0, 0, [], rfl, Nat.zero_le _, rfl, OwnR.nil _ _, hid rfl, Below.refl _ _⟩
    case round =>
      obtain ⟨c, a', q, cap', rs, rfl, hcs, rfl, hown, HNU, hb⟩ := hrel
      by_cases hlt : c < n
      · have hq : q = c * n ^ k := by
          have e1 : (numsOf rs).length = q := by rw [← hown.len]; simp [numsOf]
          rw [HNU.out, List.length_map, HLT.out] at e1
          exact e1.symm
        have hq5 : q + n ^ k ≤ 3125 := by
          have := HPOW.out (c + 1) (by omega)
          rw [Nat.add_mul] at this
          omega
        have HQ := hid hq5
        clear hq hq5
        have hh2 := h2.below hb (Nat.le_refl _)
        go_wp2_with fail
        refine (l1Own_any _ _ _ _ _ hh2).mono ?_
        rintro e w3 ⟨a3, cap3, rfl, hown3, hb3⟩
        go_wp2_with (at_builtin; refine wpList_append_int _ rfl _ _ rfl wr.heap.size _ _ _ _ _ rfl rfl hown3 (by omega) hb3.size ?_; intro a4 cap4 w4 hown4 hb4)
        have hb34 := hb3.trans hb4
        refine (IH.out (m + 1) _ _ _ _ (by omega) hown4.has).mono ?_
        rintro e w5 ⟨a5, q5, cap5, rs5, rfl, hown5, hn5', hb5⟩
        have hb35 := hb34.trans (hb5.mono hb34.size)
        have HN5 := hid hn5'
        have hq5 : q5 = n ^ k := by
          rw [← hown5.len]
          have : (numsOf rs5).length = rs5.length := by simp [numsOf]
          rw [← this, hn5', List.length_map, HLK.out]
        have hq5p : 0 < q5 := by rw [hq5]; exact HPOS.out
        have hq5l : q + q5 ≤ 2097152 := by have := HQ.out; omega
        have hszr := hb.size
        have hown5' := hown5.mono hb34.size
        clear hn5' hq5 hown3 hown4 hb3 hb4 hb5 hb34 hown5
        go_wp2_with (at_builtin; refine wpList_append_rows wr w5 rfl _ _ rfl w.heap.size _ _ _ _ _ _ _ _ rfl rfl hown hb35 hown5' hq5p hq5l hszr ?_; intro a6 q6 cap6 w6 hq6 hown6 hb6)
        go_roundw
        case rel =>
          refine ⟨c + 1, a6, q6, cap6, _, by go_num, by omega, rfl, hown6, hid ?_, (hb.trans (hb35.mono hszr)).trans hb6⟩
          rw [numsOf_append, HNU.out, HN5.out, lexKTo_succ, List.map_append, List.map_map]
          congr 1
          apply List.map_congr_left
          intro z _
          simp
        case measure => simp [intOf]; omega
      · obtain rfl : c = n := by omega
        have HR : Hid (numsOf rs = (lexK c (k + 1)).map (pre ++ ·)) := hid (by rw [HNU.out, HS.out])
        go_wp2_with fail
        go_ret
        exact ⟨a', q, cap', rs, rfl, hown, HR.out, hb⟩

/-- The rows of the list of all. -/
theorem rows_tried {n q : Nat} {rs : List Rw} (hn : 1 ≤ n) (hn5 : n ≤ 5) (h : numsOf rs = (lexK n n).map ([] ++ ·)) (hq : rs.length = q) : q = n ^ n ∧ ∀ k, k < q → (nthR rs k).xs = (allTried n).getD k [] ∧ (nthR rs k).xs.length = n ∧ good (nthR rs k).xs n = true := by
  have h' : numsOf rs = allTried n := by rw [h]; simp [lexK, allTried]
  have hl : q = n ^ n := by
    have := congrArg List.length h'
    rw [length_allTried hn] at this
    simp [numsOf] at this
    omega
  refine ⟨hl, fun k hk => ?_⟩
  have h1 := map_nthR Rw.xs (rs := rs) (i := k) (by omega)
  have h2 : (allTried n)[k]? = some (nthR rs k).xs := by rw [← h']; exact h1
  have h3 : (nthR rs k).xs = (allTried n).getD k [] := by simp [h2]
  have h4 := tried_good (n := n) (k := k) hn hn5 (by omega)
  rw [← h3] at h4
  exact ⟨h3, h4⟩
end Go.Proofs.Ythlmfbcnaciafaa

namespace Go.Proofs.Ythlmfbcnaciafaa
open Go.RowKit

theorem grown5_on {w w' w'' : World} {r : Option Nat} (h : w.grownBy w' r) (hb : Below w'.heap.size w' w'') : w.grownBy w'' r :=
  ⟨hb.os.trans h.os, hb.tape.trans h.tape, hb.output.trans h.output, Nat.le_trans h.size hb.size, fun j hj hne => (hb.block j (Nat.lt_of_lt_of_le hj h.size)).trans (h.block j hj hne)⟩
theorem grown5_set {w w' : World} {g i : Nat} (h : w.grownBy w' (some g)) (v : Value) : w.grownBy (w'.setCell ⟨g, i, none⟩ v) (some g) :=
  ⟨h.os, h.tape, h.output, by simpa using h.size, fun j hj hne => by
    rw [heap_setCell_other w' ⟨g, i, none⟩ j v (by intro e; exact hne (by simp [e]))]
    exact h.block j hj hne⟩
theorem hist5_all {n : Nat} {zs : List Int} {N : Nat} (h : Hist5 (defTs n) n N zs) (hN : (defTs n).length = N) (hl : zs.length = n) : zs = byDefect n := by
  refine ext_nth (by simp [byDefect, hl]) fun i hi => ?_
  rw [h i (by omega), List.take_of_length_le (by omega)]
  simp [nth, byDefect, show i < n by omega]
theorem defTs_facts {n : Nat} (hn1 : 1 ≤ n) {k : Nat} (hk : k < n ^ n) {xs : List Int} (hx : xs = (allTried n).getD k []) (hl : xs.length = n) (hg : good xs n = true) : ∃ d : Nat, (fails (drive n xs) : Int) = (d : Int) ∧ d < n ∧ nth (defTs n) k = (d : Int) :=
  ⟨fails (drive n xs), rfl, fails_lt hn1 hl (good_iff.1 hg).2.2, by rw [nth_defTs hn1 hk, hx]⟩

set_option maxHeartbeats 2000000 in
theorem specByDefect_any (n : Int) (w : World) : Calls Try.prog 15 #[.int .i64 n] w (PostInts w (byDefectOf n)) := by
  by_cases hn : inB n 1 5 = true
  · obtain ⟨p, rfl⟩ : ∃ p : Nat, n = (p : Int) := ⟨n.toNat, by have := inB_iff.1 hn; omega⟩
    have hp1 : 1 ≤ p ∧ p ≤ 5 := by have := inB_iff.1 hn; omega
    obtain ⟨hp1, hp5⟩ := hp1
    have HN := hid hn
    have HR : Hid (byDefectOf p = (byDefect p, true)) := hid (by simp [byDefectOf, hn])
    have HTL := hid (length_defTs hp1)
    clear hn
    go_enter Try.func15, Try.ntmps15
    go_wp2_with (first | (go_at_call 32; refine (l1In_any _ _ _ _).mono ?_; rintro e w' ⟨rfl, rfl⟩; rw [HN.out]) | (at_make; refine wpList_make_ints _ rfl _ _ rfl p rfl rfl (by omega) ?_; intro a1 cap1 w1 hown1 hb1))
    refine (loAll_any p hp1 hp5 p 0 none 0 [] _ (by omega) (Has.nilAt none (by unfold maxLen; omega))).mono ?_
    rintro e w2 ⟨a2, q, cap2, rs, rfl, hown2, hn2, hb2⟩
    obtain ⟨hq, hrow⟩ := rows_tried hp1 hp5 hn2 hown2.len
    have HROW := hid hrow
    have HQ := hid hq
    have hq5 : q ≤ 3125 := by
      rw [hq]
      exact Nat.le_trans (Nat.pow_le_pow_left hp5 p) (Nat.pow_le_pow_right (by omega) hp5)
    have ho1 := hown1.below hb2 (Nat.le_refl _)
    obtain ⟨g1, rfl, hg1, hg2, -, -⟩ := hown1.opened (by omega)
    have hbw := hb1.trans (hb2.mono hb1.size)
    have HGE := hid (fun i (hi : i < q) => (show ∀ x, (nthR rs i).a = some x → x.block ≠ g1 from fun x hx => by
      have := (hown2.2.2.2.1 i hi).ge x hx
      omega))
    have HRR := hid hown2.has
    have HGA := hid (show ∀ x, a2 = some x → x.block ≠ g1 from fun x hx => by
      subst hx
      have := (hown2.1.lt x.block rfl).1
      omega)
    have HH0 := hid (hist5_first (defTs p) p)
    have hlt2 : g1 < w2.heap.size := Nat.lt_of_lt_of_le hg2 hb2.size
    clear hn2 hq hrow hown2 hown1 hb1 hb2
    go_wp2_with fail
    go_loopw [15] (fun i wr => ∃ (k : Nat) (zs : List Int), k ≤ q ∧ i = .int .i64 (k : Int) ∧ Own wr w.heap.size (some ⟨g1, 0, none⟩) p cap1 zs ∧ Hid (Hist5 (defTs p) p k zs) ∧ w2.grownBy wr (some g1)) (fun i _ => q - (intOf i).toNat)
    case atStart => exact ⟨0, _, Nat.zero_le _, rfl, ho1, HH0, World.grownBy.refl _ _⟩
    case round =>
      clear ho1 HH0
      obtain ⟨k, zs, hk, rfl, hz, HH, hgr⟩ := hrel
      by_cases hkq : k < q
      · obtain ⟨p1, p2, p3⟩ := HROW.out k hkq
        obtain ⟨r0, r1, r2, r3, r4, r5⟩ := HRR.out
        obtain ⟨b, off, rfl, hbb, hc⟩ := r4 (by omega)
        have hbg := HGA.out _ rfl
        have hck : wr.cell? ⟨b, off + k, none⟩ = some (nthR rs k).v := hgr.cell (hc k hkq) (by simpa using hbg)
        have hrow := (r5 k hkq).kept hgr (HGE.out k hkq)
        obtain ⟨d, hd, hdp, hdn⟩ := defTs_facts hp1 (by rw [← HQ.out]; exact hkq) p1 p2 p3
        rw [p2] at hrow
        unfold Rw.v at hck
        rw [p2] at hck
        obtain ⟨g1', g2', g3', g4'⟩ := good_nth p3 p2
        have HH2 := hid (hist5_step HH.out (by rw [HTL.out, ← HQ.out]; exact hkq) hdn hdp hz.len)
        obtain ⟨z0, z1⟩ := hist5_le HH.out hdp (by rw [HTL.out, ← HQ.out]; omega)
        rw [HTL.out, ← HQ.out] at z1
        have HD := hid hd
        generalize (nthR rs k).xs = xs at *
        generalize (nthR rs k).a = ax at *
        generalize (nthR rs k).c = cx at *
        have HL := hid (loDefect_any ax p cx xs p wr hrow g1' g3' g4')
        clear hc r0 r1 r2 r3 r4 r5 p1 p2 p3 g4' hd hdn hrow
        go_wp2_with fail
        refine HL.out.mono ?_
        rintro e w5 ⟨rfl, hb5⟩
        rw [HD.out]
        have hz5 := hz.below hb5 (Nat.le_refl _)
        obtain ⟨g', hga, -, -, hcg, hfg⟩ := hz5.opened (by omega)
        cases hga
        have hgd := hcg d hdp
        have hgf := hfg d
        have hdi : (d : Int) < (p : Int) := by omega
        have hdz : (0 : Int) ≤ (d : Int) := by omega
        clear hcg hfg
        go_wp2_with fail
        go_roundw
        case rel => exact ⟨k + 1, _, by omega, by go_num, (hz5.set d _).1, HH2, grown5_set (grown5_on hgr hb5) _⟩
        case measure => simp [intOf]; omega
      · obtain rfl : k = q := by omega
        have HF := hid (hist5_all HH.out (by rw [HTL.out, HQ.out]) hz.len)
        go_wp2_with fail
        go_ret2
        exact postInts (by rw [HR.out, ← HF.out]) hz (hbw.trans (below_grown hgr hbw.size (fun j hj => by cases hj; exact hg1)))
  · have HR : Hid (byDefectOf n = ([], false)) := hid (by simp [byDefectOf, hn])
    have HN := hid hn
    clear hn
    go_enter Try.func15, Try.ntmps15
    go_wp2_with (go_at_call 32; refine (l1In_any _ _ _ _).mono ?_; rintro e w' ⟨rfl, rfl⟩; rw [Bool.eq_false_iff.2 HN.out])
    go_ret2
    exact postInts_no HR.out (Below.refl _ _)
end Go.Proofs.Ythlmfbcnaciafaa

namespace Go.Proofs.Ythlmfbcnaciafaa
open Go.RowKit Go.Shelf

attribute [local go_sem] Oper.semAt_some

/-- 'make([]int, n)' within a fence. -/
theorem wpListIn_mk {F : Fence} {m : Nat} {ops : Array Oper} {rest : List Oper} {o : Oper} {a : Act} {Q : Exit → Act → World → Prop} (w : World) (hgd : o.guard = none) (l c : Operand) (ho : o.op = Op.makeSlice 24 l c)
    (n : Nat) (hl : a.eval l = .int .i64 (n : Int)) (hc : a.eval c = .int .i64 (n : Int)) (hn : n ≤ 2097152)
    (h : ∀ w', Own w' w.heap.size (some ⟨w.heap.size, 0, none⟩) n n (List.replicate n 0) → Below w.heap.size w w' → wpListIn F m Try.prog ops Q rest (a.put o.dst (.slice (some ⟨w.heap.size, 0, none⟩) n n)) w') :
    wpListIn F m Try.prog ops Q (o :: rest) a w := by
  obtain ⟨i0, hi, hz0, hz1, hz2⟩ := info_parts Try.infoInt
  refine wpListIn_plain hgd fun K hK => ?_
  obtain ⟨w', hrun, r1, r2⟩ := run_make_full (P := Try.prog) w w.heap.size 24 3 i0 (.int .i64 0) 1 Try.underlying24 hi hz0 hz1 .i64 .i64 n (by rw [hz2]; omega) (by unfold maxLen; omega) (Nat.le_refl _)
  have hown : Own w' w.heap.size (some ⟨w.heap.size, 0, none⟩) n n (List.replicate n 0) := by
    refine ⟨?_, by simp, hn⟩
    have : (madeCells (Value.int IntKind.i64 0).cells (n * 1)).toList = (List.replicate n (0 : Int)).map (Value.int .i64) := by
      rw [show (Value.int IntKind.i64 0).cells = #[.int .i64 0] from rfl, toList_madeCells_one]; simp
    rw [← this]
    exact r1
  unfold Oper.wpIn
  refine ⟨?_, ?_⟩
  · simp [Oper.about, ho]
  · rw [Oper.semAt_plain F _ _ (by rw [ho]; intro c hc'; cases hc')]
    simp [execOp, ho, hl, hc, hrun, Result.andThen]
    exact hK _ _ (h w' hown (below_grown r2 (Nat.le_refl _) (by simp)))

theorem Own.turn {A B : World} {K : Nat} {a : Option Addr} {n cap : Nat} {xs : List Int} {row : Option Nat} (h : Own A K a n cap xs) (hg : A.grownBy B row) (hr : ∀ r, row = some r → ∃ o : Obj, A.heap[r]? = some o ∧ o.isCells = false) : Own B K a n cap xs := by
  obtain ⟨⟨h1, h2⟩, h3⟩ := h
  refine ⟨⟨h1, ?_⟩, h3⟩
  rcases h2 with h2 | ⟨g, cap', cur, hv, hgB, hh, r⟩
  · exact .inl h2
  · refine .inr ⟨g, cap', cur, hv, hgB, ?_, r⟩
    rw [hg.block g (Array.getElem?_eq_some_iff.1 hh).1 (fun e => by
      obtain ⟨o, ho, hc⟩ := hr g e.symm
      rw [hh] at ho
      cases ho
      simp [Obj.isCells] at hc)]
    exact hh

/-- What the loop of the counts keeps: n (block b), the counts' slice (block bc), the iterator's n (block bn), the counts (block g). -/
structure Counts5 (W : World) (b bc bn g p K : Nat) (zs : List Int) : Prop where
  cn : W.cell? ⟨b, 0, none⟩ = some (.int .i64 (p : Int))
  cc : W.cell? ⟨bc, 0, none⟩ = some (.slice (some ⟨g, 0, none⟩) p p)
  it : W.cell? ⟨bn, 0, none⟩ = some (.int .i64 (p : Int))
  own : Own W K (some ⟨g, 0, none⟩) p p zs
theorem Counts5.below {W W' : World} {b bc bn g p K L : Nat} {zs : List Int} (h : Counts5 W b bc bn g p K zs) (hb : Below L W W') (h1 : b < L) (h2 : bc < L) (h3 : bn < L) (h4 : g < L) : Counts5 W' b bc bn g p K zs :=
  ⟨by rw [hb.cell (p := ⟨b, 0, none⟩) (by simp; omega)]; exact h.cn, by rw [hb.cell (p := ⟨bc, 0, none⟩) (by simp; omega)]; exact h.cc, by rw [hb.cell (p := ⟨bn, 0, none⟩) (by simp; omega)]; exact h.it,
   h.own.belowB hb (fun q hq => by cases hq; exact h4)⟩
theorem Counts5.turn {A B : World} {b bc bn g p K : Nat} {zs : List Int} {row : Option Nat} (h : Counts5 A b bc bn g p K zs) (hg : A.grownBy B row) (hr : ∀ r, row = some r → ∃ o : Obj, A.heap[r]? = some o ∧ o.isCells = false) : Counts5 B b bc bn g p K zs :=
  ⟨cell_kept h.cn hg hr, cell_kept h.cc hg hr, cell_kept h.it hg hr, h.own.turn hg hr⟩
theorem Counts5.set {W : World} {b bc bn g p K : Nat} {zs : List Int} (h : Counts5 W b bc bn g p K zs) (h1 : g ≠ b) (h2 : g ≠ bc) (h3 : g ≠ bn) (i : Nat) (y : Int) : Counts5 (W.setCell ⟨g, i, none⟩ (.int .i64 y)) b bc bn g p K (zs.set i y) :=
  ⟨by rw [cell_other h1]; exact h.cn, by rw [cell_other h2]; exact h.cc, by rw [cell_other h3]; exact h.it, (h.own.set i y).1⟩

set_option maxRecDepth 100000 in
set_option maxHeartbeats 4000000 in
theorem byDefect_any (n : Int) (w : World) : Calls Try.prog 14 #[.int .i64 n] w (PostInts w (byDefectOf n)) := by
  refine (callsIn_wide (n := 8)).1 ?_
  refine callsIn_of_wp_marks Try.func14 rfl trivial ?_ rfl
  simp only [Try.ntmps14, List.size_toArray, List.length_cons, List.length_nil, Nat.reduceAdd, Nat.reduceSub, Array.replicate_succ, Array.replicate_zero, List.push_toArray, List.append_toArray, List.nil_append, List.cons_append]
  by_cases hn : inB n 1 5 = true
  · obtain ⟨p, rfl⟩ : ∃ p : Nat, n = (p : Int) := ⟨n.toNat, by have := inB_iff.1 hn; omega⟩
    have hp1 : 1 ≤ p ∧ p ≤ 5 := by have := inB_iff.1 hn; omega
    obtain ⟨hp1, hp5⟩ := hp1
    have HN := hid hn
    have HR : Hid (byDefectOf p = (byDefect p, true)) := hid (by simp [byDefectOf, hn])
    clear hn
    gi_wp2_with (first | (refine ⟨trivial, ?_⟩; gi_at_call 30; refine (callsIn_wide.2 (isTried_any _ _)).mono ?_; rintro e w' ⟨rfl, rfl⟩; rw [HN.out]) | (gi_at_make; refine wpListIn_mk _ rfl _ _ rfl p rfl rfl (by omega) ?_; intro w2 hown2 hb2; have z0 : w2.cell? ⟨w.heap.size, 0, none⟩ = some (.int .i64 (p : Int)) := (by rw [hb2.cell (p := ⟨w.heap.size, 0, none⟩) (by simp), World.cell?_alloc_at _ _ _ _ rfl]; rfl); have z1 : w.heap.size + 2 ≤ w2.heap.size := (by have := (hown2.lt _ rfl); simp at this; omega); have z4 := alloc_keep z0 (by omega)) | (refine ⟨trivial, ?_⟩; gi_at_call 31; refine (callsIn_wide.2 (tried_any _ _)).mono ?_; rintro e w' ⟨rfl, rfl⟩))
    have hgs : (w.alloc (.cells #[.int .i64 (p : Int)] 3)).heap.size = w.heap.size + 1 := by simp
    rw [hgs] at hown2
    have hbw2 : Below w.heap.size w w2 := ((Below.refl _ _).alloc (Nat.le_refl _) _).trans (hb2.mono (by simp))
    have hsz0 : ((w2.alloc (.cells #[.slice (some ⟨w.heap.size + 1, 0, none⟩) p p] 24)).alloc (.cells #[.int .i64 (p : Int)] 3)).heap.size = w2.heap.size + 2 := by simp
    have V0 : Counts5 ((w2.alloc (.cells #[.slice (some ⟨w.heap.size + 1, 0, none⟩) p p] 24)).alloc (.cells #[.int .i64 (p : Int)] 3)) w.heap.size w2.heap.size (w2.heap.size + 1) (w.heap.size + 1) p (w.heap.size + 1) (List.replicate p 0) := by
      refine ⟨alloc_keep (z4 _) (by simp; omega) _, ?_, ?_, (hown2.al _).al _⟩
      · rw [World.cell?_alloc_past _ _ _ (by simp), World.cell?_alloc_at _ _ _ _ rfl]; rfl
      · rw [World.cell?_alloc_at _ _ _ _ (by simp)]; rfl
    have hb0 : Below w.heap.size w ((w2.alloc (.cells #[.slice (some ⟨w.heap.size + 1, 0, none⟩) p p] 24)).alloc (.cells #[.int .i64 (p : Int)] 3)) := (hbw2.alloc (by omega) _).alloc (by simp; omega) _
    generalize ((w2.alloc (.cells #[.slice (some ⟨w.heap.size + 1, 0, none⟩) p p] 24)).alloc (.cells #[.int .i64 (p : Int)] 3)) = W0 at *
    clear z0 z4 hgs hown2 hb2 hbw2
    have HG := hid (fun k (hk : k < p ^ p) => tried_good hp1 hp5 hk)
    have HTL := hid (length_defTs hp1)
    have HDF := hid (fun k (hk : k < p ^ p) => defTs_facts hp1 hk rfl (tried_good hp1 hp5 hk).1 (tried_good hp1 hp5 hk).2)
    refine wpIn_tried 8 (w2.heap.size + 1) p (p ^ p) rfl hp1 hp5 (by omega) rfl
      (fun k W => (∃ zs, Counts5 W w.heap.size w2.heap.size (w2.heap.size + 1) (w.heap.size + 1) p (w.heap.size + 1) zs ∧ Hist5 (defTs p) p k zs) ∧ Below w.heap.size w W)
      (fun k V h => by obtain ⟨⟨zs, h1, -⟩, -⟩ := h; exact h1.it) (fun k V V' h hb => by obtain ⟨⟨zs, h1, h2⟩, h3⟩ := h; exact ⟨⟨zs, h1.below hb (by omega) (by omega) (by omega) (by omega), h2⟩, h3.trans (hb.mono (by omega))⟩) ?_ ⟨⟨_, V0, hist5_first _ _⟩, hb0⟩
      (fun x => { tmps := #[.int .i64 (p : Int), .pointer (some ⟨w.heap.size, 0, none⟩), .slice none 0 0, .bool false, .pointer (some ⟨w2.heap.size, 0, none⟩), x, undef, undef, .int .i64 (p : Int), .bool true, .bool false, .int .i64 (p : Int), .slice (some ⟨w.heap.size + 1, 0, none⟩) p p, .int .i64 (p : Int), TrFn (w2.heap.size + 1), x, undef, undef, undef, undef, undef, undef, undef, undef, undef, undef, undef, undef, undef], defers := [] }) ?_ ?_ ?_
    · refine OwnFrom.and (fun s A B' row hs hg hr => by obtain ⟨zs, h1, h2⟩ := hs; exact ⟨zs, h1.turn hg (fun r e => (hr r e).2), h2⟩) (ownFrom_below (Nat.le_refl _) (by omega))
    · intro l x W K hK
      gi_wp2
      exact hK
    · rintro l k gl W ⟨⟨zs, V, hH⟩, hB⟩ hsz hlt hown
      obtain ⟨gl1, gl2⟩ := HG.out k hlt
      obtain ⟨d, hd, hdp, hdn⟩ := HDF.out k hlt
      have HH2 := hid (hist5_step hH (by rw [HTL.out]; exact hlt) hdn hdp V.own.len)
      obtain ⟨z0, z1⟩ := hist5_le hH hdp (by rw [HTL.out]; omega)
      have hN : p ^ p ≤ 3125 := Nat.le_trans (Nat.pow_le_pow_left hp5 p) (Nat.pow_le_pow_right (by omega) hp5)
      rw [HTL.out] at z1
      generalize (allTried p).getD k [] = xs at *
      have HD : Hid (defectOf xs p = ((d : Int), true)) := hid (by simp [defectOf, gl2, hd])
      have cn := V.cn
      have hdi : (d : Int) < (p : Int) := by omega
      have hdz : (0 : Int) ≤ (d : Int) := by omega
      clear hd hdn gl1 gl2 hH
      gi_wp2_with (refine ⟨trivial, ?_⟩; gi_at_call 6; refine (CallsIn.inRound l (callsIn_wide.2 (defect_any _ _ _ _ p _ hown.has))).mono ?_; rw [HD.out]; rintro e w3 ⟨rfl, hb3⟩; have V3 := V.below hb3 (by omega) (by omega) (by omega) (by omega); have cc := V3.cc; obtain ⟨g', hga, -, -, hcg, hfg⟩ := V3.own.opened (by omega); cases hga; have hgd := hcg d hdp; have hgf := hfg d; clear hcg hfg)
      have hs3 := hb3.size
      refine ⟨(keeps_below hb3 (Nat.le_refl _)).trans ((KeepsOthers.setCell _ _ _).from _), ⟨⟨_, V3.set (by omega) (by omega) (by omega) d _, HH2.out⟩, (hB.trans (hb3.mono hB.size)).setCell (by simp) _⟩, (kept_below hb3 (Nat.le_refl _)).trans (kept_set _ _ _ _ (by omega))⟩
    · rintro D W hDl ⟨⟨zs, V, hH⟩, hB⟩ hK
      have cc := V.cc
      have HF := hid (hist5_all hH HTL.out V.own.len)
      gi_wp2
      refine ⟨by simp, .inl ⟨D, W.putObj D (.deferred none), rfl, run_takeDeferred hK, ?_⟩⟩
      have hb9 : Below w.heap.size W (W.putObj D (.deferred none)) := (Below.refl _ _).grown (grownBy_putObj' W D _) hB.size (fun k e => by cases e; omega)
      have hto := V.own.turn (grownBy_putObj' W D (.deferred none)) (fun r e => by cases e; exact ⟨_, hK, rfl⟩)
      rw [HF.out] at hto
      refine ⟨.tuple #[.slice (some ⟨w.heap.size + 1, 0, none⟩) p p, .bool true], ?_, postInts HR.out (hto.mono (by omega)) (hB.trans hb9)⟩
      simp [results, Try.results14, go_sem]
  · have HN := hid (Bool.eq_false_iff.2 hn)
    have HR : Hid (byDefectOf n = ([], false)) := hid (by simp [byDefectOf, hn])
    clear hn
    gi_wp2_with (first | (refine ⟨trivial, ?_⟩; gi_at_call 30; refine (callsIn_wide.2 (isTried_any _ _)).mono ?_; rintro e w' ⟨rfl, rfl⟩; rw [HN.out]))
    refine ⟨.tuple #[.slice none 0 0, .bool false], ?_, postInts_no HR.out ((Below.refl _ _).alloc (Nat.le_refl _) _)⟩
    simp [results, Try.results14, go_sem]
end Go.Proofs.Ythlmfbcnaciafaa

namespace Go.Proofs.Ythlmfbcnaciafaa
open Go.RowKit

set_option maxHeartbeats 400000 in
theorem jSumD_any (a : Option Addr) (n cap : Nat) (xs : List Int) (w : World) (h : Has w a n cap xs) (h8 : n ≤ 100) (hb : ∀ i, i < n → 0 ≤ nth xs i ∧ nth xs i ≤ 5000) :
    Calls Try.prog 17 #[.slice a n cap] w fun e w' => e = .returned (.int .i64 (total xs)) ∧ w = w' := by
  have HL := hid h.len
  have HB := hid hb
  clear hb
  go_enter Try.func17, Try.ntmps17
  go_wp2_with fail
  go_loop [3, 8] (fun s i => ∃ (k : Nat) (v : Int), k ≤ n ∧ i = .int .i64 (k : Int) ∧ s = .int .i64 v ∧ Hid (v = total (xs.take k)) ∧ 0 ≤ v ∧ v ≤ 5000 * (k : Int)) (fun _ i => n - (intOf i).toNat)
  case atStart => exact ⟨0, 0, by omega, rfl, rfl, hid rfl, by omega, by omega⟩
  case round =>
    obtain ⟨k, v, hk, rfl, rfl, HV, s0, s1⟩ := hrel
    by_cases hlt : k < n
    · obtain ⟨b0, off, rfl, hbb, hc⟩ := h.2.2.2.2 (by omega)
      have hck := hc k hlt
      obtain ⟨u0, u1⟩ := HB.out k hlt
      have HS : Hid (total (xs.take (k + 1)) = v + nth xs k) := hid (by rw [total_succ (by rw [HL.out]; exact hlt), HV.out])
      clear hc
      go_wp2_with fail
      go_round
      case rel => exact ⟨k + 1, v + nth xs k, by omega, by go_num, by go_num, hid HS.out.symm, by omega, by omega⟩
      case measure => simp [intOf]; omega
    · obtain rfl : k = n := by omega
      have HR : Hid (v = total xs) := hid (by rw [HV.out, List.take_of_length_le (by rw [HL.out]; omega)])
      go_wp2_with fail
      go_ret
      exact ⟨ret_int HR.out, rfl⟩
theorem pow_def : ∀ j, j < 6 → ∀ k, k < 6 → j ^ k ≤ 3125 := by decide

set_option maxRecDepth 100000 in
set_option maxHeartbeats 32000000 in
theorem defects_walk (a b : Option Addr) (n m cap cap' : Nat) (w : World) (hn : n ≤ maxLen) (h : n ≤ 1048576 → HasB w a n w.heap.size) (h' : m ≤ 1048576 → HasB w b m w.heap.size) :
    Calls Try.prog 3 #[.slice a n cap, .slice b m cap'] w (Holds w) := by
  have H1 := hid h
  have H2 := hid h'
  have HN := hid hn
  clear h h' hn
  have hB : Below w.heap.size w w := Below.refl _ _
  go_enter Try.func3, Try.ntmps3
  go_wp2_with fail
  refine (big_any _ _ _ _ _ _ _ (by have := HN.out; unfold maxLen at this; omega)).mono ?_
  rintro e _ ⟨r, rfl, hr, rfl⟩
  have HR := hid hr
  clear hr
  cases r with
  | true =>
    go_wp2_with fail
    go_ret
    exact ⟨rfl, hB⟩
  | false =>
    have hnm := HR.out rfl
    clear HR
    have HA := hid (H1.out (by omega))
    have HM := hid (H2.out (by omega))
    clear H1 H2 HN
    go_wp2_with fail
    refine (drawDefect_any _ _ _ _ HA.out).mono ?_
    rintro e v1 ⟨a_l, n_l, c_l, xs, pp, rfl, o_l, hnl, p0, p1, st⟩
    replace hB := hB.trans (st.mono hB.size)
    clear st
    by_cases hg : good xs pp = true
    · skip
      obtain ⟨P, d, rfl, F⟩ := defF hg o_l.len
      obtain ⟨hP1, hP12⟩ := F.one
      have h8 := F.h8
      obtain ⟨ds, hds⟩ : ∃ ds, drive (P : Int) xs = ds := ⟨_, rfl⟩
      have HDF := hid F.def'
      have HDS : Hid (driveSomeOf xs (P : Int) = (ds, true)) := hid (by rw [F.drv, hds])
      have HMO := hid F.most
      have HFA : Hid ((fails ds : Int) = d) := hid (by rw [← hds]; exact F.fail)
      have HOL : Hid (ds.length = n_l) := hid (by rw [← hds]; exact F.len)
      have HOB : Hid (∀ k, k < n_l → -1 ≤ nth ds k) := hid (by rw [← hds]; exact F.bd)
      have HXB := hid F.bx
      have HSW := hid F.swap
      have HXL := hid o_l.len
      have hdd := neq_self_int d
      clear F hds hg p0 p1
      go_wp2_with fail
      refine (defect_any _ _ _ _ _ _ o_l.has).mono ?_
      rw [HDF.out]
      rintro e v2 ⟨rfl, st⟩
      replace o_l := o_l.below st (Nat.le_refl _)
      replace hB := hB.trans (st.mono hB.size)
      clear st
      go_wp2_with fail
      refine (specDefect_any _ _ _ _ _ _ o_l.has).mono ?_
      rw [HDF.out]
      rintro e v3 ⟨rfl, st⟩
      replace o_l := o_l.below st (Nat.le_refl _)
      replace hB := hB.trans (st.mono hB.size)
      clear st
      go_wp2_with fail
      refine (driveSome_any _ _ _ _ _ _ o_l.has).mono ?_
      rw [HDS.out]
      rintro e v4 ⟨a_o, n_o, c_o, rfl, o_o, st⟩
      replace o_l := o_l.below st (Nat.le_refl _)
      replace hB := hB.trans (st.mono hB.size)
      clear st
      go_wp2_with fail
      refine (specDriveSome_any _ _ _ _ _ _ o_l.has).mono ?_
      rw [HDS.out]
      rintro e v5 ⟨a_r, n_r, c_r, rfl, o_r, st⟩
      replace o_l := o_l.below st (Nat.le_refl _)
      replace o_o := o_o.below st (Nat.le_refl _)
      replace hB := hB.trans (st.mono hB.size)
      clear st
      go_wp2_with fail
      refine (jSame_any _ _ _ _ _ _ _ _ _ o_o.has o_r.has).mono ?_
      rintro e v6 ⟨rfl, q⟩
      have st : Below v5.heap.size v5 v6 := q.below _
      replace o_l := o_l.below st (Nat.le_refl _)
      replace o_o := o_o.below st (Nat.le_refl _)
      replace o_r := o_r.below st (Nat.le_refl _)
      replace hB := hB.trans (st.mono hB.size)
      clear st
      clear q
      rw [same_self]
      clear o_r
      obtain rfl : n_o = n_l := by rw [← o_o.len, HOL.out]
      go_wp2_with fail
      go_loop [15, 16] (fun ms i => ∃ j : Nat, j ≤ P ∧ i = .int .i64 (j : Int) ∧ ms = .int .i64 (defTo xs P j)) (fun _ i => P - (intOf i).toNat)
      case atStart => exact ⟨0, by omega, rfl, rfl⟩
      case round =>
        obtain ⟨j, hj, rfl, rfl⟩ := hrel
        obtain ⟨m0, m1⟩ := defTo_bounds (xs := xs) (p := (P : Int)) (by rw [HXL.out]; exact h8) (by omega) (by omega) j (by omega)
        by_cases hlt : j < P
        · skip
          have HST : Hid (defTo xs P (j + 1) = max (defTo xs P j) (surplus xs P j)) := hid rfl
          generalize hM2 : defTo xs P (j + 1) = M2 at *
          generalize hM1 : defTo xs P j = M1 at *
          go_wp2_with fail
          go_loop [17, 107] (fun c i => ∃ k : Nat, k ≤ n_o ∧ i = .int .i64 k ∧ c = .int .i64 (from' (xs.take k) j : Int)) (fun _ i => n_o - (intOf i).toNat)
          case atStart => exact ⟨0, Nat.zero_le _, rfl, rfl⟩
          case round =>
            obtain ⟨k, hk, rfl, rfl⟩ := hrel
            by_cases hlt2 : k < n_o
            · skip
              obtain ⟨b1, off1, rfl, hb1, hc1⟩ := o_l.has.2.2.2.2 (by omega)
              have hck := hc1 k hlt2
              have HS := hid (from_succ (xs := xs) (k := k) (by rw [HXL.out]; exact hlt2) (j : Int))
              have hf8 := from_le (xs.take k) (j : Int)
              rw [List.length_take] at hf8
              clear hc1
              by_cases hxj : (j : Int) ≤ nth xs k
              · skip
                have HS2 := HS.out
                rw [if_pos hxj] at HS2
                have HS3 := hid HS2
                clear HS HS2
                go_wp2_with fail
                go_round
                case rel => exact ⟨k + 1, by omega, by go_num, congrArg (Value.int .i64) (by have := HS3.out; omega)⟩
                case measure => simp [intOf]; omega
              · skip
                have HS2 := HS.out
                rw [if_neg hxj] at HS2
                have HS3 := hid HS2
                clear HS HS2
                go_wp2_with fail
                go_round
                case rel => exact ⟨k + 1, by omega, by go_num, congrArg (Value.int .i64) (by have := HS3.out; omega)⟩
                case measure => simp [intOf]; omega
            · skip
              obtain rfl : k = n_o := by omega
              have hsx := from_below xs (j : Int)
              have hsu : surplus xs P j = (from' xs (j : Int) : Int) - ((P : Int) - (j : Int)) := by unfold surplus; omega
              rw [hsu] at HST
              have hf8 := from_le xs (j : Int)
              rw [HXL.out] at hf8
              rw [List.take_of_length_le (by rw [HXL.out]; exact Nat.le_refl _)]
              clear hsu hsx
              generalize from' xs (j : Int) = f at *
              by_cases hgt : M1 < (f : Int) - ((P : Int) - (j : Int))
              · skip
                have HT : Hid (M2 = (f : Int) - ((P : Int) - (j : Int))) := hid (by rw [HST.out]; omega)
                go_wp2_with fail
                go_round
                case rel => exact ⟨j + 1, by omega, by go_num, congrArg (Value.int .i64) (by rw [← hM2] at HT; have := HT.out; omega)⟩
                case measure => simp [intOf]; omega
              · skip
                have HT : Hid (M2 = M1) := hid (by rw [HST.out]; omega)
                go_wp2_with fail
                go_round
                case rel => exact ⟨j + 1, by omega, by go_num, congrArg (Value.int .i64) (by rw [← hM2] at HT; have := HT.out; omega)⟩
                case measure => simp [intOf]; omega
        · skip
          obtain rfl : j = P := by omega
          rw [← HMO.out] at m0 m1 ⊢
          go_wp2_with fail
          go_loop [20, 131] (fun c i => ∃ k : Nat, k ≤ n_o ∧ i = .int .i64 k ∧ c = .int .i64 (fails (ds.take k) : Int)) (fun _ i => n_o - (intOf i).toNat)
          case atStart => exact ⟨0, Nat.zero_le _, rfl, rfl⟩
          case round =>
            obtain ⟨k, hk, rfl, rfl⟩ := hrel
            by_cases hlt3 : k < n_o
            · skip
              obtain ⟨b1, off1, rfl, hb1, hc1⟩ := o_o.has.2.2.2.2 (by omega)
              have hck := hc1 k hlt3
              have hob := HOB.out k hlt3
              have HS := hid (fails_succ (ys := ds) (k := k) (by rw [HOL.out]; exact hlt3))
              have hf8 := fails_le (ds.take k)
              rw [List.length_take] at hf8
              clear hc1
              by_cases hxj : nth ds k = -1
              · skip
                have HS2 := HS.out
                rw [if_pos (by omega)] at HS2
                have HS3 := hid HS2
                clear HS HS2
                have hbe : (nth ds k == -1) = true := by simp [hxj]
                go_wp2_with fail
                go_round
                case rel => exact ⟨k + 1, by omega, by go_num, congrArg (Value.int .i64) (by have := HS3.out; omega)⟩
                case measure => simp [intOf]; omega
              · skip
                have HS2 := HS.out
                rw [if_neg (by omega)] at HS2
                have HS3 := hid HS2
                clear HS HS2
                have hbe : (nth ds k == -1) = false := by simp [hxj]
                go_wp2_with fail
                go_round
                case rel => exact ⟨k + 1, by omega, by go_num, congrArg (Value.int .i64) (by have := HS3.out; omega)⟩
                case measure => simp [intOf]; omega
            · skip
              obtain rfl : k = n_o := by omega
              rw [List.take_of_length_le (by rw [HOL.out]; exact Nat.le_refl _), HFA.out]
              clear o_o
              by_cases hn1 : 1 < k
              · skip
                go_wp2_with fail
                refine (numberOf_any _ _ _ w.heap.size _ (HM.out.below hB)).mono ?_
                rintro e _ ⟨z, rfl, z0, z1, rfl⟩
                obtain ⟨i, hi⟩ : ∃ i : Nat, z % ((k : Int) - 1) = (i : Int) := ⟨_, (Int.toNat_of_nonneg (Int.emod_nonneg _ (by omega))).symm⟩
                have hi2 : i + 1 < k := by have := Int.emod_lt_of_pos z (show 0 < (k : Int) - 1 by omega); omega
                have HOF := hid (HSW.out i hi2)
                go_wp2_with fail
                rw [hi]
                refine (jSwapped_any _ _ _ xs i _ o_l.has hi2).mono ?_
                rintro e v7 ⟨a_w, c_w, rfl, o_w, st⟩
                replace o_l := o_l.below st (Nat.le_refl _)
                replace hB := hB.trans (st.mono hB.size)
                clear st
                go_wp2_with fail
                refine (defect_any _ _ _ _ _ _ o_w.has).mono ?_
                rw [HOF.out]
                rintro e v8 ⟨rfl, st⟩
                replace o_l := o_l.below st (Nat.le_refl _)
                replace o_w := o_w.below st (Nat.le_refl _)
                replace hB := hB.trans (st.mono hB.size)
                clear st
                clear o_w o_l
                go_wp2_with fail
                refine (drawByDefect_any b m cap' _ (HM.out.grow hB (Nat.le_refl _))).mono ?_
                rintro e v9 ⟨nn, rfl, st⟩
                replace hB := hB.trans (st.mono hB.size)
                clear st
                by_cases hM : inB nn 1 5 = true
                · skip
                  obtain ⟨j, rfl⟩ : ∃ j : Nat, nn = (j : Int) := ⟨nn.toNat, by have := (inB_iff.1 hM).1; omega⟩
                  have hj1 : 1 ≤ j := by have := (inB_iff.1 hM).1; omega
                  have hj5 : j ≤ 5 := by have := (inB_iff.1 hM).2; omega
                  obtain ⟨f1, f2, f3, f4⟩ := def_sum j (by omega) hj1
                  obtain ⟨ds, hds⟩ : ∃ ds, byDefect j = ds := ⟨_, rfl⟩
                  rw [hds] at f1 f2 f3 f4
                  have HBD : Hid (byDefectOf (j : Int) = (ds, true)) := hid (by simp [byDefectOf, hM, hds])
                  have HCP : Hid (countOf (j : Int) = ((cnt j : Int), true)) := hid (by have : inB (j : Int) 0 8 = true := inB_iff.2 ⟨by omega, by omega⟩; simp [countOf, this])
                  obtain ⟨c0, hc0⟩ : ∃ c0, cnt j = c0 := ⟨_, rfl⟩
                  rw [hc0] at f2 HCP
                  have HSM := hid f1
                  have HC0 := hid f2
                  have HDL := hid f4
                  have HDB : Hid (∀ i, i < ds.length → 0 ≤ nth ds i ∧ nth ds i ≤ 5000) := hid (fun i hi => by have := List.all_eq_true.1 f3 _ (nth_mem hi); simp at this; omega)
                  have HPW := hid (fun k (hk : k < 6) => pow_def j (by omega) k hk)
                  have hcc := neq_self_int (c0 : Int)
                  have hpp := neq_self_int ((j ^ j : Nat) : Int)
                  clear f1 f2 f3 f4 hds hc0 hM
                  go_wp2_with fail
                  refine (byDefect_any _ _).mono ?_
                  rw [HBD.out]
                  rintro e v10 ⟨a_c, n_c, c_c, rfl, o_c, st⟩
                  replace hB := hB.trans (st.mono hB.size)
                  clear st
                  go_wp2_with fail
                  refine (specByDefect_any _ _).mono ?_
                  rw [HBD.out]
                  rintro e v11 ⟨a_x, n_x, c_x, rfl, o_x, st⟩
                  replace o_c := o_c.below st (Nat.le_refl _)
                  replace hB := hB.trans (st.mono hB.size)
                  clear st
                  go_wp2_with fail
                  refine (jSame_any _ _ _ _ _ _ _ _ _ o_c.has o_x.has).mono ?_
                  rintro e v12 ⟨rfl, q⟩
                  have st : Below v11.heap.size v11 v12 := q.below _
                  replace o_c := o_c.below st (Nat.le_refl _)
                  replace o_x := o_x.below st (Nat.le_refl _)
                  replace hB := hB.trans (st.mono hB.size)
                  clear st
                  clear q
                  rw [same_self]
                  clear o_x
                  obtain rfl : n_c = j := by rw [← o_c.len, HDL.out]
                  go_wp2_with fail
                  refine (countParking_any _ _).mono ?_
                  rw [HCP.out]
                  rintro e v13 ⟨rfl, st⟩
                  replace o_c := o_c.below st (Nat.le_refl _)
                  replace hB := hB.trans (st.mono hB.size)
                  clear st
                  go_wp2_with fail
                  go_loop [32, 33] (fun al i => ∃ k : Nat, k ≤ n_c ∧ i = .int .i64 (k : Int) ∧ al = .int .i64 ((n_c ^ k : Nat) : Int)) (fun _ i => n_c - (intOf i).toNat)
                  case atStart => exact ⟨0, by omega, rfl, rfl⟩
                  case round =>
                    obtain ⟨k, hk, rfl, rfl⟩ := hrel
                    by_cases hlt : k < n_c
                    · skip
                      have h3 := HPW.out (k + 1) (by omega)
                      have HS : Hid (((n_c ^ (k + 1) : Nat) : Int) = ((n_c ^ k : Nat) : Int) * (n_c : Int)) := hid (by rw [Nat.pow_succ, Int.natCast_mul])
                      have h4 : 0 ≤ ((n_c ^ k : Nat) : Int) * (n_c : Int) ∧ ((n_c ^ k : Nat) : Int) * (n_c : Int) ≤ 3125 := by rw [← HS.out]; omega
                      have hw1 : IntKind.i64.wrap (((n_c ^ k : Nat) : Int) * (n_c : Int)) = ((n_c ^ k : Nat) : Int) * (n_c : Int) := by rw [IntKind.wrap_i64]; omega
                      generalize hqq : n_c ^ (k + 1) = q at *
                      generalize n_c ^ k = r at *
                      go_wp2_with fail
                      go_round
                      case rel => exact ⟨k + 1, by omega, by go_num, congrArg (Value.int .i64) (by rw [hqq, HS.out])⟩
                      case measure => simp [intOf]; omega
                    · skip
                      obtain rfl : k = n_c := by omega
                      obtain ⟨b0, off, rfl, hbb, hc⟩ := o_c.has.2.2.2.2 (by omega)
                      have hck := hc 0 (by omega)
                      rw [HC0.out, Nat.add_zero] at hck
                      clear hc
                      generalize hpq : k ^ k = q at *
                      go_wp2_with fail
                      refine (jSumD_any _ _ _ _ _ o_c.has (by omega) (fun i hi => HDB.out i (by rw [HDL.out]; exact hi))).mono ?_
                      rw [HSM.out]
                      rintro e _ ⟨rfl, rfl⟩
                      clear hck
                      clear o_c
                      go_wp2_with fail
                      refine (drawNeeded_any b m cap' _ (HM.out.grow hB (Nat.le_refl _))).mono ?_
                      rintro e v14 ⟨a_e, n_e, c_e, es, rfl, o_e, hne9, st⟩
                      replace hB := hB.trans (st.mono hB.size)
                      clear st
                      by_cases he : (good es 12 && allPark 12 es) = true
                      · skip
                        obtain ⟨N, f1, f2, f3, f4, f5⟩ := need_facts he
                        have HNE := hid f1
                        have HNP := hid f4
                        have HNL := hid f5
                        have hnn := neq_self_int (N : Int)
                        clear f1 f4 f5 he
                        go_wp2_with fail
                        refine (needed_any _ _ _ _ _ o_e.has).mono ?_
                        rw [HNE.out]
                        rintro e v15 ⟨rfl, st⟩
                        replace o_e := o_e.below st (Nat.le_refl _)
                        replace hB := hB.trans (st.mono hB.size)
                        clear st
                        go_wp2_with fail
                        refine (specNeeded_any _ _ _ _ _ o_e.has).mono ?_
                        rw [HNE.out]
                        rintro e v16 ⟨rfl, st⟩
                        replace o_e := o_e.below st (Nat.le_refl _)
                        replace hB := hB.trans (st.mono hB.size)
                        clear st
                        go_wp2_with fail
                        refine (doAllPark_any _ _ _ _ _ _ o_e.has).mono ?_
                        rw [HNP.out]
                        rintro e v17 ⟨rfl, st⟩
                        replace o_e := o_e.below st (Nat.le_refl _)
                        replace hB := hB.trans (st.mono hB.size)
                        clear st
                        by_cases h1N : 1 < N
                        · skip
                          obtain ⟨ok, hok⟩ := HNL.out h1N
                          have HOK := hid hok
                          clear hok
                          have g1 : (1 : Int) < (N : Int) := by omega
                          go_wp2_with fail
                          refine (doAllPark_any _ _ _ _ _ _ o_e.has).mono ?_
                          rw [HOK.out]
                          rintro e v18 ⟨rfl, st⟩
                          replace o_e := o_e.below st (Nat.le_refl _)
                          replace hB := hB.trans (st.mono hB.size)
                          clear st
                          cases ok
                          · skip
                            clear o_e
                            go_wp2_with fail
                            go_ret
                            exact ⟨rfl, hB⟩
                          · skip
                            clear o_e
                            go_wp2_with fail
                            go_ret
                            exact ⟨rfl, hB⟩
                        · skip
                          obtain rfl : N = 1 := by omega
                          clear o_e
                          go_wp2_with fail
                          go_ret
                          exact ⟨rfl, hB⟩
                      · skip
                        have HNE := hid (need_no he)
                        clear he
                        go_wp2_with fail
                        refine (needed_any _ _ _ _ _ o_e.has).mono ?_
                        rw [HNE.out]
                        rintro e v15 ⟨rfl, st⟩
                        replace o_e := o_e.below st (Nat.le_refl _)
                        replace hB := hB.trans (st.mono hB.size)
                        clear st
                        go_wp2_with fail
                        refine (specNeeded_any _ _ _ _ _ o_e.has).mono ?_
                        rw [HNE.out]
                        rintro e v16 ⟨rfl, st⟩
                        replace o_e := o_e.below st (Nat.le_refl _)
                        replace hB := hB.trans (st.mono hB.size)
                        clear st
                        clear o_e
                        go_wp2_with fail
                        go_ret
                        exact ⟨rfl, hB⟩
                · skip
                  have HBD : Hid (byDefectOf nn = ([], false)) := hid (by simp [byDefectOf, hM])
                  clear hM
                  go_wp2_with fail
                  refine (byDefect_any _ _).mono ?_
                  rw [HBD.out]
                  rintro e v10 ⟨a_c, n_c, c_c, rfl, o_c, st⟩
                  replace hB := hB.trans (st.mono hB.size)
                  clear st
                  go_wp2_with fail
                  refine (specByDefect_any _ _).mono ?_
                  rw [HBD.out]
                  rintro e v11 ⟨a_x, n_x, c_x, rfl, o_x, st⟩
                  replace o_c := o_c.below st (Nat.le_refl _)
                  replace hB := hB.trans (st.mono hB.size)
                  clear st
                  go_wp2_with fail
                  refine (jSame_any _ _ _ _ _ _ _ _ _ o_c.has o_x.has).mono ?_
                  rintro e v12 ⟨rfl, q⟩
                  have st : Below v11.heap.size v11 v12 := q.below _
                  replace o_c := o_c.below st (Nat.le_refl _)
                  replace o_x := o_x.below st (Nat.le_refl _)
                  replace hB := hB.trans (st.mono hB.size)
                  clear st
                  clear q
                  rw [same_self]
                  clear o_x
                  clear o_c
                  go_wp2_with fail
                  refine (drawNeeded_any b m cap' _ (HM.out.grow hB (Nat.le_refl _))).mono ?_
                  rintro e v13 ⟨a_e, n_e, c_e, es, rfl, o_e, hne9, st⟩
                  replace hB := hB.trans (st.mono hB.size)
                  clear st
                  by_cases he : (good es 12 && allPark 12 es) = true
                  · skip
                    obtain ⟨N, f1, f2, f3, f4, f5⟩ := need_facts he
                    have HNE := hid f1
                    have HNP := hid f4
                    have HNL := hid f5
                    have hnn := neq_self_int (N : Int)
                    clear f1 f4 f5 he
                    go_wp2_with fail
                    refine (needed_any _ _ _ _ _ o_e.has).mono ?_
                    rw [HNE.out]
                    rintro e v14 ⟨rfl, st⟩
                    replace o_e := o_e.below st (Nat.le_refl _)
                    replace hB := hB.trans (st.mono hB.size)
                    clear st
                    go_wp2_with fail
                    refine (specNeeded_any _ _ _ _ _ o_e.has).mono ?_
                    rw [HNE.out]
                    rintro e v15 ⟨rfl, st⟩
                    replace o_e := o_e.below st (Nat.le_refl _)
                    replace hB := hB.trans (st.mono hB.size)
                    clear st
                    go_wp2_with fail
                    refine (doAllPark_any _ _ _ _ _ _ o_e.has).mono ?_
                    rw [HNP.out]
                    rintro e v16 ⟨rfl, st⟩
                    replace o_e := o_e.below st (Nat.le_refl _)
                    replace hB := hB.trans (st.mono hB.size)
                    clear st
                    by_cases h1N : 1 < N
                    · skip
                      obtain ⟨ok, hok⟩ := HNL.out h1N
                      have HOK := hid hok
                      clear hok
                      have g1 : (1 : Int) < (N : Int) := by omega
                      go_wp2_with fail
                      refine (doAllPark_any _ _ _ _ _ _ o_e.has).mono ?_
                      rw [HOK.out]
                      rintro e v17 ⟨rfl, st⟩
                      replace o_e := o_e.below st (Nat.le_refl _)
                      replace hB := hB.trans (st.mono hB.size)
                      clear st
                      cases ok
                      · skip
                        clear o_e
                        go_wp2_with fail
                        go_ret
                        exact ⟨rfl, hB⟩
                      · skip
                        clear o_e
                        go_wp2_with fail
                        go_ret
                        exact ⟨rfl, hB⟩
                    · skip
                      obtain rfl : N = 1 := by omega
                      clear o_e
                      go_wp2_with fail
                      go_ret
                      exact ⟨rfl, hB⟩
                  · skip
                    have HNE := hid (need_no he)
                    clear he
                    go_wp2_with fail
                    refine (needed_any _ _ _ _ _ o_e.has).mono ?_
                    rw [HNE.out]
                    rintro e v14 ⟨rfl, st⟩
                    replace o_e := o_e.below st (Nat.le_refl _)
                    replace hB := hB.trans (st.mono hB.size)
                    clear st
                    go_wp2_with fail
                    refine (specNeeded_any _ _ _ _ _ o_e.has).mono ?_
                    rw [HNE.out]
                    rintro e v15 ⟨rfl, st⟩
                    replace o_e := o_e.below st (Nat.le_refl _)
                    replace hB := hB.trans (st.mono hB.size)
                    clear st
                    clear o_e
                    go_wp2_with fail
                    go_ret
                    exact ⟨rfl, hB⟩
              · skip
                clear o_l
                go_wp2_with fail
                refine (drawByDefect_any b m cap' _ (HM.out.grow hB (Nat.le_refl _))).mono ?_
                rintro e v7 ⟨nn, rfl, st⟩
                replace hB := hB.trans (st.mono hB.size)
                clear st
                by_cases hM : inB nn 1 5 = true
                · skip
                  obtain ⟨j, rfl⟩ : ∃ j : Nat, nn = (j : Int) := ⟨nn.toNat, by have := (inB_iff.1 hM).1; omega⟩
                  have hj1 : 1 ≤ j := by have := (inB_iff.1 hM).1; omega
                  have hj5 : j ≤ 5 := by have := (inB_iff.1 hM).2; omega
                  obtain ⟨f1, f2, f3, f4⟩ := def_sum j (by omega) hj1
                  obtain ⟨ds, hds⟩ : ∃ ds, byDefect j = ds := ⟨_, rfl⟩
                  rw [hds] at f1 f2 f3 f4
                  have HBD : Hid (byDefectOf (j : Int) = (ds, true)) := hid (by simp [byDefectOf, hM, hds])
                  have HCP : Hid (countOf (j : Int) = ((cnt j : Int), true)) := hid (by have : inB (j : Int) 0 8 = true := inB_iff.2 ⟨by omega, by omega⟩; simp [countOf, this])
                  obtain ⟨c0, hc0⟩ : ∃ c0, cnt j = c0 := ⟨_, rfl⟩
                  rw [hc0] at f2 HCP
                  have HSM := hid f1
                  have HC0 := hid f2
                  have HDL := hid f4
                  have HDB : Hid (∀ i, i < ds.length → 0 ≤ nth ds i ∧ nth ds i ≤ 5000) := hid (fun i hi => by have := List.all_eq_true.1 f3 _ (nth_mem hi); simp at this; omega)
                  have HPW := hid (fun k (hk : k < 6) => pow_def j (by omega) k hk)
                  have hcc := neq_self_int (c0 : Int)
                  have hpp := neq_self_int ((j ^ j : Nat) : Int)
                  clear f1 f2 f3 f4 hds hc0 hM
                  go_wp2_with fail
                  refine (byDefect_any _ _).mono ?_
                  rw [HBD.out]
                  rintro e v8 ⟨a_c, n_c, c_c, rfl, o_c, st⟩
                  replace hB := hB.trans (st.mono hB.size)
                  clear st
                  go_wp2_with fail
                  refine (specByDefect_any _ _).mono ?_
                  rw [HBD.out]
                  rintro e v9 ⟨a_x, n_x, c_x, rfl, o_x, st⟩
                  replace o_c := o_c.below st (Nat.le_refl _)
                  replace hB := hB.trans (st.mono hB.size)
                  clear st
                  go_wp2_with fail
                  refine (jSame_any _ _ _ _ _ _ _ _ _ o_c.has o_x.has).mono ?_
                  rintro e v10 ⟨rfl, q⟩
                  have st : Below v9.heap.size v9 v10 := q.below _
                  replace o_c := o_c.below st (Nat.le_refl _)
                  replace o_x := o_x.below st (Nat.le_refl _)
                  replace hB := hB.trans (st.mono hB.size)
                  clear st
                  clear q
                  rw [same_self]
                  clear o_x
                  obtain rfl : n_c = j := by rw [← o_c.len, HDL.out]
                  go_wp2_with fail
                  refine (countParking_any _ _).mono ?_
                  rw [HCP.out]
                  rintro e v11 ⟨rfl, st⟩
                  replace o_c := o_c.below st (Nat.le_refl _)
                  replace hB := hB.trans (st.mono hB.size)
                  clear st
                  go_wp2_with fail
                  go_loop [32, 33] (fun al i => ∃ k : Nat, k ≤ n_c ∧ i = .int .i64 (k : Int) ∧ al = .int .i64 ((n_c ^ k : Nat) : Int)) (fun _ i => n_c - (intOf i).toNat)
                  case atStart => exact ⟨0, by omega, rfl, rfl⟩
                  case round =>
                    obtain ⟨k, hk, rfl, rfl⟩ := hrel
                    by_cases hlt : k < n_c
                    · skip
                      have h3 := HPW.out (k + 1) (by omega)
                      have HS : Hid (((n_c ^ (k + 1) : Nat) : Int) = ((n_c ^ k : Nat) : Int) * (n_c : Int)) := hid (by rw [Nat.pow_succ, Int.natCast_mul])
                      have h4 : 0 ≤ ((n_c ^ k : Nat) : Int) * (n_c : Int) ∧ ((n_c ^ k : Nat) : Int) * (n_c : Int) ≤ 3125 := by rw [← HS.out]; omega
                      have hw1 : IntKind.i64.wrap (((n_c ^ k : Nat) : Int) * (n_c : Int)) = ((n_c ^ k : Nat) : Int) * (n_c : Int) := by rw [IntKind.wrap_i64]; omega
                      generalize hqq : n_c ^ (k + 1) = q at *
                      generalize n_c ^ k = r at *
                      go_wp2_with fail
                      go_round
                      case rel => exact ⟨k + 1, by omega, by go_num, congrArg (Value.int .i64) (by rw [hqq, HS.out])⟩
                      case measure => simp [intOf]; omega
                    · skip
                      obtain rfl : k = n_c := by omega
                      obtain ⟨b0, off, rfl, hbb, hc⟩ := o_c.has.2.2.2.2 (by omega)
                      have hck := hc 0 (by omega)
                      rw [HC0.out, Nat.add_zero] at hck
                      clear hc
                      generalize hpq : k ^ k = q at *
                      go_wp2_with fail
                      refine (jSumD_any _ _ _ _ _ o_c.has (by omega) (fun i hi => HDB.out i (by rw [HDL.out]; exact hi))).mono ?_
                      rw [HSM.out]
                      rintro e _ ⟨rfl, rfl⟩
                      clear hck
                      clear o_c
                      go_wp2_with fail
                      refine (drawNeeded_any b m cap' _ (HM.out.grow hB (Nat.le_refl _))).mono ?_
                      rintro e v12 ⟨a_e, n_e, c_e, es, rfl, o_e, hne9, st⟩
                      replace hB := hB.trans (st.mono hB.size)
                      clear st
                      by_cases he : (good es 12 && allPark 12 es) = true
                      · skip
                        obtain ⟨N, f1, f2, f3, f4, f5⟩ := need_facts he
                        have HNE := hid f1
                        have HNP := hid f4
                        have HNL := hid f5
                        have hnn := neq_self_int (N : Int)
                        clear f1 f4 f5 he
                        go_wp2_with fail
                        refine (needed_any _ _ _ _ _ o_e.has).mono ?_
                        rw [HNE.out]
                        rintro e v13 ⟨rfl, st⟩
                        replace o_e := o_e.below st (Nat.le_refl _)
                        replace hB := hB.trans (st.mono hB.size)
                        clear st
                        go_wp2_with fail
                        refine (specNeeded_any _ _ _ _ _ o_e.has).mono ?_
                        rw [HNE.out]
                        rintro e v14 ⟨rfl, st⟩
                        replace o_e := o_e.below st (Nat.le_refl _)
                        replace hB := hB.trans (st.mono hB.size)
                        clear st
                        go_wp2_with fail
                        refine (doAllPark_any _ _ _ _ _ _ o_e.has).mono ?_
                        rw [HNP.out]
                        rintro e v15 ⟨rfl, st⟩
                        replace o_e := o_e.below st (Nat.le_refl _)
                        replace hB := hB.trans (st.mono hB.size)
                        clear st
                        by_cases h1N : 1 < N
                        · skip
                          obtain ⟨ok, hok⟩ := HNL.out h1N
                          have HOK := hid hok
                          clear hok
                          have g1 : (1 : Int) < (N : Int) := by omega
                          go_wp2_with fail
                          refine (doAllPark_any _ _ _ _ _ _ o_e.has).mono ?_
                          rw [HOK.out]
                          rintro e v16 ⟨rfl, st⟩
                          replace o_e := o_e.below st (Nat.le_refl _)
                          replace hB := hB.trans (st.mono hB.size)
                          clear st
                          cases ok
                          · skip
                            clear o_e
                            go_wp2_with fail
                            go_ret
                            exact ⟨rfl, hB⟩
                          · skip
                            clear o_e
                            go_wp2_with fail
                            go_ret
                            exact ⟨rfl, hB⟩
                        · skip
                          obtain rfl : N = 1 := by omega
                          clear o_e
                          go_wp2_with fail
                          go_ret
                          exact ⟨rfl, hB⟩
                      · skip
                        have HNE := hid (need_no he)
                        clear he
                        go_wp2_with fail
                        refine (needed_any _ _ _ _ _ o_e.has).mono ?_
                        rw [HNE.out]
                        rintro e v13 ⟨rfl, st⟩
                        replace o_e := o_e.below st (Nat.le_refl _)
                        replace hB := hB.trans (st.mono hB.size)
                        clear st
                        go_wp2_with fail
                        refine (specNeeded_any _ _ _ _ _ o_e.has).mono ?_
                        rw [HNE.out]
                        rintro e v14 ⟨rfl, st⟩
                        replace o_e := o_e.below st (Nat.le_refl _)
                        replace hB := hB.trans (st.mono hB.size)
                        clear st
                        clear o_e
                        go_wp2_with fail
                        go_ret
                        exact ⟨rfl, hB⟩
                · skip
                  have HBD : Hid (byDefectOf nn = ([], false)) := hid (by simp [byDefectOf, hM])
                  clear hM
                  go_wp2_with fail
                  refine (byDefect_any _ _).mono ?_
                  rw [HBD.out]
                  rintro e v8 ⟨a_c, n_c, c_c, rfl, o_c, st⟩
                  replace hB := hB.trans (st.mono hB.size)
                  clear st
                  go_wp2_with fail
                  refine (specByDefect_any _ _).mono ?_
                  rw [HBD.out]
                  rintro e v9 ⟨a_x, n_x, c_x, rfl, o_x, st⟩
                  replace o_c := o_c.below st (Nat.le_refl _)
                  replace hB := hB.trans (st.mono hB.size)
                  clear st
                  go_wp2_with fail
                  refine (jSame_any _ _ _ _ _ _ _ _ _ o_c.has o_x.has).mono ?_
                  rintro e v10 ⟨rfl, q⟩
                  have st : Below v9.heap.size v9 v10 := q.below _
                  replace o_c := o_c.below st (Nat.le_refl _)
                  replace o_x := o_x.below st (Nat.le_refl _)
                  replace hB := hB.trans (st.mono hB.size)
                  clear st
                  clear q
                  rw [same_self]
                  clear o_x
                  clear o_c
                  go_wp2_with fail
                  refine (drawNeeded_any b m cap' _ (HM.out.grow hB (Nat.le_refl _))).mono ?_
                  rintro e v11 ⟨a_e, n_e, c_e, es, rfl, o_e, hne9, st⟩
                  replace hB := hB.trans (st.mono hB.size)
                  clear st
                  by_cases he : (good es 12 && allPark 12 es) = true
                  · skip
                    obtain ⟨N, f1, f2, f3, f4, f5⟩ := need_facts he
                    have HNE := hid f1
                    have HNP := hid f4
                    have HNL := hid f5
                    have hnn := neq_self_int (N : Int)
                    clear f1 f4 f5 he
                    go_wp2_with fail
                    refine (needed_any _ _ _ _ _ o_e.has).mono ?_
                    rw [HNE.out]
                    rintro e v12 ⟨rfl, st⟩
                    replace o_e := o_e.below st (Nat.le_refl _)
                    replace hB := hB.trans (st.mono hB.size)
                    clear st
                    go_wp2_with fail
                    refine (specNeeded_any _ _ _ _ _ o_e.has).mono ?_
                    rw [HNE.out]
                    rintro e v13 ⟨rfl, st⟩
                    replace o_e := o_e.below st (Nat.le_refl _)
                    replace hB := hB.trans (st.mono hB.size)
                    clear st
                    go_wp2_with fail
                    refine (doAllPark_any _ _ _ _ _ _ o_e.has).mono ?_
                    rw [HNP.out]
                    rintro e v14 ⟨rfl, st⟩
                    replace o_e := o_e.below st (Nat.le_refl _)
                    replace hB := hB.trans (st.mono hB.size)
                    clear st
                    by_cases h1N : 1 < N
                    · skip
                      obtain ⟨ok, hok⟩ := HNL.out h1N
                      have HOK := hid hok
                      clear hok
                      have g1 : (1 : Int) < (N : Int) := by omega
                      go_wp2_with fail
                      refine (doAllPark_any _ _ _ _ _ _ o_e.has).mono ?_
                      rw [HOK.out]
                      rintro e v15 ⟨rfl, st⟩
                      replace o_e := o_e.below st (Nat.le_refl _)
                      replace hB := hB.trans (st.mono hB.size)
                      clear st
                      cases ok
                      · skip
                        clear o_e
                        go_wp2_with fail
                        go_ret
                        exact ⟨rfl, hB⟩
                      · skip
                        clear o_e
                        go_wp2_with fail
                        go_ret
                        exact ⟨rfl, hB⟩
                    · skip
                      obtain rfl : N = 1 := by omega
                      clear o_e
                      go_wp2_with fail
                      go_ret
                      exact ⟨rfl, hB⟩
                  · skip
                    have HNE := hid (need_no he)
                    clear he
                    go_wp2_with fail
                    refine (needed_any _ _ _ _ _ o_e.has).mono ?_
                    rw [HNE.out]
                    rintro e v12 ⟨rfl, st⟩
                    replace o_e := o_e.below st (Nat.le_refl _)
                    replace hB := hB.trans (st.mono hB.size)
                    clear st
                    go_wp2_with fail
                    refine (specNeeded_any _ _ _ _ _ o_e.has).mono ?_
                    rw [HNE.out]
                    rintro e v13 ⟨rfl, st⟩
                    replace o_e := o_e.below st (Nat.le_refl _)
                    replace hB := hB.trans (st.mono hB.size)
                    clear st
                    clear o_e
                    go_wp2_with fail
                    go_ret
                    exact ⟨rfl, hB⟩
    · skip
      obtain ⟨f1, f2⟩ := def_no hg
      have HDF := hid f1
      have HDS := hid f2
      clear f1 f2 hg
      go_wp2_with fail
      refine (defect_any _ _ _ _ _ _ o_l.has).mono ?_
      rw [HDF.out]
      rintro e v2 ⟨rfl, st⟩
      replace o_l := o_l.below st (Nat.le_refl _)
      replace hB := hB.trans (st.mono hB.size)
      clear st
      go_wp2_with fail
      refine (specDefect_any _ _ _ _ _ _ o_l.has).mono ?_
      rw [HDF.out]
      rintro e v3 ⟨rfl, st⟩
      replace o_l := o_l.below st (Nat.le_refl _)
      replace hB := hB.trans (st.mono hB.size)
      clear st
      go_wp2_with fail
      refine (driveSome_any _ _ _ _ _ _ o_l.has).mono ?_
      rw [HDS.out]
      rintro e v4 ⟨a_o, n_o, c_o, rfl, o_o, st⟩
      replace o_l := o_l.below st (Nat.le_refl _)
      replace hB := hB.trans (st.mono hB.size)
      clear st
      go_wp2_with fail
      refine (specDriveSome_any _ _ _ _ _ _ o_l.has).mono ?_
      rw [HDS.out]
      rintro e v5 ⟨a_r, n_r, c_r, rfl, o_r, st⟩
      replace o_l := o_l.below st (Nat.le_refl _)
      replace o_o := o_o.below st (Nat.le_refl _)
      replace hB := hB.trans (st.mono hB.size)
      clear st
      go_wp2_with fail
      refine (jSame_any _ _ _ _ _ _ _ _ _ o_o.has o_r.has).mono ?_
      rintro e v6 ⟨rfl, q⟩
      have st : Below v5.heap.size v5 v6 := q.below _
      replace o_l := o_l.below st (Nat.le_refl _)
      replace o_o := o_o.below st (Nat.le_refl _)
      replace o_r := o_r.below st (Nat.le_refl _)
      replace hB := hB.trans (st.mono hB.size)
      clear st
      clear q
      rw [same_self]
      clear o_r
      clear o_o o_l
      go_wp2_with fail
      refine (drawByDefect_any b m cap' _ (HM.out.grow hB (Nat.le_refl _))).mono ?_
      rintro e v7 ⟨nn, rfl, st⟩
      replace hB := hB.trans (st.mono hB.size)
      clear st
      by_cases hM : inB nn 1 5 = true
      · skip
        obtain ⟨j, rfl⟩ : ∃ j : Nat, nn = (j : Int) := ⟨nn.toNat, by have := (inB_iff.1 hM).1; omega⟩
        have hj1 : 1 ≤ j := by have := (inB_iff.1 hM).1; omega
        have hj5 : j ≤ 5 := by have := (inB_iff.1 hM).2; omega
        obtain ⟨f1, f2, f3, f4⟩ := def_sum j (by omega) hj1
        obtain ⟨ds, hds⟩ : ∃ ds, byDefect j = ds := ⟨_, rfl⟩
        rw [hds] at f1 f2 f3 f4
        have HBD : Hid (byDefectOf (j : Int) = (ds, true)) := hid (by simp [byDefectOf, hM, hds])
        have HCP : Hid (countOf (j : Int) = ((cnt j : Int), true)) := hid (by have : inB (j : Int) 0 8 = true := inB_iff.2 ⟨by omega, by omega⟩; simp [countOf, this])
        obtain ⟨c0, hc0⟩ : ∃ c0, cnt j = c0 := ⟨_, rfl⟩
        rw [hc0] at f2 HCP
        have HSM := hid f1
        have HC0 := hid f2
        have HDL := hid f4
        have HDB : Hid (∀ i, i < ds.length → 0 ≤ nth ds i ∧ nth ds i ≤ 5000) := hid (fun i hi => by have := List.all_eq_true.1 f3 _ (nth_mem hi); simp at this; omega)
        have HPW := hid (fun k (hk : k < 6) => pow_def j (by omega) k hk)
        have hcc := neq_self_int (c0 : Int)
        have hpp := neq_self_int ((j ^ j : Nat) : Int)
        clear f1 f2 f3 f4 hds hc0 hM
        go_wp2_with fail
        refine (byDefect_any _ _).mono ?_
        rw [HBD.out]
        rintro e v8 ⟨a_c, n_c, c_c, rfl, o_c, st⟩
        replace hB := hB.trans (st.mono hB.size)
        clear st
        go_wp2_with fail
        refine (specByDefect_any _ _).mono ?_
        rw [HBD.out]
        rintro e v9 ⟨a_x, n_x, c_x, rfl, o_x, st⟩
        replace o_c := o_c.below st (Nat.le_refl _)
        replace hB := hB.trans (st.mono hB.size)
        clear st
        go_wp2_with fail
        refine (jSame_any _ _ _ _ _ _ _ _ _ o_c.has o_x.has).mono ?_
        rintro e v10 ⟨rfl, q⟩
        have st : Below v9.heap.size v9 v10 := q.below _
        replace o_c := o_c.below st (Nat.le_refl _)
        replace o_x := o_x.below st (Nat.le_refl _)
        replace hB := hB.trans (st.mono hB.size)
        clear st
        clear q
        rw [same_self]
        clear o_x
        obtain rfl : n_c = j := by rw [← o_c.len, HDL.out]
        go_wp2_with fail
        refine (countParking_any _ _).mono ?_
        rw [HCP.out]
        rintro e v11 ⟨rfl, st⟩
        replace o_c := o_c.below st (Nat.le_refl _)
        replace hB := hB.trans (st.mono hB.size)
        clear st
        go_wp2_with fail
        go_loop [32, 33] (fun al i => ∃ k : Nat, k ≤ n_c ∧ i = .int .i64 (k : Int) ∧ al = .int .i64 ((n_c ^ k : Nat) : Int)) (fun _ i => n_c - (intOf i).toNat)
        case atStart => exact ⟨0, by omega, rfl, rfl⟩
        case round =>
          obtain ⟨k, hk, rfl, rfl⟩ := hrel
          by_cases hlt : k < n_c
          · skip
            have h3 := HPW.out (k + 1) (by omega)
            have HS : Hid (((n_c ^ (k + 1) : Nat) : Int) = ((n_c ^ k : Nat) : Int) * (n_c : Int)) := hid (by rw [Nat.pow_succ, Int.natCast_mul])
            have h4 : 0 ≤ ((n_c ^ k : Nat) : Int) * (n_c : Int) ∧ ((n_c ^ k : Nat) : Int) * (n_c : Int) ≤ 3125 := by rw [← HS.out]; omega
            have hw1 : IntKind.i64.wrap (((n_c ^ k : Nat) : Int) * (n_c : Int)) = ((n_c ^ k : Nat) : Int) * (n_c : Int) := by rw [IntKind.wrap_i64]; omega
            generalize hqq : n_c ^ (k + 1) = q at *
            generalize n_c ^ k = r at *
            go_wp2_with fail
            go_round
            case rel => exact ⟨k + 1, by omega, by go_num, congrArg (Value.int .i64) (by rw [hqq, HS.out])⟩
            case measure => simp [intOf]; omega
          · skip
            obtain rfl : k = n_c := by omega
            obtain ⟨b0, off, rfl, hbb, hc⟩ := o_c.has.2.2.2.2 (by omega)
            have hck := hc 0 (by omega)
            rw [HC0.out, Nat.add_zero] at hck
            clear hc
            generalize hpq : k ^ k = q at *
            go_wp2_with fail
            refine (jSumD_any _ _ _ _ _ o_c.has (by omega) (fun i hi => HDB.out i (by rw [HDL.out]; exact hi))).mono ?_
            rw [HSM.out]
            rintro e _ ⟨rfl, rfl⟩
            clear hck
            clear o_c
            go_wp2_with fail
            refine (drawNeeded_any b m cap' _ (HM.out.grow hB (Nat.le_refl _))).mono ?_
            rintro e v12 ⟨a_e, n_e, c_e, es, rfl, o_e, hne9, st⟩
            replace hB := hB.trans (st.mono hB.size)
            clear st
            by_cases he : (good es 12 && allPark 12 es) = true
            · skip
              obtain ⟨N, f1, f2, f3, f4, f5⟩ := need_facts he
              have HNE := hid f1
              have HNP := hid f4
              have HNL := hid f5
              have hnn := neq_self_int (N : Int)
              clear f1 f4 f5 he
              go_wp2_with fail
              refine (needed_any _ _ _ _ _ o_e.has).mono ?_
              rw [HNE.out]
              rintro e v13 ⟨rfl, st⟩
              replace o_e := o_e.below st (Nat.le_refl _)
              replace hB := hB.trans (st.mono hB.size)
              clear st
              go_wp2_with fail
              refine (specNeeded_any _ _ _ _ _ o_e.has).mono ?_
              rw [HNE.out]
              rintro e v14 ⟨rfl, st⟩
              replace o_e := o_e.below st (Nat.le_refl _)
              replace hB := hB.trans (st.mono hB.size)
              clear st
              go_wp2_with fail
              refine (doAllPark_any _ _ _ _ _ _ o_e.has).mono ?_
              rw [HNP.out]
              rintro e v15 ⟨rfl, st⟩
              replace o_e := o_e.below st (Nat.le_refl _)
              replace hB := hB.trans (st.mono hB.size)
              clear st
              by_cases h1N : 1 < N
              · skip
                obtain ⟨ok, hok⟩ := HNL.out h1N
                have HOK := hid hok
                clear hok
                have g1 : (1 : Int) < (N : Int) := by omega
                go_wp2_with fail
                refine (doAllPark_any _ _ _ _ _ _ o_e.has).mono ?_
                rw [HOK.out]
                rintro e v16 ⟨rfl, st⟩
                replace o_e := o_e.below st (Nat.le_refl _)
                replace hB := hB.trans (st.mono hB.size)
                clear st
                cases ok
                · skip
                  clear o_e
                  go_wp2_with fail
                  go_ret
                  exact ⟨rfl, hB⟩
                · skip
                  clear o_e
                  go_wp2_with fail
                  go_ret
                  exact ⟨rfl, hB⟩
              · skip
                obtain rfl : N = 1 := by omega
                clear o_e
                go_wp2_with fail
                go_ret
                exact ⟨rfl, hB⟩
            · skip
              have HNE := hid (need_no he)
              clear he
              go_wp2_with fail
              refine (needed_any _ _ _ _ _ o_e.has).mono ?_
              rw [HNE.out]
              rintro e v13 ⟨rfl, st⟩
              replace o_e := o_e.below st (Nat.le_refl _)
              replace hB := hB.trans (st.mono hB.size)
              clear st
              go_wp2_with fail
              refine (specNeeded_any _ _ _ _ _ o_e.has).mono ?_
              rw [HNE.out]
              rintro e v14 ⟨rfl, st⟩
              replace o_e := o_e.below st (Nat.le_refl _)
              replace hB := hB.trans (st.mono hB.size)
              clear st
              clear o_e
              go_wp2_with fail
              go_ret
              exact ⟨rfl, hB⟩
      · skip
        have HBD : Hid (byDefectOf nn = ([], false)) := hid (by simp [byDefectOf, hM])
        clear hM
        go_wp2_with fail
        refine (byDefect_any _ _).mono ?_
        rw [HBD.out]
        rintro e v8 ⟨a_c, n_c, c_c, rfl, o_c, st⟩
        replace hB := hB.trans (st.mono hB.size)
        clear st
        go_wp2_with fail
        refine (specByDefect_any _ _).mono ?_
        rw [HBD.out]
        rintro e v9 ⟨a_x, n_x, c_x, rfl, o_x, st⟩
        replace o_c := o_c.below st (Nat.le_refl _)
        replace hB := hB.trans (st.mono hB.size)
        clear st
        go_wp2_with fail
        refine (jSame_any _ _ _ _ _ _ _ _ _ o_c.has o_x.has).mono ?_
        rintro e v10 ⟨rfl, q⟩
        have st : Below v9.heap.size v9 v10 := q.below _
        replace o_c := o_c.below st (Nat.le_refl _)
        replace o_x := o_x.below st (Nat.le_refl _)
        replace hB := hB.trans (st.mono hB.size)
        clear st
        clear q
        rw [same_self]
        clear o_x
        clear o_c
        go_wp2_with fail
        refine (drawNeeded_any b m cap' _ (HM.out.grow hB (Nat.le_refl _))).mono ?_
        rintro e v11 ⟨a_e, n_e, c_e, es, rfl, o_e, hne9, st⟩
        replace hB := hB.trans (st.mono hB.size)
        clear st
        by_cases he : (good es 12 && allPark 12 es) = true
        · skip
          obtain ⟨N, f1, f2, f3, f4, f5⟩ := need_facts he
          have HNE := hid f1
          have HNP := hid f4
          have HNL := hid f5
          have hnn := neq_self_int (N : Int)
          clear f1 f4 f5 he
          go_wp2_with fail
          refine (needed_any _ _ _ _ _ o_e.has).mono ?_
          rw [HNE.out]
          rintro e v12 ⟨rfl, st⟩
          replace o_e := o_e.below st (Nat.le_refl _)
          replace hB := hB.trans (st.mono hB.size)
          clear st
          go_wp2_with fail
          refine (specNeeded_any _ _ _ _ _ o_e.has).mono ?_
          rw [HNE.out]
          rintro e v13 ⟨rfl, st⟩
          replace o_e := o_e.below st (Nat.le_refl _)
          replace hB := hB.trans (st.mono hB.size)
          clear st
          go_wp2_with fail
          refine (doAllPark_any _ _ _ _ _ _ o_e.has).mono ?_
          rw [HNP.out]
          rintro e v14 ⟨rfl, st⟩
          replace o_e := o_e.below st (Nat.le_refl _)
          replace hB := hB.trans (st.mono hB.size)
          clear st
          by_cases h1N : 1 < N
          · skip
            obtain ⟨ok, hok⟩ := HNL.out h1N
            have HOK := hid hok
            clear hok
            have g1 : (1 : Int) < (N : Int) := by omega
            go_wp2_with fail
            refine (doAllPark_any _ _ _ _ _ _ o_e.has).mono ?_
            rw [HOK.out]
            rintro e v15 ⟨rfl, st⟩
            replace o_e := o_e.below st (Nat.le_refl _)
            replace hB := hB.trans (st.mono hB.size)
            clear st
            cases ok
            · skip
              clear o_e
              go_wp2_with fail
              go_ret
              exact ⟨rfl, hB⟩
            · skip
              clear o_e
              go_wp2_with fail
              go_ret
              exact ⟨rfl, hB⟩
          · skip
            obtain rfl : N = 1 := by omega
            clear o_e
            go_wp2_with fail
            go_ret
            exact ⟨rfl, hB⟩
        · skip
          have HNE := hid (need_no he)
          clear he
          go_wp2_with fail
          refine (needed_any _ _ _ _ _ o_e.has).mono ?_
          rw [HNE.out]
          rintro e v12 ⟨rfl, st⟩
          replace o_e := o_e.below st (Nat.le_refl _)
          replace hB := hB.trans (st.mono hB.size)
          clear st
          go_wp2_with fail
          refine (specNeeded_any _ _ _ _ _ o_e.has).mono ?_
          rw [HNE.out]
          rintro e v13 ⟨rfl, st⟩
          replace o_e := o_e.below st (Nat.le_refl _)
          replace hB := hB.trans (st.mono hB.size)
          clear st
          clear o_e
          go_wp2_with fail
          go_ret
          exact ⟨rfl, hB⟩
end Go.Proofs.Ythlmfbcnaciafaa

