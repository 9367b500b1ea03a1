/- Chapter 1's draws: favourites from the cursor. -/
import Derived.Test.YtnddplldkgphnacCur
import Derived.Test.YtnddplldkgphnacSpecS
import Derived.Deep.LoopGhost
namespace Go.Proofs.Ytnddplldkgphnac
open Go.RowKit

/-- The cursor stands, and below its block all is as it was. -/
structure At (w0 w : World) (g t : Nat) : Prop where
  cur : Cur w g t
  below : Below g w0 w

theorem At.pick {w0 w w' : World} {g t t' : Nat} (h : At w0 w g t) (hc : Cur w' g t') (hg : w.grownBy w' (some g)) : At w0 w' g t' :=
  ⟨hc, h.below.trans (below_grown hg (Nat.le_of_lt h.cur.lt) (by intro k hk; cases hk; exact Nat.le_refl _))⟩
theorem At.later {w0 w w' : World} {g t K : Nat} (h : At w0 w g t) (hb : Below K w w') (hK : g < K) : At w0 w' g t :=
  ⟨h.cur.below hb hK, h.below.trans (hb.mono (Nat.le_of_lt hK))⟩
theorem At.size {w0 w : World} {g t : Nat} (h : At w0 w g t) : w0.heap.size ≤ w.heap.size := h.below.size

theorem has_lit (w : World) (xs : List Int) (hx : xs.length ≤ 100) : Has (w.alloc (.cells (xs.map (Value.int .i64)).toArray 3)) (some ⟨w.heap.size, 0, none⟩) xs.length xs.length xs := by
  have := World.ownsRow_lit (base := w.heap.size) (e := 3) (size := 1) w (xs.map (Value.int .i64)).toArray xs.length (Nat.le_refl _) (by unfold maxLen; omega) (by simp)
  exact Own.has (B := w.heap.size) ⟨by simpa using this, rfl, by omega⟩
theorem has_lit3 (w : World) (a b c : Int) : Has (w.alloc (.cells #[.int .i64 a, .int .i64 b, .int .i64 c] 3)) (some ⟨w.heap.size, 0, none⟩) 3 3 [a, b, c] := has_lit w [a, b, c] (by simp)
theorem has_lit4 (w : World) (a b c d : Int) : Has (w.alloc (.cells #[.int .i64 a, .int .i64 b, .int .i64 c, .int .i64 d] 3)) (some ⟨w.heap.size, 0, none⟩) 4 4 [a, b, c, d] := has_lit w [a, b, c, d] (by simp)
theorem has_lit6 (w : World) (a b c d e f : Int) : Has (w.alloc (.cells #[.int .i64 a, .int .i64 b, .int .i64 c, .int .i64 d, .int .i64 e, .int .i64 f] 3)) (some ⟨w.heap.size, 0, none⟩) 6 6 [a, b, c, d, e, f] := has_lit w [a, b, c, d, e, f] (by simp)
theorem alloc_below (w : World) (o : Obj) : Below w.heap.size w (w.alloc o) := (Below.refl _ _).alloc (Nat.le_refl _) _
theorem lit_ne {w : World} {g t : Nat} (h : Cur w g t) : ∀ p, (some ⟨w.heap.size, 0, none⟩ : Option Addr) = some p → p.block ≠ g := by
  intro p hp
  cases hp
  have := h.lt
  simp
  omega

/-- Favourites and a number of places, whatever they are. -/
def DrewFav (w : World) (g : Nat) (e : Ending) (w' : World) : Prop :=
  ∃ a n cap xs p, e = .returned (.tuple #[.slice a n cap, .int .i64 p]) ∧ Own w' w.heap.size a n cap xs ∧ n ≤ 10 ∧ -1 ≤ p ∧ p ≤ 13 ∧ Below g w w'

/-- The same, and the cursor stands. -/
def DrewFavC (w : World) (g : Nat) (e : Ending) (w' : World) : Prop :=
  ∃ a n cap xs p, e = .returned (.tuple #[.slice a n cap, .int .i64 p]) ∧ Own w' w.heap.size a n cap xs ∧ n ≤ 10 ∧ -1 ≤ p ∧ p ≤ 13 ∧ ∃ t', At w w' g t' ∧ t' ≤ 4000

set_option maxHeartbeats 4000000 in
theorem favourites_at (g t : Nat) (w : World) (h : Cur w g t) (ht : t ≤ 1000) :
    Calls Try.prog 67 #[.pointer (some ⟨g, 0, none⟩)] w (DrewFavC w g) := by
  have hgl := h.lt
  have A0 : At w w g t := ⟨h, Below.refl _ _⟩
  have A1 := A0.later (alloc_below w (.cells #[.int .i64 4, .int .i64 7, .int .i64 12] 3)) hgl
  go_enter Try.func67, Try.ntmps67
  go_wp2_with fail
  refine (among_cur g t _ 3 3 [4, 7, 12] _ A1.cur (by omega) (has_lit3 w 4 7 12) (by omega) (by omega) (lit_ne h)).mono ?_
  rintro e w1 ⟨v, rfl, hv, ⟨t1, ta, tb, hc1⟩, hg1⟩
  have hv1 : 4 ≤ v ∧ v ≤ 12 := by simp at hv; omega
  have A2 := A1.pick hc1 hg1
  clear hv hc1 hg1 A1 A0
  go_wp2_with fail
  refine (pick_cur g t1 v _ A2.cur (by omega) (by omega)).mono ?_
  rintro e w2 ⟨q, rfl, q0, q1, ⟨t2, tc, td, hc2⟩, hg2⟩
  have A3 := A2.pick hc2 hg2
  have hq : q ≤ 11 := by omega
  clear hc2 hg2 A2 q1
  go_wp2_with fail
  refine (l1Least_any _ _ _).mono ?_
  rintro e _ ⟨rfl, rfl⟩
  obtain ⟨m, hm⟩ : ∃ m, min (1 + q) 8 = m := ⟨_, rfl⟩
  have hm1 : 1 ≤ m ∧ m ≤ 8 := by omega
  rw [hm]
  clear hm
  go_wp2_with fail
  refine (pick_cur g t2 (m + 1) _ A3.cur (by omega) (by omega)).mono ?_
  rintro e w3 ⟨n0, rfl, n1, n2, ⟨t3, te, tf, hc3⟩, hg3⟩
  have A4 := A3.pick hc3 hg3
  obtain ⟨nn, rfl⟩ : ∃ nn : Nat, n0 = (nn : Int) := ⟨_, (Int.toNat_of_nonneg n1).symm⟩
  have hnn : nn ≤ 8 := by omega
  clear hc3 hg3 A3 n2 n1
  go_wp2_with fail
  go_loopw [5, 6] (fun o n wr => ∃ (k j : Nat) (a' : Option Addr) (cap' : Nat) (xs : List Int) (t' : Nat), k + j ≤ 8 ∧ n = .int .i64 (k : Int) ∧ o = .slice a' j cap' ∧ Own wr w.heap.size a' j cap' xs ∧ At w wr g t' ∧ t' ≤ 2000 + 8 * j) (fun _ n _ => (intOf n).toNat)
  case atStart => exact ⟨nn, 0, none, 0, [], t3, by omega, rfl, rfl, Own.nil _ _, A4, by omega⟩
  case round =>
    obtain ⟨k, j, a', cap', xs, t', hkj, rfl, rfl, hown, A, ht'⟩ := hrel
    clear A4
    by_cases hk : 0 < k
    · go_wp2_with fail
      refine (pick_cur g t' (1 + q) _ A.cur (by omega) (by omega)).mono ?_
      rintro e w5 ⟨v5, rfl, v50, v51, ⟨t5, x1, x2, hc5⟩, hg5⟩
      have A5 := A.pick hc5 hg5
      have o5 := hown.kept hg5 (.inl hgl)
      have hv5 : v5 ≤ q := by omega
      clear hc5 hg5 hown A v51
      go_wp2_with fail
      refine (l1Most_any _ _ _).mono ?_
      rintro e _ ⟨rfl, rfl⟩
      obtain ⟨y, hy⟩ : ∃ y, max 1 (1 + q - v5) = y := ⟨_, rfl⟩
      have hy1 : 1 ≤ y ∧ y ≤ 12 := by omega
      rw [hy]
      clear hy
      go_wp2_with fail
      refine (pick_cur g t5 y _ A5.cur (by omega) (by omega)).mono ?_
      rintro e w6 ⟨v6, rfl, v60, v61, ⟨t6, x3, x4, hc6⟩, hg6⟩
      have A6 := A5.pick hc6 hg6
      have o6 := o5.kept hg6 (.inl hgl)
      have hs6 := A6.size
      clear hc6 hg6 o5 A5 v61
      go_wp2_with (at_builtin; refine wpList_append_int _ rfl _ _ rfl w.heap.size _ _ _ _ _ rfl rfl o6 (by omega) hs6 ?_; intro a7 cap7 w7 o7 hb7)
      have A7 := A6.later hb7 hgl
      clear A6 o6 hb7
      go_roundw
      case rel => exact ⟨k - 1, j + 1, a7, cap7, _, t6, by omega, congrArg (Value.int .i64) (by omega), rfl, o7, A7, by omega⟩
      case measure => simp [intOf]; omega
    · go_wp2_with fail
      refine (pick_cur g t' 20 _ A.cur (by omega) (by omega)).mono ?_
      rintro e w5 ⟨z, rfl, z0, z1, ⟨t5, x1, x2, hc5⟩, hg5⟩
      have A5 := A.pick hc5 hg5
      have o5 := hown.kept hg5 (.inl hgl)
      have hs5 := A5.size
      have hg5l := A5.cur.lt
      clear hc5 hg5 hown A z1
      by_cases h0 : (z == 0) = true
      · go_wp2_with fail
        refine (among_cur g t5 _ 4 4 [-1, 1 + q, 0, 4611686018427387904] _ (A5.later (alloc_below _ _) (by omega)).cur (by omega) (has_lit4 w5 (-1) (1 + q) 0 4611686018427387904) (by omega) (by omega) (lit_ne A5.cur)).mono ?_
        rintro e w6 ⟨v6, rfl, _, ⟨t6, x3, x4, hc6⟩, hg6⟩
        have A5' := A5.later (alloc_below w5 (.cells #[.int .i64 (-1), .int .i64 (1 + q), .int .i64 0, .int .i64 4611686018427387904] 3)) (by omega)
        have A6 := A5'.pick hc6 hg6
        have o6 := (o5.below (alloc_below w5 (.cells #[.int .i64 (-1), .int .i64 (1 + q), .int .i64 0, .int .i64 4611686018427387904] 3)) (Nat.le_refl _)).kept hg6 (.inl hgl)
        have hs6 := A6.size
        clear hc6 hg6 o5 A5 A5'
        go_wp2_with (at_builtin; refine wpList_append_int _ rfl _ _ rfl w.heap.size _ _ _ _ _ rfl rfl o6 (by omega) hs6 ?_; intro a7 cap7 w7 o7 hb7)
        have A7 := A6.later hb7 hgl
        clear A6 o6 hb7
        go_ret2
        exact ⟨_, _, _, _, 1 + q, rfl, o7, by omega, by omega, by omega, _, A7, by omega⟩
      · have h0' := Bool.eq_false_iff.2 h0
        clear h0
        by_cases h1 : (z == 1) = true
        · go_wp2_with fail
          go_loopg [5] (10 - j) (fun q2 o wr => ∃ (m : Nat) (a' : Option Addr) (cap' : Nat) (xs : List Int) (t' : Nat), m + q2 = 10 ∧ 0 < q2 ∧ o = .slice a' m cap' ∧ Own wr w.heap.size a' m cap' xs ∧ At w wr g t' ∧ t' ≤ 3000 + 8 * m)
          case atStart => exact ⟨j, a', cap', xs, t5, by omega, by omega, rfl, o5, A5, by omega⟩
          case round =>
            obtain ⟨m, a', cap', xs, t', hmq, hq0, rfl, hown, A, ht'⟩ := hrel
            clear A5 o5
            go_wp2_with fail
            refine (pick_cur g t' 2 _ A.cur (by omega) (by omega)).mono ?_
            rintro e w6 ⟨v6, rfl, v60, v61, ⟨t6, x3, x4, hc6⟩, hg6⟩
            have A6 := A.pick hc6 hg6
            have o6 := hown.kept hg6 (.inl hgl)
            have hv6 : v6 ≤ 1 := by omega
            clear hc6 hg6 hown A v61
            by_cases hlt : (m : Int) < 8 + v6
            · go_wp2_with fail
              refine (pick_cur g t6 (1 + q) _ A6.cur (by omega) (by omega)).mono ?_
              rintro e w7 ⟨v7, rfl, v70, v71, ⟨t7, x5, x6, hc7⟩, hg7⟩
              have A7 := A6.pick hc7 hg7
              have o7 := o6.kept hg7 (.inl hgl)
              have hs7 := A7.size
              clear hc7 hg7 o6 A6 v71
              go_wp2_with (at_builtin; refine wpList_append_int _ rfl _ _ rfl w.heap.size _ _ _ _ _ rfl rfl o7 (by omega) hs7 ?_; intro a8 cap8 w8 o8 hb8)
              have A8 := A7.later hb8 hgl
              clear A7 o7 hb8
              go_roundg (gk - 1)
              case rel => exact ⟨m + 1, a8, cap8, _, t7, by omega, by omega, rfl, o8, A8, by omega⟩
              case measure => omega
            · go_wp2_with fail
              go_ret2
              exact ⟨_, _, _, _, 1 + q, rfl, o6, by omega, by omega, by omega, _, A6, by omega⟩
        · have h1' := Bool.eq_false_iff.2 h1
          clear h1
          by_cases h2 : (z == 2) = true
          · go_wp2_with fail
            refine (among_cur g t5 _ 4 4 [0, -1, 12, 13] _ (A5.later (alloc_below _ _) (by omega)).cur (by omega) (has_lit4 w5 0 (-1) 12 13) (by omega) (by omega) (lit_ne A5.cur)).mono ?_
            rintro e w6 ⟨v6, rfl, hv6, ⟨t6, x3, x4, hc6⟩, hg6⟩
            have hv6' : -1 ≤ v6 ∧ v6 ≤ 13 := by simp at hv6; omega
            have A5' := A5.later (alloc_below w5 (.cells #[.int .i64 0, .int .i64 (-1), .int .i64 12, .int .i64 13] 3)) (by omega)
            have A6 := A5'.pick hc6 hg6
            have o6 := (o5.below (alloc_below w5 (.cells #[.int .i64 0, .int .i64 (-1), .int .i64 12, .int .i64 13] 3)) (Nat.le_refl _)).kept hg6 (.inl hgl)
            clear hc6 hg6 o5 A5 A5' hv6
            go_wp2_with fail
            go_ret2
            exact ⟨_, _, _, _, _, rfl, o6, by omega, by omega, by omega, _, A6, by omega⟩
          · have h2' := Bool.eq_false_iff.2 h2
            clear h2
            go_wp2_with fail
            go_ret2
            exact ⟨_, _, _, _, _, rfl, o5, by omega, by omega, by omega, _, A5, by omega⟩

theorem favourites_cur (g t : Nat) (w : World) (h : Cur w g t) (ht : t ≤ 1000) :
    Calls Try.prog 67 #[.pointer (some ⟨g, 0, none⟩)] w (DrewFav w g) :=
  (favourites_at g t w h ht).mono fun _ _ ⟨a, n, cap, xs, p, h1, h2, h3, h4, h5, _, h6, _⟩ => ⟨a, n, cap, xs, p, h1, h2, h3, h4, h5, h6.below⟩

/-- A slice of bytes that came in. -/
theorem cur_new {w : World} {a : Option Addr} {n cap : Nat} (h : HasB w a n w.heap.size) : Cur (w.alloc (.cells #[.slice a n cap, .int .i64 0, .int .u64 0] 64)) w.heap.size 0 := by
  refine ⟨⟨a, n, cap, ?_, h.1, fun hp => ?_⟩, ?_, ⟨0, by omega, by omega, ?_⟩, fun i => ?_, by simp⟩
  · rw [World.cell?_alloc_at _ _ _ _ rfl]; rfl
  · obtain ⟨b, off, ha, hb, hc⟩ := h.2 hp
    refine ⟨b, off, ha, hb, fun i hi => ?_⟩
    obtain ⟨u, u0, u1, hu⟩ := hc i hi
    exact ⟨u, u0, u1, by rw [World.cell?_alloc_past _ _ _ hb]; exact hu⟩
  · rw [World.cell?_alloc_at _ _ _ _ rfl]; rfl
  · rw [World.cell?_alloc_at _ _ _ _ rfl]; rfl
  · rw [World.frozen?_alloc_at _ _ _ _ rfl]

/-- What a draw of favourites leaves to its caller. -/
def DrewFav' (w : World) (e : Ending) (w' : World) : Prop :=
  ∃ a n cap xs p, e = .returned (.tuple #[.slice a n cap, .int .i64 p]) ∧ Own w' w.heap.size a n cap xs ∧ n ≤ 10 ∧ -1 ≤ p ∧ p ≤ 13 ∧ Below w.heap.size w w'

end Go.Proofs.Ytnddplldkgphnac
