/- The word with a number; trees that are drawn. -/
import Derived.Test.YtochmifhhigfhacDraw1
import Derived.Test.YtochmifhhigfhacDraw2
import Derived.Test.YtochmifhhigfhacSpecTq
import Derived.Test.YtochmifhhigfhacImplTc
namespace Go.Proofs.Ytochmifhhigfhac
open Go.RowKit

/-- Numbers of at least 0 and at most hi, as far as they are set. -/
def Digs (xs : List Int) (hi : Int) : Prop := ∀ i, i < xs.length → 0 ≤ nth xs i ∧ nth xs i ≤ hi
theorem digs_zero (m : Nat) {hi : Int} (h : 0 ≤ hi) : Digs (List.replicate m 0) hi := fun i hi' => by
  have : nth (List.replicate m 0) i = 0 := by simp [nth] at hi' ⊢; simp [hi']
  omega
theorem Digs.set {xs : List Int} {hi y : Int} {k : Nat} (h : Digs xs hi) (hk : k < xs.length) (h0 : 0 ≤ y) (h1 : y ≤ hi) : Digs (xs.set k y) hi := fun i hi' => by
  rw [nth_set hk]
  split
  · exact ⟨h0, h1⟩
  · exact h i (by simpa using hi')
theorem Digs.snoc {xs : List Int} {hi y : Int} (h : Digs xs hi) (h0 : 0 ≤ y) (h1 : y ≤ hi) : Digs (xs ++ [y]) hi := fun i hi' => by
  simp at hi'
  by_cases e : i < xs.length
  · rw [nth_left e]; exact h i e
  · obtain rfl : i = xs.length := by omega
    rw [nth_append_at]; exact ⟨h0, h1⟩
theorem Digs.word {xs : List Int} {m : Nat} (h : Digs xs ((m : Int) + 1)) (hl : xs.length = m) (h8 : m ≤ 7) : Word xs (m + 1) := ⟨by omega, by omega, fun i hi => by have := h i hi; omega⟩

set_option maxHeartbeats 800000 in
theorem trWord_any (m : Nat) (M b num : Int) (w : World) (hM : M = (m : Int)) (hm : m ≤ 7) (hb0 : 1 ≤ b) (hb1 : b ≤ 100) (hn0 : 0 ≤ num) (hn1 : num ≤ 1000000) :
    Calls Try.prog 54 #[.int .i64 M, .int .i64 b, .int .i64 num] w fun e w' => ∃ a' cap' xs, e = .returned (.slice a' m cap') ∧ Own w' w.heap.size a' m cap' xs ∧ Digs xs (b - 1) ∧ Below w.heap.size w w' := by
  have HM := hid hM
  subst hM
  go_enter Try.func54, Try.ntmps54
  go_wp2_with (at_make; refine wpList_make_ints _ rfl _ _ rfl m rfl rfl (by omega) ?_; intro a' cap' w1 hown1 hb1)
  go_loopw [2, 8] (fun nu i wr => ∃ (k : Nat) (z : Int) (xs : List Int), k ≤ m ∧ i = .int .i64 ((k : Int) - 1) ∧ nu = .int .i64 z ∧ 0 ≤ z ∧ z ≤ 1000000 ∧ Own wr w.heap.size a' m cap' xs ∧ Hid (Digs xs (b - 1)) ∧ Below w.heap.size w wr) (fun _ i _ => (intOf i + 1).toNat)
  case atStart => exact ⟨m, num, _, Nat.le_refl _, rfl, rfl, hn0, hn1, hown1, hid (digs_zero m (by omega)), ‹_›⟩
  case round =>
    obtain ⟨k, z, xs, hk, rfl, rfl, z0, z1, hown, HD, hb⟩ := hrel
    clear hown1
    by_cases h0 : 0 < k
    · obtain ⟨j, rfl⟩ : ∃ j, k = j + 1 := ⟨k - 1, by omega⟩
      obtain ⟨g, rfl, hg1, hg2, hcell, hfr⟩ := hown.opened (by omega)
      have hck := hcell j (by omega)
      have hfk := hfr j
      have ejj : ((j + 1 : Nat) : Int) - 1 = (j : Int) := by omega
      rw [ejj]
      have hmod0 : 0 ≤ z % b := Int.emod_nonneg _ (by omega)
      have hmod1 : z % b < b := Int.emod_lt_of_pos _ (by omega)
      have hdiv0 : 0 ≤ z / b := Int.ediv_nonneg z0 (by omega)
      have hdiv1 : z / b ≤ z := Int.ediv_le_self _ z0
      have HL := hid hown.len
      clear hcell hfr
      go_wp2_with fail
      go_roundw
      case rel => exact ⟨j, z / b, _, by omega, rfl, rfl, hdiv0, by omega, (hown.set j _).1, hid (HD.out.set (by rw [HL.out]; omega) hmod0 (by omega)), hb.setCell (by simpa using hg1) _⟩
      case measure => simp [intOf]
    · obtain rfl : k = 0 := by omega
      go_wp2_with fail
      go_ret
      exact ⟨_, _, _, rfl, hown, HD.out, hb⟩

set_option maxHeartbeats 800000 in
theorem pick_wide (g t : Nat) (n : Int) (w : World) (h : Cur w g t) (ht : t ≤ 100000) (hn : n ≤ 100000000) :
    Calls Try.prog 46 #[.pointer (some ⟨g, 0, none⟩), .int .i64 n] w fun e w' => ∃ v : Int, e = .returned (.int .i64 v) ∧ 0 ≤ v ∧ (v < n ∨ n ≤ 1 ∧ v = 0) ∧ v ≤ 65535 ∧ (∃ t', t ≤ t' ∧ t' ≤ t + 2 ∧ Cur w' g t') ∧ w.grownBy w' (some g) := by
  by_cases h1 : n ≤ 1
  · go_enter Try.func46, Try.ntmps46
    go_wp2_with fail
    go_ret
    exact ⟨0, rfl, Int.le_refl _, .inr ⟨h1, rfl⟩, by omega, ⟨t, Nat.le_refl _, by omega, h⟩, World.grownBy.refl _ _⟩
  · have h2 : 1 < n := by omega
    by_cases h3 : 200 < n
    · go_enter Try.func46, Try.ntmps46
      go_wp2_with fail
      refine (next_cur g t _ h (by omega)).mono ?_
      rintro e w1 ⟨v, rfl, v0, v1, hc1, hg1⟩
      go_wp2_with fail
      refine (next_cur g (t + 1) _ hc1 (by omega)).mono ?_
      rintro e w2 ⟨u, rfl, u0, u1, hc2, hg2⟩
      have hm0 : 0 ≤ (v * 256 + u) % n := Int.emod_nonneg _ (by omega)
      have hm1 : (v * 256 + u) % n < n := Int.emod_lt_of_pos _ (by omega)
      have hm2 : (v * 256 + u) % n ≤ v * 256 + u := by
        have e1 := Int.mul_ediv_add_emod (v * 256 + u) n
        have e2 : 0 ≤ n * ((v * 256 + u) / n) := Int.mul_nonneg (by omega) (Int.ediv_nonneg (by omega) (by omega))
        omega
      go_wp2_with fail
      go_ret
      exact ⟨_, rfl, hm0, .inl hm1, by omega, ⟨t + 2, by omega, by omega, hc2⟩, ⟨hg2.os.trans hg1.os, hg2.tape.trans hg1.tape, hg2.output.trans hg1.output, Nat.le_trans hg1.size hg2.size, fun j hj hne => (hg2.block j (Nat.lt_of_lt_of_le hj hg1.size) hne).trans (hg1.block j hj hne)⟩⟩
    · go_enter Try.func46, Try.ntmps46
      go_wp2_with fail
      refine (next_cur g t _ h (by omega)).mono ?_
      rintro e w1 ⟨v, rfl, v0, v1, hc1, hg1⟩
      have hm0 : 0 ≤ v % n := Int.emod_nonneg _ (by omega)
      have hm1 : v % n < n := Int.emod_lt_of_pos _ (by omega)
      go_wp2_with fail
      go_ret
      exact ⟨_, rfl, hm0, .inl hm1, by omega, ⟨t + 1, by omega, by omega, hc1⟩, hg1⟩

/-- A tree that was drawn, mostly. -/
def DrewTree (w : World) (g t : Nat) (e : Ending) (w' : World) : Prop :=
  ∃ a n cap xs t', e = .returned (.slice a n cap) ∧ Own w' w.heap.size a n cap xs ∧ n ≤ 9 ∧ AtG w w' g t' ∧ t' ≤ t + 100
/-- What such a draw leaves to its caller. -/
def DrewTree' (w : World) (e : Ending) (w' : World) : Prop :=
  ∃ a n cap xs, e = .returned (.slice a n cap) ∧ Own w' w.heap.size a n cap xs ∧ n ≤ 9 ∧ Below w.heap.size w w'
theorem cnt_wide {n : Nat} (h : n ≤ 8) : cnt n ≤ 4782969 := by
  have : ∀ n, n < 9 → cnt n ≤ 4782969 := by decide +kernel
  exact this n (by omega)

set_option maxHeartbeats 8000000 in
theorem tree_cur (g t : Nat) (most : Int) (w : World) (h : Cur w g t) (ht : t ≤ 1000) (hm0 : 0 ≤ most) (hm : most ≤ 8) :
    Calls Try.prog 32 #[.pointer (some ⟨g, 0, none⟩), .int .i64 most] w (DrewTree w g t) := by
  have hgl := h.lt
  have A0 := AtG.new h
  go_enter Try.func32, Try.ntmps32
  go_wp2_with fail
  refine (pick_cur g t (most + 1) _ A0.cur (by omega) (by omega)).mono ?_
  rintro e w1 ⟨v, rfl, v0, v1, ⟨t1, ta, tb, hc1⟩, hg1⟩
  obtain ⟨nn, rfl⟩ : ∃ nn : Nat, v = (nn : Int) := ⟨_, (Int.toNat_of_nonneg v0).symm⟩
  have hnn : nn ≤ 8 := by omega
  have A1 := A0.pick hc1 hg1
  clear hc1 hg1 v0 v1 A0
  by_cases hz : nn = 0
  · subst hz
    go_wp2_with fail
    go_ret
    exact ⟨none, 0, 0, [], t1, rfl, Own.nil _ _, by omega, A1, by omega⟩
  · obtain ⟨m, hm1⟩ : ∃ m, nn = m + 1 := ⟨nn - 1, by omega⟩
    have EM : Hid ((nn : Int) - 1 = (m : Int)) := hid (by omega)
    have hm7 : m ≤ 7 := by omega
    have hnp : 0 < nn := by omega
    have HM1 := hid hm1
    clear hm1
    have hzz : ¬ (nn : Int) = 0 := by omega
    have hze : ((nn : Int) == 0) = false := by simp [hz]
    clear hz
    go_wp2_with fail
    refine (trCount_any nn _ hnn).mono ?_
    rintro e _ ⟨rfl, rfl⟩
    have hcw := cnt_wide hnn
    generalize hcc : cnt nn = cc at *
    clear hcc
    go_wp2_with fail
    refine (pick_wide g t1 (cc : Int) _ A1.cur (by omega) (by omega)).mono ?_
    rintro e w2 ⟨num, rfl, n0, _, n1, ⟨t2, tc, td, hc2⟩, hg2⟩
    have A2 := A1.pick hc2 hg2
    have hs2 := A2.size
    clear hc2 hg2 A1 hcw
    go_wp2_with fail
    refine (trWord_any m ((nn : Int) - 1) ((nn : Int) + 1) num _ EM.out (by omega) (by omega) (by omega) n0 (by omega)).mono ?_
    rintro e w3 ⟨a3, cap3, ws, rfl, o3, hd3, hb3⟩
    have HW : Hid (Word ws (m + 1)) := hid (Digs.word (by have := EM.out; rwa [show (nn : Int) + 1 - 1 = (m : Int) + 1 by omega] at hd3) o3.len (by omega))
    have A3 := A2.later hb3 hs2
    have hs3 := A3.size
    clear hd3 A2 hb3 hs2
    go_wp2_with fail
    refine (trOf_any _ _ _ _ _ o3.has HW.out).mono ?_
    rintro e w4 ⟨a4, cap4, rfl, o4, hb4⟩
    have A4 := A3.later hb4 hs3
    have hown := o4.mono hs3
    clear o3 o4 HW A3 hb4 hs3 EM
    rw [← HM1.out] at hown
    generalize unOf ws = us at *
    rw [← HM1.out]
    go_wp2_with fail
    refine (pick_cur g t2 14 _ A4.cur (by omega) (by omega)).mono ?_
    rintro e w5 ⟨z, rfl, z0, z1, ⟨t5, x1, x2, hc5⟩, hg5⟩
    have A5 := A4.pick hc5 hg5
    have o5 := hown.kept hg5 (.inl hgl)
    clear hc5 hg5 hown A4 z1 z0
    by_cases h0 : (z == 0) = true
    · go_wp2_with fail
      refine (pick_cur g t5 (nn : Int) _ A5.cur (by omega) (by omega)).mono ?_
      rintro e w6 ⟨iv, rfl, i0, i1, ⟨t6, x3, x4, hc6⟩, hg6⟩
      obtain ⟨ii, rfl⟩ : ∃ ii : Nat, iv = (ii : Int) := ⟨_, (Int.toNat_of_nonneg i0).symm⟩
      have hii : ii < nn := by omega
      have A6 := A5.pick hc6 hg6
      have o6 := o5.kept hg6 (.inl hgl)
      clear hc6 hg6 o5 A5 i0 i1
      go_wp2_with fail
      refine (pick_cur g t6 ((nn : Int) + 3) _ A6.cur (by omega) (by omega)).mono ?_
      rintro e w7 ⟨yv, rfl, y0, y1, ⟨t7, x5, x6, hc7⟩, hg7⟩
      have A7 := A6.pick hc7 hg7
      have o7 := o6.kept hg7 (.inl hgl)
      have hy1 : yv ≤ 11 := by omega
      clear hc7 hg7 o6 A6 y1
      obtain ⟨g2, rfl, q1, q2, hcell, hfr⟩ := o7.opened (by omega)
      have hck := hcell ii hii
      have hfk := hfr ii
      clear hcell hfr
      go_wp2_with fail
      go_ret
      exact ⟨_, _, _, _, t7, rfl, (o7.set ii _).1, by omega, A7.later ((Below.refl w.heap.size w7).setCell (p := ⟨g2, ii, none⟩) (by simpa using q1) _) (Nat.le_refl _), by omega⟩
    · have h0' := Bool.eq_false_iff.2 h0
      clear h0
      by_cases h1 : (z == 1) = true
      · go_wp2_with fail
        refine (among_cur g t5 _ 3 3 [-1, 0, (nn : Int) + 1] _ (A5.later (alloc_below w5 _) A5.size).cur (by omega) (has_lit3 w5 (-1) 0 ((nn : Int) + 1)) (by omega) (by omega) (lit_ne A5.cur)).mono ?_
        rintro e w6 ⟨v6, rfl, hv6, ⟨t6, x3, x4, hc6⟩, hg6⟩
        have A5' := A5.later (alloc_below w5 (.cells #[.int .i64 (-1), .int .i64 0, .int .i64 ((nn : Int) + 1)] 3)) A5.size
        have A6 := A5'.pick hc6 hg6
        have o6 := (o5.below (alloc_below w5 (.cells #[.int .i64 (-1), .int .i64 0, .int .i64 ((nn : Int) + 1)] 3)) (Nat.le_refl _)).kept hg6 (.inl hgl)
        have hs6 := A6.size
        clear hc6 hg6 o5 A5 A5' hv6
        go_wp2_with (at_builtin; refine wpList_append_int _ rfl _ _ rfl w.heap.size _ _ _ _ _ rfl rfl o6 (by omega) hs6 ?_; intro a7 cap7 w7 o7 hb7)
        have A7 := A6.later hb7 (Nat.le_refl _)
        clear A6 o6 hb7
        go_ret
        exact ⟨_, _, _, _, t6, rfl, o7, by omega, A7, by omega⟩
      · have h1' := Bool.eq_false_iff.2 h1
        clear h1
        by_cases h2 : (z == 2) = true
        · go_wp2_with fail
          refine (pick_cur g t5 2 _ A5.cur (by omega) (by omega)).mono ?_
          rintro e w6 ⟨v6, rfl, v60, v61, ⟨t6, x3, x4, hc6⟩, hg6⟩
          have A6 := A5.pick hc6 hg6
          have hs6 := A6.size
          have hv6 : v6 = 0 ∨ v6 = 1 := by omega
          clear hc6 hg6 o5 A5 v61 v60
          rcases hv6 with rfl | rfl
          · go_wp2_with (refine wpList_make_ints _ rfl _ _ rfl 8 (by simp [Act.eval]) (by simp [Act.eval]) (by omega) ?_; intro am cm wm om hbm)
            go_ret
            exact ⟨_, _, _, _, t6, rfl, om.mono hs6, by omega, A6.later hbm hs6, by omega⟩
          · go_wp2_with (refine wpList_make_ints _ rfl _ _ rfl 9 (by simp [Act.eval]) (by simp [Act.eval]) (by omega) ?_; intro am cm wm om hbm)
            go_ret
            exact ⟨_, _, _, _, t6, rfl, om.mono hs6, by omega, A6.later hbm hs6, by omega⟩
        · have h2' := Bool.eq_false_iff.2 h2
          clear h2
          go_wp2_with fail
          go_ret
          exact ⟨_, _, _, _, t5, rfl, o5, by omega, A5, by omega⟩

end Go.Proofs.Ytochmifhhigfhac
