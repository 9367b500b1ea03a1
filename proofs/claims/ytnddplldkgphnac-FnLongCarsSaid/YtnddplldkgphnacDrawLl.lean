/- Draws of lengths and of long cars. -/
import Derived.Test.YtnddplldkgphnacDraw3
import Derived.Test.YtnddplldkgphnacSpecLo
namespace Go.Proofs.Ytnddplldkgphnac
open Go.RowKit

theorem has_lit5L (w : World) (a b c d e : Int) : Has (w.alloc (.cells #[.int .i64 a, .int .i64 b, .int .i64 c, .int .i64 d, .int .i64 e] 3)) (some ⟨w.heap.size, 0, none⟩) 5 5 [a, b, c, d, e] := has_lit w [a, b, c, d, e] (by simp)
theorem has_lit2L (w : World) (a b : Int) : Has (w.alloc (.cells #[.int .i64 a, .int .i64 b] 3)) (some ⟨w.heap.size, 0, none⟩) 2 2 [a, b] := has_lit w [a, b] (by simp)
theorem has_lit3L (w : World) (a b c : Int) : Has (w.alloc (.cells #[.int .i64 a, .int .i64 b, .int .i64 c] 3)) (some ⟨w.heap.size, 0, none⟩) 3 3 [a, b, c] := has_lit w [a, b, c] (by simp)
theorem freshL (w : World) (a : Option Addr) (n cap : Nat) : Below w.heap.size w (w.alloc (.cells #[.slice a n cap, .int .i64 0, .int .u64 0] 64)) := (Below.refl _ _).alloc (Nat.le_refl _) _
/-- Lengths, whatever they are, and the cursor stands. -/
def DrewLens (w : World) (g t : Nat) (e : Ending) (w' : World) : Prop :=
  ∃ a n cap ls t', e = .returned (.slice a n cap) ∧ Own w' w.heap.size a n cap ls ∧ n ≤ 9 ∧ AtG w w' g t' ∧ t' ≤ t + 40
set_option maxRecDepth 100000 in
set_option maxHeartbeats 2000000 in
theorem lengths_cur (g t most : Nat) (w : World) (h : Cur w g t) (ht : t ≤ 1000) (hm : most ≤ 8) :
    Calls Try.prog 49 #[.pointer (some ⟨g, 0, none⟩), .int .i64 (most : Int)] w (DrewLens w g t) := by
  have hgl := h.lt
  have A0 := AtG.new h
  have hw1 : IntKind.i64.wrap ((most : Int) + 1) = (most : Int) + 1 := by rw [IntKind.wrap_i64]; omega
  go_enter Try.func49, Try.ntmps49
  go_wp2_with fail
  refine (pick_cur g t ((most : Int) + 1) _ A0.cur (by omega) (by omega)).mono ?_
  rintro e w3 ⟨n0, rfl, n1, n2, ⟨t3, te, tf, hc3⟩, hg3⟩
  have A4 := A0.pick hc3 hg3
  obtain ⟨nn, rfl⟩ : ∃ nn : Nat, n0 = (nn : Int) := ⟨_, (Int.toNat_of_nonneg n1).symm⟩
  have hnn : nn ≤ 8 := by omega
  clear hc3 hg3 A0 n2 n1
  go_wp2_with fail
  go_loopw [5, 6, 7] (fun o lf n wr => ∃ (k j l : Nat) (a' : Option Addr) (cap' : Nat) (xs : List Int) (t' : Nat), k + j ≤ 8 ∧ l ≤ 12 ∧ n = .int .i64 (k : Int) ∧ lf = .int .i64 (l : Int) ∧ o = .slice a' j cap' ∧ Own wr w.heap.size a' j cap' xs ∧ AtG w wr g t' ∧ t' ≤ t + 2 + 2 * j) (fun _ _ n _ => (intOf n).toNat)
  case atStart => exact ⟨nn, 0, 12, none, 0, [], t3, by omega, by omega, rfl, rfl, rfl, Own.nil _ _, A4, by omega⟩
  case round =>
    obtain ⟨k, j, l, a', cap', xs, t', hkj, hl12, rfl, rfl, rfl, hown, A, ht'⟩ := hrel
    clear A4
    by_cases hk : 0 < k ∧ 0 < l
    · obtain ⟨hk0, hl0⟩ := hk
      obtain ⟨m, hm3⟩ : ∃ m : Int, min (l : Int) 3 = m := ⟨_, rfl⟩
      have hmr : 1 ≤ m ∧ m ≤ 3 ∧ m ≤ (l : Int) := by omega
      have HM3 := hid hm3
      clear hm3
      go_wp2_with fail
      refine (l1Least_any _ _ _).mono ?_
      rintro e _ ⟨rfl, rfl⟩
      rw [HM3.out]
      go_wp2_with fail
      refine (pick_cur g t' m _ A.cur (by omega) (by omega)).mono ?_
      rintro e w5 ⟨v5, rfl, v50, v51, ⟨t5, x1, x2, hc5⟩, hg5⟩
      have A5 := A.pick hc5 hg5
      have o5 := hown.kept hg5 (.inl hgl)
      have hs5 := A5.size
      have hv5 : v5 < m := by omega
      clear hc5 hg5 hown A v51
      have hw2 : IntKind.i64.wrap (1 + v5) = 1 + v5 := by rw [IntKind.wrap_i64]; omega
      have hw3 : IntKind.i64.wrap ((l : Int) - (1 + v5)) = (l : Int) - (1 + v5) := by rw [IntKind.wrap_i64]; omega
      have hw4 : IntKind.i64.wrap ((k : Int) - 1) = (k : Int) - 1 := by rw [IntKind.wrap_i64]; omega
      go_wp2_with (at_builtin; refine wpList_append_int _ rfl _ _ rfl w.heap.size _ _ _ _ _ rfl rfl o5 (by omega) hs5 ?_; intro a7 cap7 w7 o7 hb7)
      have A7 := A5.later hb7 (Nat.le_refl _)
      clear A5 o5 hb7
      go_roundw
      case rel => exact ⟨k - 1, j + 1, l - (1 + v5).toNat, a7, cap7, _, t5, by omega, by omega, congrArg (Value.int .i64) (by omega), congrArg (Value.int .i64) (by omega), rfl, o7, A7, by omega⟩
      case measure => simp [intOf]; omega
    · have hs1 := A.size
      rcases (show (l = 0 ∧ 0 < k) ∨ k = 0 by omega) with ⟨rfl, hk0⟩ | rfl <;>
      (go_wp2_with fail
       refine (one_cur g t' 15 _ A.cur (by omega) (by omega)).mono ?_
       rintro e w5 ⟨b5, rfl, ⟨t5, x1, x2, hc5⟩, hg5⟩
       have A5 := A.pick hc5 hg5
       have o5 := hown.kept hg5 (.inl hgl)
       have hs5 := A5.size
       clear hc5 hg5 hown A
       cases b5 with
       | false =>
         go_wp2_with fail
         go_ret
         exact ⟨_, _, _, _, t5, rfl, o5, by omega, A5, by omega⟩
       | true =>
         have A6 := A5.later (alloc_below w5 (.cells #[.int .i64 0, .int .i64 (-1), .int .i64 1, .int .i64 12, .int .i64 4611686018427387904] 3)) hs5
         have o6 := o5.below (alloc_below w5 (.cells #[.int .i64 0, .int .i64 (-1), .int .i64 1, .int .i64 12, .int .i64 4611686018427387904] 3)) (Nat.le_refl _)
         go_wp2_with fail
         refine (among_cur g t5 _ 5 5 [0, -1, 1, 12, 4611686018427387904] _ A6.cur (by omega) (has_lit5L w5 0 (-1) 1 12 4611686018427387904) (by omega) (by omega) (lit_ne A5.cur)).mono ?_
         rintro e w6 ⟨v6, rfl, _, ⟨t6, x3, x4, hc6⟩, hg6⟩
         have A7 := A6.pick hc6 hg6
         have o7 := o6.kept hg6 (.inl hgl)
         have hs7 := A7.size
         clear hc6 hg6 o5 o6 A5 A6
         go_wp2_with (at_builtin; refine wpList_append_int _ rfl _ _ rfl w.heap.size _ _ _ _ _ rfl rfl o7 (by omega) hs7 ?_; intro a8 cap8 w8 o8 hb8)
         have A8 := A7.later hb8 (Nat.le_refl _)
         go_ret
         exact ⟨_, _, _, _, t6, rfl, o8, by omega, A8, by omega⟩)

/-- What is left of a drawn list before its last step. -/
structure DoneL (w w1 w2 : World) (b : Option Addr) (m capl : Nat) (ls : List Int) (wf : World) (af : Option Addr) (nf cf : Nat) (xf : List Int) (tf : Nat) : Prop where
  pos : AtG w2 wf w.heap.size tf
  own : Own wf w2.heap.size af nf cf xf
  lens : Own w2 w1.heap.size b m capl ls
  n10 : nf ≤ 10
  t : tf ≤ 200
theorem DoneL.done {w w1 w2 w' wf : World} {b af : Option Addr} {m capl nf cf tf t t2 nf2 cf2 : Nat} {ls xf xf2 : List Int} {af2 : Option Addr} (D : DoneL w w1 w2 b m capl ls w' af nf cf xf tf) (A : AtG w2 wf w.heap.size t) (o : Own wf w2.heap.size af2 nf2 cf2 xf2)
    (hs1 : w1.heap.size = w.heap.size + 1) (hs2 : w1.heap.size ≤ w2.heap.size) (A2 : AtG w1 w2 w.heap.size t2) (hb0 : Below w.heap.size w w1) :
    Own wf w.heap.size af2 nf2 cf2 xf2 ∧ Own wf w.heap.size b m capl ls ∧ Below w.heap.size w wf :=
  ⟨o.mono (by omega), (D.lens.kept A.grew (.inl (by omega))).mono (by omega), hb0.trans ((A2.trans A).below)⟩
set_option maxRecDepth 100000 in
set_option maxHeartbeats 2000000 in
theorem drawLong_any (a : Option Addr) (n cap : Nat) (w : World) (h : HasB w a n w.heap.size) :
    Calls Try.prog 13 #[.slice a n cap] w fun e w' => ∃ a n cap xs b m capl ls, e = .returned (.tuple #[.slice a n cap, .slice b m capl]) ∧ Own w' w.heap.size a n cap xs ∧ Own w' w.heap.size b m capl ls ∧ n ≤ 10 ∧ m ≤ 9 ∧ Below w.heap.size w w' := by
  have C0 := cur_new (cap := cap) h
  have hb0 := freshL w a n cap
  obtain ⟨w1, hw1⟩ : ∃ w1, w.alloc (.cells #[.slice a n cap, .int .i64 0, .int .u64 0] 64) = w1 := ⟨_, rfl⟩
  have hs1 : w1.heap.size = w.heap.size + 1 := by rw [← hw1]; simp
  rw [hw1] at C0 hb0
  have HW := hid hw1
  clear hw1
  go_enter Try.func13, Try.ntmps13
  go_wp2_with fail
  rw [HW.out]
  clear HW
  refine (lengths_cur _ 0 5 _ C0 (by omega) (by omega)).mono ?_
  rintro e w2 ⟨b, m, capl, ls, t2, rfl, oL, hm9, A2, ht2⟩
  have hs2 := A2.size
  go_wp2_with fail
  refine (loLengths_any _ _ _ _ _ oL.has).mono ?_
  rintro e _ ⟨rfl, rfl⟩
  by_cases hl : lenB ls = true
  · have hT := lenB_sum hl
    obtain ⟨q, hq⟩ : ∃ q, total ls = q := ⟨_, rfl⟩
    have hq1 : 1 ≤ q ∧ q ≤ 12 := by omega
    have hsm := hT.1
    have HQ := hid hq
    rw [hl]
    clear hT hq hl
    go_wp2_with fail
    refine (paSum_any _ _ _ _ _ oL.has hsm).mono ?_
    rintro e _ ⟨rfl, rfl⟩
    rw [HQ.out]
    go_wp2_with fail
    go_loopw [7, 19] (fun o i wr => ∃ (k : Nat) (a' : Option Addr) (cap' : Nat) (xs : List Int) (t' : Nat), k ≤ m ∧ i = .int .i64 (k : Int) ∧ o = .slice a' k cap' ∧ Own wr w2.heap.size a' k cap' xs ∧ AtG w2 wr w.heap.size t' ∧ t' ≤ 40 + 4 * k) (fun _ i _ => m - (intOf i).toNat)
    case atStart => exact ⟨0, none, 0, [], t2, Nat.zero_le _, rfl, rfl, Own.nil _ _, AtG.new A2.cur, by omega⟩
    case round =>
      obtain ⟨k, a', cap', xs, t', hk, rfl, rfl, hown, A, ht'⟩ := hrel
      by_cases hlt : k < m
      · go_wp2_with fail
        refine (pick_cur _ t' q _ A.cur (by omega) (by omega)).mono ?_
        rintro e w5 ⟨v5, rfl, v50, v51, ⟨t5, x1, x2, hc5⟩, hg5⟩
        have A5 := A.pick hc5 hg5
        have o5 := hown.kept hg5 (.inl (by omega))
        clear hc5 hg5 hown A
        have hw2 : IntKind.i64.wrap (q - v5) = q - v5 := by rw [IntKind.wrap_i64]; omega
        go_wp2_with fail
        refine (pick_cur _ t5 (q - v5) _ A5.cur (by omega) (by omega)).mono ?_
        rintro e w6 ⟨v6, rfl, v60, v61, ⟨t6, x3, x4, hc6⟩, hg6⟩
        have A6 := A5.pick hc6 hg6
        have o6 := o5.kept hg6 (.inl (by omega))
        have hs6 := A6.size
        clear hc6 hg6 o5 A5
        go_wp2_with (at_builtin; refine wpList_append_int _ rfl _ _ rfl w2.heap.size _ _ _ _ _ rfl rfl o6 (by omega) hs6 ?_; intro a7 cap7 w7 o7 hb7)
        have A7 := A6.later hb7 (Nat.le_refl _)
        clear A6 o6 hb7
        go_roundw
        case rel => exact ⟨k + 1, a7, cap7, _, t6, by omega, by go_num, rfl, o7, A7, by omega⟩
        case measure => simp [intOf]; omega
      · obtain rfl : k = m := by omega
        have hsz := A.size
        go_wp2_with fail
        refine (one_cur _ t' 15 _ A.cur (by omega) (by omega)).mono ?_
        rintro e w5 ⟨b5, rfl, ⟨t5, x1, x2, hc5⟩, hg5⟩
        have A5 := A.pick hc5 hg5
        have o5 := hown.kept hg5 (.inl (by omega))
        have hs5 := A5.size
        clear hc5 hg5 hown A
        have KEY : ∀ (wf : World) (af : Option Addr) (nf cf : Nat) (xf : List Int) (tf : Nat), AtG w2 wf w.heap.size tf → Own wf w2.heap.size af nf cf xf → nf ≤ 10 → tf ≤ 200 → DoneL w w1 w2 b k capl ls wf af nf cf xf tf := fun wf af nf cf xf tf h1 h2 h3 h4 => ⟨h1, h2, oL, h3, h4⟩
        cases b5 with
        | false =>
          have D := KEY _ _ _ _ _ _ A5 o5 (by omega) (by omega)
          clear A5 o5 KEY
          have A9 := D.pos
          have o9 := D.own
          have hs9 := A9.size
          by_cases hz : 0 < k
          · have hz' : (0 : Int) < ((k : Nat) : Int) := by omega
            go_wp2_with fail
            refine (one_cur _ t5 15 _ A9.cur (by omega) (by omega)).mono ?_
            rintro e w9 ⟨b9, rfl, ⟨t9, y1, y2, hc9⟩, hg9⟩
            have Aa := A9.pick hc9 hg9
            have oa := o9.kept hg9 (.inl (by omega))
            have hsa := Aa.size
            clear hc9 hg9 A9 o9
            cases b9 with
            | false =>
              have E := D.done (wf := w9) Aa oa hs1 hs2 A2 hb0
              go_wp2_with fail
              go_ret2
              exact ⟨_, _, _, _, _, _, _, _, rfl, E.1, E.2.1, by omega, hm9, E.2.2⟩
            | true =>
              have hwq : IntKind.i64.wrap (q - 1) = q - 1 := by rw [IntKind.wrap_i64]; omega
              have Ab := Aa.later (alloc_below w9 (.cells #[.int .i64 (-1), .int .i64 q, .int .i64 (q - 1)] 3)) hsa
              have ob := oa.below (alloc_below w9 (.cells #[.int .i64 (-1), .int .i64 q, .int .i64 (q - 1)] 3)) (Nat.le_refl _)
              go_wp2_with fail
              refine (among_cur _ t9 _ 3 3 [-1, q, q - 1] _ Ab.cur (by omega) (has_lit3L w9 (-1) q (q - 1)) (by omega) (by omega) (lit_ne Aa.cur)).mono ?_
              rintro e wa ⟨va, rfl, _, ⟨ta, z1, z2, hca⟩, hga⟩
              have Ac := Ab.pick hca hga
              have oc := ob.kept hga (.inl (by omega))
              obtain ⟨gg, hgg, hg1, hg2, hg3, hg4⟩ := oc.opened hz
              subst hgg
              have hg0 := hg3 0 hz
              have hgf := hg4 0
              have od := (oc.set 0 va).1
              have Ad := Ac.later ((Below.refl w2.heap.size wa).setCell (p := ⟨gg, 0, none⟩) hg1 (.int .i64 va)) (Nat.le_refl _)
              clear hca hga ob Ab hg3 hg4
              go_wp2_with fail
              have E := D.done (wf := wa.setCell ⟨gg, 0, none⟩ (.int .i64 va)) Ad od hs1 hs2 A2 hb0
              go_ret2
              exact ⟨_, _, _, _, _, _, _, _, rfl, E.1, E.2.1, by omega, hm9, E.2.2⟩
          · obtain hz0 : k = 0 := by omega
            subst hz0
            have E := D.done (wf := w5) A9 o9 hs1 hs2 A2 hb0
            go_wp2_with fail
            go_ret2
            exact ⟨_, _, _, _, _, _, _, _, rfl, E.1, E.2.1, by omega, hm9, E.2.2⟩
        | true =>
          have A6 := A5.later (alloc_below w5 (.cells #[.int .i64 0, .int .i64 (-1)] 3)) hs5
          have o6 := o5.below (alloc_below w5 (.cells #[.int .i64 0, .int .i64 (-1)] 3)) (Nat.le_refl _)
          go_wp2_with fail
          refine (among_cur _ t5 _ 2 2 [0, -1] _ A6.cur (by omega) (has_lit2L w5 0 (-1)) (by omega) (by omega) (lit_ne A5.cur)).mono ?_
          rintro e w6 ⟨v6, rfl, _, ⟨t6, x3, x4, hc6⟩, hg6⟩
          have A7 := A6.pick hc6 hg6
          have o7 := o6.kept hg6 (.inl (by omega))
          have hs7 := A7.size
          clear hc6 hg6 o5 o6 A5 A6
          go_wp2_with (at_builtin; refine wpList_append_int _ rfl _ _ rfl w2.heap.size _ _ _ _ _ rfl rfl o7 (by omega) hs7 ?_; intro a8 cap8 w8 o8 hb8)
          have A8 := A7.later hb8 (Nat.le_refl _)
          have D := KEY _ _ _ _ _ _ A8 o8 (by omega) (by omega)
          clear A7 A8 o7 o8 KEY hb8
          have A9 := D.pos
          have o9 := D.own
          have hs9 := A9.size
          by_cases hz : 0 < (k + 1)
          · have hz' : (0 : Int) < (((k + 1) : Nat) : Int) := by omega
            go_wp2_with fail
            refine (one_cur _ t6 15 _ A9.cur (by omega) (by omega)).mono ?_
            rintro e w9 ⟨b9, rfl, ⟨t9, y1, y2, hc9⟩, hg9⟩
            have Aa := A9.pick hc9 hg9
            have oa := o9.kept hg9 (.inl (by omega))
            have hsa := Aa.size
            clear hc9 hg9 A9 o9
            cases b9 with
            | false =>
              have E := D.done (wf := w9) Aa oa hs1 hs2 A2 hb0
              go_wp2_with fail
              go_ret2
              exact ⟨_, _, _, _, _, _, _, _, rfl, E.1, E.2.1, by omega, hm9, E.2.2⟩
            | true =>
              have hwq : IntKind.i64.wrap (q - 1) = q - 1 := by rw [IntKind.wrap_i64]; omega
              have Ab := Aa.later (alloc_below w9 (.cells #[.int .i64 (-1), .int .i64 q, .int .i64 (q - 1)] 3)) hsa
              have ob := oa.below (alloc_below w9 (.cells #[.int .i64 (-1), .int .i64 q, .int .i64 (q - 1)] 3)) (Nat.le_refl _)
              go_wp2_with fail
              refine (among_cur _ t9 _ 3 3 [-1, q, q - 1] _ Ab.cur (by omega) (has_lit3L w9 (-1) q (q - 1)) (by omega) (by omega) (lit_ne Aa.cur)).mono ?_
              rintro e wa ⟨va, rfl, _, ⟨ta, z1, z2, hca⟩, hga⟩
              have Ac := Ab.pick hca hga
              have oc := ob.kept hga (.inl (by omega))
              obtain ⟨gg, hgg, hg1, hg2, hg3, hg4⟩ := oc.opened hz
              subst hgg
              have hg0 := hg3 0 hz
              have hgf := hg4 0
              have od := (oc.set 0 va).1
              have Ad := Ac.later ((Below.refl w2.heap.size wa).setCell (p := ⟨gg, 0, none⟩) hg1 (.int .i64 va)) (Nat.le_refl _)
              clear hca hga ob Ab hg3 hg4
              go_wp2_with fail
              have E := D.done (wf := wa.setCell ⟨gg, 0, none⟩ (.int .i64 va)) Ad od hs1 hs2 A2 hb0
              go_ret2
              exact ⟨_, _, _, _, _, _, _, _, rfl, E.1, E.2.1, by omega, hm9, E.2.2⟩
          · exact absurd (Nat.succ_pos k) hz
  · rw [Bool.eq_false_iff.2 hl]
    clear hl
    go_wp2_with fail
    go_loopw [7, 19] (fun o i wr => ∃ (k : Nat) (a' : Option Addr) (cap' : Nat) (xs : List Int) (t' : Nat), k ≤ m ∧ i = .int .i64 (k : Int) ∧ o = .slice a' k cap' ∧ Own wr w2.heap.size a' k cap' xs ∧ AtG w2 wr w.heap.size t' ∧ t' ≤ 40 + 4 * k) (fun _ i _ => m - (intOf i).toNat)
    case atStart => exact ⟨0, none, 0, [], t2, Nat.zero_le _, rfl, rfl, Own.nil _ _, AtG.new A2.cur, by omega⟩
    case round =>
      obtain ⟨k, a', cap', xs, t', hk, rfl, rfl, hown, A, ht'⟩ := hrel
      by_cases hlt : k < m
      · go_wp2_with fail
        refine (pick_cur _ t' 1 _ A.cur (by omega) (by omega)).mono ?_
        rintro e w5 ⟨v5, rfl, v50, v51, ⟨t5, x1, x2, hc5⟩, hg5⟩
        have A5 := A.pick hc5 hg5
        have o5 := hown.kept hg5 (.inl (by omega))
        clear hc5 hg5 hown A
        have hw2 : IntKind.i64.wrap (1 - v5) = 1 - v5 := by rw [IntKind.wrap_i64]; omega
        go_wp2_with fail
        refine (pick_cur _ t5 (1 - v5) _ A5.cur (by omega) (by omega)).mono ?_
        rintro e w6 ⟨v6, rfl, v60, v61, ⟨t6, x3, x4, hc6⟩, hg6⟩
        have A6 := A5.pick hc6 hg6
        have o6 := o5.kept hg6 (.inl (by omega))
        have hs6 := A6.size
        clear hc6 hg6 o5 A5
        go_wp2_with (at_builtin; refine wpList_append_int _ rfl _ _ rfl w2.heap.size _ _ _ _ _ rfl rfl o6 (by omega) hs6 ?_; intro a7 cap7 w7 o7 hb7)
        have A7 := A6.later hb7 (Nat.le_refl _)
        clear A6 o6 hb7
        go_roundw
        case rel => exact ⟨k + 1, a7, cap7, _, t6, by omega, by go_num, rfl, o7, A7, by omega⟩
        case measure => simp [intOf]; omega
      · obtain rfl : k = m := by omega
        have hsz := A.size
        go_wp2_with fail
        refine (one_cur _ t' 15 _ A.cur (by omega) (by omega)).mono ?_
        rintro e w5 ⟨b5, rfl, ⟨t5, x1, x2, hc5⟩, hg5⟩
        have A5 := A.pick hc5 hg5
        have o5 := hown.kept hg5 (.inl (by omega))
        have hs5 := A5.size
        clear hc5 hg5 hown A
        have KEY : ∀ (wf : World) (af : Option Addr) (nf cf : Nat) (xf : List Int) (tf : Nat), AtG w2 wf w.heap.size tf → Own wf w2.heap.size af nf cf xf → nf ≤ 10 → tf ≤ 200 → DoneL w w1 w2 b k capl ls wf af nf cf xf tf := fun wf af nf cf xf tf h1 h2 h3 h4 => ⟨h1, h2, oL, h3, h4⟩
        cases b5 with
        | false =>
          have D := KEY _ _ _ _ _ _ A5 o5 (by omega) (by omega)
          clear A5 o5 KEY
          have A9 := D.pos
          have o9 := D.own
          have hs9 := A9.size
          by_cases hz : 0 < k
          · have hz' : (0 : Int) < ((k : Nat) : Int) := by omega
            go_wp2_with fail
            refine (one_cur _ t5 15 _ A9.cur (by omega) (by omega)).mono ?_
            rintro e w9 ⟨b9, rfl, ⟨t9, y1, y2, hc9⟩, hg9⟩
            have Aa := A9.pick hc9 hg9
            have oa := o9.kept hg9 (.inl (by omega))
            have hsa := Aa.size
            clear hc9 hg9 A9 o9
            cases b9 with
            | false =>
              have E := D.done (wf := w9) Aa oa hs1 hs2 A2 hb0
              go_wp2_with fail
              go_ret2
              exact ⟨_, _, _, _, _, _, _, _, rfl, E.1, E.2.1, by omega, hm9, E.2.2⟩
            | true =>
              have hwq : IntKind.i64.wrap (1 - 1) = 1 - 1 := by rw [IntKind.wrap_i64]; omega
              have Ab := Aa.later (alloc_below w9 (.cells #[.int .i64 (-1), .int .i64 1, .int .i64 (1 - 1)] 3)) hsa
              have ob := oa.below (alloc_below w9 (.cells #[.int .i64 (-1), .int .i64 1, .int .i64 (1 - 1)] 3)) (Nat.le_refl _)
              go_wp2_with fail
              refine (among_cur _ t9 _ 3 3 [-1, 1, 1 - 1] _ Ab.cur (by omega) (has_lit3L w9 (-1) 1 (1 - 1)) (by omega) (by omega) (lit_ne Aa.cur)).mono ?_
              rintro e wa ⟨va, rfl, _, ⟨ta, z1, z2, hca⟩, hga⟩
              have Ac := Ab.pick hca hga
              have oc := ob.kept hga (.inl (by omega))
              obtain ⟨gg, hgg, hg1, hg2, hg3, hg4⟩ := oc.opened hz
              subst hgg
              have hg0 := hg3 0 hz
              have hgf := hg4 0
              have od := (oc.set 0 va).1
              have Ad := Ac.later ((Below.refl w2.heap.size wa).setCell (p := ⟨gg, 0, none⟩) hg1 (.int .i64 va)) (Nat.le_refl _)
              clear hca hga ob Ab hg3 hg4
              go_wp2_with fail
              have E := D.done (wf := wa.setCell ⟨gg, 0, none⟩ (.int .i64 va)) Ad od hs1 hs2 A2 hb0
              go_ret2
              exact ⟨_, _, _, _, _, _, _, _, rfl, E.1, E.2.1, by omega, hm9, E.2.2⟩
          · obtain hz0 : k = 0 := by omega
            subst hz0
            have E := D.done (wf := w5) A9 o9 hs1 hs2 A2 hb0
            go_wp2_with fail
            go_ret2
            exact ⟨_, _, _, _, _, _, _, _, rfl, E.1, E.2.1, by omega, hm9, E.2.2⟩
        | true =>
          have A6 := A5.later (alloc_below w5 (.cells #[.int .i64 0, .int .i64 (-1)] 3)) hs5
          have o6 := o5.below (alloc_below w5 (.cells #[.int .i64 0, .int .i64 (-1)] 3)) (Nat.le_refl _)
          go_wp2_with fail
          refine (among_cur _ t5 _ 2 2 [0, -1] _ A6.cur (by omega) (has_lit2L w5 0 (-1)) (by omega) (by omega) (lit_ne A5.cur)).mono ?_
          rintro e w6 ⟨v6, rfl, _, ⟨t6, x3, x4, hc6⟩, hg6⟩
          have A7 := A6.pick hc6 hg6
          have o7 := o6.kept hg6 (.inl (by omega))
          have hs7 := A7.size
          clear hc6 hg6 o5 o6 A5 A6
          go_wp2_with (at_builtin; refine wpList_append_int _ rfl _ _ rfl w2.heap.size _ _ _ _ _ rfl rfl o7 (by omega) hs7 ?_; intro a8 cap8 w8 o8 hb8)
          have A8 := A7.later hb8 (Nat.le_refl _)
          have D := KEY _ _ _ _ _ _ A8 o8 (by omega) (by omega)
          clear A7 A8 o7 o8 KEY hb8
          have A9 := D.pos
          have o9 := D.own
          have hs9 := A9.size
          by_cases hz : 0 < (k + 1)
          · have hz' : (0 : Int) < (((k + 1) : Nat) : Int) := by omega
            go_wp2_with fail
            refine (one_cur _ t6 15 _ A9.cur (by omega) (by omega)).mono ?_
            rintro e w9 ⟨b9, rfl, ⟨t9, y1, y2, hc9⟩, hg9⟩
            have Aa := A9.pick hc9 hg9
            have oa := o9.kept hg9 (.inl (by omega))
            have hsa := Aa.size
            clear hc9 hg9 A9 o9
            cases b9 with
            | false =>
              have E := D.done (wf := w9) Aa oa hs1 hs2 A2 hb0
              go_wp2_with fail
              go_ret2
              exact ⟨_, _, _, _, _, _, _, _, rfl, E.1, E.2.1, by omega, hm9, E.2.2⟩
            | true =>
              have hwq : IntKind.i64.wrap (1 - 1) = 1 - 1 := by rw [IntKind.wrap_i64]; omega
              have Ab := Aa.later (alloc_below w9 (.cells #[.int .i64 (-1), .int .i64 1, .int .i64 (1 - 1)] 3)) hsa
              have ob := oa.below (alloc_below w9 (.cells #[.int .i64 (-1), .int .i64 1, .int .i64 (1 - 1)] 3)) (Nat.le_refl _)
              go_wp2_with fail
              refine (among_cur _ t9 _ 3 3 [-1, 1, 1 - 1] _ Ab.cur (by omega) (has_lit3L w9 (-1) 1 (1 - 1)) (by omega) (by omega) (lit_ne Aa.cur)).mono ?_
              rintro e wa ⟨va, rfl, _, ⟨ta, z1, z2, hca⟩, hga⟩
              have Ac := Ab.pick hca hga
              have oc := ob.kept hga (.inl (by omega))
              obtain ⟨gg, hgg, hg1, hg2, hg3, hg4⟩ := oc.opened hz
              subst hgg
              have hg0 := hg3 0 hz
              have hgf := hg4 0
              have od := (oc.set 0 va).1
              have Ad := Ac.later ((Below.refl w2.heap.size wa).setCell (p := ⟨gg, 0, none⟩) hg1 (.int .i64 va)) (Nat.le_refl _)
              clear hca hga ob Ab hg3 hg4
              go_wp2_with fail
              have E := D.done (wf := wa.setCell ⟨gg, 0, none⟩ (.int .i64 va)) Ad od hs1 hs2 A2 hb0
              go_ret2
              exact ⟨_, _, _, _, _, _, _, _, rfl, E.1, E.2.1, by omega, hm9, E.2.2⟩
          · exact absurd (Nat.succ_pos k) hz
end Go.Proofs.Ytnddplldkgphnac
