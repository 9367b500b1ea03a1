/- Chapter 1's other draws: lists that mostly park, outcomes. -/
import Derived.Test.YtakadjhbomggbabDraw1
namespace Go.Proofs.Ytakadjhbomggbab
open Go.RowKit

theorem HasB.grow {w w' : World} {a : Option Addr} {n K : Nat} (h : HasB w a n K) (hb : Below K w w') (hK : K ≤ w.heap.size) : HasB w' a n w'.heap.size := by
  refine ⟨h.1, fun hx => ?_⟩
  obtain ⟨b, off, ha, hbk, hc⟩ := h.2 hx
  refine ⟨b, off, ha, Nat.lt_of_lt_of_le hbk (Nat.le_trans hK hb.size), fun i hi => ?_⟩
  obtain ⟨u, u0, u1, hu⟩ := hc i hi
  exact ⟨u, u0, u1, by rw [hb.cell (p := ⟨b, off + i, none⟩) hbk]; exact hu⟩

/-- A number put into a list. -/
def putIn (xs : List Int) (j : Nat) (x : Int) : List Int := xs.take j ++ [x] ++ xs.drop j
theorem mem_putIn {xs : List Int} {j : Nat} {x y : Int} : y ∈ putIn xs j x ↔ y = x ∨ y ∈ xs := by
  unfold putIn
  have : y ∈ xs ↔ y ∈ xs.take j ∨ y ∈ xs.drop j := by rw [← List.mem_append, List.take_append_drop]
  simp only [List.mem_append, List.mem_singleton, this]
  constructor
  · rintro ((h | h) | h)
    · exact .inr (.inl h)
    · exact .inl h
    · exact .inr (.inr h)
  · rintro (h | h | h)
    · exact .inl (.inr h)
    · exact .inl (.inl h)
    · exact .inr h
def Within (xs : List Int) (lo hi : Int) : Prop := ∀ x ∈ xs, lo ≤ x ∧ x ≤ hi
theorem Within.put {xs : List Int} {lo hi x : Int} {j : Nat} (h : Within xs lo hi) (hx : lo ≤ x ∧ x ≤ hi) : Within (putIn xs j x) lo hi := by
  intro y hy
  rcases mem_putIn.1 hy with rfl | hy
  · exact hx
  · exact h y hy
theorem Within.snoc {xs : List Int} {lo hi x : Int} (h : Within xs lo hi) (hx : lo ≤ x ∧ x ≤ hi) : Within (xs ++ [x]) lo hi := by
  intro y hy
  rcases List.mem_append.1 hy with hy | hy
  · exact h y hy
  · rw [List.mem_singleton] at hy; subst hy; exact hx
theorem Within.set {xs : List Int} {lo hi x : Int} {i : Nat} (h : Within xs lo hi) (hx : lo ≤ x ∧ x ≤ hi) : Within (xs.set i x) lo hi := by
  intro y hy
  rcases List.mem_or_eq_of_mem_set hy with hy | rfl
  · exact h y hy
  · exact hx
theorem Within.wide {xs : List Int} {lo hi lo' hi' : Int} (h : Within xs lo hi) (h1 : lo' ≤ lo) (h2 : hi ≤ hi') : Within xs lo' hi' := fun y hy => by have := h y hy; omega

/-- The cursor stands; its block alone was written among those that were there. -/
structure AtG (w0 w : World) (g t : Nat) : Prop where
  cur : Cur w g t
  grew : w0.grownBy w (some g)
  lt : g < w0.heap.size
theorem AtG.new {w : World} {g t : Nat} (h : Cur w g t) : AtG w w g t := ⟨h, World.grownBy.refl _ _, h.lt⟩
theorem AtG.size {w0 w : World} {g t : Nat} (h : AtG w0 w g t) : w0.heap.size ≤ w.heap.size := h.grew.size
theorem grown_then {w w1 w2 : World} {r : Option Nat} (h : w.grownBy w1 r) (h' : w1.grownBy w2 r) : w.grownBy w2 r :=
  ⟨h'.os.trans h.os, h'.tape.trans h.tape, h'.output.trans h.output, Nat.le_trans h.size h'.size, fun j hj hne => (h'.block j (Nat.lt_of_lt_of_le hj h.size) hne).trans (h.block j hj hne)⟩
theorem AtG.pick {w0 w w' : World} {g t t' : Nat} (h : AtG w0 w g t) (hc : Cur w' g t') (hg : w.grownBy w' (some g)) : AtG w0 w' g t' := ⟨hc, grown_then h.grew hg, h.lt⟩
theorem AtG.later {w0 w w' : World} {g t K : Nat} (h : AtG w0 w g t) (hb : Below K w w') (hK : w0.heap.size ≤ K) : AtG w0 w' g t :=
  ⟨h.cur.below hb (Nat.lt_of_lt_of_le h.lt hK), ⟨hb.os.trans h.grew.os, hb.tape.trans h.grew.tape, hb.output.trans h.grew.output, Nat.le_trans h.grew.size hb.size, fun j hj hne => (hb.block j (Nat.lt_of_lt_of_le hj hK)).trans (h.grew.block j hj hne)⟩, h.lt⟩
theorem AtG.below {w0 w : World} {g t : Nat} (h : AtG w0 w g t) : Below g w0 w := below_grown h.grew (Nat.le_of_lt h.lt) fun k hk => by cases hk; exact Nat.le_refl _
theorem AtG.trans {w0 w w' : World} {g t t' : Nat} (h : AtG w0 w g t) (h' : AtG w w' g t') : AtG w0 w' g t' := ⟨h'.cur, grown_then h.grew h'.grew, h.lt⟩

/-- A list that was drawn. -/
def DrewList (w : World) (g t : Nat) (e : Ending) (w' : World) : Prop :=
  ∃ a n cap xs t', e = .returned (.slice a n cap) ∧ Own w' w.heap.size a n cap xs ∧ n ≤ 10 ∧ Within xs (-1) 100 ∧ AtG w w' g t' ∧ t' ≤ t + 100

set_option maxHeartbeats 8000000 in
theorem park_cur (g t : Nat) (most : Int) (w : World) (h : Cur w g t) (ht : t ≤ 1000) (hm0 : 0 ≤ most) (hm : most ≤ 8) :
    Calls Try.prog 59 #[.pointer (some ⟨g, 0, none⟩), .int .i64 most] w (DrewList w g t) := by
  have hgl := h.lt
  have A0 := AtG.new h
  go_enter Try.func59, Try.ntmps59
  go_wp2_with fail
  refine (pick_cur g t (most + 1) _ A0.cur (by omega) (by omega)).mono ?_
  rintro e w1 ⟨v, rfl, v0, v1, ⟨t1, ta, tb, hc1⟩, hg1⟩
  obtain ⟨nn, rfl⟩ : ∃ nn : Nat, v = (nn : Int) := ⟨_, (Int.toNat_of_nonneg v0).symm⟩
  have hnn : nn ≤ 8 := by omega
  have A1 := A0.pick hc1 hg1
  clear hc1 hg1 v0 v1 A0
  go_wp2_with fail
  go_loopw [5, 6] (fun o n wr => ∃ (k j : Nat) (a' : Option Addr) (cap' : Nat) (xs : List Int) (t' : Nat), k + j ≤ 8 ∧ n = .int .i64 (k : Int) ∧ o = .slice a' j cap' ∧ Own wr w.heap.size a' j cap' xs ∧ Within xs 0 8 ∧ AtG w wr g t' ∧ t' ≤ t + 2 + 4 * j) (fun _ n _ => (intOf n).toNat)
  case atStart => exact ⟨nn, 0, none, 0, [], t1, by omega, rfl, rfl, Own.nil _ _, (fun x hx => by simp at hx), A1, by omega⟩
  case round =>
    obtain ⟨k, j, a', cap', xs, t', hkj, rfl, rfl, hown, hin, A, ht'⟩ := hrel
    have HI := hid hin
    clear A1 hin
    by_cases hk : 0 < k
    · skip
      go_wp2_with fail
      refine (pick_cur g t' ((j : Int) + 1) _ A.cur (by omega) (by omega)).mono ?_
      rintro e w5 ⟨qx, rfl, q0, q1, ⟨t2, x1, x2, hcc⟩, hgg⟩
      obtain ⟨x, rfl⟩ : ∃ x : Nat, qx = (x : Int) := ⟨_, (Int.toNat_of_nonneg q0).symm⟩
      have hx : x ≤ j := by omega
      replace hown := hown.kept hgg (.inl hgl)
      replace A := A.pick hcc hgg
      clear hcc hgg q0 q1
      go_wp2_with fail
      refine (pick_cur g t2 ((j : Int) + 1) _ A.cur (by omega) (by omega)).mono ?_
      rintro e w6 ⟨qy, rfl, q0, q1, ⟨t3, x1, x2, hcc⟩, hgg⟩
      obtain ⟨y, rfl⟩ : ∃ y : Nat, qy = (y : Int) := ⟨_, (Int.toNat_of_nonneg q0).symm⟩
      have hy : y ≤ j := by omega
      replace hown := hown.kept hgg (.inl hgl)
      replace A := A.pick hcc hgg
      clear hcc hgg q0 q1
      cases a' with
      | none =>
        obtain ⟨hk1, hcap1, hnil⟩ := hown.noneOf
        have hk0 : j ≤ 0 := by omega
        have hcap0 : cap' ≤ 0 := by omega
        have hat0 : y ≤ 0 := by omega
        subst hnil
        obtain rfl : y = 0 := by omega
        clear hk1 hcap1
        go_wp2_with fail
        refine (l1Own_any _ _ _ _ _ (Has.empty none (Nat.le_refl _) (Nat.le_refl _))).mono ?_
        rintro e w2 ⟨a2, cap2, rfl, hown2, hb2⟩
        go_wp2_with (first | (at_builtin; refine wpList_append_int _ rfl _ _ rfl w6.heap.size _ _ _ _ _ rfl rfl hown2 (by omega) hb2.size ?_; intro a3 cap3 w3 hown3 hb3) | (at_builtin; refine wpList_append_ints _ rfl _ _ rfl w6.heap.size _ none _ _ _ _ _ [] rfl rfl hown3 (Has.empty none (by omega) (by omega)) (by omega) (Nat.le_trans hb2.size hb3.size) ?_; intro a4 n4 cap4 w4 hn4 hown4 hb4))
        have hbb := (hb2.trans hb3).trans hb4
        have A4 := A.later hbb (A.size)
        have hown5 : Own w4 w.heap.size a4 (j + 1) cap4 (putIn [] 0 (x : Int)) := (hown4.mono A.size).relen (by omega) (by simp [putIn])
        have hn5 : n4 = j + 1 := by omega
        clear hown4 hown3 hown2 hb2 hb3 hb4 hbb hn4
        go_roundw
        case rel => exact ⟨k - 1, j + 1, a4, cap4, _, t3, by omega, by go_num, slice_len (by omega), hown5, HI.out.put ⟨by omega, by omega⟩, A4, by omega⟩
        case measure => simp [intOf]; omega
      | some pp =>
        obtain ⟨gg, rfl, hg1, hg2, hg3, hg4, hkc⟩ := hown.someOf
        have HA := hown.has
        have HLO := hid hown.len
        clear hg3 hg4
        by_cases hjk : y < j
        · skip
          have hcj : ¬ cap' = y := by omega
          go_wp2_with fail
          refine (l1Own_any _ _ _ _ _ (HA.take (k := y) (by omega))).mono ?_
          rintro e w2 ⟨a2, cap2, rfl, hown2, hb2⟩
          have hd2 := (HA.drop (k := y) (by omega)).below hb2 (Nat.le_refl _)
          rw [Nat.zero_add] at hd2
          have hblk : ∀ p, (some ⟨gg, y, none⟩ : Option Addr) = some p → p.block < w6.heap.size := fun p hp => by cases hp; exact hg2
          have HBK := hid hblk
          clear hblk
          go_wp2_with (first | (at_builtin; refine wpList_append_int _ rfl _ _ rfl w6.heap.size _ _ _ _ _ rfl rfl hown2 (by omega) hb2.size ?_; intro a3 cap3 w3 hown3 hb3) | (at_builtin; refine wpList_append_ints _ rfl _ _ rfl w6.heap.size _ _ _ _ _ _ _ _ rfl rfl hown3 (hd2.belowB hb3 HBK.out) (by omega) (Nat.le_trans hb2.size hb3.size) ?_; intro a4 n4 cap4 w4 hn4 hown4 hb4))
          clear hd2 HBK
          have hbb := (hb2.trans hb3).trans hb4
          have A4 := A.later hbb (A.size)
          have hown5 : Own w4 w.heap.size a4 (j + 1) cap4 (putIn xs y (x : Int)) := (hown4.mono A.size).relen (by omega) (by unfold putIn; rfl)
          have hn5 : n4 = j + 1 := by omega
          clear hown4 hown3 hown2 hb2 hb3 hb4 hbb hn4
          go_roundw
          case rel => exact ⟨k - 1, j + 1, a4, cap4, _, t3, by omega, by go_num, slice_len (by omega), hown5, HI.out.put ⟨by omega, by omega⟩, A4, by omega⟩
          case measure => simp [intOf]; omega
        · skip
          obtain rfl : j = y := by omega
          clear hjk
          by_cases hcj : cap' = j
          · skip
            obtain rfl : j = cap' := hcj.symm
            clear hcj
            have hmax : 0 ≤ maxLen := by unfold maxLen; omega
            have HMX := hid hmax
            clear hmax
            go_wp2_with fail
            refine (l1Own_any _ _ _ _ _ (HA.take (k := j) (by omega))).mono ?_
            rintro e w2 ⟨a2, cap2, rfl, hown2, hb2⟩
            go_wp2_with (first | (at_builtin; refine wpList_append_int _ rfl _ _ rfl w6.heap.size _ _ _ _ _ rfl rfl hown2 (by omega) hb2.size ?_; intro a3 cap3 w3 hown3 hb3) | (at_builtin; refine wpList_append_ints _ rfl _ _ rfl w6.heap.size _ _ _ _ _ _ _ [] rfl rfl hown3 (Has.nilAt _ (by unfold maxLen; omega)) (by omega) (Nat.le_trans hb2.size hb3.size) ?_; intro a4 n4 cap4 w4 hn4 hown4 hb4))
            have hbb := (hb2.trans hb3).trans hb4
            have A4 := A.later hbb (A.size)
            have hown5 : Own w4 w.heap.size a4 (j + 1) cap4 (putIn xs j (x : Int)) := (hown4.mono A.size).relen (by omega) (by unfold putIn; rw [List.drop_eq_nil_of_le (by rw [HLO.out]; exact Nat.le_refl _)])
            have hn5 : n4 = j + 1 := by omega
            clear hown4 hown3 hown2 hb2 hb3 hb4 hbb hn4
            go_roundw
            case rel => exact ⟨k - 1, j + 1, a4, cap4, _, t3, by omega, by go_num, slice_len (by omega), hown5, HI.out.put ⟨by omega, by omega⟩, A4, by omega⟩
            case measure => simp [intOf]; omega
          · skip
            have hmax : cap' - j ≤ maxLen := by have := HA.2.2.1; omega
            have HMX := hid hmax
            clear hmax
            go_wp2_with fail
            refine (l1Own_any _ _ _ _ _ (HA.take (k := j) (by omega))).mono ?_
            rintro e w2 ⟨a2, cap2, rfl, hown2, hb2⟩
            go_wp2_with (first | (at_builtin; refine wpList_append_int _ rfl _ _ rfl w6.heap.size _ _ _ _ _ rfl rfl hown2 (by omega) hb2.size ?_; intro a3 cap3 w3 hown3 hb3) | (at_builtin; refine wpList_append_ints _ rfl _ _ rfl w6.heap.size _ _ _ _ _ _ _ [] rfl rfl hown3 (Has.nilAt _ HMX.out) (by omega) (Nat.le_trans hb2.size hb3.size) ?_; intro a4 n4 cap4 w4 hn4 hown4 hb4))
            have hbb := (hb2.trans hb3).trans hb4
            have A4 := A.later hbb (A.size)
            have hown5 : Own w4 w.heap.size a4 (j + 1) cap4 (putIn xs j (x : Int)) := (hown4.mono A.size).relen (by omega) (by unfold putIn; rw [List.drop_eq_nil_of_le (by rw [HLO.out]; exact Nat.le_refl _)])
            have hn5 : n4 = j + 1 := by omega
            clear hown4 hown3 hown2 hb2 hb3 hb4 hbb hn4
            go_roundw
            case rel => exact ⟨k - 1, j + 1, a4, cap4, _, t3, by omega, by go_num, slice_len (by omega), hown5, HI.out.put ⟨by omega, by omega⟩, A4, by omega⟩
            case measure => simp [intOf]; omega
    · skip
      obtain rfl : k = 0 := by omega
      go_wp2_with fail
      refine (pick_cur g t' 20 _ A.cur (by omega) (by omega)).mono ?_
      rintro e w5 ⟨z, rfl, z0, z1, ⟨t5, x1, x2, hc5⟩, hg5⟩
      have o5 := hown.kept hg5 (.inl hgl)
      have A5 := A.pick hc5 hg5
      clear hc5 hg5 hown A
      by_cases h0 : (z == 0) = true
      · skip
        go_wp2_with fail
        refine (among_cur g t5 _ 6 6 [-1, 0, (j : Int), (j : Int) + 1, 99, 100] _ (A5.later (alloc_below _ _) (A5.size)).cur (by omega) (has_lit6 w5 (-1) 0 (j : Int) ((j : Int) + 1) 99 100) (by omega) (by omega) (lit_ne A5.cur)).mono ?_
        rintro e w6 ⟨v6, rfl, hv6, ⟨t6, x3, x4, hc6⟩, hg6⟩
        have hv6b : -1 ≤ v6 ∧ v6 ≤ 100 := by simp at hv6; omega
        have A5' := A5.later (alloc_below w5 (.cells #[.int .i64 (-1), .int .i64 0, .int .i64 (j : Int), .int .i64 ((j : Int) + 1), .int .i64 99, .int .i64 100] 3)) (A5.size)
        have A6 := A5'.pick hc6 hg6
        have o6 := (o5.below (alloc_below w5 (.cells #[.int .i64 (-1), .int .i64 0, .int .i64 (j : Int), .int .i64 ((j : Int) + 1), .int .i64 99, .int .i64 100] 3)) (Nat.le_refl _)).kept hg6 (.inl hgl)
        have hs6 := A6.size
        clear hc6 hg6 o5 A5 A5' hv6
        go_wp2_with (at_builtin; refine wpList_append_int _ rfl _ _ rfl w.heap.size _ _ _ _ _ rfl rfl o6 (by omega) hs6 ?_; intro a7 cap7 w7 o7 hb7)
        have A7 := A6.later hb7 (Nat.le_refl _)
        go_ret
        exact ⟨_, _, _, _, t6, rfl, o7, by omega, (HI.out.wide (by omega) (by omega)).snoc hv6b, A7, by omega⟩
      · skip
        have h0' := Bool.eq_false_iff.2 h0
        clear h0
        by_cases h1 : (z == 1) = true
        · skip
          by_cases hj0 : 0 < j
          · skip
            go_wp2_with fail
            refine (pick_cur g t5 (j : Int) _ A5.cur (by omega) (by omega)).mono ?_
            rintro e w6 ⟨qx, rfl, q0, q1, ⟨t6, x3, x4, hc6⟩, hg6⟩
            obtain ⟨x, rfl⟩ : ∃ x : Nat, qx = (x : Int) := ⟨_, (Int.toNat_of_nonneg q0).symm⟩
            have hx : x < j := by omega
            have o6 := o5.kept hg6 (.inl hgl)
            have A6 := A5.pick hc6 hg6
            clear hc6 hg6 o5 A5 q0 q1
            go_wp2_with fail
            refine (pick_cur g t6 (j : Int) _ A6.cur (by omega) (by omega)).mono ?_
            rintro e w7 ⟨qy, rfl, q0, q1, ⟨t7, x5, x6, hc7⟩, hg7⟩
            obtain ⟨y, rfl⟩ : ∃ y : Nat, qy = (y : Int) := ⟨_, (Int.toNat_of_nonneg q0).symm⟩
            have hy : y < j := by omega
            have o7 := o6.kept hg7 (.inl hgl)
            have A7 := A6.pick hc7 hg7
            clear hc7 hg7 o6 A6 q0 q1
            obtain ⟨gg, rfl, hgB, hg2, hg3, hg4⟩ := o7.opened hj0
            have hgk := hg3 x hx
            have hgf := hg4 x
            have hxi : (x : Int) < (j : Int) := by omega
            clear hg3 hg4
            go_wp2_with fail
            go_ret
            obtain ⟨s1, s2⟩ := o7.set x (y : Int)
            exact ⟨_, _, _, _, t7, rfl, s1, by omega, (HI.out.wide (by omega) (by omega)).set ⟨by omega, by omega⟩, A7.later ((Below.refl w.heap.size w7).setCell hgB _) (Nat.le_refl _), by omega⟩
          · skip
            go_wp2_with fail
            go_ret
            exact ⟨_, _, _, _, t5, rfl, o5, by omega, HI.out.wide (by omega) (by omega), A5, by omega⟩
        · skip
          have h1' := Bool.eq_false_iff.2 h1
          clear h1
          by_cases h2 : (z == 2) = true
          · skip
            go_wp2_with fail
            go_loopg [5] (10 - j) (fun q2 o wr => ∃ (m : Nat) (a' : Option Addr) (cap' : Nat) (xs : List Int), m + q2 = 10 ∧ 0 < q2 ∧ o = .slice a' m cap' ∧ Own wr w.heap.size a' m cap' xs ∧ Within xs (-1) 100 ∧ AtG w wr g t5)
            case atStart => exact ⟨j, a', cap', xs, by omega, by omega, rfl, o5, HI.out.wide (by omega) (by omega), A5⟩
            case round =>
              obtain ⟨m, a', cap', xs, hmq, hq0, rfl, hown, hin, A⟩ := hrel
              have HI2 := hid hin
              have hs := A.size
              clear A5 o5 hin
              by_cases hm9 : m < 9
              · skip
                go_wp2_with (at_builtin; refine wpList_append_int _ rfl _ _ rfl w.heap.size _ _ _ _ _ rfl rfl hown (by omega) hs ?_; intro a8 cap8 w8 o8 hb8)
                have A8 := A.later hb8 (Nat.le_refl _)
                go_roundg (gk - 1)
                case rel => exact ⟨m + 1, a8, cap8, _, by omega, by omega, rfl, o8, HI2.out.snoc ⟨by omega, by omega⟩, A8⟩
                case measure => omega
              · skip
                go_wp2_with fail
                go_ret
                exact ⟨_, _, _, _, t5, rfl, hown, by omega, HI2.out, A, by omega⟩
          · skip
            have h2' := Bool.eq_false_iff.2 h2
            clear h2
            go_wp2_with fail
            go_ret
            exact ⟨_, _, _, _, t5, rfl, o5, by omega, HI.out.wide (by omega) (by omega), A5, by omega⟩
end Go.Proofs.Ytakadjhbomggbab
