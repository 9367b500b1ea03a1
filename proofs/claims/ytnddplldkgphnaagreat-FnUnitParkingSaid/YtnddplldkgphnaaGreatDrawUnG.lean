/- Chapter 9's draws of unit parking functions. -/
import Derived.Test.YtnddplldkgphnaaGreatDraw2
import Derived.Test.YtnddplldkgphnaaGreatMathG
import Derived.Test.YtnddplldkgphnaaGreatSpecS
import Derived.StillTailTactics
import Derived.Test.YtnddplldkgphnaaGreatImplB
import Derived.Test.YtnddplldkgphnaaGreatSpecC
import Derived.Test.YtnddplldkgphnaaGreatMathO
import Derived.Test.YtnddplldkgphnaaGreatMathVq
import Derived.Test.YtnddplldkgphnaaGreatMathUa
import Derived.Test.YtnddplldkgphnaaGreatHelp2
import Derived.Test.YtnddplldkgphnaaGreatRowA
import Derived.Test.YtnddplldkgphnaaGreatLawKit
import Derived.Maps.AppendAt
import Derived.Test.YtnddplldkgphnaaGreatMathFr
import Derived.Test.YtnddplldkgphnaaGreatReo
import Derived.Test.YtnddplldkgphnaaGreatBase
import Derived.Test.YtnddplldkgphnaaGreatHelp
import Derived.Test.YtnddplldkgphnaaGreatMathSm
import Derived.Test.YtnddplldkgphnaaGreatWkS
import Derived.Test.YtnddplldkgphnaaGreatPartsA
import Derived.BigQuiet
import Derived.Test.YtnddplldkgphnaaGreatSpecD
namespace Go.Proofs.YtnddplldkgphnaaGreat
open Go.RowKit

/-- A list of nn numbers that was drawn. -/
def DrewListN (nn : Nat) (w : World) (g t : Nat) (e : Ending) (w' : World) : Prop :=
  ∃ a n cap xs t', e = .returned (.slice a n cap) ∧ Own w' w.heap.size a n cap xs ∧ n = nn ∧ Within xs (-1) 100 ∧ AtG w w' g t' ∧ t' ≤ t + 100
set_option maxHeartbeats 8000000 in
theorem outcome_at (g t nn : Nat) (w : World) (h : Cur w g t) (ht : t ≤ 5000) (hnn : nn ≤ 10) :
    Calls Tryz.prog 35 #[.pointer (some ⟨g, 0, none⟩), .int .i64 (nn : Int)] w (DrewListN nn w g t) := by
  have hgl := h.lt
  have A0 := AtG.new h
  go_enter Tryz.func35, Tryz.ntmps35
  go_wp2_with fail
  go_loopw [5, 6] (fun o i wr => ∃ (j : Nat) (a' : Option Addr) (cap' : Nat) (xs : List Int) (t' : Nat), j ≤ nn ∧ i = .int .i64 (j : Int) ∧ o = .slice a' j cap' ∧ Own wr w.heap.size a' j cap' xs ∧ Within xs 0 9 ∧ AtG w wr g t' ∧ t' ≤ t + 2 * j) (fun _ i _ => nn - (intOf i).toNat)
  case atStart => exact ⟨0, none, 0, [], t, by omega, rfl, rfl, Own.nil _ _, (fun x hx => by simp at hx), A0, by omega⟩
  case round =>
    obtain ⟨j, a', cap', xs, t', hj, rfl, rfl, hown, hin, A, ht'⟩ := hrel
    have HI := hid hin
    clear A0 hin
    by_cases hlt : j < nn
    · skip
      go_wp2_with fail
      refine (pick_cur g t' ((j : Int) + 1) _ A.cur (by omega) (by omega)).mono ?_
      rintro e w6 ⟨qy, rfl, q0, q1, ⟨t2, x1, x2, hcc⟩, hgg⟩
      obtain ⟨y, rfl⟩ : ∃ y : Nat, qy = (y : Int) := ⟨_, (Int.toNat_of_nonneg q0).symm⟩
      have hy : y ≤ j := by omega
      replace hown := hown.kept hgg (.inl hgl)
      replace A := A.pick hcc hgg
      clear hcc hgg q0 q1
      cases a' with
      | none =>
        obtain ⟨hk1, hcap1, hnil⟩ := hown.noneOf
        have hk0 : j ≤ 0 := by omega
        have hcap0 : cap' ≤ 0 := by omega
        have hat0 : y ≤ 0 := by omega
        subst hnil
        obtain rfl : y = 0 := by omega
        clear hk1 hcap1
        go_wp2_with fail
        refine (l1Own_any _ _ _ _ _ (Has.empty none (Nat.le_refl _) (Nat.le_refl _))).mono ?_
        rintro e w2 ⟨a2, cap2, rfl, hown2, hb2⟩
        go_wp2_with (first | (at_builtin; refine wpList_append_int _ rfl _ _ rfl w6.heap.size _ _ _ _ _ rfl rfl hown2 (by omega) hb2.size ?_; intro a3 cap3 w3 hown3 hb3) | (at_builtin; refine wpList_append_ints _ rfl _ _ rfl w6.heap.size _ none _ _ _ _ _ [] rfl rfl hown3 (Has.empty none (by omega) (by omega)) (by omega) (Nat.le_trans hb2.size hb3.size) ?_; intro a4 n4 cap4 w4 hn4 hown4 hb4))
        have hbb := (hb2.trans hb3).trans hb4
        have A4 := A.later hbb (A.size)
        have hown5 : Own w4 w.heap.size a4 (j + 1) cap4 (putIn [] 0 (j : Int)) := (hown4.mono A.size).relen (by omega) (by simp [putIn])
        have hn5 : n4 = j + 1 := by omega
        clear hown4 hown3 hown2 hb2 hb3 hb4 hbb hn4
        go_roundw
        case rel => exact ⟨j + 1, a4, cap4, _, t2, by omega, by go_num, slice_len (by omega), hown5, HI.out.put ⟨by omega, by omega⟩, A4, by omega⟩
        case measure => simp [intOf]; omega
      | some pp =>
        obtain ⟨gg, rfl, hg1, hg2, hg3, hg4, hkc⟩ := hown.someOf
        have HA := hown.has
        have HLO := hid hown.len
        clear hg3 hg4
        by_cases hjk : y < j
        · skip
          have hcj : ¬ cap' = y := by omega
          go_wp2_with fail
          refine (l1Own_any _ _ _ _ _ (HA.take (k := y) (by omega))).mono ?_
          rintro e w2 ⟨a2, cap2, rfl, hown2, hb2⟩
          have hd2 := (HA.drop (k := y) (by omega)).below hb2 (Nat.le_refl _)
          rw [Nat.zero_add] at hd2
          have hblk : ∀ p, (some ⟨gg, y, none⟩ : Option Addr) = some p → p.block < w6.heap.size := fun p hp => by cases hp; exact hg2
          have HBK := hid hblk
          clear hblk
          go_wp2_with (first | (at_builtin; refine wpList_append_int _ rfl _ _ rfl w6.heap.size _ _ _ _ _ rfl rfl hown2 (by omega) hb2.size ?_; intro a3 cap3 w3 hown3 hb3) | (at_builtin; refine wpList_append_ints _ rfl _ _ rfl w6.heap.size _ _ _ _ _ _ _ _ rfl rfl hown3 (hd2.belowB hb3 HBK.out) (by omega) (Nat.le_trans hb2.size hb3.size) ?_; intro a4 n4 cap4 w4 hn4 hown4 hb4))
          clear hd2 HBK
          have hbb := (hb2.trans hb3).trans hb4
          have A4 := A.later hbb (A.size)
          have hown5 : Own w4 w.heap.size a4 (j + 1) cap4 (putIn xs y (j : Int)) := (hown4.mono A.size).relen (by omega) (by unfold putIn; rfl)
          have hn5 : n4 = j + 1 := by omega
          clear hown4 hown3 hown2 hb2 hb3 hb4 hbb hn4
          go_roundw
          case rel => exact ⟨j + 1, a4, cap4, _, t2, by omega, by go_num, slice_len (by omega), hown5, HI.out.put ⟨by omega, by omega⟩, A4, by omega⟩
          case measure => simp [intOf]; omega
        · skip
          obtain rfl : j = y := by omega
          clear hjk
          by_cases hcj : cap' = j
          · skip
            obtain rfl : j = cap' := hcj.symm
            clear hcj
            have hmax : 0 ≤ maxLen := by unfold maxLen; omega
            have HMX := hid hmax
            clear hmax
            go_wp2_with fail
            refine (l1Own_any _ _ _ _ _ (HA.take (k := j) (by omega))).mono ?_
            rintro e w2 ⟨a2, cap2, rfl, hown2, hb2⟩
            go_wp2_with (first | (at_builtin; refine wpList_append_int _ rfl _ _ rfl w6.heap.size _ _ _ _ _ rfl rfl hown2 (by omega) hb2.size ?_; intro a3 cap3 w3 hown3 hb3) | (at_builtin; refine wpList_append_ints _ rfl _ _ rfl w6.heap.size _ _ _ _ _ _ _ [] rfl rfl hown3 (Has.nilAt _ (by unfold maxLen; omega)) (by omega) (Nat.le_trans hb2.size hb3.size) ?_; intro a4 n4 cap4 w4 hn4 hown4 hb4))
            have hbb := (hb2.trans hb3).trans hb4
            have A4 := A.later hbb (A.size)
            have hown5 : Own w4 w.heap.size a4 (j + 1) cap4 (putIn xs j (j : Int)) := (hown4.mono A.size).relen (by omega) (by unfold putIn; rw [List.drop_eq_nil_of_le (by rw [HLO.out]; exact Nat.le_refl _)])
            have hn5 : n4 = j + 1 := by omega
            clear hown4 hown3 hown2 hb2 hb3 hb4 hbb hn4
            go_roundw
            case rel => exact ⟨j + 1, a4, cap4, _, t2, by omega, by go_num, slice_len (by omega), hown5, HI.out.put ⟨by omega, by omega⟩, A4, by omega⟩
            case measure => simp [intOf]; omega
          · skip
            have hmax : cap' - j ≤ maxLen := by have := HA.2.2.1; omega
            have HMX := hid hmax
            clear hmax
            go_wp2_with fail
            refine (l1Own_any _ _ _ _ _ (HA.take (k := j) (by omega))).mono ?_
            rintro e w2 ⟨a2, cap2, rfl, hown2, hb2⟩
            go_wp2_with (first | (at_builtin; refine wpList_append_int _ rfl _ _ rfl w6.heap.size _ _ _ _ _ rfl rfl hown2 (by omega) hb2.size ?_; intro a3 cap3 w3 hown3 hb3) | (at_builtin; refine wpList_append_ints _ rfl _ _ rfl w6.heap.size _ _ _ _ _ _ _ [] rfl rfl hown3 (Has.nilAt _ HMX.out) (by omega) (Nat.le_trans hb2.size hb3.size) ?_; intro a4 n4 cap4 w4 hn4 hown4 hb4))
            have hbb := (hb2.trans hb3).trans hb4
            have A4 := A.later hbb (A.size)
            have hown5 : Own w4 w.heap.size a4 (j + 1) cap4 (putIn xs j (j : Int)) := (hown4.mono A.size).relen (by omega) (by unfold putIn; rw [List.drop_eq_nil_of_le (by rw [HLO.out]; exact Nat.le_refl _)])
            have hn5 : n4 = j + 1 := by omega
            clear hown4 hown3 hown2 hb2 hb3 hb4 hbb hn4
            go_roundw
            case rel => exact ⟨j + 1, a4, cap4, _, t2, by omega, by go_num, slice_len (by omega), hown5, HI.out.put ⟨by omega, by omega⟩, A4, by omega⟩
            case measure => simp [intOf]; omega
    · skip
      obtain rfl : j = nn := by omega
      by_cases hj0 : 0 < j
      · skip
        go_wp2_with fail
        refine (one_cur g t' 20 _ A.cur (by omega) (by omega)).mono ?_
        rintro e w5 ⟨bb, rfl, ⟨t5, x1, x2, hc5⟩, hg5⟩
        have o5 := hown.kept hg5 (.inl hgl)
        have A5 := A.pick hc5 hg5
        clear hc5 hg5 hown A
        cases bb with
        | false =>
          go_wp2_with fail
          go_ret
          exact ⟨_, _, _, _, t5, rfl, o5, by omega, HI.out.wide (by omega) (by omega), A5, by omega⟩
        | true =>
          go_wp2_with fail
          refine (pick_cur g t5 (j : Int) _ A5.cur (by omega) (by omega)).mono ?_
          rintro e w6 ⟨qx, rfl, q0, q1, ⟨t6, x3, x4, hc6⟩, hg6⟩
          obtain ⟨x, rfl⟩ : ∃ x : Nat, qx = (x : Int) := ⟨_, (Int.toNat_of_nonneg q0).symm⟩
          have hx : x < j := by omega
          have o6 := o5.kept hg6 (.inl hgl)
          have A6 := A5.pick hc6 hg6
          clear hc6 hg6 o5 A5 q0 q1
          go_wp2_with fail
          refine (among_cur g t6 _ 3 3 [-1, 0, (j : Int)] _ (A6.later (alloc_below _ _) (A6.size)).cur (by omega) (has_lit3 w6 (-1) 0 (j : Int)) (by omega) (by omega) (lit_ne A6.cur)).mono ?_
          rintro e w7 ⟨v7, rfl, hv7, ⟨t7, x5, x6, hc7⟩, hg7⟩
          have hv7b : -1 ≤ v7 ∧ v7 ≤ 100 := by simp at hv7; omega
          have A6' := A6.later (alloc_below w6 (.cells #[.int .i64 (-1), .int .i64 0, .int .i64 (j : Int)] 3)) (A6.size)
          have A7 := A6'.pick hc7 hg7
          have o7 := (o6.below (alloc_below w6 (.cells #[.int .i64 (-1), .int .i64 0, .int .i64 (j : Int)] 3)) (Nat.le_refl _)).kept hg7 (.inl hgl)
          clear hc7 hg7 o6 A6 A6' hv7
          obtain ⟨gg, rfl, hgB, hg2, hg3, hg4⟩ := o7.opened hj0
          have hgk := hg3 x hx
          have hgf := hg4 x
          have hxi : (x : Int) < (j : Int) := by omega
          clear hg3 hg4
          go_wp2_with fail
          go_ret
          obtain ⟨s1, s2⟩ := o7.set x v7
          exact ⟨_, _, _, _, t7, rfl, s1, by omega, (HI.out.wide (by omega) (by omega)).set hv7b, A7.later ((Below.refl w.heap.size w7).setCell hgB _) (Nat.le_refl _), by omega⟩
      · skip
        obtain rfl : j = 0 := by omega
        go_wp2_with fail
        go_ret
        exact ⟨_, _, _, _, t', rfl, hown, by omega, HI.out.wide (by omega) (by omega), A, by omega⟩

theorem outcome_cur (g t nn : Nat) (w : World) (h : Cur w g t) (ht : t ≤ 5000) (hnn : nn ≤ 10) :
    Calls Tryz.prog 35 #[.pointer (some ⟨g, 0, none⟩), .int .i64 (nn : Int)] w (DrewList w g t) :=
  (outcome_at g t nn w h ht hnn).mono fun _ _ ⟨a, n, cap, xs, t', h1, h2, h3, h4, h5, h6⟩ => ⟨a, n, cap, xs, t', h1, h2, by omega, h4, h5, h6⟩

/-- A list that was drawn, for the caller of a draw. -/
def DrewList' (w : World) (e : Ending) (w' : World) : Prop :=
  ∃ a n cap xs, e = .returned (.slice a n cap) ∧ Own w' w.heap.size a n cap xs ∧ n ≤ 10 ∧ Within xs (-1) 100 ∧ Below w.heap.size w w'

/-- Two lists that were drawn. -/
def DrewTwo (w : World) (e : Ending) (w' : World) : Prop :=
  ∃ a n cap xs a' n' cap' ys, e = .returned (.tuple #[.slice a n cap, .slice a' n' cap']) ∧ Own w' w.heap.size a n cap xs ∧ Own w' w.heap.size a' n' cap' ys ∧ n ≤ 10 ∧ n' ≤ 10 ∧ Below w.heap.size w w'

/-- Two lists and a bool that were drawn. -/
def DrewTwoB (w : World) (e : Ending) (w' : World) : Prop :=
  ∃ a n cap xs a' n' cap' ys b, e = .returned (.tuple #[.slice a n cap, .slice a' n' cap', .bool b]) ∧ Own w' w.heap.size a n cap xs ∧ Own w' w.heap.size a' n' cap' ys ∧ n ≤ 10 ∧ n' ≤ 10 ∧ Below w.heap.size w w'

end Go.Proofs.YtnddplldkgphnaaGreat

namespace Go.Proofs.YtnddplldkgphnaaGreat
open Go.RowKit

theorem chs_70 : ∀ n, n < 9 → ∀ i, i < 9 → chs n i ≤ 70 := by decide +kernel
/-- The table of those that have chosen: k kinds are done, of the next one M. -/
def Next (c : Nat → Bool) (v : Nat → Nat) (L k M : Nat) (zs : List Int) : Prop :=
  ∀ s, s ≤ L → nth zs s = if c s = true then ((chs L s * (sumTo (fun j => chs s j * v j) k + if k ≤ s ∧ s < k + M then chs s k * v k else 0) : Nat) : Int) else 0
/-- A table. -/
def Tab (v : Nat → Nat) (L : Nat) (ys : List Int) : Prop := ∀ s, s ≤ L → nth ys s = ((chs L s * v s : Nat) : Int)
theorem nth_replicate0 (n i : Nat) : nth (List.replicate n 0) i = 0 := by
  simp only [nth, List.getD_eq_getElem?_getD, List.getElem?_replicate]
  split <;> rfl
theorem next_zero (c : Nat → Bool) (v : Nat → Nat) (L : Nat) : Next c v L 0 0 (List.replicate (L + 1) 0) := fun s _ => by
  rw [nth_replicate0]
  simp [sumTo]
theorem next_skip {c : Nat → Bool} {v : Nat → Nat} {L k M : Nat} {zs : List Int} (h : Next c v L k M zs) (hc : c (k + M) = false) : Next c v L k (M + 1) zs := fun s hs => by
  rw [h s hs]
  by_cases e : s = k + M
  · subst e; simp [hc]
  · have : (k ≤ s ∧ s < k + M) = (k ≤ s ∧ s < k + (M + 1)) := by apply propext; omega
    simp only [this]
theorem next_store {c : Nat → Bool} {v : Nat → Nat} {L k M : Nat} {ys zs : List Int} (h : Next c v L k M zs) (hy : Tab v L ys) (hl : zs.length = L + 1) (h8 : L ≤ 8) (hkM : k + M ≤ L) (hc : c (k + M) = true) :
    Next c v L k (M + 1) (zs.set (k + M) (nth zs (k + M) + nth ys k * (chs (L - k) M : Int))) := fun s hs => by
  rw [nth_set (by omega)]
  by_cases e : k + M = s
  · rw [if_pos e, h _ hkM, hy k (by omega), if_pos hc, if_neg (by omega), if_pos (by rw [← e]; exact hc), if_pos (by omega)]
    subst e
    have := chs_chs L (by omega) (k + M) (by omega) k (by omega) (by omega) (by omega)
    rw [show k + M - k = M by omega] at this
    rw [Nat.add_zero, Nat.mul_add, ← Nat.mul_assoc (chs L (k + M)) (chs (k + M) k), ← this]
    simp only [Int.natCast_mul, Int.natCast_add]
    rw [Int.mul_right_comm]
  · rw [if_neg e, h s hs]
    have : (k ≤ s ∧ s < k + M) = (k ≤ s ∧ s < k + (M + 1)) := by apply propext; omega
    simp only [this]
theorem next_done {c : Nat → Bool} {v : Nat → Nat} {L k M : Nat} {zs : List Int} (h : Next c v L k M zs) (hM : L < k + M) : Next c v L (k + 1) 0 zs := fun s hs => by
  rw [h s hs, if_neg (by omega : ¬ (k + 1 ≤ s ∧ s < k + 1 + 0)), Nat.add_zero, sumTo]
  by_cases e : k ≤ s
  · rw [if_pos (show k ≤ s ∧ s < k + M from ⟨e, by omega⟩)]
  · rw [if_neg (show ¬ (k ≤ s ∧ s < k + M) by omega), chs_big s k (by omega), Nat.zero_mul]
theorem sum_past {v : Nat → Nat} {s : Nat} : ∀ L, s ≤ L → sumTo (fun j => chs s j * v j) (L + 1) = sumTo (fun j => chs s j * v j) (s + 1)
  | L, h => by
    obtain ⟨d, rfl⟩ : ∃ d, L = s + d := ⟨L - s, by omega⟩
    induction d with
    | zero => rfl
    | succ d ih =>
      rw [show s + (d + 1) + 1 = (s + d + 1) + 1 from rfl, sumTo, ih (by omega), chs_big s (s + d + 1) (by omega), Nat.zero_mul, Nat.add_zero]
theorem next_final {c : Nat → Bool} {v : Nat → Nat} {L : Nat} {zs : List Int} (h : Next c v L (L + 1) 0 zs) : Tab (fun s => if c s = true then sumTo (fun j => chs s j * v j) (s + 1) else 0) L zs := fun s hs => by
  rw [h s hs, if_neg (by omega : ¬ (L + 1 ≤ s ∧ s < L + 1 + 0)), Nat.add_zero, sum_past L hs]
  split <;> simp [*]
theorem tab_le {v : Nat → Nat} {L : Nat} {ys : List Int} (h : Tab v L ys) (h8 : L ≤ 8) (hv : ∀ s, s ≤ 8 → v s ≤ 16777216) {s : Nat} (hs : s ≤ L) : 0 ≤ nth ys s ∧ nth ys s ≤ 1174405120 := by
  rw [h s hs]
  have := Nat.mul_le_mul (chs_70 L (by omega) s (by omega)) (hv s (by omega))
  omega
theorem next_le {c : Nat → Bool} {v : Nat → Nat} {L k M : Nat} {zs : List Int} (h : Next c v L k M zs) (h8 : L ≤ 8) (hk : k ≤ L) (hv : ∀ s, s ≤ 8 → v s ≤ 16777216) {s : Nat} (hs : s ≤ L) : 0 ≤ nth zs s ∧ nth zs s ≤ 1000000000000 := by
  rw [h s hs]
  split
  · have h1 : sumTo (fun j => chs s j * v j) k ≤ sumTo (fun _ => 1174405120) k := sumTo_le fun i hi => by
      have := Nat.mul_le_mul (chs_70 s (by omega) i (by omega)) (hv i (by omega))
      omega
    have h2 : ∀ k, sumTo (fun _ => 1174405120) k = k * 1174405120 := by
      intro k
      induction k with
      | zero => rfl
      | succ k ih => simp only [sumTo]; rw [ih]; omega
    rw [h2] at h1
    have h3 : k * 1174405120 ≤ 8 * 1174405120 := Nat.mul_le_mul_right _ (by omega)
    have h4 : (if k ≤ s ∧ s < k + M then chs s k * v k else 0) ≤ 1174405120 := by
      split
      · have := Nat.mul_le_mul (chs_70 s (by omega) k (by omega)) (hv k (by omega))
        omega
      · omega
    have := Nat.mul_le_mul (chs_70 L (by omega) s (by omega)) (Nat.add_le_add (Nat.le_trans h1 h3) h4)
    omega
  · omega
theorem prod_le {v : Nat → Nat} {L : Nat} {ys : List Int} (h : Tab v L ys) (h8 : L ≤ 8) (hv : ∀ s, s ≤ 8 → v s ≤ 16777216) {s : Nat} (hs : s ≤ L) {n k : Nat} (hn : n ≤ 8) (hk : k ≤ 8) :
    0 ≤ nth ys s * (chs n k : Int) ∧ nth ys s * (chs n k : Int) ≤ 1000000000000 := by
  rw [h s hs]
  have := Nat.mul_le_mul (Nat.mul_le_mul (chs_70 L (by omega) s (by omega)) (hv s (by omega))) (chs_70 n (by omega) k (by omega))
  rw [← Int.natCast_mul]
  omega
theorem V_le8 (b : Nat → Nat) {P : Nat} (hP : P ≤ 8) : ∀ s, s ≤ 8 → V b P s ≤ 16777216 := fun s hs => by
  refine Nat.le_trans (V_le b P (by omega) s (by omega)) ?_
  have : ∀ P, P < 9 → ∀ s, s < 9 → P ^ s ≤ 16777216 := by decide +kernel
  exact this P (by omega) s (by omega)
theorem tab_step {b : Nat → Nat} {P L : Nat} {zs : List Int} (h : Next (fun s => decide (P < b P + s)) (V b P) L (L + 1) 0 zs) : Tab (V b (P + 1)) L zs := fun s hs => by
  rw [next_final h s hs]
  simp only [V, decide_eq_true_eq]
/-- A first table. -/
theorem tab_first (b : Nat → Nat) (L : Nat) : Tab (V b 0) L ((List.replicate (L + 1) 0).set 0 1) := fun s _ => by
  rw [nth_set (by simp)]
  by_cases e : s = 0
  · subst e; simp [V, chs_zero]
  · rw [if_neg (by omega), nth_replicate0]
    simp [V, e]
theorem below_upto {xs : List Int} {n : Nat} (h0 : ∀ i, i < n → 0 ≤ nth xs i) (hn : xs.length = n) : below xs 0 = 0 := by
  unfold below
  rw [List.countP_eq_zero]
  intro x hx
  obtain ⟨i, hi, rfl⟩ := mem_nth hx
  have := h0 i (by omega)
  simp
  omega
theorem pow_small : ∀ b, b < 14 → ∀ k, k < 9 → b ^ k ≤ 815730721 := by decide +kernel
end Go.Proofs.YtnddplldkgphnaaGreat

namespace Go.Proofs.YtnddplldkgphnaaGreat
open Go.RowKit

theorem cnCars_any (n : Int) (w : World) :
    Calls Tryz.prog 43 #[.int .i64 n] w fun e w' => e = .returned (.bool (inB n 0 8)) ∧ w = w' := by
  go_enter Tryz.func43, Tryz.ntmps43
  go_wp2_with (go_at_call 37; refine (l1In_any _ _ _ _).mono ?_; rintro e w' ⟨rfl, rfl⟩)
  go_ret
  exact ⟨rfl, rfl⟩

theorem street_small : ∀ c, c < 9 → ∀ p, p < 13 → 1 ≤ c → c ≤ p → (p + 1 - c) * (p + 1) ^ (c - 1) ≤ 815730721 := by decide +kernel

theorem chs_times : ∀ n, n < 17 → ∀ i, i < n → chs n i * (n - i) ≤ 205920 := by decide +kernel

end Go.Proofs.YtnddplldkgphnaaGreat

namespace Go.Proofs.YtnddplldkgphnaaGreat
open Go.RowKit

/-- A number that was drawn, for the caller of a draw. -/
def DrewNum (lo hi : Int) (w : World) (e : Ending) (w' : World) : Prop := ∃ v, e = .returned (.int .i64 v) ∧ lo ≤ v ∧ v ≤ hi ∧ Below w.heap.size w w'
/-- Two numbers. -/
def DrewNums (lo hi : Int) (w : World) (e : Ending) (w' : World) : Prop := ∃ v u, e = .returned (.tuple #[.int .i64 v, .int .i64 u]) ∧ lo ≤ v ∧ v ≤ hi ∧ lo ≤ u ∧ u ≤ hi ∧ Below w.heap.size w w'
/-- A list with any numbers. -/
def DrewAny (w : World) (e : Ending) (w' : World) : Prop := ∃ a n cap xs, e = .returned (.slice a n cap) ∧ Own w' w.heap.size a n cap xs ∧ n ≤ 20 ∧ Below w.heap.size w w'

theorem has_lit7 (w : World) (a b c d e f g : Int) : Has (w.alloc (.cells #[.int .i64 a, .int .i64 b, .int .i64 c, .int .i64 d, .int .i64 e, .int .i64 f, .int .i64 g] 3)) (some ⟨w.heap.size, 0, none⟩) 7 7 [a, b, c, d, e, f, g] := has_lit w [a, b, c, d, e, f, g] (by simp)
theorem has_lit8 (w : World) (a b c d e f g h : Int) : Has (w.alloc (.cells #[.int .i64 a, .int .i64 b, .int .i64 c, .int .i64 d, .int .i64 e, .int .i64 f, .int .i64 g, .int .i64 h] 3)) (some ⟨w.heap.size, 0, none⟩) 8 8 [a, b, c, d, e, f, g, h] := has_lit w [a, b, c, d, e, f, g, h] (by simp)
theorem has_lit9 (w : World) (a b c d e f g h i : Int) : Has (w.alloc (.cells #[.int .i64 a, .int .i64 b, .int .i64 c, .int .i64 d, .int .i64 e, .int .i64 f, .int .i64 g, .int .i64 h, .int .i64 i] 3)) (some ⟨w.heap.size, 0, none⟩) 9 9 [a, b, c, d, e, f, g, h, i] := has_lit w [a, b, c, d, e, f, g, h, i] (by simp)

theorem fresh_below (w : World) (a : Option Addr) (n cap : Nat) : Below w.heap.size w (w.alloc (.cells #[.slice a n cap, .int .i64 0, .int .u64 0] 46)) := alloc_below _ _

end Go.Proofs.YtnddplldkgphnaaGreat

namespace Go.Proofs.YtnddplldkgphnaaGreat
open Go.RowKit

theorem good_parked {xs : List Int} {p : Int} (h : good xs p = true) : driveCars xs p = parked xs p := by simp [driveCars, parked, h]

set_option maxHeartbeats 400000 in
theorem driveCars_any (a : Option Addr) (n cap : Nat) (xs : List Int) (p : Int) (w : World) (h : Has w a n cap xs) :
    Calls Tryz.prog 78 #[.slice a n cap, .int .i64 p] w (PostInts w (driveCars xs p)) := by
  by_cases hg : good xs p = true
  · obtain ⟨g1, g2, g3, g4⟩ := good_nth hg h.len
    obtain ⟨q, rfl⟩ : ∃ q : Nat, p = (q : Int) := ⟨p.toNat, by omega⟩
    rw [good_parked hg]
    have HG := hid hg
    clear hg
    go_enter Tryz.func78, Tryz.ntmps78
    go_wp2_with (first | (go_at_call 82; refine (areFavourites_any _ _ _ _ _ _ h).mono ?_; rintro e w' ⟨rfl, rfl⟩; rw [HG.out]) | (go_at_call 51; refine (newStreet_any q (by omega) _).mono ?_; rintro e w1 ⟨bt, bp, g, rfl, hst, hb1⟩))
    refine (park_any _ _ _ _ _ _ _ _ _ _ h hb1 hst g1 (by omega) g4).mono ?_
    rintro e w2 ⟨a2, n2, cap2, rfl, hown2, hb2⟩
    go_wp2_with fail
    go_ret2
    exact ⟨_, _, _, rfl, hown2, hb2⟩
  · have HR : Hid (driveCars xs p = ([], false)) := hid (by simp [driveCars, hg])
    have HG := hid hg
    clear hg
    go_enter Tryz.func78, Tryz.ntmps78
    go_wp2_with (go_at_call 82; refine (areFavourites_any _ _ _ _ _ _ h).mono ?_; rintro e w' ⟨rfl, rfl⟩; rw [Bool.eq_false_iff.2 HG.out])
    go_ret2
    exact postInts_no HR.out (Below.refl _ _)

theorem parked_ok (xs : List Int) (p : Int) : (parked xs p).2 = allPark p xs := by
  unfold parked
  split <;> simp_all

theorem isPark_cars (xs : List Int) : isPark xs = (carsB xs xs.length && allPark xs.length xs) := by simp [isPark, carsB, Bool.and_assoc]

set_option maxHeartbeats 400000 in
theorem isParkingFunction_any (a : Option Addr) (n cap : Nat) (xs : List Int) (w : World) (h : Has w a n cap xs) :
    Calls Tryz.prog 21 #[.slice a n cap] w (PostBool w (isPark xs)) := by
  have hlen := h.len
  by_cases hg : carsB xs n = true
  · have HR : Hid (isPark xs = (parked xs n).2) := hid (by rw [isPark_cars, hlen, hg, parked_ok]; rfl)
    have g1 : n ≤ 8 := by have := (carsB_iff.1 hg).1; omega
    have g4 : ∀ i, i < n → 0 ≤ nth xs i ∧ nth xs i ≤ (n : Int) - 1 := fun i hi => (carsB_iff.1 hg).2 _ (nth_mem (by omega))
    have HG := hid hg
    clear hg hlen
    go_enter Tryz.func21, Tryz.ntmps21
    go_wp2_with (first | (go_at_call 49; refine (areCarsBelow_any _ _ _ _ _ _ h).mono ?_; rintro e w' ⟨rfl, rfl⟩; rw [HG.out]) | (go_at_call 51; refine (newStreet_any n (by omega) _).mono ?_; rintro e w1 ⟨bt, bp, g, rfl, hst, hb1⟩))
    refine (park_any _ _ _ _ _ _ _ _ _ _ h hb1 hst g1 (by omega) g4).mono ?_
    rintro e w2 ⟨a2, n2, cap2, rfl, hown2, hb2⟩
    go_wp2_with fail
    go_ret
    exact postBool HR.out.symm hb2
  · have HR : Hid (isPark xs = false) := hid (by rw [isPark_cars, hlen, Bool.eq_false_iff.2 hg]; rfl)
    have HG := hid hg
    clear hg
    go_enter Tryz.func21, Tryz.ntmps21
    go_wp2_with (go_at_call 49; refine (areCarsBelow_any _ _ _ _ _ _ h).mono ?_; rintro e w' ⟨rfl, rfl⟩; rw [Bool.eq_false_iff.2 HG.out])
    go_ret
    exact postBool HR.out.symm (Below.refl _ _)

set_option maxHeartbeats 400000 in
theorem countBelow_any (a : Option Addr) (n cap : Nat) (xs : List Int) (p : Int) (w : World) (h : Has w a n cap xs) :
    Calls Tryz.prog 72 #[.slice a n cap, .int .i64 p] w fun e w' => e = .returned (.int .i64 (below xs p)) ∧ w = w' := by
  obtain ⟨h0, h1, h2, h3, h4⟩ := h
  go_enter Tryz.func72, Tryz.ntmps72
  go_wp2_with fail
  go_loop [5, 10] (fun c i => ∃ k : Nat, k ≤ n ∧ i = .int .i64 k ∧ c = .int .i64 (below (xs.take k) p)) (fun _ i => n - (intOf i).toNat)
  case atStart => exact ⟨0, Nat.zero_le _, rfl, rfl⟩
  case round =>
    obtain ⟨k, hk, rfl, rfl⟩ := hrel
    by_cases hlt : k < n
    · obtain ⟨b, off, rfl, hb, hc⟩ := h4 (by omega)
      have hck := hc k hlt
      clear hc h4
      have hle := below_le (xs.take k) p
      have hsn := below_succ (k := k) (xs := xs) (by omega) p
      simp only [List.length_take] at hle
      have HS := hid hsn
      clear hsn
      have hle2 : below (xs.take k) p ≤ n := by omega
      clear hle
      by_cases hp : nth xs k < p
      · go_wp2_with fail
        go_round
        case rel => exact ⟨k + 1, by omega, by go_num, by rw [HS.out, if_pos hp]; go_num⟩
        case measure => simp [intOf]; omega
      · go_wp2_with fail
        go_round
        case rel => exact ⟨k + 1, by omega, by go_num, by rw [HS.out, if_neg (by omega)]; go_num⟩
        case measure => simp [intOf]; omega
    · obtain rfl : k = n := by omega
      go_wp2_with fail
      go_ret
      exact ⟨ret_int (by rw [List.take_of_length_le (by omega)]), rfl⟩

theorem drive_yes {xs : List Int} {p : Int} (h : (good xs p && allPark p xs) = true) : driveCars xs p = (drive p xs, true) := by simp only [driveCars, if_pos h]
theorem drive_no {xs : List Int} {p : Int} (h : ¬ (good xs p && allPark p xs) = true) : driveCars xs p = ([], false) := by simp only [driveCars, if_neg h]

/-- The places, of the first k cars already the distances. -/
def Halfway (p : Int) (xs ys : List Int) (k : Nat) : Prop := ∀ i, i < xs.length → nth ys i = if i < k then nth (dists p xs) i else nth (drive p xs) i

set_option maxHeartbeats 800000 in
theorem distancesOf_any (a : Option Addr) (n cap : Nat) (xs : List Int) (p : Int) (w : World) (h : Has w a n cap xs) :
    Calls Tryz.prog 71 #[.slice a n cap, .int .i64 p] w (PostInts w (distsOf xs p)) := by
  by_cases hg : (good xs p && allPark p xs) = true
  · have HR := hid (dists_yes hg)
    have HD := hid (drive_yes hg)
    obtain ⟨g1, g2, g3, g4⟩ := good_nth (by simp at hg; exact hg.1) h.len
    have HL := hid h.len
    clear hg
    go_enter Tryz.func71, Tryz.ntmps71
    go_wp2_with fail
    refine (driveCars_any _ _ _ _ _ _ h).mono ?_
    rw [HD.out]
    rintro e w1 ⟨a1, n1, cap1, rfl, hown1, hb1⟩
    obtain rfl : n1 = n := by rw [← hown1.len, length_drive, HL.out]
    go_wp2_with fail
    obtain ⟨h0, h1, h2, h3, h4⟩ := h.below hb1 (Nat.le_refl _)
    go_loopw [20] (fun i wr => ∃ (k : Nat) (ys : List Int), k ≤ n1 ∧ i = .int .i64 k ∧ Own wr w.heap.size a1 n1 cap1 ys ∧ Halfway p xs ys k ∧ Below w.heap.size w wr) (fun i _ => n1 - (intOf i).toNat)
    case atStart => exact ⟨0, _, Nat.zero_le _, rfl, hown1, fun i hi => by simp, hb1⟩
    case round =>
      obtain ⟨k, ys, hk, rfl, hown, hhw, hb⟩ := hrel
      by_cases hlt : k < n1
      · obtain ⟨b, off, rfl, hbb, hc⟩ := h.2.2.2.2 (by omega)
        obtain ⟨g, rfl, hg1, hg2, hg3, hg4⟩ := hown.opened (by omega)
        have hck : wr.cell? ⟨b, off + k, none⟩ = some (.int .i64 (nth xs k)) := by rw [hb.cell (p := ⟨b, off + k, none⟩) hbb]; exact hc k hlt
        have hdk := hg3 k hlt
        rw [hhw k (by rw [HL.out]; omega), if_neg (by omega)] at hdk
        have hgf := hg4 k
        obtain ⟨hx0, hx1⟩ := g4 k hlt
        obtain ⟨hd0, hd1⟩ := drive_nth_bounds HL.out g4 g3 hlt
        have HH := hid hhw
        have HND := hid (nth_dists (p := p) (xs := xs) (k := k) (by rw [HL.out]; omega))
        clear hc hg3 hg4 hhw h4 g4 hown1 hb1 h0
        go_wp2_with fail
        go_roundw
        case rel =>
          obtain ⟨s1, s2⟩ := hown.set k (nth (drive p xs) k - nth xs k)
          refine ⟨k + 1, _, by omega, by go_num, s1, ?_, hb.setCell hg1 _⟩
          intro i hi
          rw [nth_set (by rw [hown.len]; omega)]
          by_cases e : k = i
          · subst e; rw [if_pos rfl, if_pos (by omega), HND.out]
          · rw [if_neg e, HH.out i hi]
            by_cases e2 : i < k
            · rw [if_pos e2, if_pos (by omega)]
            · rw [if_neg e2, if_neg (by omega)]
        case measure => simp [intOf]; omega
      · obtain rfl : k = n1 := by omega
        go_wp2_with fail
        go_ret2
        refine postInts HR.out ?_ hb
        rw [show dists p xs = ys from ext_nth (by rw [length_dists, hown.len, HL.out]) (fun i hi => by rw [length_dists] at hi; rw [hhw i hi, if_pos (by rw [HL.out] at hi; exact hi)])]
        exact hown
  · have HR := hid (dists_no hg)
    have HD := hid (drive_no hg)
    clear hg
    go_enter Tryz.func71, Tryz.ntmps71
    go_wp2_with fail
    refine (driveCars_any _ _ _ _ _ _ h).mono ?_
    rw [HD.out]
    rintro e w1 ⟨a1, n1, cap1, rfl, hown1, hb1⟩
    go_wp2_with fail
    go_ret2
    exact postInts_no HR.out hb1

end Go.Proofs.YtnddplldkgphnaaGreat

namespace Go.Proofs.YtnddplldkgphnaaGreat
open Go.RowKit

set_option maxHeartbeats 800000 in
theorem paOutcome_any (a : Option Addr) (n cap : Nat) (xs : List Int) (w : World) (h : Has w a n cap xs) :
    Calls Tryz.prog 48 #[.slice a n cap] w fun e w' => e = .returned (.bool (outB xs)) ∧ w = w' := by
  have hlen := h.len
  have hle := h.le
  by_cases h8 : n ≤ 8
  · by_cases ha : allB xs 0 ((n : Int) - 1) = true
    · have HA := hid ha
      have HR : Hid (outB xs = distB xs n) := hid (by simp [outB, carsB, hlen, h8, ha])
      have HL := hid hlen
      clear ha hlen
      have hcap := h.2.1
      have hmx : cap ≤ maxLen := h.2.2.1
      go_enter Tryz.func48, Tryz.ntmps48
      go_wp2_with (go_at_call 59; refine (l1All_any _ _ _ _ _ _ _ h).mono ?_; rintro e w' ⟨rfl, rfl⟩; rw [HA.out])
      go_loop [18] (fun i => ∃ k : Nat, k ≤ n ∧ i = .int .i64 k ∧ Hid (distB xs k = true)) (fun i => n - (intOf i).toNat)
      case atStart => exact ⟨0, Nat.zero_le _, rfl, hid rfl⟩
      case round =>
        obtain ⟨k, hk, rfl, HD⟩ := hrel
        by_cases hlt : k < n
        · obtain ⟨b, off, rfl, hb, hc⟩ := h.2.2.2.2 (by omega)
          have hck := hc k hlt
          have ht := h.take (k := k) (by omega)
          clear hc
          by_cases hq : hasB (xs.take k) (nth xs k) = true
          · have HQ := hid hq
            have HN := hid (distB_no (n := n) hlt hq)
            clear hq
            go_wp2_with fail
            refine (l1Has_any _ _ _ _ _ _ ht).mono ?_
            rintro e w' ⟨rfl, rfl⟩
            rw [HQ.out]
            go_wp2_with fail
            go_ret
            exact ⟨ret_bool (by rw [HR.out, HN.out]), rfl⟩
          · have HQ := hid hq
            clear hq
            go_wp2_with fail
            refine (l1Has_any _ _ _ _ _ _ ht).mono ?_
            rintro e w' ⟨rfl, rfl⟩
            rw [Bool.eq_false_iff.2 HQ.out]
            go_wp2_with fail
            go_round
            case rel => exact ⟨k + 1, by omega, by go_num, hid (by rw [distB_succ, HD.out, Bool.eq_false_iff.2 HQ.out]; rfl)⟩
            case measure => simp [intOf]; omega
        · obtain rfl : k = n := by omega
          go_wp2_with fail
          go_ret
          exact ⟨ret_bool (by rw [HR.out, HD.out]), rfl⟩
    · have HA := hid ha
      have HR : Hid (outB xs = false) := hid (by simp [outB, carsB, hlen, ha])
      clear ha
      go_enter Tryz.func48, Tryz.ntmps48
      go_wp2_with (go_at_call 59; refine (l1All_any _ _ _ _ _ _ _ h).mono ?_; rintro e w' ⟨rfl, rfl⟩; rw [Bool.eq_false_iff.2 HA.out])
      go_ret
      exact ⟨ret_bool HR.out.symm, rfl⟩
  · have HR : Hid (outB xs = false) := hid (by simp [outB, carsB, hlen, h8])
    go_enter Tryz.func48, Tryz.ntmps48
    go_wp2_with fail
    go_ret
    exact ⟨ret_bool HR.out.symm, rfl⟩

/-- A local array of eight cells: what each holds. -/
structure Arr (w : World) (blk : Nat) (f : Nat → Value) : Prop where
  cell : ∀ z, z < 8 → w.cell? ⟨blk, z, none⟩ = some (f z)
  free : ∀ z, w.frozen? ⟨blk, z, none⟩ = false
theorem eight {v : Value} {z : Nat} (h : z < 8) : (#[v, v, v, v, v, v, v, v] : Array Value)[z]? = some v := by
  rcases (show z = 0 ∨ z = 1 ∨ z = 2 ∨ z = 3 ∨ z = 4 ∨ z = 5 ∨ z = 6 ∨ z = 7 by omega) with rfl | rfl | rfl | rfl | rfl | rfl | rfl | rfl <;> rfl
theorem arr_new (w : World) (v : Value) (t : TypeId) : Arr (w.alloc (.cells #[v, v, v, v, v, v, v, v] t)) w.heap.size fun _ => v :=
  ⟨fun z hz => by rw [World.cell?_alloc_at _ _ _ _ rfl, eight hz], fun z => by rw [World.frozen?_alloc_at _ _ _ _ rfl]⟩
theorem Arr.set {w : World} {blk : Nat} {f : Nat → Value} (h : Arr w blk f) {z : Nat} (hz : z < 8) (v : Value) : Arr (w.setCell ⟨blk, z, none⟩ v) blk fun y => if y = z then v else f y := by
  refine ⟨fun y hy => ?_, fun y => by rw [World.frozen?_setCell]; exact h.free y⟩
  by_cases e : y = z
  · subst e
    rw [World.cell?_setCell_same _ _ _ (h.cell y hy), if_pos rfl]
  · rw [World.cell?_setCell_other _ _ _ _ (by intro hh; injection hh with _ h5 _; exact e h5.symm), if_neg e]
    exact h.cell y hy
theorem Arr.congr {w : World} {blk : Nat} {f g : Nat → Value} (h : Arr w blk f) (e : ∀ z, z < 8 → g z = f z) : Arr w blk g := ⟨fun z hz => by rw [e z hz]; exact h.cell z hz, h.free⟩
theorem has_take_succ {xs : List Int} {k : Nat} (h : k < xs.length) (z : Int) : hasB (xs.take (k + 1)) z = (hasB (xs.take k) z || decide (z = nth xs k)) := by
  rw [Bool.eq_iff_iff]
  simp [hasB, take_succ_nth h]
theorem Arr.below {w w' : World} {blk B : Nat} {f : Nat → Value} (h : Arr w blk f) (hb : Below B w w') (hB : blk < B) : Arr w' blk f :=
  ⟨fun z hz => by rw [hb.cell (p := ⟨blk, z, none⟩) hB]; exact h.cell z hz, fun z => by rw [hb.frozen (p := ⟨blk, z, none⟩) hB]; exact h.free z⟩

set_option maxHeartbeats 800000 in
theorem isOutcome_any (a : Option Addr) (n cap : Nat) (xs : List Int) (w : World) (h : Has w a n cap xs) :
    Calls Tryz.prog 63 #[.slice a n cap] w (PostBool w (outB xs)) := by
  have hlen := h.len
  by_cases hg : carsB xs n = true
  · have HR : Hid (outB xs = distB xs n) := hid (by simp [outB, hlen, hg])
    have g1 : n ≤ 8 := by have := (carsB_iff.1 hg).1; omega
    have g4 : ∀ i, i < n → 0 ≤ nth xs i ∧ nth xs i ≤ (n : Int) - 1 := fun i hi => (carsB_iff.1 hg).2 _ (nth_mem (by omega))
    have HL := hid hlen
    have HG := hid hg
    clear hg hlen
    go_enter Tryz.func63, Tryz.ntmps63
    go_wp2_with (go_at_call 49; refine (areCarsBelow_any _ _ _ _ _ _ h).mono ?_; rintro e w' ⟨rfl, rfl⟩; rw [HG.out])
    have A0 := arr_new w (.bool false) 84
    have B0 : Below w.heap.size w (w.alloc (.cells #[.bool false, .bool false, .bool false, .bool false, .bool false, .bool false, .bool false, .bool false] 84)) := (Below.refl _ _).alloc (Nat.le_refl _) _
    go_loopw [13] (fun i wr => ∃ k : Nat, k ≤ n ∧ i = .int .i64 k ∧ Arr wr w.heap.size (fun z => .bool (hasB (xs.take k) z)) ∧ Hid (distB xs k = true) ∧ Below w.heap.size w wr) (fun i _ => n - (intOf i).toNat)
    case atStart => exact ⟨0, Nat.zero_le _, rfl, A0.congr (fun z _ => by simp [hasB]), hid rfl, B0⟩
    case round =>
      obtain ⟨k, hk, rfl, HA, HD, hb⟩ := hrel
      clear A0 B0
      by_cases hlt : k < n
      · obtain ⟨b, off, rfl, hbb, hc⟩ := h.2.2.2.2 (by omega)
        have hck : wr.cell? ⟨b, off + k, none⟩ = some (.int .i64 (nth xs k)) := by rw [hb.cell (p := ⟨b, off + k, none⟩) hbb]; exact hc k hlt
        obtain ⟨hx0, hx1⟩ := g4 k hlt
        obtain ⟨v, hv⟩ : ∃ v : Nat, nth xs k = (v : Int) := ⟨_, (Int.toNat_of_nonneg hx0).symm⟩
        have hac := HA.cell v (by omega)
        have haf := HA.free v
        rw [hv] at hck hx0 hx1
        have HV := hid hv
        clear hc g4 hv
        by_cases hq : hasB (xs.take k) v = true
        · have HN := hid (distB_no (n := n) hlt (by rw [HV.out]; exact hq))
          rw [hq] at hac
          clear hq
          go_wp2_with fail
          go_ret
          exact postBool (by rw [HR.out, HN.out]) hb
        · have hq' := Bool.eq_false_iff.2 hq
          have HQ := hid hq'
          rw [hq'] at hac
          clear hq hq'
          go_wp2_with fail
          go_roundw
          case rel =>
            refine ⟨k + 1, by omega, by go_num, (HA.set (z := v) (by omega) (.bool true)).congr (fun z hz => ?_), hid (by rw [distB_succ, HD.out, HV.out, HQ.out]; rfl), hb.setCell (by simp) _⟩
            rw [has_take_succ (by rw [HL.out]; omega), HV.out]
            by_cases e : z = v
            · subst e; simp
            · have e' : ¬ (z : Int) = (v : Int) := by omega
              simp [e, e']
          case measure => simp [intOf]; omega
      · obtain rfl : k = n := by omega
        go_wp2_with fail
        go_ret
        exact postBool (by rw [HR.out, HD.out]) hb
  · have HR : Hid (outB xs = false) := hid (by simp [outB, hlen, hg])
    have HG := hid hg
    clear hg
    go_enter Tryz.func63, Tryz.ntmps63
    go_wp2_with (go_at_call 49; refine (areCarsBelow_any _ _ _ _ _ _ h).mono ?_; rintro e w' ⟨rfl, rfl⟩; rw [Bool.eq_false_iff.2 HG.out])
    go_ret
    exact postBool HR.out.symm (Below.refl _ _)

/-- What the array of cars holds, behind the first k cars. -/
def carAt (xs : List Int) : Nat → Nat → Int
  | 0, _ => 0
  | k + 1, z => if nth xs k = (z : Int) then (k : Int) else carAt xs k z
theorem carAt_at {xs : List Int} (h : outB xs = true) {j : Nat} (hj : j < xs.length) {v : Nat} (hv : nth xs j = (v : Int)) : ∀ k, j < k → k ≤ xs.length → carAt xs k v = (j : Int)
  | 0, h1, _ => by omega
  | k + 1, h1, h2 => by
    simp only [carAt]
    by_cases e : nth xs k = (v : Int)
    · have := out_inj h (i := k) (j := j) (by omega) hj (by rw [e, hv])
      rw [if_pos e]; omega
    · rw [if_neg e]
      have hne : j ≠ k := by rintro rfl; exact e hv
      exact carAt_at h hj hv k (by omega) (by omega)
/-- The car at a place is an earlier one exactly if the place is among the earlier places. -/
theorem carAt_lt {xs : List Int} (h : outB xs = true) {i v : Nat} (hi : i < xs.length) (hv : v < xs.length) : carAt xs xs.length v < (i : Int) ↔ (v : Int) ∈ xs.take i := by
  obtain ⟨j, hj, e⟩ := mem_nth (out_all h hv)
  rw [carAt_at h hj e xs.length hj (Nat.le_refl _), ← e, out_before h hi hj]
  omega
theorem carAt_bounds (xs : List Int) (z : Nat) : ∀ k, 0 ≤ carAt xs k z ∧ carAt xs k z ≤ (k : Int)
  | 0 => by simp [carAt]
  | k + 1 => by
    have := carAt_bounds xs z k
    simp only [carAt]
    split <;> omega

end Go.Proofs.YtnddplldkgphnaaGreat

namespace Go.Proofs.YtnddplldkgphnaaGreat
open Go.RowKit

/-! ### Blocks -/
def addLast (L : List (List Int)) (v : Int) : List (List Int) := L.dropLast ++ [L.getLast?.getD [] ++ [v]]
def blk (xs ls : List Int) : Nat → List (List Int)
  | 0 => []
  | k + 1 => if nth xs (nth ls k).toNat = (k : Int) then blk xs ls k ++ [[nth ls k]] else addLast (blk xs ls k) (nth ls k)
theorem addLast_snoc (L : List (List Int)) (r : List Int) (v : Int) : addLast (L ++ [r]) v = L ++ [r ++ [v]] := by simp [addLast]
def unitBlocksOf (xs : List Int) : List (List Int) × Bool := if isPark xs && unitB xs 1 then (blk xs (fairL xs) xs.length, true) else ([], false)
theorem fair_bounds {xs : List Int} (h : isPark xs = true) : ∀ c, c < xs.length → 0 ≤ nth xs c ∧ nth xs c < ((12 : Nat) : Int) := fun c hc => by
  have h1 := isPark_bounds h
  have := h1.2 _ (nth_mem hc)
  omega
theorem fair_perm {xs : List Int} (h : isPark xs = true) : (fairL xs).Perm (upto xs.length) := carsP_perm rfl (by have := (isPark_bounds h).1; omega) (fair_bounds h)
theorem fair_length {xs : List Int} (h : isPark xs = true) : (fairL xs).length = xs.length := by rw [(fair_perm h).length_eq, length_upto]
theorem keyC_le {xs : List Int} {u v : Int} (hu : 0 ≤ u) (hu2 : u < 50) (hv : 0 ≤ v) (hv2 : v < 50) (h : keyC xs u ≤ keyC xs v) : nth xs u.toNat ≤ nth xs v.toNat := by
  unfold keyC at h
  omega
/-- In the order by favourites, favourites do not fall. -/
theorem fair_sorted {xs : List Int} {n P : Nat} (hl : xs.length = n) (h8 : n ≤ 50) (hb : ∀ c, c < n → 0 ≤ nth xs c ∧ nth xs c < (P : Int)) : ((carsTo xs P).map fun c => nth xs c.toNat) = insSort xs := by
  have hp := carsP_perm hl h8 hb
  refine sorted_unique ?_ (insSort_sorted xs) ?_
  · rw [List.pairwise_map]
    refine (carsTo_sorted (by omega) (fun c hc => (hb c (by omega)).1) P).imp_of_mem fun {a b} ha hb' h => ?_
    obtain ⟨i, hi, rfl⟩ := mem_upto.1 (hp.subset ha)
    obtain ⟨j, hj, rfl⟩ := mem_upto.1 (hp.subset hb')
    exact keyC_le (by omega) (by omega) (by omega) (by omega) (by omega)
  · refine (hp.map _).trans ?_
    rw [← hl, ← self_upto xs]
    exact (insSort_perm xs).symm
theorem fair_at {xs : List Int} (h : isPark xs = true) {k : Nat} (hk : k < xs.length) : nth xs (nth (fairL xs) k).toNat = nth (insSort xs) k := by
  have h8 := (isPark_bounds h).1
  rw [← fair_sorted rfl (by omega) (fair_bounds h)]
  have hl := fair_length h
  unfold fairL at hl ⊢
  generalize carsTo xs 12 = ls at *
  simp [nth, hl, hk]
theorem app_congr {α : Type} {A B C D : List α} (h1 : A = B) (h2 : C = D) : A ++ C = B ++ D := by rw [h1, h2]
set_option maxHeartbeats 1000000 in
theorem blk_step {xs : List Int} (h : isPark xs = true) : ∀ k, k ≤ xs.length → blk xs (fairL xs) k = ((List.range k).filter (st xs)).map (grp xs ((fairL xs).take k))
  | 0, _ => rfl
  | k + 1, hk => by
    have ih := blk_step h k (by omega)
    have hl := fair_length h
    have hv : (fairL xs).take (k + 1) = (fairL xs).take k ++ [nth (fairL xs) k] := take_succ_nth (by omega)
    have hs := fair_at h (k := k) (by omega)
    have hps := park_sorted h k (by omega)
    have hst := st_at h (b := k) (by omega)
    obtain ⟨c, hc, hcn⟩ := carsP_nth rfl (by have := (isPark_bounds h).1; omega) (fair_bounds h) (k := k) (by omega)
    have hc : nth (fairL xs) k = (c : Int) := hc
    rw [blk, hs, hv, List.range_succ, List.filter_append]
    have hbc : begC xs (nth (fairL xs) k) = begF xs (nth (insSort xs) k).toNat := by unfold begC; rw [hs]
    by_cases e : nth (insSort xs) k = (k : Int)
    · have hsk := hst.2 e
      rw [if_pos e, ih]
      have e1 : begC xs (nth (fairL xs) k) = k := by
        rw [hbc, e, Int.toNat_natCast]
        exact begF_stop ((st_iff h (by omega)).1 hsk)
      have e2 : ([k].filter (st xs)) = [k] := by simp [hsk]
      rw [e2, List.map_append, List.map_singleton]
      refine app_congr ?_ ?_
      · refine List.map_congr_left fun a ha => ?_
        have := List.mem_range.1 (List.mem_filter.1 ha).1
        rw [grp_snoc, if_neg (by omega)]
      · rw [grp_snoc, if_pos e1]
        have : grp xs ((fairL xs).take k) k = [] := by
          unfold grp
          rw [List.filter_eq_nil_iff]
          intro u hu
          obtain ⟨j, hj, rfl⟩ := mem_nth hu
          have hjk : j < k := by rw [List.length_take] at hj; omega
          rw [nth_take hjk]
          have h1 := fair_at h (k := j) (by omega)
          have h2 := park_sorted h j (by omega)
          have h3 := begF_le xs (nth xs (nth (fairL xs) j).toNat).toNat
          unfold begC
          simp only [decide_eq_true_eq]
          omega
        rw [this]
        rfl
    · have hsk : st xs k = false := by rw [Bool.eq_false_iff]; exact fun hh => e (hst.1 hh)
      have hk0 : 0 < k := by
        rcases Nat.eq_zero_or_pos k with rfl | h0
        · exfalso; apply e; omega
        · exact h0
      have e2 : ([k].filter (st xs)) = [] := by simp [hsk]
      rw [if_neg e, e2, List.append_nil, ih]
      have h0 : st xs 0 = true := (st_iff h (Nat.zero_le _)).2 (by rw [show ((0 : Nat) : Int) = 0 from rfl, below_zero (fun x hx => ((isPark_bounds h).2 x hx).1)]; omega)
      have hne : (List.range k).filter (st xs) ≠ [] := List.ne_nil_of_mem (a := 0) (List.mem_filter.2 ⟨List.mem_range.2 hk0, h0⟩)
      have hsp := List.dropLast_concat_getLast hne
      have hlt : ((List.range k).filter (st xs)).Pairwise (· < ·) := List.Pairwise.filter _ List.pairwise_lt_range
      have hma := List.getLast_mem hne
      have hmem : ∀ z, z < k → st xs z = true → z ∈ (List.range k).filter (st xs) := fun z h1 h2 => List.mem_filter.2 ⟨List.mem_range.2 h1, h2⟩
      have hall : ∀ z ∈ (List.range k).filter (st xs), z < k ∧ st xs z = true := fun z hz => ⟨List.mem_range.1 (List.mem_filter.1 hz).1, (List.mem_filter.1 hz).2⟩
      generalize (List.range k).filter (st xs) = F at *
      generalize F.getLast hne = a at *
      generalize F.dropLast = G at *
      subst hsp
      rw [List.pairwise_append] at hlt
      have hGa : ∀ g ∈ G, g < a := fun g hg => hlt.2.2 g hg a (by simp)
      obtain ⟨ha1, ha2⟩ := hall a hma
      have e1 : begC xs (nth (fairL xs) k) = a := by
        rw [hbc]
        have q1 := (st_at h (b := a) (by omega)).1 ha2
        have q2 := sorted_nth (insSort_sorted xs) (i := a) (j := k) (by omega) (by rw [length_insSort]; omega)
        refine begF_eq h (by omega) (by omega) ha2 fun z h1 h2 => ?_
        rw [Bool.eq_false_iff]
        intro hz
        rcases List.mem_append.1 (hmem z (by omega) hz) with h3 | h3
        · have := hGa z h3; omega
        · rw [List.mem_singleton] at h3; omega
      rw [List.map_append, List.map_singleton, addLast_snoc, List.map_append, List.map_singleton]
      refine app_congr ?_ ?_
      · refine List.map_congr_left fun g hg => ?_
        have := hGa g hg
        rw [grp_snoc, if_neg (by omega)]
      · rw [grp_snoc, if_pos e1]
theorem blk_rows {xs : List Int} (h : isPark xs = true) : blk xs (fairL xs) xs.length = partRows xs (fairL xs) := by
  rw [blk_step h _ (Nat.le_refl _), partRows_starts h (fair_perm h), List.take_of_length_le (by rw [fair_length h]; exact Nat.le_refl _)]
  rfl
end Go.Proofs.YtnddplldkgphnaaGreat

namespace Go.Proofs.YtnddplldkgphnaaGreat
open Go.RowKit

def blkAt (bs : List (List Int)) (k : Nat) : List Int := bs.getD k []
def lenTo (bs : List (List Int)) : Nat → Nat
  | 0 => 0
  | k + 1 => lenTo bs k + (blkAt bs k).length
def flatTo (bs : List (List Int)) : Nat → List Int
  | 0 => []
  | k + 1 => flatTo bs k ++ blkAt bs k
def nonTo (bs : List (List Int)) (k : Nat) : Bool := (List.range k).all fun j => decide (0 < (blkAt bs j).length)
def plIn (f : Nat) (b ys : List Int) : Nat → List Int
  | 0 => ys
  | i + 1 => (plIn f b ys i).set (nth b i).toNat ((f : Int) + ((i - 1 : Nat) : Int))
def plTo (n : Nat) (bs : List (List Int)) : Nat → List Int
  | 0 => List.replicate n 0
  | k + 1 => plIn (lenTo bs k) (blkAt bs k) (plTo n bs k) (blkAt bs k).length
def okBl (bs : List (List Int)) : Bool := nonTo bs bs.length && outB (flatTo bs bs.length)
def placeBl (bs : List (List Int)) : List Int := plTo (lenTo bs bs.length) bs bs.length
def fromUnit (bs : List (List Int)) : List Int × Bool := if okBl bs = true ∧ unitBlocksOf (placeBl bs) = (bs, true) then (placeBl bs, true) else ([], false)
theorem blkAt_nums {rs : List Rw} {k : Nat} (h : k < rs.length) : blkAt (numsOf rs) k = (nthR rs k).xs := by
  have h1 : (numsOf rs)[k]? = some (nthR rs k).xs := map_nthR Rw.xs h
  unfold blkAt
  rw [List.getD_eq_getElem?_getD, h1]
  rfl
theorem length_flatTo (bs : List (List Int)) : ∀ k, (flatTo bs k).length = lenTo bs k
  | 0 => rfl
  | k + 1 => by rw [flatTo, lenTo, List.length_append, length_flatTo bs k]
theorem lenTo_mono (bs : List (List Int)) {k : Nat} : ∀ m, lenTo bs k ≤ lenTo bs (k + m)
  | 0 => Nat.le_refl _
  | m + 1 => Nat.le_trans (lenTo_mono bs m) (Nat.le_add_right _ _)
theorem nonTo_succ {bs : List (List Int)} {k : Nat} : nonTo bs (k + 1) = (nonTo bs k && decide (0 < (blkAt bs k).length)) := by simp [nonTo, List.range_succ]
theorem nonTo_no {bs : List (List Int)} {k m : Nat} (hk : k < m) (h : (blkAt bs k).length = 0) : nonTo bs m = false := by
  unfold nonTo
  rw [List.all_eq_false]
  exact ⟨k, by simpa using hk, by simp [h]⟩
theorem nonTo_len {bs : List (List Int)} : ∀ {k : Nat}, nonTo bs k = true → k ≤ lenTo bs k
  | 0, _ => Nat.le_refl _
  | k + 1, h => by
    rw [nonTo_succ, Bool.and_eq_true, decide_eq_true_eq] at h
    have := nonTo_len h.1
    rw [lenTo]
    omega
theorem length_plIn (f : Nat) (b ys : List Int) : ∀ i, (plIn f b ys i).length = ys.length
  | 0 => rfl
  | i + 1 => by rw [plIn, List.length_set, length_plIn f b ys i]
theorem length_plTo (n : Nat) (bs : List (List Int)) : ∀ k, (plTo n bs k).length = n
  | 0 => by simp [plTo]
  | k + 1 => by rw [plTo, length_plIn, length_plTo n bs k]
/-- Different numbers below n. -/
def preB (n : Nat) (s : List Int) : Prop := s.Nodup ∧ ∀ x ∈ s, 0 ≤ x ∧ x < (n : Int)
theorem pre_snoc {n : Nat} {s : List Int} {x : Int} (h : preB n s) (hx : 0 ≤ x ∧ x < (n : Int)) (hn : x ∉ s) : preB n (s ++ [x]) := by
  refine ⟨?_, fun y hy => ?_⟩
  · rw [List.nodup_append]
    refine ⟨h.1, by simp, fun a ha b hb => ?_⟩
    rw [List.mem_singleton] at hb
    subst hb
    rintro rfl
    exact hn ha
  · rcases List.mem_append.1 hy with hy | hy
    · exact h.2 y hy
    · rw [List.mem_singleton] at hy; subst hy; exact hx
theorem out_pre {xs : List Int} : outB xs = true ↔ xs.length ≤ 8 ∧ preB xs.length xs := by
  constructor
  · intro h
    have h1 := out_le h
    unfold outB at h
    rw [Bool.and_eq_true, carsB_iff] at h
    have h2 := nodup_take _ (Nat.le_refl _) h.2
    rw [List.take_length] at h2
    exact ⟨h1, h2, fun x hx => by have := h.1.2 x hx; omega⟩
  · rintro ⟨h1, h2, h3⟩
    unfold outB
    rw [Bool.and_eq_true, carsB_iff]
    refine ⟨⟨h1, fun x hx => by have := h3 x hx; omega⟩, ?_⟩
    unfold distB
    rw [List.all_eq_true]
    intro i hi
    rw [List.mem_range] at hi
    rw [Bool.not_eq_true', Bool.eq_false_iff]
    intro hh
    have hm : nth xs i ∈ xs.take i := by simpa [hasB] using hh
    have h4 : xs = xs.take i ++ nth xs i :: xs.drop (i + 1) := by
      conv => lhs; rw [← List.take_append_drop i xs]
      rw [List.drop_eq_getElem_cons hi]
      simp [nth, hi]
    rw [h4, List.nodup_append] at h2
    exact h2.2.2 _ hm _ List.mem_cons_self rfl
theorem flat_prefix (bs : List (List Int)) {k : Nat} : ∀ m, flatTo bs k <+: flatTo bs (k + m)
  | 0 => List.prefix_refl _
  | m + 1 => (flat_prefix bs m).trans (List.prefix_append _ _)
theorem flat_part (bs : List (List Int)) {k q : Nat} (hk : k < q) (i : Nat) : flatTo bs k ++ (blkAt bs k).take i <+: flatTo bs q := by
  have h1 : flatTo bs k ++ (blkAt bs k).take i <+: flatTo bs (k + 1) := by
    rw [flatTo]
    exact (List.prefix_append_right_inj _).2 (List.take_prefix _ _)
  have h2 := flat_prefix bs (k := k + 1) (q - (k + 1))
  rw [show k + 1 + (q - (k + 1)) = q by omega] at h2
  exact h1.trans h2
/-- Where the model and the program say no. -/
theorem from_empty {bs : List (List Int)} {k : Nat} (hk : k < bs.length) (h : (blkAt bs k).length = 0) : fromUnit bs = ([], false) := by
  unfold fromUnit
  rw [if_neg]
  rintro ⟨h1, _⟩
  unfold okBl at h1
  rw [nonTo_no hk h] at h1
  simp at h1
theorem from_long {bs : List (List Int)} {k : Nat} (hk : k < bs.length) (h : 8 < lenTo bs (k + 1)) : fromUnit bs = ([], false) := by
  unfold fromUnit
  rw [if_neg]
  rintro ⟨h1, _⟩
  unfold okBl at h1
  rw [Bool.and_eq_true, out_pre, length_flatTo] at h1
  have := lenTo_mono bs (k := k + 1) (bs.length - (k + 1))
  rw [show k + 1 + (bs.length - (k + 1)) = bs.length by omega] at this
  omega
theorem from_range {bs : List (List Int)} {k i : Nat} (hk : k < bs.length) (hi : i < (blkAt bs k).length) (h : ¬ (0 ≤ nth (blkAt bs k) i ∧ nth (blkAt bs k) i < (lenTo bs bs.length : Int))) : fromUnit bs = ([], false) := by
  unfold fromUnit
  rw [if_neg]
  rintro ⟨h1, _⟩
  unfold okBl at h1
  rw [Bool.and_eq_true, out_pre, length_flatTo] at h1
  refine h (h1.2.2.2 _ ((flat_part bs hk (i + 1)).subset ?_))
  rw [take_succ_nth hi]
  simp
theorem from_twice {bs : List (List Int)} {k i : Nat} (hk : k < bs.length) (hi : i < (blkAt bs k).length) (h : nth (blkAt bs k) i ∈ flatTo bs k ++ (blkAt bs k).take i) : fromUnit bs = ([], false) := by
  unfold fromUnit
  rw [if_neg]
  rintro ⟨h1, _⟩
  unfold okBl at h1
  rw [Bool.and_eq_true, out_pre] at h1
  have h2 := (flat_part bs hk (i + 1)).sublist.nodup h1.2.2.1
  rw [take_succ_nth hi, ← List.append_assoc, List.nodup_append] at h2
  exact h2.2.2 _ h _ (List.mem_singleton_self _) rfl
theorem from_other {bs : List (List Int)} (h : ¬ unitBlocksOf (placeBl bs) = (bs, true)) : fromUnit bs = ([], false) := by
  unfold fromUnit
  rw [if_neg]
  rintro ⟨_, h1⟩
  exact h h1
theorem from_yes {bs : List (List Int)} (h0 : nonTo bs bs.length = true) (h8 : lenTo bs bs.length ≤ 8) (hp : preB (lenTo bs bs.length) (flatTo bs bs.length)) (h : unitBlocksOf (placeBl bs) = (bs, true)) : fromUnit bs = (placeBl bs, true) := by
  unfold fromUnit
  rw [if_pos]
  refine ⟨?_, h⟩
  unfold okBl
  rw [h0, Bool.true_and, out_pre, length_flatTo]
  exact ⟨h8, hp⟩
theorem blks_same {bs ls : List (List Int)} (hl : ls.length = bs.length) (h : ∀ j, j < bs.length → blkAt bs j = blkAt ls j) : ls = bs := by
  apply List.ext_getElem hl
  intro i h1 h2
  have := h i h2
  unfold blkAt at this
  simp [List.getD_eq_getElem?_getD, h1, h2] at this
  exact this.symm
end Go.Proofs.YtnddplldkgphnaaGreat

namespace Go.Proofs.YtnddplldkgphnaaGreat
open Go.RowKit

/-- The rows' own block is no row's. -/
theorem hdr_ne {w : World} {B B' n cap m c : Nat} {a a2 : Option Addr} {us : List Value} {xs : List Int} (h : w.ownsRow B 24 1 (.slice a n cap) n us) (h2 : Own w B' a2 m c xs) : ∀ p q, a = some p → a2 = some q → p.block ≠ q.block := by
  rintro p q rfl rfl e
  rcases h.2 with ⟨hv, _⟩ | ⟨g1, cap1, cur1, hv1, _, hh1, _⟩
  · simp at hv
  · simp at hv1
    rcases h2.1.2 with ⟨hv2, _⟩ | ⟨g2, cap2, cur2, hv2, _, hh2, _⟩
    · simp at hv2
    · simp at hv2
      rw [hv1.1, hv2.1] at e
      simp at e
      rw [e, hh2] at hh1
      simp at hh1
theorem own_other {w w' : World} {B m c g : Nat} {a2 : Option Addr} {xs : List Int} (h : Own w B a2 m c xs) (hg : w.grownBy w' (some g)) (hne : ∀ q, a2 = some q → q.block ≠ g) : Own w' B a2 m c xs := h.kept hg (.inr hne)
theorem nthR_setB {rs : List Rw} {i j : Nat} {r : Rw} (h : i < rs.length) : nthR (rs.set i r) j = if i = j then r else nthR rs j := by
  by_cases e : i = j
  · subst e; simp [nthR, h]
  · simp [nthR, e]
/-- Behind a growth of the k-th row the rows' own cells are as they were. -/
theorem OwnR.ready {w w1 : World} {B g n cap : Nat} {rs : List Rw} (h : OwnR w B (some ⟨g, 0, none⟩) n cap rs) {k : Nat} (hk : k < n) (hg : w.grownBy w1 (Value.ownBlock (.slice (nthR rs k).a (nthR rs k).xs.length (nthR rs k).c))) :
    w1.frozen? ⟨g, k, none⟩ = false ∧ w1.cell? ⟨g, k, none⟩ = some (.slice (nthR rs k).a (nthR rs k).xs.length (nthR rs k).c) := by
  have hhdr1 : w1.ownsRow B 24 1 (.slice (some ⟨g, 0, none⟩) n cap) n (rs.map Rw.v) := by
    refine h.1.kept hg ?_
    cases e : (nthR rs k).a with
    | none => right; simp [Value.ownBlock]
    | some q =>
      right
      have := hdr_ne h.1 (h.row hk) _ _ rfl e
      simpa [Value.ownBlock] using this
  have hc := hhdr1.cellAt k (by omega)
  rw [map_nthR Rw.v (by rw [h.len]; exact hk)] at hc
  exact ⟨hhdr1.frozenAt k, hc⟩
/-- The k-th row is set anew. -/
theorem OwnR.setRow {w w1 : World} {B g n cap : Nat} {rs : List Rw} (h : OwnR w B (some ⟨g, 0, none⟩) n cap rs) {k : Nat} (hk : k < n) (hg : w.grownBy w1 (Value.ownBlock (.slice (nthR rs k).a (nthR rs k).xs.length (nthR rs k).c))) {a' : Option Addr} {m' c' : Nat} {ys : List Int} (hown' : Own w1 B a' m' c' ys)
    (hloc : Value.ownBlock (.slice a' m' c') = Value.ownBlock (.slice (nthR rs k).a (nthR rs k).xs.length (nthR rs k).c) ∨ ∃ g', Value.ownBlock (.slice a' m' c') = some g' ∧ w.heap.size ≤ g') :
    OwnR (w1.setCell ⟨g, k, none⟩ (.slice a' m' c')) B (some ⟨g, 0, none⟩) n cap (rs.set k ⟨a', c', ys⟩) ∧ w1.grownBy (w1.setCell ⟨g, k, none⟩ (.slice a' m' c')) (some g) := by
  have hl := h.len
  have hm : ys.length = m' := hown'.len
  have hrk := h.row hk
  have hhdr1 : w1.ownsRow B 24 1 (.slice (some ⟨g, 0, none⟩) n cap) n (rs.map Rw.v) := by
    refine h.1.kept hg ?_
    cases e : (nthR rs k).a with
    | none => right; simp [Value.ownBlock]
    | some q =>
      right
      have := hdr_ne h.1 hrk _ _ rfl e
      simpa [Value.ownBlock] using this
  obtain ⟨s1, s2⟩ := hhdr1.stored k (.slice a' m' c')
  -- the other rows
  have other : ∀ j, j < n → j ≠ k → Own w1 B (nthR rs j).a (nthR rs j).xs.length (nthR rs j).c (nthR rs j).xs := fun j hj hjk => by
    refine ⟨(h.row hj).1.kept hg ?_, (h.row hj).2⟩
    cases e : (nthR rs j).a with
    | none => left; rfl
    | some p =>
      right
      cases e2 : (nthR rs k).a with
      | none => simp [Value.ownBlock]
      | some q =>
        have : p.block ≠ q.block := by
          rcases Nat.lt_or_gt_of_ne hjk with h5 | h5
          · exact h.2.2.2.2 j k p q h5 hk e e2
          · exact fun e3 => h.2.2.2.2 k j q p h5 hj e2 e e3.symm
        simpa [Value.ownBlock] using this
  have newOther : ∀ j, j < n → j ≠ k → ∀ p q, (nthR rs j).a = some p → a' = some q → p.block ≠ q.block := fun j hj hjk p q hp hq => by
    subst hq
    rcases hloc with h5 | ⟨g', h5, h6⟩
    · cases e2 : (nthR rs k).a with
      | none => rw [e2] at h5; simp [Value.ownBlock] at h5
      | some q' =>
        rw [e2] at h5
        simp [Value.ownBlock] at h5
        rw [h5]
        rcases Nat.lt_or_gt_of_ne hjk with h7 | h7
        · exact h.2.2.2.2 j k p q' h7 hk hp e2
        · exact fun e3 => h.2.2.2.2 k j q' p h7 hj e2 hp e3.symm
    · simp [Value.ownBlock] at h5
      have := (h.row hj).lt p hp
      omega
  refine ⟨⟨?_, by simpa using hl, h.2.2.1, fun j hj => ?_, fun i j p q hij hj hp hq => ?_⟩, s2⟩
  · have e : (rs.set k ⟨a', c', ys⟩).map Rw.v = (rs.map Rw.v).set k (.slice a' m' c') := by
      rw [List.map_set]
      simp [Rw.v, hm]
    rw [e]
    exact s1
  · rw [nthR_setB (by omega)]
    by_cases e : k = j
    · subst e
      rw [if_pos rfl]
      simp only
      rw [hm]
      exact own_other hown' s2 fun q hq e2 => hdr_ne hhdr1 hown' _ q rfl hq e2.symm
    · rw [if_neg e]
      exact own_other (other j hj (fun h => e h.symm)) s2 fun q hq e2 => hdr_ne hhdr1 (other j hj (fun h => e h.symm)) _ q rfl hq e2.symm
  · rw [nthR_setB (by omega)] at hp hq
    by_cases e1 : k = i
    · rw [if_pos e1] at hp
      by_cases e2 : k = j
      · omega
      · rw [if_neg e2] at hq
        exact fun e3 => newOther j hj (fun h => e2 h.symm) q p hq hp e3.symm
    · rw [if_neg e1] at hp
      by_cases e2 : k = j
      · rw [if_pos e2] at hq
        exact newOther i (by omega) (fun h => e1 h.symm) p q hp hq
      · rw [if_neg e2] at hq
        exact h.2.2.2.2 i j p q hij hj hp hq
end Go.Proofs.YtnddplldkgphnaaGreat

namespace Go.Proofs.YtnddplldkgphnaaGreat
open Go.RowKit

def greatOf (xs : List Int) (p : Int) : Int × Bool := if good xs p && allPark p xs then (greatL (dists p xs), true) else (0, false)
theorem great_bounds {ys : List Int} (h : ∀ i, i < ys.length → 0 ≤ nth ys i ∧ nth ys i ≤ 12) : ∀ k, k ≤ ys.length → 0 ≤ greatL (ys.take k) ∧ greatL (ys.take k) ≤ 12
  | 0, _ => by simp [greatL]
  | k + 1, hk => by
    have := great_bounds h k (by omega)
    have := h k (by omega)
    rw [great_succ (by omega)]
    omega
set_option maxHeartbeats 800000 in
theorem greatest_any (a : Option Addr) (n cap : Nat) (xs : List Int) (p : Int) (w : World) (h : Has w a n cap xs) :
    Calls Tryz.prog 52 #[.slice a n cap, .int .i64 p] w (PostInt w (greatOf xs p)) := by
  by_cases hg : (good xs p && allPark p xs) = true
  · have HR : Hid (greatOf xs p = (greatL (dists p xs), true)) := hid (by simp only [greatOf, if_pos hg])
    have HD := hid (dists_yes hg)
    clear hg
    go_enter Tryz.func52, Tryz.ntmps52
    go_wp2_with fail
    refine (distancesOf_any _ _ _ _ _ _ h).mono ?_
    rw [HD.out]
    rintro e w1 ⟨a1, m, cap1, rfl, hown, hb⟩
    have HS := hid (fun k (hk : k < m) => great_succ (ys := dists p xs) (k := k) (by rw [hown.len]; exact hk))
    have HT := hid (List.take_of_length_le (l := dists p xs) (i := m) (by rw [hown.len]; exact Nat.le_refl _))
    obtain ⟨_, h1, h2, h3, h4⟩ := hown.has
    clear hown HD
    generalize dists p xs = ys at *
    go_wp2_with fail
    go_loop [8, 21] (fun g i => ∃ (k : Nat) (v : Int), k ≤ m ∧ i = .int .i64 (k : Int) ∧ g = .int .i64 v ∧ Hid (v = greatL (ys.take k))) (fun _ i => m - (intOf i).toNat)
    case atStart => exact ⟨0, 0, Nat.zero_le _, rfl, rfl, hid rfl⟩
    case round =>
      obtain ⟨k, v, hk, rfl, rfl, HV⟩ := hrel
      by_cases hlt : k < m
      · obtain ⟨b, off, rfl, hbb, hc⟩ := h4 (by omega)
        have hck := hc k hlt
        have HS' := hid (HS.out k hlt)
        clear hc
        go_wp2_with fail
        go_round
        case rel => exact ⟨k + 1, _, by omega, by go_num, rfl, hid (by rw [HS'.out, HV.out] <;> (split <;> omega))⟩
        case measure => simp [intOf]; omega
      · obtain rfl : k = m := by omega
        go_wp2_with fail
        go_ret2
        exact postInt (by rw [HR.out, HV.out, HT.out]) hb
  · have HR : Hid (greatOf xs p = (0, false)) := hid (by simp only [greatOf, if_neg hg])
    have HD := hid (dists_no hg)
    clear hg
    go_enter Tryz.func52, Tryz.ntmps52
    go_wp2_with fail
    refine (distancesOf_any _ _ _ _ _ _ h).mono ?_
    rw [HD.out]
    rintro e w1 ⟨a1, m, cap1, rfl, hown, hb⟩
    go_wp2_with fail
    go_ret2
    exact postInt HR.out hb
end Go.Proofs.YtnddplldkgphnaaGreat

namespace Go.Proofs.YtnddplldkgphnaaGreat
open Go.RowKit

/-! ### Unit ones -/
set_option maxHeartbeats 400000 in
theorem vaUnit_any (a : Option Addr) (n cap : Nat) (xs : List Int) (m : Int) (w : World) (h : Has w a n cap xs) (hp : isPark xs = true) :
    Calls Tryz.prog 27 #[.slice a n cap, .int .i64 m] w (PostBool w (unitB xs m)) := by
  have hl := h.len
  obtain ⟨h1, h2, h3⟩ := isPark_iff.1 hp
  have HD : Hid (unitB xs m = allB (dists n xs) 0 m) := hid (by unfold unitB; rw [hl])
  have hge : ∀ i, i < n → 0 ≤ nth xs i ∧ nth xs i ≤ (n : Int) - 1 := fun i hi => by have := h2 _ (nth_mem (xs := xs) (i := i) (by omega)); omega
  have h8 : n ≤ 8 := by omega
  have h12 : (n : Int) ≤ 12 := by omega
  clear hl h1 h2 h3
  go_enter Tryz.func27, Tryz.ntmps27
  go_wp2_with fail
  refine (paDistances_any _ _ _ _ _ _ h h8 h12 hge).mono ?_
  rintro e w1 ⟨a1, cap1, rfl, hown1, hb1⟩
  go_wp2_with (go_at_call 59; refine (l1All_any _ _ _ _ _ _ _ hown1.has).mono ?_; rintro e w' ⟨rfl, rfl⟩)
  go_ret
  exact postBool HD.out.symm hb1
set_option maxHeartbeats 400000 in
theorem specUnit_any (a : Option Addr) (n cap : Nat) (xs : List Int) (m : Int) (w : World) (h : Has w a n cap xs) :
    Calls Tryz.prog 15 #[.slice a n cap, .int .i64 m] w (PostBools w (isUnitOf xs m)) := by
  by_cases hg : isPark xs = true
  · have HG := hid hg
    by_cases hm : inB m 0 8 = true
    · have HR : Hid (isUnitOf xs m = (unitB xs m, true)) := hid (by simp [isUnitOf, hg, hm])
      have HM := hid hm
      clear hg hm
      go_enter Tryz.func15, Tryz.ntmps15
      go_wp2_with (first | (go_at_call 26; refine (paParking_any _ _ _ _ _ h).mono ?_; rintro e w1 ⟨rfl, hb1⟩; rw [HG.out]) | (go_at_call 43; refine (cnCars_any _ _).mono ?_; rintro e w' ⟨rfl, rfl⟩; rw [HM.out]))
      refine (vaUnit_any _ _ _ _ _ _ (h.below hb1 (Nat.le_refl _)) HG.out).mono ?_
      rintro e w2 ⟨rfl, hb2⟩
      go_wp2_with fail
      go_ret2
      exact postBools HR.out (hb1.trans (hb2.mono hb1.size))
    · have HR : Hid (isUnitOf xs m = (false, false)) := hid (by simp [isUnitOf, hm])
      have HM := hid hm
      clear hg hm
      go_enter Tryz.func15, Tryz.ntmps15
      go_wp2_with (first | (go_at_call 26; refine (paParking_any _ _ _ _ _ h).mono ?_; rintro e w1 ⟨rfl, hb1⟩; rw [HG.out]) | (go_at_call 43; refine (cnCars_any _ _).mono ?_; rintro e w' ⟨rfl, rfl⟩; rw [Bool.eq_false_iff.2 HM.out]))
      go_ret2
      exact postBools HR.out hb1
  · have HR : Hid (isUnitOf xs m = (false, false)) := hid (by simp [isUnitOf, hg])
    have HG := hid hg
    clear hg
    go_enter Tryz.func15, Tryz.ntmps15
    go_wp2_with (go_at_call 26; refine (paParking_any _ _ _ _ _ h).mono ?_; rintro e w1 ⟨rfl, hb1⟩; rw [Bool.eq_false_iff.2 HG.out])
    go_ret2
    exact postBools HR.out hb1
/-! ### Unit ones -/
theorem dists12 {xs : List Int} (h : isPark xs = true) : distsOf xs 12 = (dists 12 xs, true) := by
  obtain ⟨g1, g2, _⟩ := park_good h
  simp [distsOf, g1, g2]
theorem isCarNumber9_any (m : Int) (w : World) : Calls Tryz.prog 46 #[.int .i64 m] w fun e w' => e = .returned (.bool (inB m 0 8)) ∧ w = w' := by
  by_cases h1 : 0 ≤ m
  · by_cases h2 : m ≤ 8
    · have HR : Hid (inB m 0 8 = true) := hid (inB_iff.2 ⟨h1, h2⟩)
      go_enter Tryz.func46, Tryz.ntmps46
      go_wp2_with fail
      go_ret
      exact ⟨ret_bool HR.out.symm, rfl⟩
    · have HR : Hid (inB m 0 8 = false) := hid (inB_not.2 (by omega))
      go_enter Tryz.func46, Tryz.ntmps46
      go_wp2_with fail
      go_ret
      exact ⟨ret_bool HR.out.symm, rfl⟩
  · have HR : Hid (inB m 0 8 = false) := hid (inB_not.2 (by omega))
    go_enter Tryz.func46, Tryz.ntmps46
    go_wp2_with fail
    go_ret
    exact ⟨ret_bool HR.out.symm, rfl⟩
theorem isMost_any (m : Int) (w : World) : Calls Tryz.prog 29 #[.int .i64 m] w fun e w' => e = .returned (.bool (inB m 0 8)) ∧ w = w' := by
  go_enter Tryz.func29, Tryz.ntmps29
  go_wp2_with (go_at_call 46; refine (isCarNumber9_any _ _).mono ?_; rintro e w' ⟨rfl, rfl⟩)
  go_ret
  exact ⟨rfl, rfl⟩
set_option maxHeartbeats 400000 in
theorem implUnitB_any (a : Option Addr) (n cap : Nat) (xs : List Int) (m : Int) (w : World) (h : Has w a n cap xs) (hp : isPark xs = true) (hm : 0 ≤ m) :
    Calls Tryz.prog 22 #[.slice a n cap, .int .i64 m] w (PostBool w (unitB xs m)) := by
  have HU := hid (unit_great hp hm)
  have HG : Hid (greatOf xs 12 = (greatL (dists 12 xs), true)) := hid (by
    obtain ⟨g1, g2, _⟩ := park_good hp
    simp [greatOf, g1, g2])
  clear hp
  generalize greatL (dists 12 xs) = g at *
  go_enter Tryz.func22, Tryz.ntmps22
  go_wp2_with fail
  refine (greatest_any _ _ _ _ _ _ h).mono ?_
  rw [HG.out]
  rintro e w1 ⟨rfl, hb⟩
  go_wp2_with fail
  go_ret
  exact postBool HU.out hb
set_option maxHeartbeats 400000 in
theorem implUnit_any (a : Option Addr) (n cap : Nat) (xs : List Int) (m : Int) (w : World) (h : Has w a n cap xs) :
    Calls Tryz.prog 9 #[.slice a n cap, .int .i64 m] w (PostBools w (isUnitOf xs m)) := by
  by_cases hg : isPark xs = true
  · have HG := hid hg
    by_cases hm : inB m 0 8 = true
    · have HR : Hid (isUnitOf xs m = (unitB xs m, true)) := hid (by simp [isUnitOf, hg, hm])
      have HM := hid hm
      have hm0 : 0 ≤ m := (inB_iff.1 hm).1
      clear hg hm
      go_enter Tryz.func9, Tryz.ntmps9
      go_wp2_with (first | (go_at_call 21; refine (isParkingFunction_any _ _ _ _ _ h).mono ?_; rintro e w1 ⟨rfl, hb1⟩; rw [HG.out]) | (go_at_call 29; refine (isMost_any _ _).mono ?_; rintro e w' ⟨rfl, rfl⟩; rw [HM.out]))
      refine (implUnitB_any _ _ _ _ _ _ (h.below hb1 (Nat.le_refl _)) HG.out hm0).mono ?_
      rintro e w2 ⟨rfl, hb2⟩
      go_wp2_with fail
      go_ret2
      exact postBools HR.out (hb1.trans (hb2.mono hb1.size))
    · have HR : Hid (isUnitOf xs m = (false, false)) := hid (by simp [isUnitOf, hm])
      have HM := hid hm
      clear hg hm
      go_enter Tryz.func9, Tryz.ntmps9
      go_wp2_with (first | (go_at_call 21; refine (isParkingFunction_any _ _ _ _ _ h).mono ?_; rintro e w1 ⟨rfl, hb1⟩; rw [HG.out]) | (go_at_call 29; refine (isMost_any _ _).mono ?_; rintro e w' ⟨rfl, rfl⟩; rw [Bool.eq_false_iff.2 HM.out]))
      go_ret2
      exact postBools HR.out hb1
  · have HR : Hid (isUnitOf xs m = (false, false)) := hid (by simp [isUnitOf, hg])
    have HG := hid hg
    clear hg
    go_enter Tryz.func9, Tryz.ntmps9
    go_wp2_with (go_at_call 21; refine (isParkingFunction_any _ _ _ _ _ h).mono ?_; rintro e w1 ⟨rfl, hb1⟩; rw [Bool.eq_false_iff.2 HG.out])
    go_ret2
    exact postBools HR.out hb1
end Go.Proofs.YtnddplldkgphnaaGreat

namespace Go.Proofs.YtnddplldkgphnaaGreat
open Go.RowKit

theorem fairTo_nth (xs : List Int) {k j : Nat} (h : j < k) : ∃ c : Nat, c < k ∧ nth (fairTo xs k) j = (c : Int) := by
  have hl : (fairTo xs k).length = k := by rw [(fairTo_perm xs k).length_eq, length_upto]
  exact mem_upto.1 ((fairTo_perm xs k).subset (nth_mem (by omega)))
set_option maxHeartbeats 2000000 in
theorem vaFair_any (a : Option Addr) (n cap : Nat) (xs : List Int) (w : World) (h : Has w a n cap xs) (h8 : n ≤ 50) :
    Calls Tryz.prog 28 #[.slice a n cap] w fun e w' => ∃ a' cap', e = .returned (.slice a' n cap') ∧ Own w' w.heap.size a' n cap' (fairTo xs n) ∧ Below w.heap.size w w' := by
  have HL := hid h.len
  go_enter Tryz.func28, Tryz.ntmps28
  go_wp2_with fail
  go_loopw [3, 10] (fun o i wr => ∃ (k : Nat) (a' : Option Addr) (cap' : Nat), k ≤ n ∧ i = .int .i64 k ∧ o = .slice a' k cap' ∧ Own wr w.heap.size a' k cap' (fairTo xs k) ∧ Below w.heap.size w wr) (fun _ i _ => n - (intOf i).toNat)
  case atStart => exact ⟨0, none, 0, Nat.zero_le _, rfl, rfl, Own.nil _ _, Below.refl _ _⟩
  case round =>
    obtain ⟨k, a', cap', hk, rfl, rfl, hown, hb⟩ := hrel
    by_cases hlt : k < n
    · obtain ⟨b, off, rfl, hbb, hc⟩ := h.2.2.2.2 (by omega)
      have hck : wr.cell? ⟨b, off + k, none⟩ = some (.int .i64 (nth xs k)) := by rw [hb.cell (p := ⟨b, off + k, none⟩) hbb]; exact hc k hlt
      have HCC : Hid (∀ c, c < n → wr.cell? ⟨b, off + c, none⟩ = some (.int .i64 (nth xs c))) := hid (fun c hcl => by rw [hb.cell (p := ⟨b, off + c, none⟩) hbb]; exact hc c hcl)
      have HS : Hid (fairTo xs (k + 1) = insC xs (k : Int) (fairTo xs k)) := hid rfl
      have hsz := hb.size
      have hlen := hown.len
      have HLO := hid hlen
      clear hc hlen
      cases a' with
      | none =>
        obtain ⟨hk1, hcap1, hnil⟩ := hown.noneOf
        have hk0 : k ≤ 0 := by omega
        have hcap0 : cap' ≤ 0 := by omega
        have HN := hid hnil
        clear hnil hk1 hcap1
        go_wp2_with fail
        refine wp_loop_rounds 1 ?_
        rw [rounds_succ]
        have hk00 : ¬ (0 : Int) < (k : Int) := by omega
        clear hown HLO
        go_wp2_with fail
        refine (l1Own_any _ _ _ _ _ (Has.empty none (Nat.le_refl _) (Nat.le_refl _))).mono ?_
        rintro e w2 ⟨a2, cap2, rfl, hown2, hb2⟩
        go_wp2_with (first | (at_builtin; refine wpList_append_int _ rfl _ _ rfl wr.heap.size _ _ _ _ _ rfl rfl hown2 (by omega) hb2.size ?_; intro a3 cap3 w3 hown3 hb3) | (at_builtin; refine wpList_append_ints _ rfl _ _ rfl wr.heap.size _ none _ _ _ _ _ [] rfl rfl hown3 (Has.empty none (by omega) (by omega)) (by omega) (Nat.le_trans hb2.size hb3.size) ?_; intro a4 n4 cap4 w4 hn4 hown4 hb4))
        go_roundw
        case rel =>
          exact ⟨k + 1, _, _, by omega, by go_num, slice_len (by omega), (hown4.mono hsz).relen (by omega) (by rw [HS.out, HN.out]; rfl), hb.trans (((hb2.trans hb3).trans hb4).mono hsz)⟩
        case measure => simp [intOf]; omega
      | some p =>
        obtain ⟨g, rfl, hg1, hg2, hg3, hg4, hkc⟩ := hown.someOf
        have HA := hown.has
        go_wp2_with fail
        go_loop [6] (fun q => ∃ j : Nat, j ≤ k ∧ q = .int .i64 j ∧ Hid (∀ t, t < j → nth xs (nth (fairTo xs k) t).toNat ≤ nth xs k)) (fun q => k - (intOf q).toNat)
        case atStart => exact ⟨0, by omega, rfl, hid (fun t ht => by omega)⟩
        case round =>
          obtain ⟨j, hj, rfl, HJ⟩ := hrel
          have fin : ∀ (HX : j = k ∨ nth xs k < nth xs (nth (fairTo xs k) j).toNat), Hid (fairTo xs (k + 1) = (fairTo xs k).take j ++ [(k : Int)] ++ (fairTo xs k).drop j) := fun HX =>
            hid (by rw [HS.out]; exact insC_at j _ (by rw [HLO.out]; exact hj) (by rw [Int.toNat_natCast]; exact HJ.out) (by rw [HLO.out, Int.toNat_natCast]; exact HX))
          have FIN := hid fin
          clear fin
          by_cases hjk : j < k
          · have hjc := hg3 j hjk
            obtain ⟨c, hcl, hcv⟩ := fairTo_nth xs hjk
            rw [hcv] at hjc
            have hcc := HCC.out c (by omega)
            have z1 : (c : Int) < (n : Int) := by omega
            have z0 : (0 : Int) ≤ (c : Int) := by omega
            rw [hcv, Int.toNat_natCast] at FIN
            have HCV := hid hcv
            clear hcv hg3
            by_cases hle : nth xs c ≤ nth xs k
            · have HLE := hid hle
              go_wp2_with fail
              go_round
              case rel => exact ⟨j + 1, by omega, by go_num, hid (fun t ht => by rcases Nat.lt_succ_iff_lt_or_eq.1 ht with h1 | rfl; exact HJ.out t h1; rw [HCV.out, Int.toNat_natCast]; exact HLE.out)⟩
              case measure => simp [intOf]; omega
            · have HF := FIN.out (.inr (by omega))
              have hcj : ¬ cap' = j := by omega
              clear FIN hg4
              go_wp2_with fail
              refine (l1Own_any _ _ _ _ _ (HA.take (k := j) (by omega))).mono ?_
              rintro e w2 ⟨a2, cap2, rfl, hown2, hb2⟩
              have hd2 := (HA.drop (k := j) (by omega)).below hb2 (Nat.le_refl _)
              rw [Nat.zero_add] at hd2
              have hblk : ∀ p, (some ⟨g, j, none⟩ : Option Addr) = some p → p.block < wr.heap.size := fun p hp => by cases hp; exact hg2
              have HBK := hid hblk
              clear hblk
              go_wp2_with (first | (at_builtin; refine wpList_append_int _ rfl _ _ rfl wr.heap.size _ _ _ _ _ rfl rfl hown2 (by omega) hb2.size ?_; intro a3 cap3 w3 hown3 hb3) | (at_builtin; refine wpList_append_ints _ rfl _ _ rfl wr.heap.size _ _ _ _ _ _ _ _ rfl rfl hown3 (hd2.belowB hb3 HBK.out) (by omega) (Nat.le_trans hb2.size hb3.size) ?_; intro a4 n4 cap4 w4 hn4 hown4 hb4))
              go_roundw
              case rel =>
                exact ⟨k + 1, _, _, by omega, by go_num, slice_len (by omega), (hown4.mono hsz).relen (by omega) HF.out, hb.trans (((hb2.trans hb3).trans hb4).mono hsz)⟩
              case measure => simp [intOf]; omega
          · obtain rfl : k = j := by omega
            have HF := FIN.out (.inl rfl)
            rw [List.drop_eq_nil_of_le (by rw [HLO.out]; omega)] at HF
            clear FIN hg3 hg4 hjk
            by_cases hcj : cap' = k
            · obtain rfl : k = cap' := hcj.symm
              clear hcj
              go_wp2_with fail
              refine (l1Own_any _ _ _ _ _ (HA.take (k := k) (by omega))).mono ?_
              rintro e w2 ⟨a2, cap2, rfl, hown2, hb2⟩
              go_wp2_with (first | (at_builtin; refine wpList_append_int _ rfl _ _ rfl wr.heap.size _ _ _ _ _ rfl rfl hown2 (by omega) hb2.size ?_; intro a3 cap3 w3 hown3 hb3) | (at_builtin; refine wpList_append_ints _ rfl _ _ rfl wr.heap.size _ _ _ _ _ _ _ [] rfl rfl hown3 (Has.nilAt _ (by unfold maxLen; omega)) (by omega) (Nat.le_trans hb2.size hb3.size) ?_; intro a4 n4 cap4 w4 hn4 hown4 hb4))
              go_roundw
              case rel =>
                exact ⟨k + 1, _, _, by omega, by go_num, slice_len (by omega), (hown4.mono hsz).relen (by omega) HF.out, hb.trans (((hb2.trans hb3).trans hb4).mono hsz)⟩
              case measure => simp [intOf]; omega
            · have hmax : cap' - k ≤ maxLen := by have := HA.2.2.1; omega
              have HMX := hid hmax
              clear hmax
              go_wp2_with fail
              refine (l1Own_any _ _ _ _ _ (HA.take (k := k) (by omega))).mono ?_
              rintro e w2 ⟨a2, cap2, rfl, hown2, hb2⟩
              go_wp2_with (first | (at_builtin; refine wpList_append_int _ rfl _ _ rfl wr.heap.size _ _ _ _ _ rfl rfl hown2 (by omega) hb2.size ?_; intro a3 cap3 w3 hown3 hb3) | (at_builtin; refine wpList_append_ints _ rfl _ _ rfl wr.heap.size _ _ _ _ _ _ _ [] rfl rfl hown3 (Has.nilAt _ HMX.out) (by omega) (Nat.le_trans hb2.size hb3.size) ?_; intro a4 n4 cap4 w4 hn4 hown4 hb4))
              go_roundw
              case rel =>
                exact ⟨k + 1, _, _, by omega, by go_num, slice_len (by omega), (hown4.mono hsz).relen (by omega) HF.out, hb.trans (((hb2.trans hb3).trans hb4).mono hsz)⟩
              case measure => simp [intOf]; omega
    · obtain rfl : k = n := by omega
      go_wp2_with fail
      go_ret
      exact ⟨_, _, rfl, hown, hb⟩

/-! ### Favourites in another order -/
theorem fair_cars {xs : List Int} {n : Nat} (hl : xs.length = n) (h8 : n ≤ 8) (hb : ∀ c, c < n → 0 ≤ nth xs c ∧ nth xs c < ((12 : Nat) : Int)) {k : Nat} (hk : k < n) : ∃ c : Nat, c < n ∧ nth (fairL xs) k = (c : Int) := by
  obtain ⟨c, h1, h2⟩ := carsP_nth hl (by omega) hb hk
  exact ⟨c, h2, h1⟩
theorem reord_good {xs os : List Int} {p : Int} {n : Nat} (hl : xs.length = n) (h : (good xs p && allPark p xs) = true) (ho : os.Perm (upto n)) : n ≤ 8 ∧ p ≤ 12 ∧ ∀ i, i < n → 0 ≤ nth (reordL xs os) i ∧ nth (reordL xs os) i ≤ p - 1 := by
  subst hl
  obtain ⟨h1, _⟩ := Bool.and_eq_true_iff.1 (reord_park h ho)
  have hle : (reordL xs os).length = xs.length := by rw [length_reord, ho.length_eq, length_upto]
  obtain ⟨g1, g2, g3, g4⟩ := good_nth h1 hle
  exact ⟨g1, g3, g4⟩
end Go.Proofs.YtnddplldkgphnaaGreat

namespace Go.Proofs.YtnddplldkgphnaaGreat
open Go.RowKit

theorem indices_any (n : Nat) (w : World) (hn : n ≤ 1000) :
    Calls Tryz.prog 54 #[.int .i64 (n : Int)] w fun e w' => ∃ a' cap', e = .returned (.slice a' n cap') ∧ Own w' w.heap.size a' n cap' (idx n) ∧ Below w.heap.size w w' := by
  have HN := hid (fun k (hk : k < n) => nth_idx hk)
  have HLL := hid (length_idx n)
  go_enter Tryz.func54, Tryz.ntmps54
  go_wp2_with (at_make; refine wpList_make_ints _ rfl _ _ rfl n rfl rfl (by omega) ?_; intro a1 cap1 w1 hown1 hb1)
  go_loopw [9] (fun i wr => ∃ (k : Nat) (zs : List Int), k ≤ n ∧ i = .int .i64 (k : Int) ∧ Own wr w.heap.size a1 n cap1 zs ∧ Hid (FromTo (idx n) zs k) ∧ Below w.heap.size w wr) (fun i _ => n - (intOf i).toNat)
  case atStart => exact ⟨0, _, Nat.zero_le _, rfl, hown1, hid (fun i hi => by omega), hb1⟩
  case round =>
    clear hown1 hb1
    obtain ⟨k, zs, hk, rfl, hz, HF, hb⟩ := hrel
    by_cases hlt : k < n
    · obtain ⟨g1, rfl, hg1, hg2, hg3, hg4⟩ := hz.opened (by omega)
      have hgk := hg3 k hlt
      have hgf := hg4 k
      obtain ⟨s1, s2⟩ := hz.set k (k : Int)
      have HF2 : Hid (FromTo (idx n) (zs.set k (k : Int)) (k + 1)) := hid (by
        intro i hi
        rw [nth_set (by rw [hz.len]; exact hlt)]
        by_cases e : k = i
        · subst e; rw [if_pos rfl, HN.out _ hlt]
        · rw [if_neg e]; exact HF.out i (by omega))
      have hb2 := hb.setCell (p := ⟨g1, k, none⟩) hg1 (.int .i64 (k : Int))
      clear hg3 hg4 s2
      go_wp2_with fail
      go_roundw
      case rel => exact ⟨k + 1, _, by omega, by go_num, s1, HF2, hb2⟩
      case measure => simp [intOf]; omega
    · obtain rfl : n = k := by omega
      have HE : Hid (idx n = zs) := hid (ext_nth (by rw [HLL.out, hz.len]) (fun i hi => (HF.out i (by rw [HLL.out] at hi; exact hi)).symm))
      go_wp2_with fail
      go_ret
      exact ⟨a1, cap1, rfl, by rw [HE.out]; exact hz, hb⟩
end Go.Proofs.YtnddplldkgphnaaGreat

namespace Go.Proofs.YtnddplldkgphnaaGreat
open Go.RowKit Go.Sort

theorem BlkLt.mono9 {a : Option Addr} {K K' : Nat} (h : BlkLt a K) (hK : K ≤ K') : BlkLt a K' := fun p hp => Nat.lt_of_lt_of_le (h p hp) hK
theorem BlkLt.ne9 {a : Option Addr} {K g : Nat} (h : BlkLt a K) (hg : K ≤ g) : ∀ p, a = some p → p.block ≠ g := fun p hp e => by have := h p hp; omega
theorem cars_of_none {xs : List Int} (h : xs.length = 0) {P : Nat} : carsTo xs P = [] := by
  obtain rfl := List.eq_nil_of_length_eq_zero h
  induction P with
  | zero => rfl
  | succ P ih => simp [carsTo, ih, idxs]
set_option maxHeartbeats 1000000 in
theorem insCarsP_any (P B g m cap bx : Nat) (al : Option Addr) (cl : Nat) (xs : List Int) (w : World) (h8 : m + 1 ≤ 8) (hl : xs.length = m + 1) (hbd : ∀ c, c < m + 1 → 0 ≤ nth xs c ∧ nth xs c < (P : Int))
    (h : Own w B (some ⟨g, 0, none⟩) (m + 1) cap (upto (m + 1))) (hx : Has w al (m + 1) cl xs) (hal : ∀ p, al = some p → p.block ≠ g) (hbx : w.cell? ⟨bx, 0, none⟩ = some (.slice al (m + 1) cl)) (hbg : bx ≠ g) :
    Calls Tryz.prog 79 #[.slice (some ⟨g, 0, none⟩) (m + 1) cap, .int .i64 0, .int .i64 ((m + 1 : Nat) : Int), .func (.func 56) #[] #[.pointer (some ⟨bx, 0, none⟩)]] w fun e w' =>
      e = .returned (.tuple #[]) ∧ Own w' B (some ⟨g, 0, none⟩) (m + 1) cap (carsTo xs P) ∧ w.grownBy w' (some g) := by
  have hown := h
  obtain ⟨⟨h1, h2⟩, h3, h4⟩ := h
  rcases h2 with ⟨hv, _⟩ | ⟨g', cap', cur, hv, hg, hh, hnc, hcm, hcs, htake⟩
  · simp at hv
  · simp at hv
    obtain ⟨rfl, rfl⟩ := hv
    have hlen : (allFin m).length = m + 1 := by simp [allFin]
    have hH : Holds (encF m) w g 0 (allFin m).toArray := holds_of_cells hh (by rw [hlen, allFin_enc]; simpa using htake)
    have hlt : g < w.heap.size := (Array.getElem?_eq_some_iff.1 hh).1
    have eg : ∀ args w, (callFunc 56 args).run Tryz.prog w = .ok (.enter 56 args) w := by intro args w; go_simp
    have hcmp : CmpReads Tryz.prog 56 #[.pointer (some ⟨bx, 0, none⟩)] (encF m) (fun x y => cmpI (nth xs x.val) (nth xs y.val)) g 0 (allFin m).toArray.size w := by
      intro q os dk _ x y
      have hgr : w.grownBy (sortWorld (encF m) w g 0 q dk os) (some g) := grownBy_sortedE (encF m) dk
      have hx' := hx.kept hgr hal
      have hb' : (sortWorld (encF m) w g 0 q dk os).cell? ⟨bx, 0, none⟩ = some (.slice al (m + 1) cl) := hgr.cell hbx (by simpa using hbg)
      refine (wcmp_any bx al (m + 1) cl xs x.val y.val _ hb' hx' x.isLt y.isLt).mono ?_
      rintro e w' ⟨rfl, q2, rfl⟩
      exact ⟨rfl, q2, rfl⟩
    have hs := Tryz.insertionSortCmpFunc_one (encF m) (fun _ => rfl) (fun x y => cmpI (nth xs x.val) (nth xs y.val)) 56 #[.pointer (some ⟨bx, 0, none⟩)] g 0 cap 0 (m + 1) (allFin m).toArray w eg hcmp hH (Nat.zero_le _) (by simp [allFin]) (by simp [allFin]; omega)
    have hsz : (allFin m).toArray.size = m + 1 := by simp [allFin]
    simp only [hsz] at hs
    refine hs.mono ?_
    rintro e w' ⟨rfl, q, rfl⟩
    rw [← sortWorld_none]
    have hlt' : (ltOf fun x y : Fin (m + 1) => cmpI (nth xs x.val) (nth xs y.val)) = fun x y => decide (nth xs x.val < nth xs y.val) := by
      funext x y
      have := ltOf_cmpI (nth xs x.val) (nth xs y.val)
      simpa [ltOf] using this
    have hsort := sort_carsP hl (by omega) hbd
    rw [← hlt'] at hsort
    generalize insertionSort (ltOf fun x y : Fin (m + 1) => cmpI (nth xs x.val) (nth xs y.val)) (allFin m).toArray 0 (m + 1) = d' at hsort ⊢
    have hcl : (carsTo xs P).length = m + 1 := length_carsP hl (by omega) hbd
    have hdl : d'.toList.length = m + 1 := by
      have h5 := congrArg List.length hsort
      rw [List.length_map, hcl] at h5
      exact h5
    have henc : d'.toList.map (encF m) = (carsTo xs P).map (Value.int .i64) := by
      rw [← hsort, List.map_map]
      rfl
    refine ⟨rfl, ⟨⟨by simp [hcl], .inr ⟨g, cap, _, rfl, hg, heap_sortedE _ d' hh, hnc, hcm, by simpa [putCells] using hcs, ?_⟩⟩, hcl, h4⟩, grownBy_sortedE _ d'⟩
    rw [Nat.mul_one, ← henc]
    have := take_putCellsE (encF m) cur d'.toList (by omega)
    rw [toArr, hdl] at this
    exact this

set_option maxHeartbeats 1000000 in
theorem stableCarsP_any (P B m g cap bx : Nat) (al : Option Addr) (cl : Nat) (xs : List Int) (w : World) (h8 : m + 1 ≤ 8) (hl : xs.length = m + 1) (hbd : ∀ c, c < m + 1 → 0 ≤ nth xs c ∧ nth xs c < (P : Int))
    (h : Own w B (some ⟨g, 0, none⟩) (m + 1) cap (upto (m + 1))) (hx : Has w al (m + 1) cl xs) (hal : ∀ p, al = some p → p.block ≠ g) (hbx : w.cell? ⟨bx, 0, none⟩ = some (.slice al (m + 1) cl)) (hbg : bx ≠ g) :
    Calls Tryz.prog 55 #[.slice (some ⟨g, 0, none⟩) (m + 1) cap, .func (.func 56) #[] #[.pointer (some ⟨bx, 0, none⟩)]] w fun e w' =>
      e = .returned (.tuple #[]) ∧ Own w' B (some ⟨g, 0, none⟩) (m + 1) cap (carsTo xs P) ∧ w.grownBy w' (some g) := by
  have hins := insCarsP_any P B g m cap bx al cl xs w h8 hl hbd h hx hal hbx hbg
  have HI := hid hins
  clear hins h hx hal hbx hbg hbd
  have hst : Calls Tryz.prog 73 #[.slice (some ⟨g, 0, none⟩) (m + 1) cap, .int .i64 ((m + 1 : Nat) : Int), .func (.func 56) #[] #[.pointer (some ⟨bx, 0, none⟩)]] w fun e w' =>
      e = .returned (.tuple #[]) ∧ Own w' B (some ⟨g, 0, none⟩) (m + 1) cap (carsTo xs P) ∧ w.grownBy w' (some g) := by
    have hn1 : ¬ (20 : Int) ≤ ((m + 1 : Nat) : Int) := by omega
    have hn2 : ¬ (20 : Int) < ((m + 1 : Nat) : Int) := by omega
    go_enter Tryz.func73, Tryz.ntmps73
    go_wp2
    refine wp_loop_rounds 1 ?_
    rw [rounds_succ]
    go_wp2_with (go_at_call 79; refine HI.out.mono ?_; rintro e w1 ⟨rfl, hq1, hq2⟩)
    refine wp_loop_rounds 1 ?_
    rw [rounds_succ]
    go_wp2
    all_goals first | (exfalso; omega) | (go_end0; exact ⟨rfl, hq1, hq2⟩)
  go_enter Tryz.func55, Tryz.ntmps55
  go_wp2_with fail
  refine hst.mono ?_
  rintro e w1 ⟨rfl, hq1, hq2⟩
  go_wp2_with fail
  go_end0
  exact ⟨rfl, hq1, hq2⟩

/-- The stable sort of the cars in order. -/
theorem sortCarsP_any (P B n : Nat) (a al : Option Addr) (cap cl bx : Nat) (xs : List Int) (w : World) (h8 : n ≤ 8) (hl : xs.length = n) (hbd : ∀ c, c < n → 0 ≤ nth xs c ∧ nth xs c < (P : Int)) (hBw : B ≤ w.heap.size)
    (h : Own w B a n cap (upto n)) (hx : Has w al n cl xs) (hal : 0 < n → BlkLt al B) (hbx : w.cell? ⟨bx, 0, none⟩ = some (.slice al n cl)) (hbg : bx < B) :
    Calls Tryz.prog 55 #[.slice a n cap, .func (.func 56) #[] #[.pointer (some ⟨bx, 0, none⟩)]] w fun e w' =>
      e = .returned (.tuple #[]) ∧ Own w' B a n cap (carsTo xs P) ∧ Below B w w' := by
  by_cases hn : n = 0
  · subst hn
    refine (stableNone_any _ _ _ _).mono ?_
    rintro e w1 ⟨rfl, rfl⟩
    exact ⟨rfl, by rw [cars_of_none hl]; exact h, Below.refl _ _⟩
  · obtain ⟨m, rfl⟩ : ∃ m, n = m + 1 := ⟨n - 1, by omega⟩
    obtain ⟨g, rfl, hg1, hg2, _, _⟩ := h.opened (by omega)
    refine (stableCarsP_any P B m g cap bx al cl xs w h8 hl hbd h hx ((hal (by omega)).ne9 hg1) hbx (by omega)).mono ?_
    rintro e w1 ⟨rfl, ho, hgr⟩
    exact ⟨rfl, ho, below_grown hgr hBw (fun k hk => by simp at hk; omega)⟩

set_option maxHeartbeats 1000000 in
theorem carsByP_any (P : Nat) (a : Option Addr) (n cap : Nat) (xs : List Int) (w : World) (h : Has w a n cap xs) (h8 : n ≤ 8) (hbd : ∀ c, c < n → 0 ≤ nth xs c ∧ nth xs c < (P : Int)) :
    Calls Tryz.prog 24 #[.slice a n cap] w fun e w' => ∃ a2 c2, e = .returned (.slice a2 n c2) ∧ Own w' w.heap.size a2 n c2 (carsTo xs P) ∧ Below w.heap.size w w' := by
  have HL := hid h.len
  have HBD := hid hbd
  have hle := h.le
  clear hbd
  go_enter Tryz.func24, Tryz.ntmps24
  go_wp2_with fail
  generalize hW : w.alloc (.cells #[.slice a n cap] 24) = W
  have hbW : Below w.heap.size w W := by rw [← hW]; exact (Below.refl _ w).alloc (Nat.le_refl _) _
  have hsz : W.heap.size = w.heap.size + 1 := by rw [← hW]; simp
  have hbx : W.cell? ⟨w.heap.size, 0, none⟩ = some (.slice a n cap) := by rw [← hW, World.cell?_alloc_at _ _ _ _ rfl]; rfl
  clear hW
  refine (indices_any n _ (by omega)).mono ?_
  rintro e w2 ⟨a2, c2, rfl, own2, st⟩
  have hs2 := st.size
  replace hbx : w2.cell? ⟨w.heap.size, 0, none⟩ = some (.slice a n cap) := by rw [st.cell (p := ⟨w.heap.size, 0, none⟩) (by simp; omega)]; exact hbx
  have hb2 := hbW.trans (st.mono hbW.size)
  clear st hbW
  go_wp2_with fail
  refine (sortCarsP_any P W.heap.size n a2 a c2 cap w.heap.size xs w2 h8 HL.out HBD.out hs2 own2 (h.below hb2 (Nat.le_refl _)) (fun hn => (h.lt hn).mono9 (by omega)) hbx (by omega)).mono ?_
  rintro e w3 ⟨rfl, own3, st⟩
  have hb3 := hb2.trans (st.mono (by omega))
  clear st hb2 own2
  go_wp2_with fail
  go_ret
  exact ⟨_, _, rfl, own3.mono (by omega), hb3⟩
end Go.Proofs.YtnddplldkgphnaaGreat

namespace Go.Proofs.YtnddplldkgphnaaGreat
open Go.RowKit Go.Maps

theorem blocks_yes {xs : List Int} (h : isPark xs = true) (hu : unitB xs 1 = true) : unitBlocksOf xs = (blk xs (fairL xs) xs.length, true) := by simp [unitBlocksOf, h, hu]
theorem blocks_no {xs : List Int} (h : ¬ (isPark xs = true ∧ unitB xs 1 = true)) : unitBlocksOf xs = ([], false) := by
  unfold unitBlocksOf
  rw [if_neg (by simpa using h)]
theorem nums_addLast {rs : List Rw} {a : Option Addr} {c : Nat} {v : Int} {q : Nat} (hq : rs.length = q + 1) : numsOf (rs.set q ⟨a, c, (nthR rs q).xs ++ [v]⟩) = addLast (numsOf rs) v := by
  obtain ⟨ss, r, rfl⟩ : ∃ ss r, rs = ss ++ [r] := ⟨rs.dropLast, rs.getLast (by intro e; subst e; simp at hq), (List.dropLast_concat_getLast _).symm⟩
  have hs : ss.length = q := by simpa using hq
  have e1 : nthR (ss ++ [r]) q = r := by rw [nthR_append_right (by omega), hs, Nat.sub_self, nthR_one]
  rw [e1]
  have e2 : (ss ++ [r]).set q ⟨a, c, r.xs ++ [v]⟩ = ss ++ [⟨a, c, r.xs ++ [v]⟩] := by
    rw [List.set_append_right _ _ (by omega), hs, Nat.sub_self]
    rfl
  rw [e2]
  simp only [numsOf, List.map_append, List.map_singleton]
  rw [addLast_snoc]
theorem blk_start {xs ls : List Int} {k : Nat} (h : nth xs (nth ls k).toNat = (k : Int)) : addLast (blk xs ls k ++ [[]]) (nth ls k) = blk xs ls (k + 1) := by
  rw [addLast_snoc, blk, if_pos h]
  rfl
theorem blk_on {xs ls : List Int} {k : Nat} (h : ¬ nth xs (nth ls k).toNat = (k : Int)) : addLast (blk xs ls k) (nth ls k) = blk xs ls (k + 1) := by rw [blk, if_neg h]
theorem length_blk {xs ls : List Int} : ∀ k, (blk xs ls k).length ≤ k ∧ (0 < k → 0 < (blk xs ls k).length)
  | 0 => ⟨Nat.le_refl _, fun h => absurd h (by omega)⟩
  | k + 1 => by
    obtain ⟨h1, _⟩ := length_blk (xs := xs) (ls := ls) k
    rw [blk]
    split
    · simp; omega
    · simp only [addLast, List.length_append, List.length_dropLast, List.length_singleton]
      rcases Nat.eq_zero_or_pos k with rfl | h0
      · simp [blk]
      · have := (length_blk (xs := xs) (ls := ls) k).2 h0
        omega

theorem row_blk {xs ls : List Int} : ∀ (k : Nat) (r : List Int), r ∈ blk xs ls k → r.length ≤ k
  | 0, r, h => by simp [blk] at h
  | k + 1, r, h => by
    rw [blk] at h
    split at h
    · rcases List.mem_append.1 h with h | h
      · have := row_blk k r h; omega
      · rw [List.mem_singleton] at h; subst h; simp
    · unfold addLast at h
      rcases List.mem_append.1 h with h | h
      · have := row_blk k r (List.dropLast_subset _ h); omega
      · rw [List.mem_singleton] at h
        subst h
        cases e : (blk xs ls k).getLast? with
        | none => simp
        | some r' =>
          have := row_blk k r' (List.mem_of_getLast? e)
          simp
          omega
set_option maxHeartbeats 4000000 in
theorem specBlocks_any (a : Option Addr) (n cap : Nat) (xs : List Int) (w : World) (h : Has w a n cap xs) :
    Calls Tryz.prog 7 #[.slice a n cap] w (PostRows w (unitBlocksOf xs)) := by
  have HL := hid h.len
  by_cases hg : isPark xs = true
  · have HG := hid hg
    by_cases hu : unitB xs 1 = true
    · have HU := hid hu
      have HR := hid (blocks_yes hg hu)
      have h8 : n ≤ 8 := by have := (isPark_bounds hg).1; rw [← h.len]; exact this
      have HB := fair_bounds hg
      rw [h.len] at HB
      have HF : Hid (fairTo xs n = fairL xs) := hid (fairTo_cars h.len (by omega) HB)
      have HN := hid (fun k (hk : k < n) => fair_cars h.len h8 HB hk)
      have H0 : Hid (∀ k, k < n → ¬ nth xs (nth (fairL xs) k).toNat = (k : Int) → 0 < k) := hid (fun k hk hne => by
        rcases Nat.eq_zero_or_pos k with rfl | h0
        · exfalso
          apply hne
          have h1 := fair_at hg (k := 0) (by rw [h.len]; exact hk)
          have h2 := park_sorted hg 0 (by rw [h.len]; exact hk)
          omega
        · exact h0)
      clear hg hu HB
      go_enter Tryz.func7, Tryz.ntmps7
      go_wp2_with (first | (go_at_call 26; refine (paParking_any _ _ _ _ _ h).mono ?_; rintro e w1 ⟨rfl, hb1⟩; rw [HG.out]) | (go_at_call 27; refine (vaUnit_any _ _ _ _ _ _ (h.below hb1 (Nat.le_refl _)) HG.out).mono ?_; rintro e w2 ⟨rfl, hb2⟩; rw [HU.out]))
      have hb12 := hb1.trans (hb2.mono hb1.size)
      refine (vaFair_any _ _ _ _ _ (h.below hb12 (Nat.le_refl _)) (by omega)).mono ?_
      rw [HF.out]
      rintro e w3 ⟨a3, cap3, rfl, hown3, hb3⟩
      have hb13 := hb12.trans (hb3.mono hb12.size)
      have hsz3 := hb13.size
      have HX3 := h.below hb13 (Nat.le_refl _)
      have HO3 := hown3.has
      clear hb1 hb2 hb12 hb3 hown3 HF
      generalize fairL xs = ls at *
      go_wp2_with fail
      go_loopw [4, 18] (fun o i wr => ∃ (k q : Nat) (a' : Option Addr) (cap' : Nat) (rs : List Rw), k ≤ n ∧ q ≤ k ∧ (0 < k → 0 < q) ∧ i = .int .i64 (k : Int) ∧ o = .slice a' q cap' ∧ OwnR wr w3.heap.size a' q cap' rs ∧ Hid (numsOf rs = blk xs ls k) ∧ Below w3.heap.size w3 wr) (fun _ i _ => n - (intOf i).toNat)
      case atStart => exact ⟨0, 0, none, 0, [], Nat.zero_le _, Nat.le_refl _, fun h => absurd h (by omega), rfl, rfl, OwnR.nil _ _, hid rfl, Below.refl _ _⟩
      case round =>
        obtain ⟨k, q, a', cap', rs, hk, hq, hq0, rfl, rfl, hown, HNU, hb⟩ := hrel
        by_cases hlt : k < n
        · obtain ⟨c, hc1, hc2⟩ := HN.out k hlt
          obtain ⟨b1, off1, rfl, hbb1, hx1⟩ := HX3.2.2.2.2 (by omega)
          obtain ⟨b2, off2, rfl, hbb2, hx2⟩ := HO3.2.2.2.2 (by omega)
          have hck : wr.cell? ⟨b1, off1 + c, none⟩ = some (.int .i64 (nth xs c)) := by rw [hb.cell (p := ⟨b1, off1 + c, none⟩) hbb1]; exact hx1 c hc1
          have hdk : wr.cell? ⟨b2, off2 + k, none⟩ = some (.int .i64 (c : Int)) := by rw [hb.cell (p := ⟨b2, off2 + k, none⟩) hbb2, hx2 k hlt, hc2]
          have BS := hid (fun h => blk_start (xs := xs) (ls := ls) (k := k) h)
          have BO := hid (fun h => blk_on (xs := xs) (ls := ls) (k := k) h)
          have HPOS := hid (H0.out k hlt)
          rw [hc2, Int.toNat_natCast] at BS BO HPOS
          have z1 : (c : Int) < (n : Int) := by omega
          have z0 : (0 : Int) ≤ (c : Int) := by omega
          have hszr := hb.size
          clear hx1 hx2 hc2
          by_cases hst : nth xs c = (k : Int)
          · have hbe : (nth xs c == (k : Int)) = true := by simp [hst]
            have HE := hid (BS.out hst)
            have hrl := hown.len
            have HRL := hid hrl
            clear hst BS BO HPOS hrl
            have EN : Hid (nthR (rs ++ [⟨none, 0, []⟩]) q = ⟨none, 0, []⟩) := hid (by rw [nthR_append_right (by rw [HRL.out]; exact Nat.le_refl _), HRL.out, Nat.sub_self, nthR_one])
            have NA := hid (fun (a7 : Option Addr) (c7 : Nat) => nums_addLast (rs := rs ++ [⟨none, 0, []⟩]) (a := a7) (c := c7) (v := (c : Int)) (q := q) (by simp [HRL.out]))
            have NE : Hid (numsOf (rs ++ [⟨none, 0, []⟩]) = blk xs ls k ++ [[]]) := hid (by rw [numsOf_app, HNU.out]; rfl)
            rw [EN.out] at NA
            go_wp2_with (first | (at_builtin; refine wpList_append_rowA _ rfl _ _ rfl w3.heap.size w3.heap.size _ _ _ _ none 0 0 [] rfl rfl hown (Own.nil _ _) (fun i _ p q _ hq => (by cases hq)) (by omega) (ownsRow_ge hown.1) (Nat.le_refl _) hszr ?_; intro a6 cap6 w6 hown6 hge6 hb6; obtain ⟨g6, ea6, q1, q2, q3, q4⟩ := hown6.cellAt (by omega); cases ea6; have hc6 := q3 q (by omega); rw [EN.out] at hc6; have hsz6 := hb6.size; clear q3 q4) | (at_builtin; refine wpList_append_int_at _ rfl _ _ rfl w3.heap.size none 0 0 [] _ rfl rfl (Own.nil _ _) (by omega) (Nat.le_trans hszr hsz6) ?_; intro a7 c7 w7 hown7 hgr7 hloc7; obtain ⟨hf7, hc7⟩ := hown6.ready (k := q) (w1 := w7) (by omega) (by rw [EN.out]; exact hgr7); rw [EN.out] at hc7))
            obtain ⟨s1, s2⟩ := hown6.setRow (k := q) (by omega) (by rw [EN.out]; exact hgr7) hown7 (by rw [EN.out]; exact hloc7)
            have hb7 : Below w3.heap.size w6 w7 := (Below.refl _ w6).grown hgr7 (Nat.le_trans hszr hsz6) (fun j hj => by simp [Value.ownBlock] at hj)
            have hb8 : Below w3.heap.size w7 (w7.setCell ⟨g6, q, none⟩ (.slice a7 (0 + 1) c7)) := (Below.refl _ w7).grown s2 (Nat.le_trans (Nat.le_trans hszr hsz6) hb7.size) (fun j hj => by cases hj; exact q1)
            go_roundw
            case rel => exact ⟨k + 1, q + 1, _, cap6, _, by omega, by omega, fun _ => by omega, by go_num, rfl, s1, hid (by rw [← HE.out, ← NE.out, ← NA.out]), ((hb.trans hb6).trans hb7).trans hb8⟩
            case measure => simp [intOf]; omega
          · have hbe : (nth xs c == (k : Int)) = false := by simp [hst]
            have HE := hid (BO.out hst)
            have hk0 := HPOS.out hst
            obtain ⟨t, rfl⟩ : ∃ t, q = t + 1 := ⟨q - 1, by have := hq0 hk0; omega⟩
            have hrl := hown.len
            have HRL := hid hrl
            obtain ⟨g6, rfl, q1, q2, q3, q4⟩ := hown.cellAt (by omega)
            have hc6 := q3 t (by omega)
            have hrow := hown.row (k := t) (by omega)
            have hr8 : (nthR rs t).xs.length ≤ 2097151 := (by
              have ht : t < rs.length := by rw [HRL.out]; omega
              have hm : (nthR rs t).xs ∈ numsOf rs := by
                have e : nthR rs t = rs[t] := by simp [nthR, ht]
                rw [e]
                exact List.mem_map_of_mem (List.getElem_mem ht)
              rw [HNU.out] at hm
              have := row_blk k _ hm
              omega)
            have NA := hid (fun (a7 : Option Addr) (c7 : Nat) => nums_addLast (rs := rs) (a := a7) (c := c7) (v := (c : Int)) (q := t) HRL.out)
            have hrg : BlkGe (nthR rs t).a w3.heap.size := hrow.ge
            clear hst BS BO HPOS hrl q3 q4
            go_wp2_with (first | (at_builtin; refine wpList_append_int_at _ rfl _ _ rfl w3.heap.size _ _ _ _ _ rfl rfl hrow (by omega) hszr ?_; intro a7 c7 w7 hown7 hgr7 hloc7; obtain ⟨hf7, hc7⟩ := hown.ready (k := t) (w1 := w7) (by omega) hgr7))
            obtain ⟨s1, s2⟩ := hown.setRow (k := t) (by omega) hgr7 hown7 hloc7
            have hb7 : Below w3.heap.size wr w7 := (Below.refl _ wr).grown hgr7 hszr (fun j hj => by
              cases e : (nthR rs t).a with
              | none => rw [e] at hj; simp [Value.ownBlock] at hj
              | some p => rw [e] at hj; simp [Value.ownBlock] at hj; have := hrg p e; omega)
            have hb8 : Below w3.heap.size w7 (w7.setCell ⟨g6, t, none⟩ (.slice a7 ((nthR rs t).xs.length + 1) c7)) := (Below.refl _ w7).grown s2 (Nat.le_trans hszr hb7.size) (fun j hj => by cases hj; exact q1)
            go_roundw
            case rel => exact ⟨k + 1, t + 1, _, cap', _, by omega, by omega, fun _ => by omega, by go_num, rfl, s1, hid (by rw [← HE.out, ← HNU.out, ← NA.out]), (hb.trans hb7).trans hb8⟩
            case measure => simp [intOf]; omega
        · obtain rfl : k = n := by omega
          go_wp2_with fail
          go_ret2
          exact postRows (by rw [HR.out, HL.out]) (hown.mono hsz3) HNU.out (hb13.trans (hb.mono hsz3))
    · have HR := hid (blocks_no (xs := xs) (fun h => hu h.2))
      have HU := hid hu
      clear hg hu
      go_enter Tryz.func7, Tryz.ntmps7
      go_wp2_with (first | (go_at_call 26; refine (paParking_any _ _ _ _ _ h).mono ?_; rintro e w1 ⟨rfl, hb1⟩; rw [HG.out]) | (go_at_call 27; refine (vaUnit_any _ _ _ _ _ _ (h.below hb1 (Nat.le_refl _)) HG.out).mono ?_; rintro e w2 ⟨rfl, hb2⟩; rw [Bool.eq_false_iff.2 HU.out]))
      go_ret2
      exact postRows_no HR.out (hb1.trans (hb2.mono hb1.size))
  · have HR := hid (blocks_no (xs := xs) (fun h => hg h.1))
    have HG := hid hg
    clear hg
    go_enter Tryz.func7, Tryz.ntmps7
    go_wp2_with (go_at_call 26; refine (paParking_any _ _ _ _ _ h).mono ?_; rintro e w1 ⟨rfl, hb1⟩; rw [Bool.eq_false_iff.2 HG.out])
    go_ret2
    exact postRows_no HR.out hb1

set_option maxHeartbeats 2000000 in
theorem implBlocks_any (a : Option Addr) (n cap : Nat) (xs : List Int) (w : World) (h : Has w a n cap xs) :
    Calls Tryz.prog 6 #[.slice a n cap] w (PostRows w (unitBlocksOf xs)) := by
  have HL := hid h.len
  by_cases hg : isPark xs = true
  · have HG := hid hg
    by_cases hu : unitB xs 1 = true
    · have HU := hid hu
      have HR : Hid (unitBlocksOf xs = (partRows xs (fairL xs), true)) := hid (by rw [blocks_yes hg hu, blk_rows hg])
      have h8 : n ≤ 8 := by have := (isPark_bounds hg).1; rw [← h.len]; exact this
      have HB := fair_bounds hg
      rw [h.len] at HB
      have HB8 : Hid (∀ i, i < n → 0 ≤ nth xs i ∧ nth xs i < 8) := hid (fun i hi => by
        have h1 := isPark_bounds hg
        have := h1.2 _ (nth_mem (xs := xs) (i := i) (by rw [h.len]; exact hi))
        omega)
      have HN := hid (fun k (hk : k < n) => fair_cars h.len h8 HB hk)
      have HB' := hid HB
      have HKEY := hid (partRows_keys xs (fairL xs))
      clear hg hu HB
      go_enter Tryz.func6, Tryz.ntmps6
      go_wp2_with (first | (go_at_call 21; refine (isParkingFunction_any _ _ _ _ _ h).mono ?_; rintro e w1 ⟨rfl, hb1⟩; rw [HG.out]) | (go_at_call 22; refine (implUnitB_any _ _ _ _ _ _ (h.below hb1 (Nat.le_refl _)) HG.out (by omega)).mono ?_; rintro e w2 ⟨rfl, hb2⟩; rw [HU.out]))
      have hb12 := hb1.trans (hb2.mono hb1.size)
      refine (carsByP_any 12 _ _ _ _ _ (h.below hb12 (Nat.le_refl _)) h8 HB'.out).mono ?_
      rintro e w3 ⟨a3, c3, rfl, hown3, hb3⟩
      have hb13 := hb12.trans (hb3.mono hb12.size)
      go_wp2_with fail
      refine (partsOf_any _ _ _ _ _ _ _ _ _ (h.below hb13 (Nat.le_refl _)) hown3.has HB8.out HN.out).mono ?_
      rintro e w4 ⟨rfl, ⟨r, hp⟩, hb4⟩
      have hb14 := hb13.trans (hb4.mono hb13.size)
      have hlt4 := hp.1.lt
      go_wp2_with fail
      refine (takeAll_any _ _ _ r _ hp (by omega)).mono ?_
      rintro e w5 ⟨a5, q, cap5, rs, rfl, hown5, hn5, hb5⟩
      have hn5' : numsOf rs = partRows xs (fairL xs) := hn5.trans HKEY.out
      go_wp2_with fail
      go_ret2
      exact postRows HR.out (hown5.mono (by have := hb13.size; omega)) hn5' (hb14.trans (hb5.mono hb13.size))
    · have HR := hid (blocks_no (xs := xs) (fun h => hu h.2))
      have HU := hid hu
      clear hg hu
      go_enter Tryz.func6, Tryz.ntmps6
      go_wp2_with (first | (go_at_call 21; refine (isParkingFunction_any _ _ _ _ _ h).mono ?_; rintro e w1 ⟨rfl, hb1⟩; rw [HG.out]) | (go_at_call 22; refine (implUnitB_any _ _ _ _ _ _ (h.below hb1 (Nat.le_refl _)) HG.out (by omega)).mono ?_; rintro e w2 ⟨rfl, hb2⟩; rw [Bool.eq_false_iff.2 HU.out]))
      go_ret2
      exact postRows_no HR.out (hb1.trans (hb2.mono hb1.size))
  · have HR := hid (blocks_no (xs := xs) (fun h => hg h.1))
    have HG := hid hg
    clear hg
    go_enter Tryz.func6, Tryz.ntmps6
    go_wp2_with (go_at_call 21; refine (isParkingFunction_any _ _ _ _ _ h).mono ?_; rintro e w1 ⟨rfl, hb1⟩; rw [Bool.eq_false_iff.2 HG.out])
    go_ret2
    exact postRows_no HR.out hb1
end Go.Proofs.YtnddplldkgphnaaGreat

namespace Go.Proofs.YtnddplldkgphnaaGreat
open Go.RowKit

set_option maxHeartbeats 400000 in
theorem l1Same_any (a b : Option Addr) (n m cap cap' : Nat) (xs ys : List Int) (w : World) (h : Has w a n cap xs) (h' : Has w b m cap' ys) :
    Calls Tryz.prog 40 #[.slice a n cap, .slice b m cap'] w fun e w' => e = .returned (.bool (same xs ys)) ∧ Quiet w w' := by
  obtain ⟨h0, h1, h2, h3, h4⟩ := h
  obtain ⟨k0, k1, k2, k3, k4⟩ := h'
  by_cases hnm : n = m
  · have hb : ((n : Int) != (m : Int)) = false := by simp [hnm]
    subst hnm
    go_enter Tryz.func40, Tryz.ntmps40
    go_wp2_with fail
    go_loopw [13] (fun i wr => ∃ k : Nat, k ≤ n ∧ i = .int .i64 k ∧ FromTo xs ys k ∧ Quiet w wr) (fun i _ => n - (intOf i).toNat)
    case atStart => exact ⟨0, Nat.zero_le _, rfl, fun i hi => by omega, ⟨0, rfl⟩⟩
    case round =>
      obtain ⟨k, hk, rfl, hft, q, hq⟩ := hrel
      subst hq
      by_cases hlt : k < n
      · obtain ⟨b1, off1, rfl, hb1, hc1⟩ := h4 (by omega)
        obtain ⟨b2, off2, rfl, hb2, hc2⟩ := k4 (by omega)
        have hck := hc1 k hlt
        have hdk := hc2 k hlt
        have hkk : (k : Int) < (n : Int) := by omega
        have hkz : (0 : Int) ≤ (k : Int) := by omega
        clear hc1 hc2 h4 k4
        by_cases he : nth xs k = nth ys k
        · have hbe : (nth xs k != nth ys k) = false := by simp [he]
          have HE := hid he
          clear he
          go_wp2_with fail
          go_quiet (fail)
          go_wp2_with fail
          go_roundw
          case rel => exact ⟨k + 1, by omega, by go_num, fun i hi => by rcases Nat.lt_succ_iff_lt_or_eq.1 hi with h | rfl; exact hft i h; exact HE.out.symm, ⟨_, rfl⟩⟩
          case measure => simp [intOf]; omega
        · have hbe : (nth xs k != nth ys k) = true := by simp [he]
          have HE := hid he
          clear he
          go_wp2_with fail
          go_quiet (fail)
          go_wp2_with fail
          go_ret
          exact ⟨ret_bool (same_no HE.out).symm, (Quiet.more ⟨_, rfl⟩ _)⟩
      · obtain rfl : k = n := by omega
        go_wp2_with fail
        go_ret
        exact ⟨ret_bool (same_yes (by omega) (by rw [h0]; exact hft)).symm, ⟨_, rfl⟩⟩
  · have hb : ((n : Int) != (m : Int)) = true := by simp; omega
    go_enter Tryz.func40, Tryz.ntmps40
    go_wp2_with fail
    go_ret
    exact ⟨ret_bool (show false = same xs ys from by unfold same; symm; rw [decide_eq_false_iff_not]; rintro rfl; omega), ⟨0, rfl⟩⟩


end Go.Proofs.YtnddplldkgphnaaGreat

namespace Go.Proofs.YtnddplldkgphnaaGreat
open Go.RowKit

theorem HasR.rowAt {w W : World} {a : Option Addr} {q cap : Nat} {rs : List Rw} {bs : List (List Int)} (h : HasR w a q cap rs) (hb : Below w.heap.size w W) (hbs : numsOf rs = bs) {k : Nat} (hk : k < q) :
    ∃ b off ak ck, a = some ⟨b, off, none⟩ ∧ W.cell? ⟨b, off + k, none⟩ = some (.slice ak (blkAt bs k).length ck) ∧ Has w ak (blkAt bs k).length ck (blkAt bs k) := by
  obtain ⟨r0, r1, r2, r3, r4, -⟩ := h.below hb (Nat.le_refl _)
  have r5 := h.2.2.2.2.2
  obtain ⟨b, off, rfl, _, hc⟩ := r4 (by omega)
  have h3 := hc k hk
  have h4 := r5 k hk
  unfold Rw.v at h3
  subst hbs
  rw [blkAt_nums (by omega)]
  exact ⟨_, _, _, _, rfl, h3, h4⟩
theorem pred_max (i : Nat) : max ((i : Int) - 1) 0 = ((i - 1 : Nat) : Int) := by omega

set_option maxRecDepth 100000 in
set_option maxHeartbeats 8000000 in
theorem specFrom_any (a : Option Addr) (n cap : Nat) (rs : List Rw) (w : World) (h : HasR w a n cap rs) :
    Calls Tryz.prog 13 #[.slice a n cap] w (PostInts w (fromUnit (numsOf rs))) := by
  have hnl : (numsOf rs).length = n := by have := h.1; simpa [numsOf] using this
  have hn := h.2.2.2.1
  obtain ⟨bs, hbs⟩ : ∃ bs, numsOf rs = bs := ⟨_, rfl⟩
  have HROW := hid (fun (W : World) (hb : Below w.heap.size w W) (k : Nat) (hk : k < n) => HasR.rowAt h hb hbs hk)
  have HLE : Hid (∀ k, k < n → (blkAt bs k).length ≤ 2097152) := hid (fun k hk => (HasR.rowAt h (Below.refl _ _) hbs hk).choose_spec.choose_spec.choose_spec.choose_spec.2.2.le)
  rw [hbs] at hnl ⊢
  have E1 := hid (fun k (hk : k < n) => from_empty (bs := bs) (k := k) (by omega))
  have E2 := hid (fun k (hk : k < n) => from_long (bs := bs) (k := k) (by omega))
  have E3 := hid (fun k i (hk : k < n) => from_range (bs := bs) (k := k) (i := i) (by omega))
  have E4 := hid (fun k i (hk : k < n) => from_twice (bs := bs) (k := k) (i := i) (by omega))
  have E5 := hid (from_other (bs := bs))
  have E6 := hid (from_yes (bs := bs))
  have E7 := hid (fun ls => blks_same (bs := bs) (ls := ls))
  have HPB : Hid (placeBl bs = plTo (lenTo bs n) bs n) := hid (by unfold placeBl; rw [hnl])
  rw [hnl] at E3 E6 E7
  have HNL := hid hnl
  clear hnl h hbs
  go_enter Tryz.func13, Tryz.ntmps13
  go_wp2_with fail
  go_loop [4, 20] (fun g i => ∃ k : Nat, k ≤ n ∧ i = .int .i64 (k : Int) ∧ g = .int .i64 (lenTo bs k : Int) ∧ lenTo bs k ≤ 8 ∧ Hid (nonTo bs k = true)) (fun _ i => n - (intOf i).toNat)
  case atStart => exact ⟨0, Nat.zero_le _, rfl, rfl, Nat.zero_le _, hid rfl⟩
  case round =>
    obtain ⟨k, hk, rfl, rfl, h8, HN⟩ := hrel
    by_cases hlt : k < n
    · obtain ⟨b, off, ak, ck, rfl, hck, -⟩ := HROW.out w (Below.refl _ _) k hlt
      have hle := HLE.out k hlt
      have HS : Hid (lenTo bs (k + 1) = lenTo bs k + (blkAt bs k).length) := hid rfl
      have F1 := hid (E1.out k hlt)
      have F2 := hid (E2.out k hlt)
      have HNS := hid (nonTo_succ (bs := bs) (k := k))
      generalize (blkAt bs k).length = nk at *
      generalize lenTo bs k = L at *
      by_cases h0 : nk = 0
      · have hz : ((nk : Int) == 0) = true := by simp [h0]
        have HR := hid (F1.out h0)
        go_wp2_with fail
        go_ret2
        exact postInts_no HR.out (Below.refl _ _)
      · have hz : ((nk : Int) == 0) = false := by simp [h0]
        by_cases h1 : 8 < L + nk
        · have HR := hid (F2.out (by rw [HS.out]; exact h1))
          have hgt : (8 : Int) < (L : Int) + (nk : Int) := by omega
          go_wp2_with fail
          go_ret2
          exact postInts_no HR.out (Below.refl _ _)
        · have hgt : ¬ (8 : Int) < (L : Int) + (nk : Int) := by omega
          go_wp2_with fail
          go_round
          case rel => exact ⟨k + 1, by omega, by go_num, by rw [HS.out]; go_num, by rw [HS.out]; omega, hid (by rw [HNS.out, HN.out, decide_eq_true (by omega)]; rfl)⟩
          case measure => simp [intOf]; omega
    · obtain rfl : k = n := by omega
      obtain ⟨N, hN⟩ : ∃ N, lenTo bs k = N := ⟨_, rfl⟩
      rw [hN] at h8 HPB E3 E6 ⊢
      have HNN := hid hN
      have hlk : k ≤ N := by rw [← hN]; exact nonTo_len HN.out
      have HLM : Hid (∀ j, j < k → lenTo bs j + (blkAt bs j).length ≤ N) := hid (fun j hj => by
        have := lenTo_mono bs (k := j + 1) (k - (j + 1))
        rw [show j + 1 + (k - (j + 1)) = k by omega, hN] at this
        exact this)
      clear hN E1 E2
      go_wp2_with (first | (at_make; refine wpList_make_ints _ rfl _ _ rfl N rfl rfl (by omega) ?_; intro a2 cap2 w2 hown2 hb2))
      have hltL := hown2.lt
      have hs2 := hb2.size
      go_loopw [8, 9, 40] (fun s f i wr => ∃ (j : Nat) (a8 : Option Addr) (m8 c8 : Nat), j ≤ k ∧ i = .int .i64 (j : Int) ∧ f = .int .i64 (lenTo bs j : Int) ∧ s = .slice a8 m8 c8 ∧ Own wr w2.heap.size a8 m8 c8 (flatTo bs j) ∧ Own wr w.heap.size a2 N cap2 (plTo N bs j) ∧ Below w.heap.size w wr ∧ w2.heap.size ≤ wr.heap.size ∧ Hid (preB N (flatTo bs j))) (fun _ _ i _ => k - (intOf i).toNat)
      case atStart => exact ⟨0, none, 0, 0, Nat.zero_le _, rfl, rfl, rfl, Own.nil _ _, hown2, hb2, Nat.le_refl _, hid ⟨List.nodup_nil, fun x hx => by simp [flatTo] at hx⟩⟩
      case round =>
        obtain ⟨j, a8, m8, c8, hj, rfl, rfl, rfl, o8, oL, hb, hsz, HP⟩ := hrel
        clear hown2 hb2
        by_cases hlt : j < k
        · obtain ⟨b, off, ak, ck, rfl, hck, H_k⟩ := HROW.out wr hb j hlt
          have hle := HLM.out j hlt
          have F3 := hid (fun i => E3.out j i hlt)
          have F4 := hid (fun i => E4.out j i hlt)
          have HS : Hid (lenTo bs (j + 1) = lenTo bs j + (blkAt bs j).length) := hid rfl
          have HFS : Hid (flatTo bs (j + 1) = flatTo bs j ++ blkAt bs j) := hid rfl
          have HPS : Hid (plTo N bs (j + 1) = plIn (lenTo bs j) (blkAt bs j) (plTo N bs j) (blkAt bs j).length) := hid rfl
          have hjk : (j : Int) < (k : Int) := by omega
          have hF8 : lenTo bs j ≤ 8 := by omega
          generalize lenTo bs j = F at *
          generalize plTo N bs j = ys at *
          generalize flatTo bs j = fl at *
          obtain ⟨blk, hblk⟩ : ∃ blk, blkAt bs j = blk := ⟨_, rfl⟩
          rw [hblk] at hck H_k hle F3 F4 HS HFS HPS
          have HBLK := hid hblk
          clear hblk
          obtain ⟨nk, hnk⟩ : ∃ nk, blk.length = nk := ⟨_, rfl⟩
          rw [hnk] at hck H_k hle HS HPS F3 F4
          have HNK := hid hnk
          clear hnk
          go_wp2_with fail
          go_loopw [8, 46] (fun s i wr => ∃ (t : Nat) (a8 : Option Addr) (m8 c8 : Nat), t ≤ nk ∧ i = .int .i64 (t : Int) ∧ s = .slice a8 m8 c8 ∧ Own wr w2.heap.size a8 m8 c8 (fl ++ blk.take t) ∧ Own wr w.heap.size a2 N cap2 (plIn F blk ys t) ∧ Below w.heap.size w wr ∧ w2.heap.size ≤ wr.heap.size ∧ Hid (preB N (fl ++ blk.take t))) (fun _ i _ => nk - (intOf i).toNat)
          case atStart => exact ⟨0, a8, m8, c8, Nat.zero_le _, rfl, rfl, by rw [List.take_zero, List.append_nil]; exact o8, oL, hb, hsz, hid (by rw [List.take_zero, List.append_nil]; exact HP.out)⟩
          case round =>
            clear o8 oL hb hsz HP hck
            obtain ⟨t, a8, m8, c8, ht, rfl, rfl, o8, oL, hb, hsz, HP⟩ := hrel
            by_cases hlt2 : t < nk
            · obtain ⟨bb, ob, hab, hbb, hcb⟩ := H_k.2.2.2.2 (by omega)
              have hct : wr.cell? ⟨bb, ob + t, none⟩ = some (.int .i64 (nth blk t)) := by rw [hb.cell (p := ⟨bb, ob + t, none⟩) hbb]; exact hcb t hlt2
              subst hab
              have HT : Hid (blk.take (t + 1) = blk.take t ++ [nth blk t]) := hid (take_succ_nth (by rw [HNK.out]; exact hlt2))
              have G3 := hid (F3.out t hlt2)
              have G4 := hid (F4.out t hlt2)
              obtain ⟨x, hx⟩ : ∃ x, nth blk t = x := ⟨_, rfl⟩
              have HXX := hid hx
              rw [hx] at hct HT G3 G4
              have htn : (t : Int) < (nk : Int) := by omega
              have hwr : IntKind.i64.wrap ((N : Int) - 1) = (N : Int) - 1 := by rw [IntKind.wrap_i64]; omega
              clear hcb hx
              have hm8 : m8 ≤ N := by rw [← o8.len]; exact nodup_le N _ HP.out.1 HP.out.2
              by_cases hr : inB x 0 ((N : Int) - 1) = true
              · have HI := hid hr
                have hx2 := inB_iff.1 hr
                by_cases hh : hasB (fl ++ blk.take t) x = true
                · have HH := hid hh
                  have HR := hid (G4.out (by simpa [hasB] using hh))
                  clear hr hh
                  go_wp2_with (first | (go_at_call 37; refine (l1In_any _ _ _ _).mono ?_; rintro e w' ⟨rfl, rfl⟩; rw [HI.out]) | (go_at_call 38; refine (l1Has_any _ _ _ _ _ _ o8.has).mono ?_; rintro e w' ⟨rfl, rfl⟩; rw [HH.out]))
                  go_ret2
                  exact postInts_no HR.out hb
                · have hnm : x ∉ fl ++ blk.take t := by simpa [hasB] using hh
                  have HH := hid (Bool.eq_false_iff.2 hh)
                  have HP2 := hid (pre_snoc HP.out (by omega : 0 ≤ x ∧ x < (N : Int)) hnm)
                  obtain ⟨c, rfl⟩ : ∃ c : Nat, x = (c : Int) := ⟨x.toNat, by omega⟩
                  have hcN : c < N := by omega
                  have hcN2 : (c : Int) < (N : Int) := by omega
                  have hc0 : (0 : Int) ≤ (c : Int) := by omega
                  clear hr hh hnm hx2
                  obtain ⟨g2, rfl, r1, r2, -, -⟩ := oL.opened (by omega)
                  have hgB : g2 < w2.heap.size := by have := hltL _ rfl; simpa using this
                  obtain ⟨u, hu⟩ : ∃ u, t - 1 = u := ⟨_, rfl⟩
                  have hu8 : u ≤ 8 := by omega
                  have HMX : Hid (max ((t : Int) - 1) 0 = (u : Int)) := hid (by rw [pred_max, hu])
                  have HPI : Hid (plIn F blk ys (t + 1) = (plIn F blk ys t).set c ((F : Int) + (u : Int))) := hid (by rw [plIn, HXX.out, Int.toNat_natCast, hu])
                  have hwt : IntKind.i64.wrap ((t : Int) - 1) = (t : Int) - 1 := by rw [IntKind.wrap_i64]; omega
                  go_wp2_with (first | (go_at_call 37; refine (l1In_any _ _ _ _).mono ?_; rintro e w' ⟨rfl, rfl⟩; rw [HI.out]) | (go_at_call 38; refine (l1Has_any _ _ _ _ _ _ o8.has).mono ?_; rintro e w' ⟨rfl, rfl⟩; rw [HH.out]) | (at_builtin; refine wpList_append_int _ rfl _ _ rfl w2.heap.size _ _ _ _ _ rfl rfl o8 (by omega) hsz ?_; intro a9 c9 w9 o9 hb9; have oL9 := oL.belowB hb9 hltL; obtain ⟨g9, hg9, -, -, hc9, hf9⟩ := oL9.opened (by omega); cases hg9; have hcc := hc9 c hcN; have hcf := hf9 c; clear hc9 hf9) | (go_at_call 39; refine (l1Most_any _ _ _).mono ?_; rintro e w' ⟨rfl, rfl⟩; rw [HMX.out]))
                  obtain ⟨s1, s2⟩ := oL9.set c ((F : Int) + (u : Int))
                  have o9' := o9.kept s2 (.inl hgB)
                  have hb9' := (hb.trans (hb9.mono hs2)).setCell (p := ⟨g2, c, none⟩) r1 (.int .i64 ((F : Int) + (u : Int)))
                  have hsz9 : w2.heap.size ≤ (w9.setCell ⟨g2, c, none⟩ (.int .i64 ((F : Int) + (u : Int)))).heap.size := Nat.le_trans hsz (Nat.le_trans hb9.size s2.size)
                  go_roundw
                  case rel => exact ⟨t + 1, a9, m8 + 1, c9, by omega, by go_num, rfl, by rw [HT.out, ← List.append_assoc]; exact o9', by rw [HPI.out]; exact s1, hb9', hsz9, hid (by rw [HT.out, ← List.append_assoc]; exact HP2.out)⟩
                  case measure => simp [intOf]; omega
              · have HI := hid (Bool.eq_false_iff.2 hr)
                have HR := hid (G3.out (fun hc => hr (inB_iff.2 ⟨hc.1, by omega⟩)))
                clear hr
                go_wp2_with (go_at_call 37; refine (l1In_any _ _ _ _).mono ?_; rintro e w' ⟨rfl, rfl⟩; rw [HI.out])
                go_ret2
                exact postInts_no HR.out hb
            · obtain rfl : t = nk := by omega
              have htk : blk.take t = blk := List.take_of_length_le (by rw [HNK.out]; exact Nat.le_refl _)
              rw [htk] at o8 HP
              go_wp2_with fail
              go_roundw
              case rel => exact ⟨j + 1, a8, m8, c8, by omega, by go_num, by rw [HS.out]; go_num, rfl, by rw [HFS.out]; exact o8, by rw [HPS.out]; exact oL, hb, hsz, hid (by rw [HFS.out]; exact HP.out)⟩
              case measure => simp [intOf]; omega
        · obtain rfl : j = k := by omega
          obtain ⟨pl, hpl⟩ : ∃ pl, plTo N bs j = pl := ⟨_, rfl⟩
          rw [hpl] at oL HPB
          obtain ⟨⟨ls, ok⟩, hu⟩ : ∃ r, unitBlocksOf pl = r := ⟨_, rfl⟩
          have HU := hid hu
          rw [HPB.out, hu] at E5 E6
          have G5 := hid (fun h => E5.out h)
          have G6 := hid (E6.out HN.out h8 HP.out)
          clear hu hpl hlt
          go_wp2_with fail
          refine (specBlocks_any _ _ _ _ _ oL.has).mono ?_
          rw [HU.out]
          rintro e w3 ⟨a3, n3, c3, ss, rfl, R3, hn3, hb3⟩
          have oL3 := oL.below hb3 (Nat.le_refl _)
          have hb13 := hb.trans (hb3.mono hb.size)
          replace hn3 : numsOf ss = ls := hn3
          have hl3 : ls.length = n3 := by have := R3.len; rw [← hn3]; simpa [numsOf] using this
          have HL3 := hid hl3
          have HN3 := hid hn3
          have R3h := R3.has
          have hn3b := R3.le
          clear oL hb hb3 R3 hn3 o8
          cases ok with
          | false =>
            have HR := hid (G5.out (by simp))
            go_wp2_with fail
            go_ret2
            exact postInts_no HR.out hb13
          | true =>
            by_cases hnn : n3 = j
            · subst hnn
              have hne := neq_self_int (n3 : Int)
              go_wp2_with fail
              go_loopw [95] (fun i wr => ∃ t : Nat, t ≤ n3 ∧ i = .int .i64 (t : Int) ∧ Quiet w3 wr ∧ Hid (∀ q, q < t → blkAt bs q = blkAt ls q)) (fun i _ => n3 - (intOf i).toNat)
              case atStart => exact ⟨0, Nat.zero_le _, rfl, ⟨0, rfl⟩, hid (fun q hq => absurd hq (by omega))⟩
              case round =>
                obtain ⟨t, ht, rfl, hq, HQ⟩ := hrel
                have hbq := hb13.trans (hq.below _)
                by_cases hlt : t < n3
                · obtain ⟨b, off, ak, ck, rfl, hck, H_k⟩ := HROW.out wr hbq t hlt
                  obtain ⟨b', off', ak', ck', rfl, hck', H_k'⟩ := HasR.rowAt R3h (hq.below _) HN3.out hlt
                  have H1 := H_k.below hbq (Nat.le_refl _)
                  have H2 := H_k'.below (hq.below _) (Nat.le_refl _)
                  have htn : (t : Int) < (n3 : Int) := by omega
                  clear H_k H_k'
                  by_cases hs : blkAt bs t = blkAt ls t
                  · have HS : Hid (same (blkAt bs t) (blkAt ls t) = true) := hid (by rw [hs]; exact same_self _)
                    have HQ2 : Hid (∀ q, q < t + 1 → blkAt bs q = blkAt ls q) := hid (fun q hq => by
                      by_cases e : q = t
                      · rw [e]; exact hs
                      · exact HQ.out q (by omega))
                    clear hs
                    go_wp2_with fail
                    refine (l1Same_any _ _ _ _ _ _ _ _ _ H1 H2).mono ?_
                    rintro e w5 ⟨rfl, q5, rfl⟩
                    rw [HS.out]
                    go_wp2_with fail
                    go_roundw
                    case rel => exact ⟨t + 1, by omega, by go_num, Quiet.more hq _, HQ2⟩
                    case measure => simp [intOf]; omega
                  · have HS : Hid (same (blkAt bs t) (blkAt ls t) = false) := hid (by simp [same, hs])
                    have HR := hid (G5.out (fun e => hs (by simp at e; rw [e])))
                    clear hs
                    go_wp2_with fail
                    refine (l1Same_any _ _ _ _ _ _ _ _ _ H1 H2).mono ?_
                    rintro e w5 ⟨rfl, q5⟩
                    rw [HS.out]
                    go_wp2_with fail
                    go_ret2
                    exact postInts_no HR.out (hbq.trans (q5.below _))
                · obtain rfl : t = n3 := by omega
                  have HR := hid (G6.out (by rw [E7.out ls HL3.out HQ.out]))
                  have oL4 := oL3.below (hq.below _) (Nat.le_refl _)
                  go_wp2_with fail
                  go_ret2
                  exact postInts HR.out oL4 hbq
            · have hne : ((n3 : Int) != (j : Int)) = true := by simp; omega
              have HR := hid (G5.out (fun e => hnn (by simp at e; rw [← HL3.out, e]; exact HNL.out)))
              go_wp2_with fail
              go_ret2
              exact postInts_no HR.out hb13
end Go.Proofs.YtnddplldkgphnaaGreat

namespace Go.Proofs.YtnddplldkgphnaaGreat
open Go.RowKit

/-- A list that was drawn, and the cursor stands. -/
def DrewUnit (w : World) (g t : Nat) (e : Ending) (w' : World) : Prop := ∃ a n cap xs t', e = .returned (.slice a n cap) ∧ Own w' w.heap.size a n cap xs ∧ n ≤ 10 ∧ AtG w w' g t' ∧ t' ≤ t + 300
set_option maxRecDepth 100000 in
set_option maxHeartbeats 4000000 in
theorem unit_cur (g t : Nat) (w : World) (h : Cur w g t) (ht : t ≤ 500) :
    Calls Tryz.prog 20 #[.pointer (some ⟨g, 0, none⟩)] w (DrewUnit w g t) := by
  have hgl := h.lt
  have A0 := AtG.new h
  go_enter Tryz.func20, Tryz.ntmps20
  go_wp2_with fail
  refine (pick_cur g t 9 _ h (by omega) (by omega)).mono ?_
  rintro e w1 ⟨v, rfl, v0, v1, ⟨t1, ta, tb, hc1⟩, hg1⟩
  have A1 := A0.pick hc1 hg1
  obtain ⟨m, rfl⟩ : ∃ m : Nat, v = (m : Int) := ⟨v.toNat, by omega⟩
  have hm : m ≤ 8 := by omega
  have hs1 := A1.size
  clear hc1 hg1 A0 v1
  go_wp2_with fail
  refine (outcome_at g t1 m _ A1.cur (by omega) (by omega)).mono ?_
  rintro e w2 ⟨a4, n4, c4, os, t2, rfl, o4, rfl, -, A2', ht2⟩
  have A2 := A1.trans A2'
  have hs2 := A2.size
  have hl4 := o4.len
  clear A2' A1
  by_cases ho : outB os = true
  · have HO := hid ho
    have hos := out_pre.1 ho
    have hon := hid (fun i hi => out_nth (xs := os) (i := i) ho hi)
    clear ho
    go_wp2_with (first | (go_at_call 48; refine (paOutcome_any _ _ _ _ _ o4.has).mono ?_; rintro e w' ⟨rfl, rfl⟩; rw [HO.out]) | (go_at_call 34; refine (one_cur g t2 6 _ A2.cur (by omega) (by omega)).mono ?_; rintro e w3 ⟨bb, rfl, ⟨t3, tc, td, hc3⟩, hg3⟩; have o5 := o4.kept hg3 (.inl (by omega)); have A3 := A2.pick hc3 hg3; clear hc3 hg3 A2 o4) | (at_make; refine wpList_make_ints _ rfl _ _ rfl n4 rfl rfl (by omega) ?_; intro a5 c5 w4 oL hb4))
    · have hs3 := A3.size
      refine (park_cur g t3 6 _ A3.cur (by omega) (by omega) (by omega)).mono ?_
      rintro e w4 ⟨a, n, cap, xs, t4, rfl, o, hn, -, A4', ht4⟩
      have A4 := A3.trans A4'
      go_wp2_with fail
      go_ret
      exact ⟨_, _, _, _, t4, rfl, o.mono hs3, hn, A4, by omega⟩
    · have hs3 := A3.size
      have o6 := o5.below hb4 (Nat.le_refl _)
      have A4 := A3.later hb4 hs3
      have hlt4 := o5.lt
      have hs4 := hb4.size
      have hge5 := oL.ge
      clear o5 A3 hb4
      go_loopw [6, 27] (fun f i wr => ∃ (k q : Nat) (ys : List Int) (t' : Nat), k ≤ n4 ∧ i = .int .i64 (k : Int) ∧ f = .int .i64 (q : Int) ∧ q ≤ k ∧ Own wr w3.heap.size a5 n4 c5 ys ∧ Own wr w1.heap.size a4 n4 c4 os ∧ AtG w wr g t' ∧ t' ≤ t3 + 2 * k) (fun _ i _ => n4 - (intOf i).toNat)
      case atStart => exact ⟨0, 0, _, t3, Nat.zero_le _, rfl, rfl, Nat.le_refl _, oL, o6, A4, by omega⟩
      case round =>
        obtain ⟨k, q, ys, t', hk, rfl, rfl, hq, oY, oX, A, ht'⟩ := hrel
        clear oL o6 A4
        by_cases hlt : k < n4
        · obtain ⟨g1, rfl, p1, p2, p3, p4⟩ := oX.opened (by omega)
          obtain ⟨g5, rfl, r1, r2, r3, r4⟩ := oY.opened (by omega)
          have hxk := hon.out k (by omega)
          obtain ⟨c, hc⟩ : ∃ c : Nat, nth os k = (c : Int) := ⟨(nth os k).toNat, by omega⟩
          have hck := p3 k hlt
          rw [hc] at hck
          have hcn : c < n4 := by omega
          have hcn2 : (c : Int) < (n4 : Int) := by omega
          have hc0 : (0 : Int) ≤ (c : Int) := by omega
          have hne : g5 ≠ g1 := by have h1 := hlt4 _ rfl; simp at h1; omega
          clear p3 p4 r3 r4 hxk hc
          obtain ⟨d, hd⟩ : ∃ d : Nat, k - q = d := ⟨_, rfl⟩
          have hd8 : d ≤ 8 := by omega
          have hw1 : IntKind.i64.wrap ((k : Int) - (q : Int)) = (d : Int) := by rw [IntKind.wrap_i64]; omega
          have hw2 : IntKind.i64.wrap ((d : Int) - 1) = (d : Int) - 1 := by rw [IntKind.wrap_i64]; omega
          have hw3 : IntKind.i64.wrap ((k : Int) - (k : Int)) = 0 := by rw [IntKind.wrap_i64]; omega
          have HMX : Hid (max ((d : Int) - 1) 0 = ((d - 1 : Nat) : Int)) := hid (pred_max d)
          obtain ⟨u, hu⟩ : ∃ u : Nat, d - 1 = u := ⟨_, rfl⟩
          have hu8 : u ≤ 8 := by omega
          rw [hu] at HMX
          have hgw : w.heap.size ≤ g5 := by omega
          by_cases h0 : 0 < k
          · have hz : (0 : Int) < (k : Int) := by omega
            go_wp2_with (first | (go_at_call 34; refine (one_cur g t' 2 _ A.cur (by omega) (by omega)).mono ?_; rintro e w5 ⟨b2, rfl, ⟨t5, te, tf, hc5⟩, hg5⟩; have oY5 := oY.kept hg5 (.inl (by omega)); have oX5 := oX.kept hg5 (.inl (by omega)); have A5 := A.pick hc5 hg5; obtain ⟨g9, hg9, -, -, hc9, hf9⟩ := oY5.opened (by omega); cases hg9; have hcc := hc9 c hcn; have hcf := hf9 c; clear hc9 hf9 hc5 hg5 oY oX A hck) | (go_at_call 39; refine (l1Most_any _ _ _).mono ?_; rintro e w' ⟨rfl, rfl⟩))
            · skip
              go_roundw
              case rel => exact ⟨k + 1, k, _, t5, by omega, by go_num, rfl, by omega, (oY5.set c _).1, oX5.kept (oY5.set c _).2 (.inr (fun p hp => by cases hp; exact fun e => hne e.symm)), A5.later ((Below.refl w.heap.size w5).setCell (p := ⟨g5, c, none⟩) hgw _) (Nat.le_refl _), by omega⟩
              case measure => simp [intOf]; omega
            · skip
              go_roundw
              case rel => exact ⟨k + 1, q, _, t5, by omega, by go_num, rfl, by omega, (oY5.set c _).1, oX5.kept (oY5.set c _).2 (.inr (fun p hp => by cases hp; exact fun e => hne e.symm)), A5.later ((Below.refl w.heap.size w5).setCell (p := ⟨g5, c, none⟩) hgw _) (Nat.le_refl _), by omega⟩
              case measure => simp [intOf]; omega
          · obtain rfl : k = 0 := by omega
            obtain rfl : q = 0 := by omega
            obtain ⟨g9, hg9, -, -, hc9, hf9⟩ := oY.opened (by omega)
            cases hg9
            have hcc := hc9 c hcn
            have hcf := hf9 c
            clear hc9 hf9
            go_wp2_with (go_at_call 39; refine (l1Most_any _ _ _).mono ?_; rintro e w' ⟨rfl, rfl⟩)
            go_roundw
            case rel => exact ⟨1, 0, _, t', by omega, by go_num, rfl, by omega, (oY.set c _).1, oX.kept (oY.set c _).2 (.inr (fun p hp => by cases hp; exact fun e => hne e.symm)), A.later ((Below.refl w.heap.size wr).setCell (p := ⟨g5, c, none⟩) hgw _) (Nat.le_refl _), by omega⟩
            case measure => simp [intOf]; omega
        · obtain rfl : k = n4 := by omega
          go_wp2_with fail
          go_ret
          exact ⟨_, _, _, _, t', rfl, oY.mono (by omega), by omega, A, by omega⟩
  · have HO := hid (Bool.eq_false_iff.2 ho)
    clear ho
    go_wp2_with (go_at_call 48; refine (paOutcome_any _ _ _ _ _ o4.has).mono ?_; rintro e w' ⟨rfl, rfl⟩; rw [HO.out])
    refine (park_cur g t2 6 _ A2.cur (by omega) (by omega) (by omega)).mono ?_
    rintro e w3 ⟨a, n, cap, xs, t3, rfl, o, hn, -, A3', ht3⟩
    have A3 := A2.trans A3'
    go_wp2_with fail
    go_ret
    exact ⟨_, _, _, _, t3, rfl, o.mono hs2, hn, A3, by omega⟩
theorem freshU (w : World) (a : Option Addr) (n cap : Nat) : Below w.heap.size w (w.alloc (.cells #[.slice a n cap, .int .i64 0, .int .u64 0] 46)) := (Below.refl _ _).alloc (Nat.le_refl _) _
set_option maxHeartbeats 800000 in
theorem drawUnitBlocks_any (a : Option Addr) (n cap : Nat) (w : World) (h : HasB w a n w.heap.size) :
    Calls Tryz.prog 5 #[.slice a n cap] w fun e w' => ∃ a n cap xs, e = .returned (.slice a n cap) ∧ Own w' w.heap.size a n cap xs ∧ n ≤ 10 ∧ Below w.heap.size w w' := by
  have C0 := cur_new (cap := cap) h
  have hb0 := freshU w a n cap
  go_enter Tryz.func5, Tryz.ntmps5
  go_wp2_with fail
  refine (unit_cur _ 0 _ C0 (by omega)).mono ?_
  rintro e w1 ⟨a1, n1, c1, xs, t1, rfl, o, hn, A, ht⟩
  go_wp2_with fail
  go_ret
  exact ⟨_, _, _, _, rfl, o.mono (by simp), hn, hb0.trans A.below⟩
set_option maxRecDepth 100000 in
set_option maxHeartbeats 1600000 in
theorem drawIsUnit_any (a : Option Addr) (n cap : Nat) (w : World) (h : HasB w a n w.heap.size) :
    Calls Tryz.prog 14 #[.slice a n cap] w fun e w' => ∃ a n cap xs, ∃ m : Int, e = .returned (.tuple #[.slice a n cap, .int .i64 m]) ∧ Own w' w.heap.size a n cap xs ∧ n ≤ 10 ∧ -1 ≤ m ∧ m ≤ 9 ∧ Below w.heap.size w w' := by
  have C0 := cur_new (cap := cap) h
  have hb0 := freshU w a n cap
  obtain ⟨w1, hw1⟩ : ∃ w1, w.alloc (.cells #[.slice a n cap, .int .i64 0, .int .u64 0] 46) = w1 := ⟨_, rfl⟩
  have hs1 : w1.heap.size = w.heap.size + 1 := by rw [← hw1]; simp
  rw [hw1] at C0 hb0
  have HW := hid hw1
  clear hw1
  go_enter Tryz.func14, Tryz.ntmps14
  go_wp2_with fail
  rw [HW.out]
  clear HW
  refine (park_cur _ 0 7 _ C0 (by omega) (by omega) (by omega)).mono ?_
  rintro e w2 ⟨a1, n1, c1, xs, t2, rfl, o, hn, -, A, ht⟩
  have A1 : At w1 w2 w.heap.size t2 := ⟨A.cur, A.below⟩
  have hgl := A.cur.lt
  have A2 := A1.later (alloc_below w2 (.cells #[.int .i64 0, .int .i64 1, .int .i64 1, .int .i64 2, .int .i64 3, .int .i64 8, .int .i64 9, .int .i64 (-1)] 3)) A1.cur.lt
  have o2 := o.below (alloc_below w2 (.cells #[.int .i64 0, .int .i64 1, .int .i64 1, .int .i64 2, .int .i64 3, .int .i64 8, .int .i64 9, .int .i64 (-1)] 3)) (Nat.le_refl _)
  clear A
  go_wp2_with fail
  refine (among_cur _ t2 _ 8 8 [0, 1, 1, 2, 3, 8, 9, -1] _ A2.cur (by omega) (has_lit8 w2 0 1 1 2 3 8 9 (-1)) (by omega) (by omega) (lit_ne A1.cur)).mono ?_
  rintro e w3 ⟨v, rfl, hv, ⟨t3, tc, td, hc2⟩, hg2⟩
  have hv1 : -1 ≤ v ∧ v ≤ 9 := by simp at hv; omega
  have A3 := A2.pick hc2 hg2
  have o3 := (o2.kept hg2 (.inl (by omega))).mono (B' := w.heap.size) (by omega)
  have hb := hb0.trans A3.below
  clear hv hc2 hg2 A1 A2
  go_wp2_with fail
  go_ret2
  exact ⟨_, _, _, _, _, rfl, o3, hn, hv1.1, hv1.2, hb⟩
set_option maxRecDepth 100000 in
set_option maxHeartbeats 1600000 in
theorem drawCountUnit_any (a : Option Addr) (n cap : Nat) (w : World) (h : HasB w a n w.heap.size) :
    Calls Tryz.prog 16 #[.slice a n cap] w fun e w' => ∃ v m : Int, e = .returned (.tuple #[.int .i64 v, .int .i64 m]) ∧ -1 ≤ v ∧ v ≤ 6 ∧ -1 ≤ m ∧ m ≤ 9 ∧ Below w.heap.size w w' := by
  have C0 := cur_new (cap := cap) h
  have hb0 := freshU w a n cap
  obtain ⟨w1, hw1⟩ : ∃ w1, w.alloc (.cells #[.slice a n cap, .int .i64 0, .int .u64 0] 46) = w1 := ⟨_, rfl⟩
  have hs1 : w1.heap.size = w.heap.size + 1 := by rw [← hw1]; simp
  rw [hw1] at C0 hb0
  have HW := hid hw1
  clear hw1
  go_enter Tryz.func16, Tryz.ntmps16
  go_wp2_with fail
  rw [HW.out]
  clear HW
  have A0 : At w1 w1 w.heap.size 0 := ⟨C0, Below.refl _ _⟩
  have A1 := A0.later (alloc_below w1 (.cells #[.int .i64 0, .int .i64 1, .int .i64 2, .int .i64 3, .int .i64 4, .int .i64 4, .int .i64 5, .int .i64 6, .int .i64 (-1)] 3)) C0.lt
  have hl := has_lit9 w1 0 1 2 3 4 4 5 6 (-1)
  have hn := lit_ne C0
  rw [hs1] at hl hn
  refine (among_cur w.heap.size 0 _ 9 9 [0, 1, 2, 3, 4, 4, 5, 6, -1] _ A1.cur (by omega) hl (by omega) (by omega) hn).mono ?_
  rintro e w2 ⟨v, rfl, hv, ⟨t2, tc, td, hc2⟩, hg2⟩
  have hv1 : -1 ≤ v ∧ v ≤ 6 := by simp at hv; omega
  have A2 := A1.pick hc2 hg2
  clear hv hc2 hg2 A1 A0
  have A3 := A2.later (alloc_below w2 (.cells #[.int .i64 0, .int .i64 1, .int .i64 1, .int .i64 2, .int .i64 3, .int .i64 8, .int .i64 9, .int .i64 (-1)] 3)) A2.cur.lt
  go_wp2_with fail
  refine (among_cur _ t2 _ 8 8 [0, 1, 1, 2, 3, 8, 9, -1] _ A3.cur (by omega) (has_lit8 w2 0 1 1 2 3 8 9 (-1)) (by omega) (by omega) (lit_ne A2.cur)).mono ?_
  rintro e w3 ⟨m, rfl, hm, ⟨t3, te, tf, hc3⟩, hg3⟩
  have hm1 : -1 ≤ m ∧ m ≤ 9 := by simp at hm; omega
  have A4 := A3.pick hc3 hg3
  have hb := hb0.trans A4.below
  clear hm hc3 hg3 A2 A3
  go_wp2_with fail
  go_ret2
  exact ⟨_, _, rfl, hv1.1, hv1.2, hm1.1, hm1.2, hb⟩
/-- Rows stay where a list aside of them grows. -/
theorem OwnR.keptRow {w w1 : World} {B n cap m c : Nat} {a a7 : Option Addr} {rs : List Rw} {ys : List Int} (h : OwnR w B a n cap rs) (h7 : Own w B a7 m c ys) (hap : Aside rs a7) (hg : w.grownBy w1 (Value.ownBlock (.slice a7 m c))) : OwnR w1 B a n cap rs := by
  have hl := h.len
  refine ⟨h.1.kept hg ?_, h.2.1, h.2.2.1, fun j hj => ⟨(h.row hj).1.kept hg ?_, (h.row hj).2⟩, h.2.2.2.2⟩
  · cases e : a7 with
    | none =>
      cases a with
      | none => left; rfl
      | some p => right; simp [Value.ownBlock]
    | some q =>
      cases e2 : a with
      | none => left; rfl
      | some p =>
        right
        have := hdr_ne h.1 h7 p q e2 e
        simpa [Value.ownBlock] using this
  · cases e : (nthR rs j).a with
    | none => left; rfl
    | some p =>
      right
      cases e2 : a7 with
      | none => simp [Value.ownBlock]
      | some q =>
        have := hap j (by omega) p q e e2
        simpa [Value.ownBlock] using this
theorem aside_grown {w : World} {B n cap m m' c c' : Nat} {a a7 a8 : Option Addr} {rs : List Rw} (h : OwnR w B a n cap rs) (hap : Aside rs a7)
    (hloc : Value.ownBlock (.slice a8 m' c') = Value.ownBlock (.slice a7 m c) ∨ ∃ g', Value.ownBlock (.slice a8 m' c') = some g' ∧ w.heap.size ≤ g') : Aside rs a8 := fun i hi p q hp hq => by
  subst hq
  rcases hloc with h1 | ⟨g', h1, h2⟩
  · cases a7 with
    | none => simp [Value.ownBlock] at h1
    | some q' =>
      have h3 := hap i hi p q' hp rfl
      simp [Value.ownBlock] at h1
      omega
  · simp [Value.ownBlock] at h1
    have := h.lt.2 i hi p hp
    omega
theorem OwnR.keptCur {w w1 : World} {B n cap g : Nat} {a : Option Addr} {rs : List Rw} (h : OwnR w B a n cap rs) (hg : w.grownBy w1 (some g)) (hgB : g < B) : OwnR w1 B a n cap rs := by
  refine ⟨h.1.kept hg ?_, h.2.1, h.2.2.1, fun j hj => (h.row hj).kept hg (.inl hgB), h.2.2.2.2⟩
  cases e : a with
  | none => left; rfl
  | some p =>
    right
    have := ownsRow_ge h.1 p e
    simp [Value.ownBlock]
    omega
set_option maxRecDepth 100000 in
set_option maxHeartbeats 8000000 in
theorem drawFromUnit_any (a : Option Addr) (n cap : Nat) (w : World) (h : HasB w a n w.heap.size) :
    Calls Tryz.prog 12 #[.slice a n cap] w fun e w' => ∃ a n cap rs, e = .returned (.slice a n cap) ∧ OwnR w' w.heap.size a n cap rs ∧ Below w.heap.size w w' := by
  have C0 := cur_new (cap := cap) h
  have hb0 := freshU w a n cap
  obtain ⟨w1, hw1⟩ : ∃ w1, w.alloc (.cells #[.slice a n cap, .int .i64 0, .int .u64 0] 46) = w1 := ⟨_, rfl⟩
  have hs1 : w1.heap.size = w.heap.size + 1 := by rw [← hw1]; simp
  rw [hw1] at C0 hb0
  have HW := hid hw1
  clear hw1
  go_enter Tryz.func12, Tryz.ntmps12
  go_wp2_with fail
  rw [HW.out]
  clear HW
  refine (unit_cur _ 0 _ C0 (by omega)).mono ?_
  rintro e w2 ⟨a1, n1, c1, xs, t2, rfl, o1, hn1, A1', ht2⟩
  have A1 : At w1 w2 w.heap.size t2 := ⟨A1'.cur, A1'.below⟩
  have hs2 := A1'.size
  obtain ⟨⟨ls, ok⟩, hu⟩ : ∃ r, unitBlocksOf xs = r := ⟨_, rfl⟩
  have HU := hid hu
  clear hu A1' C0
  go_wp2_with fail
  refine (specBlocks_any _ _ _ _ _ o1.has).mono ?_
  rw [HU.out]
  rintro e w3 ⟨a3, n3, c3, ss, rfl, R3, -, hb3⟩
  have A2 := A1.later hb3 (by omega)
  have hs3 := hb3.size
  have hgw2 : w.heap.size < w2.heap.size := A1.cur.lt
  clear A1 o1 hb3
  cases ok with
  | true =>
    go_wp2_with (go_at_call 34; refine (one_cur _ t2 4 _ A2.cur (by omega) (by omega)).mono ?_; rintro e w4 ⟨bb, rfl, ⟨t4, tc, td, hc4⟩, hg4⟩; have R5 := R3.keptCur hg4 hgw2; have A3 := A2.pick hc4 hg4; have hs4 := hg4.size; clear hc4 hg4 R3 A2)
    · go_ret
      exact ⟨_, _, _, _, rfl, R5.mono (by omega), hb0.trans A3.below⟩
    · clear R5
      refine (pick_cur _ t4 6 _ A3.cur (by omega) (by omega)).mono ?_
      rintro e w5 ⟨v, rfl, v0, v1, ⟨t5, te, tf, hc5⟩, hg5⟩
      obtain ⟨m, rfl⟩ : ∃ m : Nat, v = (m : Int) := ⟨v.toNat, by omega⟩
      have A4 := A3.pick hc5 hg5
      have hgw5 := A4.cur.lt
      clear hc5 hg5 A3
      go_wp2_with fail
      refine (outcome_at _ t5 m _ A4.cur (by omega) (by omega)).mono ?_
      rintro e w6 ⟨a5, n5, c5, os, t6, rfl, o5, rfl, -, A5', ht6⟩
      have A5 : At w1 w6 w.heap.size t6 := ⟨A5'.cur, A4.below.trans A5'.below⟩
      have hlt5 := o5.lt
      have hg6 := A5.cur.lt
      clear A5' A4
      go_wp2_with fail
      go_loopw [6, 7, 31] (fun s b i wr => ∃ (k q : Nat) (a6 : Option Addr) (c6 : Nat) (rs : List Rw) (a7 : Option Addr) (m7 c7 : Nat) (ys : List Int) (t' : Nat), k ≤ n5 ∧ i = .int .i64 (k : Int) ∧ s = .slice a6 q c6 ∧ b = .slice a7 m7 c7 ∧ OwnR wr w6.heap.size a6 q c6 rs ∧ Own wr w6.heap.size a7 m7 c7 ys ∧ Aside rs a7 ∧ Own wr w5.heap.size a5 n5 c5 os ∧ At w1 wr w.heap.size t' ∧ t' ≤ t6 + 2 * k ∧ q ≤ k ∧ m7 ≤ k ∧ w6.heap.size ≤ wr.heap.size) (fun _ _ i _ => n5 - (intOf i).toNat)
      case atStart => exact ⟨0, 0, none, 0, [], none, 0, 0, [], t6, Nat.zero_le _, rfl, rfl, rfl, OwnR.nil _ _, Own.nil _ _, (fun i hi => by simp at hi), o5, A5, by omega, Nat.le_refl _, Nat.le_refl _, Nat.le_refl _⟩
      case round =>
        obtain ⟨k, q, a6, c6, rs, a7, m7, c7, ys, t', hk, rfl, rfl, rfl, R6, o7, hap, oX, A, ht', hq, hm7, hsz⟩ := hrel
        clear o5 A5
        by_cases hlt : k < n5
        · obtain ⟨g5, rfl, p1, p2, p3, p4⟩ := oX.opened (by omega)
          have hck := p3 k hlt
          clear p3 p4
          go_wp2_with (first | (at_builtin; refine wpList_append_int_at _ rfl _ _ rfl w6.heap.size _ _ _ _ _ rfl rfl o7 (by omega) hsz ?_; intro a8 c8 w8 o8 hg8 hl8; have R8 := R6.keptRow o7 hap hg8; have hap8 := aside_grown R6 hap hl8; have hb8 : Below w6.heap.size wr w8 := (Below.refl _ wr).grown hg8 hsz (fun j hj => (o7.1.lt j hj).1); have oX8 := oX.belowB hb8 hlt5; have A8 := A.later hb8 hg6; have hs8 := hb8.size; clear hb8 hg8 hl8 R6 o7 hap oX A hck) | (go_at_call 34; refine (one_cur _ t' 2 _ A8.cur (by omega) (by omega)).mono ?_; rintro e w9 ⟨b2, rfl, ⟨t9, tg, th, hc9⟩, hg9⟩; have R9 := R8.keptCur hg9 hg6; have o9 := o8.kept hg9 (.inl hg6); have oX9 := oX8.kept hg9 (.inl (by omega)); have A9 := A8.pick hc9 hg9; have hs9 := hg9.size; clear hc9 hg9 R8 o8 oX8 A8) | (at_builtin; refine wpList_append_rowA _ rfl _ _ rfl w6.heap.size w6.heap.size _ _ _ _ _ _ _ _ rfl rfl R9 o9 hap8 (by omega) (ownsRow_ge R9.1) (Nat.le_refl _) (by omega) ?_; intro a10 c10 w10 R10 hge10 hb10; have oX10 := oX9.belowB hb10 hlt5; have A10 := A9.later hb10 hg6; have hs10 := hb10.size))
          · go_roundw
            case rel => exact ⟨k + 1, q + 1, a10, c10, _, none, 0, 0, [], t9, by omega, by go_num, rfl, rfl, R10, Own.nil _ _, (fun i _ p q _ hq => by cases hq), oX10, A10, by omega, by omega, by omega, by omega⟩
            case measure => simp [intOf]; omega
          · go_roundw
            case rel => exact ⟨k + 1, q, a6, c6, rs, a8, m7 + 1, c8, _, t9, by omega, by go_num, rfl, rfl, R9, o9, hap8, oX9, A9, by omega, by omega, by omega, by omega⟩
            case measure => simp [intOf]; omega
        · obtain rfl : k = n5 := by omega
          by_cases h7 : 0 < m7
          · have hz : (0 : Int) < (m7 : Int) := by omega
            go_wp2_with (at_builtin; refine wpList_append_rowA _ rfl _ _ rfl w6.heap.size w6.heap.size _ _ _ _ _ _ _ _ rfl rfl R6 o7 hap (by omega) (ownsRow_ge R6.1) (Nat.le_refl _) (by omega) ?_; intro a10 c10 w10 R10 hge10 hb10; have A10 := A.later hb10 hg6)
            go_ret
            exact ⟨_, _, _, _, rfl, R10.mono (by omega), hb0.trans A10.below⟩
          · have hz : ¬ (0 : Int) < (m7 : Int) := by omega
            go_wp2_with (first | (go_at_call 34; refine (one_cur _ t' 6 _ A.cur (by omega) (by omega)).mono ?_; rintro e w9 ⟨b2, rfl, ⟨t9, tg, th, hc9⟩, hg9⟩; have R9 := R6.keptCur hg9 hg6; have o9 := o7.kept hg9 (.inl hg6); have A9 := A.pick hc9 hg9; have hs9 := hg9.size; clear hc9 hg9 R6 o7 A) | (at_builtin; refine wpList_append_rowA _ rfl _ _ rfl w6.heap.size w6.heap.size _ _ _ _ _ _ _ _ rfl rfl R9 o9 hap (by omega) (ownsRow_ge R9.1) (Nat.le_refl _) (by omega) ?_; intro a10 c10 w10 R10 hge10 hb10; have A10 := A9.later hb10 hg6))
            · go_ret
              exact ⟨_, _, _, _, rfl, R10.mono (by omega), hb0.trans A10.below⟩
            · go_ret
              exact ⟨_, _, _, _, rfl, R9.mono (by omega), hb0.trans A9.below⟩
  | false =>
    obtain ⟨t4, ht4⟩ : ∃ t4, t4 = t2 := ⟨_, rfl⟩
    subst ht4
    have A3 := A2
    clear A2 R3
    go_wp2_with fail
    refine (pick_cur _ t4 6 _ A3.cur (by omega) (by omega)).mono ?_
    rintro e w5 ⟨v, rfl, v0, v1, ⟨t5, te, tf, hc5⟩, hg5⟩
    obtain ⟨m, rfl⟩ : ∃ m : Nat, v = (m : Int) := ⟨v.toNat, by omega⟩
    have A4 := A3.pick hc5 hg5
    have hgw5 := A4.cur.lt
    clear hc5 hg5 A3
    go_wp2_with fail
    refine (outcome_at _ t5 m _ A4.cur (by omega) (by omega)).mono ?_
    rintro e w6 ⟨a5, n5, c5, os, t6, rfl, o5, rfl, -, A5', ht6⟩
    have A5 : At w1 w6 w.heap.size t6 := ⟨A5'.cur, A4.below.trans A5'.below⟩
    have hlt5 := o5.lt
    have hg6 := A5.cur.lt
    clear A5' A4
    go_wp2_with fail
    go_loopw [6, 7, 31] (fun s b i wr => ∃ (k q : Nat) (a6 : Option Addr) (c6 : Nat) (rs : List Rw) (a7 : Option Addr) (m7 c7 : Nat) (ys : List Int) (t' : Nat), k ≤ n5 ∧ i = .int .i64 (k : Int) ∧ s = .slice a6 q c6 ∧ b = .slice a7 m7 c7 ∧ OwnR wr w6.heap.size a6 q c6 rs ∧ Own wr w6.heap.size a7 m7 c7 ys ∧ Aside rs a7 ∧ Own wr w5.heap.size a5 n5 c5 os ∧ At w1 wr w.heap.size t' ∧ t' ≤ t6 + 2 * k ∧ q ≤ k ∧ m7 ≤ k ∧ w6.heap.size ≤ wr.heap.size) (fun _ _ i _ => n5 - (intOf i).toNat)
    case atStart => exact ⟨0, 0, none, 0, [], none, 0, 0, [], t6, Nat.zero_le _, rfl, rfl, rfl, OwnR.nil _ _, Own.nil _ _, (fun i hi => by simp at hi), o5, A5, by omega, Nat.le_refl _, Nat.le_refl _, Nat.le_refl _⟩
    case round =>
      obtain ⟨k, q, a6, c6, rs, a7, m7, c7, ys, t', hk, rfl, rfl, rfl, R6, o7, hap, oX, A, ht', hq, hm7, hsz⟩ := hrel
      clear o5 A5
      by_cases hlt : k < n5
      · obtain ⟨g5, rfl, p1, p2, p3, p4⟩ := oX.opened (by omega)
        have hck := p3 k hlt
        clear p3 p4
        go_wp2_with (first | (at_builtin; refine wpList_append_int_at _ rfl _ _ rfl w6.heap.size _ _ _ _ _ rfl rfl o7 (by omega) hsz ?_; intro a8 c8 w8 o8 hg8 hl8; have R8 := R6.keptRow o7 hap hg8; have hap8 := aside_grown R6 hap hl8; have hb8 : Below w6.heap.size wr w8 := (Below.refl _ wr).grown hg8 hsz (fun j hj => (o7.1.lt j hj).1); have oX8 := oX.belowB hb8 hlt5; have A8 := A.later hb8 hg6; have hs8 := hb8.size; clear hb8 hg8 hl8 R6 o7 hap oX A hck) | (go_at_call 34; refine (one_cur _ t' 2 _ A8.cur (by omega) (by omega)).mono ?_; rintro e w9 ⟨b2, rfl, ⟨t9, tg, th, hc9⟩, hg9⟩; have R9 := R8.keptCur hg9 hg6; have o9 := o8.kept hg9 (.inl hg6); have oX9 := oX8.kept hg9 (.inl (by omega)); have A9 := A8.pick hc9 hg9; have hs9 := hg9.size; clear hc9 hg9 R8 o8 oX8 A8) | (at_builtin; refine wpList_append_rowA _ rfl _ _ rfl w6.heap.size w6.heap.size _ _ _ _ _ _ _ _ rfl rfl R9 o9 hap8 (by omega) (ownsRow_ge R9.1) (Nat.le_refl _) (by omega) ?_; intro a10 c10 w10 R10 hge10 hb10; have oX10 := oX9.belowB hb10 hlt5; have A10 := A9.later hb10 hg6; have hs10 := hb10.size))
        · go_roundw
          case rel => exact ⟨k + 1, q + 1, a10, c10, _, none, 0, 0, [], t9, by omega, by go_num, rfl, rfl, R10, Own.nil _ _, (fun i _ p q _ hq => by cases hq), oX10, A10, by omega, by omega, by omega, by omega⟩
          case measure => simp [intOf]; omega
        · go_roundw
          case rel => exact ⟨k + 1, q, a6, c6, rs, a8, m7 + 1, c8, _, t9, by omega, by go_num, rfl, rfl, R9, o9, hap8, oX9, A9, by omega, by omega, by omega, by omega⟩
          case measure => simp [intOf]; omega
      · obtain rfl : k = n5 := by omega
        by_cases h7 : 0 < m7
        · have hz : (0 : Int) < (m7 : Int) := by omega
          go_wp2_with (at_builtin; refine wpList_append_rowA _ rfl _ _ rfl w6.heap.size w6.heap.size _ _ _ _ _ _ _ _ rfl rfl R6 o7 hap (by omega) (ownsRow_ge R6.1) (Nat.le_refl _) (by omega) ?_; intro a10 c10 w10 R10 hge10 hb10; have A10 := A.later hb10 hg6)
          go_ret
          exact ⟨_, _, _, _, rfl, R10.mono (by omega), hb0.trans A10.below⟩
        · have hz : ¬ (0 : Int) < (m7 : Int) := by omega
          go_wp2_with (first | (go_at_call 34; refine (one_cur _ t' 6 _ A.cur (by omega) (by omega)).mono ?_; rintro e w9 ⟨b2, rfl, ⟨t9, tg, th, hc9⟩, hg9⟩; have R9 := R6.keptCur hg9 hg6; have o9 := o7.kept hg9 (.inl hg6); have A9 := A.pick hc9 hg9; have hs9 := hg9.size; clear hc9 hg9 R6 o7 A) | (at_builtin; refine wpList_append_rowA _ rfl _ _ rfl w6.heap.size w6.heap.size _ _ _ _ _ _ _ _ rfl rfl R9 o9 hap (by omega) (ownsRow_ge R9.1) (Nat.le_refl _) (by omega) ?_; intro a10 c10 w10 R10 hge10 hb10; have A10 := A9.later hb10 hg6))
          · go_ret
            exact ⟨_, _, _, _, rfl, R10.mono (by omega), hb0.trans A10.below⟩
          · go_ret
            exact ⟨_, _, _, _, rfl, R9.mono (by omega), hb0.trans A9.below⟩
end Go.Proofs.YtnddplldkgphnaaGreat

