/- The law of valets, walked. -/
import Derived.Test.YtehdccfkkfkciacCur
import Derived.Test.YtehdccfkkfkciacDraw1
import Derived.Test.YtehdccfkkfkciacSpecS
import Derived.Test.YtehdccfkkfkciacImplC
import Derived.Test.YtehdccfkkfkciacMathO
import Derived.Test.YtehdccfkkfkciacReo
import Derived.Test.YtehdccfkkfkciacMathUa
import Derived.Test.YtehdccfkkfkciacMathN
import Derived.Test.YtehdccfkkfkciacHelp
import Derived.Test.YtehdccfkkfkciacShelfW
import Derived.Sort.OwnSortedInts
import Derived.Test.YtehdccfkkfkciacMathSt
import Derived.Test.YtehdccfkkfkciacMathFr
import Derived.Test.YtehdccfkkfkciacIdx
import Derived.Test.YtehdccfkkfkciacLawKit
import Derived.Test.YtehdccfkkfkciacSpecFr
import Derived.Test.YtehdccfkkfkciacMathT
import Derived.Test.YtehdccfkkfkciacMathVl
import Derived.Test.YtehdccfkkfkciacGgr
namespace Go.Proofs.Ytehdccfkkfkciac
open Go.RowKit

theorem HasB.below {w w' : World} {a : Option Addr} {n K : Nat} (h : HasB w a n K) (hb : Below K w w') : HasB w' a n K := by
  refine ⟨h.1, fun hx => ?_⟩
  obtain ⟨b, off, ha, hbk, hc⟩ := h.2 hx
  refine ⟨b, off, ha, hbk, fun i hi => ?_⟩
  obtain ⟨u, u0, u1, hu⟩ := hc i hi
  exact ⟨u, u0, u1, by rw [hb.cell (p := ⟨b, off + i, none⟩) hbk]; exact hu⟩

/-- An argument's slice of bytes. -/
theorem hasB_of_row {w : World} {a : Option Addr} {len cap : Nat} {zs : List Int}
    (h : (a = none ∧ len = 0 ∧ cap = 0 ∧ zs = []) ∨ ∃ x, a = some x ∧ len ≤ cap ∧ cap ≤ maxLen ∧ zs.length = cap ∧ (∀ i, i < zs.length → w.cell? (x.add i) = some (.int .u8 (zs.getD i 0))) ∧ ∀ n ∈ zs, (Lit.int .u8 n).wf = true) :
    len ≤ maxLen ∧ (len ≤ 1048576 → HasB w a len w.heap.size) := by
  rcases h with ⟨rfl, rfl, rfl, rfl⟩ | ⟨x, rfl, h1, h2, h3, h4, h5⟩
  · exact ⟨by unfold maxLen; omega, fun _ => ⟨by omega, by omega⟩⟩
  · refine ⟨by omega, fun hl => ⟨by omega, fun hx => ?_⟩⟩
    obtain ⟨b, off, spot⟩ := x
    have hc := h4 0 (by omega)
    have hspot : spot = none := by simpa [Addr.add] using World.cell?_spot hc
    subst hspot
    refine ⟨b, off, rfl, by have := World.block_lt_of_cell? w _ hc; simpa [Addr.add] using this, fun i hi => ?_⟩
    have := h4 i (by omega)
    have e : (⟨b, off, none⟩ : Addr).add i = ⟨b, off + i, none⟩ := by unfold Addr.add; split <;> simp_all
    rw [e] at this
    have hm : zs.getD i 0 ∈ zs := by simp [show i < zs.length by omega]
    have hw := h5 _ hm
    generalize zs.getD i 0 = u at *
    have hw' : (0 : Int) ≤ u ∧ u ≤ 255 := by simpa [Lit.wf, IntKind.min, IntKind.max, IntKind.signed, IntKind.bits] using hw
    exact ⟨u, hw'.1, hw'.2, this⟩

/-- The law's answer. -/
def Holds (w : World) (e : Ending) (w' : World) : Prop := e = .returned (.bool true) ∧ Below w.heap.size w w'
end Go.Proofs.Ytehdccfkkfkciac

namespace Go.Proofs.Ytehdccfkkfkciac
open Go.RowKit

theorem HasB.grow {w w' : World} {a : Option Addr} {n K : Nat} (h : HasB w a n K) (hb : Below K w w') (hK : K ≤ w.heap.size) : HasB w' a n w'.heap.size := by
  refine ⟨h.1, fun hx => ?_⟩
  obtain ⟨b, off, ha, hbk, hc⟩ := h.2 hx
  refine ⟨b, off, ha, Nat.lt_of_lt_of_le hbk (Nat.le_trans hK hb.size), fun i hi => ?_⟩
  obtain ⟨u, u0, u1, hu⟩ := hc i hi
  exact ⟨u, u0, u1, by rw [hb.cell (p := ⟨b, off + i, none⟩) hbk]; exact hu⟩

/-- A number put into a list. -/
def putIn (xs : List Int) (j : Nat) (x : Int) : List Int := xs.take j ++ [x] ++ xs.drop j
theorem mem_putIn {xs : List Int} {j : Nat} {x y : Int} : y ∈ putIn xs j x ↔ y = x ∨ y ∈ xs := by
  unfold putIn
  have : y ∈ xs ↔ y ∈ xs.take j ∨ y ∈ xs.drop j := by rw [← List.mem_append, List.take_append_drop]
  simp only [List.mem_append, List.mem_singleton, this]
  constructor
  · rintro ((h | h) | h)
    · exact .inr (.inl h)
    · exact .inl h
    · exact .inr (.inr h)
  · rintro (h | h | h)
    · exact .inl (.inr h)
    · exact .inl (.inl h)
    · exact .inr h
def Within (xs : List Int) (lo hi : Int) : Prop := ∀ x ∈ xs, lo ≤ x ∧ x ≤ hi
theorem Within.put {xs : List Int} {lo hi x : Int} {j : Nat} (h : Within xs lo hi) (hx : lo ≤ x ∧ x ≤ hi) : Within (putIn xs j x) lo hi := by
  intro y hy
  rcases mem_putIn.1 hy with rfl | hy
  · exact hx
  · exact h y hy
theorem Within.snoc {xs : List Int} {lo hi x : Int} (h : Within xs lo hi) (hx : lo ≤ x ∧ x ≤ hi) : Within (xs ++ [x]) lo hi := by
  intro y hy
  rcases List.mem_append.1 hy with hy | hy
  · exact h y hy
  · rw [List.mem_singleton] at hy; subst hy; exact hx
theorem Within.set {xs : List Int} {lo hi x : Int} {i : Nat} (h : Within xs lo hi) (hx : lo ≤ x ∧ x ≤ hi) : Within (xs.set i x) lo hi := by
  intro y hy
  rcases List.mem_or_eq_of_mem_set hy with hy | rfl
  · exact h y hy
  · exact hx
theorem Within.wide {xs : List Int} {lo hi lo' hi' : Int} (h : Within xs lo hi) (h1 : lo' ≤ lo) (h2 : hi ≤ hi') : Within xs lo' hi' := fun y hy => by have := h y hy; omega

/-- The cursor stands; its block alone was written among those that were there. -/
structure AtG (w0 w : World) (g t : Nat) : Prop where
  cur : Cur w g t
  grew : w0.grownBy w (some g)
  lt : g < w0.heap.size
theorem AtG.new {w : World} {g t : Nat} (h : Cur w g t) : AtG w w g t := ⟨h, World.grownBy.refl _ _, h.lt⟩
theorem AtG.size {w0 w : World} {g t : Nat} (h : AtG w0 w g t) : w0.heap.size ≤ w.heap.size := h.grew.size
theorem grown_then {w w1 w2 : World} {r : Option Nat} (h : w.grownBy w1 r) (h' : w1.grownBy w2 r) : w.grownBy w2 r :=
  ⟨h'.os.trans h.os, h'.tape.trans h.tape, h'.output.trans h.output, Nat.le_trans h.size h'.size, fun j hj hne => (h'.block j (Nat.lt_of_lt_of_le hj h.size) hne).trans (h.block j hj hne)⟩
theorem AtG.pick {w0 w w' : World} {g t t' : Nat} (h : AtG w0 w g t) (hc : Cur w' g t') (hg : w.grownBy w' (some g)) : AtG w0 w' g t' := ⟨hc, grown_then h.grew hg, h.lt⟩
theorem AtG.later {w0 w w' : World} {g t K : Nat} (h : AtG w0 w g t) (hb : Below K w w') (hK : w0.heap.size ≤ K) : AtG w0 w' g t :=
  ⟨h.cur.below hb (Nat.lt_of_lt_of_le h.lt hK), ⟨hb.os.trans h.grew.os, hb.tape.trans h.grew.tape, hb.output.trans h.grew.output, Nat.le_trans h.grew.size hb.size, fun j hj hne => (hb.block j (Nat.lt_of_lt_of_le hj hK)).trans (h.grew.block j hj hne)⟩, h.lt⟩
theorem AtG.below {w0 w : World} {g t : Nat} (h : AtG w0 w g t) : Below g w0 w := below_grown h.grew (Nat.le_of_lt h.lt) fun k hk => by cases hk; exact Nat.le_refl _
theorem AtG.trans {w0 w w' : World} {g t t' : Nat} (h : AtG w0 w g t) (h' : AtG w w' g t') : AtG w0 w' g t' := ⟨h'.cur, grown_then h.grew h'.grew, h.lt⟩

/-- A list that was drawn. -/
def DrewList (w : World) (g t : Nat) (e : Ending) (w' : World) : Prop :=
  ∃ a n cap xs t', e = .returned (.slice a n cap) ∧ Own w' w.heap.size a n cap xs ∧ n ≤ 10 ∧ Within xs (-1) 100 ∧ AtG w w' g t' ∧ t' ≤ t + 100

set_option maxHeartbeats 8000000 in
theorem park_cur (g t : Nat) (most : Int) (w : World) (h : Cur w g t) (ht : t ≤ 1000) (hm0 : 0 ≤ most) (hm : most ≤ 8) :
    Calls Try.prog 74 #[.pointer (some ⟨g, 0, none⟩), .int .i64 most] w (DrewList w g t) := by
  have hgl := h.lt
  have A0 := AtG.new h
  go_enter Try.func74, Try.ntmps74
  go_wp2_with fail
  refine (pick_cur g t (most + 1) _ A0.cur (by omega) (by omega)).mono ?_
  rintro e w1 ⟨v, rfl, v0, v1, ⟨t1, ta, tb, hc1⟩, hg1⟩
  obtain ⟨nn, rfl⟩ : ∃ nn : Nat, v = (nn : Int) := ⟨_, (Int.toNat_of_nonneg v0).symm⟩
  have hnn : nn ≤ 8 := by omega
  have A1 := A0.pick hc1 hg1
  clear hc1 hg1 v0 v1 A0
  go_wp2_with fail
  go_loopw [5, 6] (fun o n wr => ∃ (k j : Nat) (a' : Option Addr) (cap' : Nat) (xs : List Int) (t' : Nat), k + j ≤ 8 ∧ n = .int .i64 (k : Int) ∧ o = .slice a' j cap' ∧ Own wr w.heap.size a' j cap' xs ∧ Within xs 0 8 ∧ AtG w wr g t' ∧ t' ≤ t + 2 + 4 * j) (fun _ n _ => (intOf n).toNat)
  case atStart => exact ⟨nn, 0, none, 0, [], t1, by omega, rfl, rfl, Own.nil _ _, (fun x hx => by simp at hx), A1, by omega⟩
  case round =>
    obtain ⟨k, j, a', cap', xs, t', hkj, rfl, rfl, hown, hin, A, ht'⟩ := hrel
    have HI := hid hin
    clear A1 hin
    by_cases hk : 0 < k
    · skip
      go_wp2_with fail
      refine (pick_cur g t' ((j : Int) + 1) _ A.cur (by omega) (by omega)).mono ?_
      rintro e w5 ⟨qx, rfl, q0, q1, ⟨t2, x1, x2, hcc⟩, hgg⟩
      obtain ⟨x, rfl⟩ : ∃ x : Nat, qx = (x : Int) := ⟨_, (Int.toNat_of_nonneg q0).symm⟩
      have hx : x ≤ j := by omega
      replace hown := hown.kept hgg (.inl hgl)
      replace A := A.pick hcc hgg
      clear hcc hgg q0 q1
      go_wp2_with fail
      refine (pick_cur g t2 ((j : Int) + 1) _ A.cur (by omega) (by omega)).mono ?_
      rintro e w6 ⟨qy, rfl, q0, q1, ⟨t3, x1, x2, hcc⟩, hgg⟩
      obtain ⟨y, rfl⟩ : ∃ y : Nat, qy = (y : Int) := ⟨_, (Int.toNat_of_nonneg q0).symm⟩
      have hy : y ≤ j := by omega
      replace hown := hown.kept hgg (.inl hgl)
      replace A := A.pick hcc hgg
      clear hcc hgg q0 q1
      cases a' with
      | none =>
        obtain ⟨hk1, hcap1, hnil⟩ := hown.noneOf
        have hk0 : j ≤ 0 := by omega
        have hcap0 : cap' ≤ 0 := by omega
        have hat0 : y ≤ 0 := by omega
        subst hnil
        obtain rfl : y = 0 := by omega
        clear hk1 hcap1
        go_wp2_with fail
        refine (l1Own_any _ _ _ _ _ (Has.empty none (Nat.le_refl _) (Nat.le_refl _))).mono ?_
        rintro e w2 ⟨a2, cap2, rfl, hown2, hb2⟩
        go_wp2_with (first | (at_builtin; refine wpList_append_int _ rfl _ _ rfl w6.heap.size _ _ _ _ _ rfl rfl hown2 (by omega) hb2.size ?_; intro a3 cap3 w3 hown3 hb3) | (at_builtin; refine wpList_append_ints _ rfl _ _ rfl w6.heap.size _ none _ _ _ _ _ [] rfl rfl hown3 (Has.empty none (by omega) (by omega)) (by omega) (Nat.le_trans hb2.size hb3.size) ?_; intro a4 n4 cap4 w4 hn4 hown4 hb4))
        have hbb := (hb2.trans hb3).trans hb4
        have A4 := A.later hbb (A.size)
        have hown5 : Own w4 w.heap.size a4 (j + 1) cap4 (putIn [] 0 (x : Int)) := (hown4.mono A.size).relen (by omega) (by simp [putIn])
        have hn5 : n4 = j + 1 := by omega
        clear hown4 hown3 hown2 hb2 hb3 hb4 hbb hn4
        go_roundw
        case rel => exact ⟨k - 1, j + 1, a4, cap4, _, t3, by omega, by go_num, slice_len (by omega), hown5, HI.out.put ⟨by omega, by omega⟩, A4, by omega⟩
        case measure => simp [intOf]; omega
      | some pp =>
        obtain ⟨gg, rfl, hg1, hg2, hg3, hg4, hkc⟩ := hown.someOf
        have HA := hown.has
        have HLO := hid hown.len
        clear hg3 hg4
        by_cases hjk : y < j
        · skip
          have hcj : ¬ cap' = y := by omega
          go_wp2_with fail
          refine (l1Own_any _ _ _ _ _ (HA.take (k := y) (by omega))).mono ?_
          rintro e w2 ⟨a2, cap2, rfl, hown2, hb2⟩
          have hd2 := (HA.drop (k := y) (by omega)).below hb2 (Nat.le_refl _)
          rw [Nat.zero_add] at hd2
          have hblk : ∀ p, (some ⟨gg, y, none⟩ : Option Addr) = some p → p.block < w6.heap.size := fun p hp => by cases hp; exact hg2
          have HBK := hid hblk
          clear hblk
          go_wp2_with (first | (at_builtin; refine wpList_append_int _ rfl _ _ rfl w6.heap.size _ _ _ _ _ rfl rfl hown2 (by omega) hb2.size ?_; intro a3 cap3 w3 hown3 hb3) | (at_builtin; refine wpList_append_ints _ rfl _ _ rfl w6.heap.size _ _ _ _ _ _ _ _ rfl rfl hown3 (hd2.belowB hb3 HBK.out) (by omega) (Nat.le_trans hb2.size hb3.size) ?_; intro a4 n4 cap4 w4 hn4 hown4 hb4))
          clear hd2 HBK
          have hbb := (hb2.trans hb3).trans hb4
          have A4 := A.later hbb (A.size)
          have hown5 : Own w4 w.heap.size a4 (j + 1) cap4 (putIn xs y (x : Int)) := (hown4.mono A.size).relen (by omega) (by unfold putIn; rfl)
          have hn5 : n4 = j + 1 := by omega
          clear hown4 hown3 hown2 hb2 hb3 hb4 hbb hn4
          go_roundw
          case rel => exact ⟨k - 1, j + 1, a4, cap4, _, t3, by omega, by go_num, slice_len (by omega), hown5, HI.out.put ⟨by omega, by omega⟩, A4, by omega⟩
          case measure => simp [intOf]; omega
        · skip
          obtain rfl : j = y := by omega
          clear hjk
          by_cases hcj : cap' = j
          · skip
            obtain rfl : j = cap' := hcj.symm
            clear hcj
            have hmax : 0 ≤ maxLen := by unfold maxLen; omega
            have HMX := hid hmax
            clear hmax
            go_wp2_with fail
            refine (l1Own_any _ _ _ _ _ (HA.take (k := j) (by omega))).mono ?_
            rintro e w2 ⟨a2, cap2, rfl, hown2, hb2⟩
            go_wp2_with (first | (at_builtin; refine wpList_append_int _ rfl _ _ rfl w6.heap.size _ _ _ _ _ rfl rfl hown2 (by omega) hb2.size ?_; intro a3 cap3 w3 hown3 hb3) | (at_builtin; refine wpList_append_ints _ rfl _ _ rfl w6.heap.size _ _ _ _ _ _ _ [] rfl rfl hown3 (Has.nilAt _ (by unfold maxLen; omega)) (by omega) (Nat.le_trans hb2.size hb3.size) ?_; intro a4 n4 cap4 w4 hn4 hown4 hb4))
            have hbb := (hb2.trans hb3).trans hb4
            have A4 := A.later hbb (A.size)
            have hown5 : Own w4 w.heap.size a4 (j + 1) cap4 (putIn xs j (x : Int)) := (hown4.mono A.size).relen (by omega) (by unfold putIn; rw [List.drop_eq_nil_of_le (by rw [HLO.out]; exact Nat.le_refl _)])
            have hn5 : n4 = j + 1 := by omega
            clear hown4 hown3 hown2 hb2 hb3 hb4 hbb hn4
            go_roundw
            case rel => exact ⟨k - 1, j + 1, a4, cap4, _, t3, by omega, by go_num, slice_len (by omega), hown5, HI.out.put ⟨by omega, by omega⟩, A4, by omega⟩
            case measure => simp [intOf]; omega
          · skip
            have hmax : cap' - j ≤ maxLen := by have := HA.2.2.1; omega
            have HMX := hid hmax
            clear hmax
            go_wp2_with fail
            refine (l1Own_any _ _ _ _ _ (HA.take (k := j) (by omega))).mono ?_
            rintro e w2 ⟨a2, cap2, rfl, hown2, hb2⟩
            go_wp2_with (first | (at_builtin; refine wpList_append_int _ rfl _ _ rfl w6.heap.size _ _ _ _ _ rfl rfl hown2 (by omega) hb2.size ?_; intro a3 cap3 w3 hown3 hb3) | (at_builtin; refine wpList_append_ints _ rfl _ _ rfl w6.heap.size _ _ _ _ _ _ _ [] rfl rfl hown3 (Has.nilAt _ HMX.out) (by omega) (Nat.le_trans hb2.size hb3.size) ?_; intro a4 n4 cap4 w4 hn4 hown4 hb4))
            have hbb := (hb2.trans hb3).trans hb4
            have A4 := A.later hbb (A.size)
            have hown5 : Own w4 w.heap.size a4 (j + 1) cap4 (putIn xs j (x : Int)) := (hown4.mono A.size).relen (by omega) (by unfold putIn; rw [List.drop_eq_nil_of_le (by rw [HLO.out]; exact Nat.le_refl _)])
            have hn5 : n4 = j + 1 := by omega
            clear hown4 hown3 hown2 hb2 hb3 hb4 hbb hn4
            go_roundw
            case rel => exact ⟨k - 1, j + 1, a4, cap4, _, t3, by omega, by go_num, slice_len (by omega), hown5, HI.out.put ⟨by omega, by omega⟩, A4, by omega⟩
            case measure => simp [intOf]; omega
    · skip
      obtain rfl : k = 0 := by omega
      go_wp2_with fail
      refine (pick_cur g t' 20 _ A.cur (by omega) (by omega)).mono ?_
      rintro e w5 ⟨z, rfl, z0, z1, ⟨t5, x1, x2, hc5⟩, hg5⟩
      have o5 := hown.kept hg5 (.inl hgl)
      have A5 := A.pick hc5 hg5
      clear hc5 hg5 hown A
      by_cases h0 : (z == 0) = true
      · skip
        go_wp2_with fail
        refine (among_cur g t5 _ 6 6 [-1, 0, (j : Int), (j : Int) + 1, 99, 100] _ (A5.later (alloc_below _ _) (A5.size)).cur (by omega) (has_lit6 w5 (-1) 0 (j : Int) ((j : Int) + 1) 99 100) (by omega) (by omega) (lit_ne A5.cur)).mono ?_
        rintro e w6 ⟨v6, rfl, hv6, ⟨t6, x3, x4, hc6⟩, hg6⟩
        have hv6b : -1 ≤ v6 ∧ v6 ≤ 100 := by simp at hv6; omega
        have A5' := A5.later (alloc_below w5 (.cells #[.int .i64 (-1), .int .i64 0, .int .i64 (j : Int), .int .i64 ((j : Int) + 1), .int .i64 99, .int .i64 100] 3)) (A5.size)
        have A6 := A5'.pick hc6 hg6
        have o6 := (o5.below (alloc_below w5 (.cells #[.int .i64 (-1), .int .i64 0, .int .i64 (j : Int), .int .i64 ((j : Int) + 1), .int .i64 99, .int .i64 100] 3)) (Nat.le_refl _)).kept hg6 (.inl hgl)
        have hs6 := A6.size
        clear hc6 hg6 o5 A5 A5' hv6
        go_wp2_with (at_builtin; refine wpList_append_int _ rfl _ _ rfl w.heap.size _ _ _ _ _ rfl rfl o6 (by omega) hs6 ?_; intro a7 cap7 w7 o7 hb7)
        have A7 := A6.later hb7 (Nat.le_refl _)
        go_ret
        exact ⟨_, _, _, _, t6, rfl, o7, by omega, (HI.out.wide (by omega) (by omega)).snoc hv6b, A7, by omega⟩
      · skip
        have h0' := Bool.eq_false_iff.2 h0
        clear h0
        by_cases h1 : (z == 1) = true
        · skip
          by_cases hj0 : 0 < j
          · skip
            go_wp2_with fail
            refine (pick_cur g t5 (j : Int) _ A5.cur (by omega) (by omega)).mono ?_
            rintro e w6 ⟨qx, rfl, q0, q1, ⟨t6, x3, x4, hc6⟩, hg6⟩
            obtain ⟨x, rfl⟩ : ∃ x : Nat, qx = (x : Int) := ⟨_, (Int.toNat_of_nonneg q0).symm⟩
            have hx : x < j := by omega
            have o6 := o5.kept hg6 (.inl hgl)
            have A6 := A5.pick hc6 hg6
            clear hc6 hg6 o5 A5 q0 q1
            go_wp2_with fail
            refine (pick_cur g t6 (j : Int) _ A6.cur (by omega) (by omega)).mono ?_
            rintro e w7 ⟨qy, rfl, q0, q1, ⟨t7, x5, x6, hc7⟩, hg7⟩
            obtain ⟨y, rfl⟩ : ∃ y : Nat, qy = (y : Int) := ⟨_, (Int.toNat_of_nonneg q0).symm⟩
            have hy : y < j := by omega
            have o7 := o6.kept hg7 (.inl hgl)
            have A7 := A6.pick hc7 hg7
            clear hc7 hg7 o6 A6 q0 q1
            obtain ⟨gg, rfl, hgB, hg2, hg3, hg4⟩ := o7.opened hj0
            have hgk := hg3 x hx
            have hgf := hg4 x
            have hxi : (x : Int) < (j : Int) := by omega
            clear hg3 hg4
            go_wp2_with fail
            go_ret
            obtain ⟨s1, s2⟩ := o7.set x (y : Int)
            exact ⟨_, _, _, _, t7, rfl, s1, by omega, (HI.out.wide (by omega) (by omega)).set ⟨by omega, by omega⟩, A7.later ((Below.refl w.heap.size w7).setCell hgB _) (Nat.le_refl _), by omega⟩
          · skip
            go_wp2_with fail
            go_ret
            exact ⟨_, _, _, _, t5, rfl, o5, by omega, HI.out.wide (by omega) (by omega), A5, by omega⟩
        · skip
          have h1' := Bool.eq_false_iff.2 h1
          clear h1
          by_cases h2 : (z == 2) = true
          · skip
            go_wp2_with fail
            go_loopg [5] (10 - j) (fun q2 o wr => ∃ (m : Nat) (a' : Option Addr) (cap' : Nat) (xs : List Int), m + q2 = 10 ∧ 0 < q2 ∧ o = .slice a' m cap' ∧ Own wr w.heap.size a' m cap' xs ∧ Within xs (-1) 100 ∧ AtG w wr g t5)
            case atStart => exact ⟨j, a', cap', xs, by omega, by omega, rfl, o5, HI.out.wide (by omega) (by omega), A5⟩
            case round =>
              obtain ⟨m, a', cap', xs, hmq, hq0, rfl, hown, hin, A⟩ := hrel
              have HI2 := hid hin
              have hs := A.size
              clear A5 o5 hin
              by_cases hm9 : m < 9
              · skip
                go_wp2_with (at_builtin; refine wpList_append_int _ rfl _ _ rfl w.heap.size _ _ _ _ _ rfl rfl hown (by omega) hs ?_; intro a8 cap8 w8 o8 hb8)
                have A8 := A.later hb8 (Nat.le_refl _)
                go_roundg (gk - 1)
                case rel => exact ⟨m + 1, a8, cap8, _, by omega, by omega, rfl, o8, HI2.out.snoc ⟨by omega, by omega⟩, A8⟩
                case measure => omega
              · skip
                go_wp2_with fail
                go_ret
                exact ⟨_, _, _, _, t5, rfl, hown, by omega, HI2.out, A, by omega⟩
          · skip
            have h2' := Bool.eq_false_iff.2 h2
            clear h2
            go_wp2_with fail
            go_ret
            exact ⟨_, _, _, _, t5, rfl, o5, by omega, HI.out.wide (by omega) (by omega), A5, by omega⟩
end Go.Proofs.Ytehdccfkkfkciac

namespace Go.Proofs.Ytehdccfkkfkciac
open Go.RowKit

set_option maxHeartbeats 8000000 in
theorem outcome_cur (g t nn : Nat) (w : World) (h : Cur w g t) (ht : t ≤ 5000) (hnn : nn ≤ 10) :
    Calls Try.prog 54 #[.pointer (some ⟨g, 0, none⟩), .int .i64 (nn : Int)] w (DrewList w g t) := by
  have hgl := h.lt
  have A0 := AtG.new h
  go_enter Try.func54, Try.ntmps54
  go_wp2_with fail
  go_loopw [5, 6] (fun o i wr => ∃ (j : Nat) (a' : Option Addr) (cap' : Nat) (xs : List Int) (t' : Nat), j ≤ nn ∧ i = .int .i64 (j : Int) ∧ o = .slice a' j cap' ∧ Own wr w.heap.size a' j cap' xs ∧ Within xs 0 9 ∧ AtG w wr g t' ∧ t' ≤ t + 2 * j) (fun _ i _ => nn - (intOf i).toNat)
  case atStart => exact ⟨0, none, 0, [], t, by omega, rfl, rfl, Own.nil _ _, (fun x hx => by simp at hx), A0, by omega⟩
  case round =>
    obtain ⟨j, a', cap', xs, t', hj, rfl, rfl, hown, hin, A, ht'⟩ := hrel
    have HI := hid hin
    clear A0 hin
    by_cases hlt : j < nn
    · skip
      go_wp2_with fail
      refine (pick_cur g t' ((j : Int) + 1) _ A.cur (by omega) (by omega)).mono ?_
      rintro e w6 ⟨qy, rfl, q0, q1, ⟨t2, x1, x2, hcc⟩, hgg⟩
      obtain ⟨y, rfl⟩ : ∃ y : Nat, qy = (y : Int) := ⟨_, (Int.toNat_of_nonneg q0).symm⟩
      have hy : y ≤ j := by omega
      replace hown := hown.kept hgg (.inl hgl)
      replace A := A.pick hcc hgg
      clear hcc hgg q0 q1
      cases a' with
      | none =>
        obtain ⟨hk1, hcap1, hnil⟩ := hown.noneOf
        have hk0 : j ≤ 0 := by omega
        have hcap0 : cap' ≤ 0 := by omega
        have hat0 : y ≤ 0 := by omega
        subst hnil
        obtain rfl : y = 0 := by omega
        clear hk1 hcap1
        go_wp2_with fail
        refine (l1Own_any _ _ _ _ _ (Has.empty none (Nat.le_refl _) (Nat.le_refl _))).mono ?_
        rintro e w2 ⟨a2, cap2, rfl, hown2, hb2⟩
        go_wp2_with (first | (at_builtin; refine wpList_append_int _ rfl _ _ rfl w6.heap.size _ _ _ _ _ rfl rfl hown2 (by omega) hb2.size ?_; intro a3 cap3 w3 hown3 hb3) | (at_builtin; refine wpList_append_ints _ rfl _ _ rfl w6.heap.size _ none _ _ _ _ _ [] rfl rfl hown3 (Has.empty none (by omega) (by omega)) (by omega) (Nat.le_trans hb2.size hb3.size) ?_; intro a4 n4 cap4 w4 hn4 hown4 hb4))
        have hbb := (hb2.trans hb3).trans hb4
        have A4 := A.later hbb (A.size)
        have hown5 : Own w4 w.heap.size a4 (j + 1) cap4 (putIn [] 0 (j : Int)) := (hown4.mono A.size).relen (by omega) (by simp [putIn])
        have hn5 : n4 = j + 1 := by omega
        clear hown4 hown3 hown2 hb2 hb3 hb4 hbb hn4
        go_roundw
        case rel => exact ⟨j + 1, a4, cap4, _, t2, by omega, by go_num, slice_len (by omega), hown5, HI.out.put ⟨by omega, by omega⟩, A4, by omega⟩
        case measure => simp [intOf]; omega
      | some pp =>
        obtain ⟨gg, rfl, hg1, hg2, hg3, hg4, hkc⟩ := hown.someOf
        have HA := hown.has
        have HLO := hid hown.len
        clear hg3 hg4
        by_cases hjk : y < j
        · skip
          have hcj : ¬ cap' = y := by omega
          go_wp2_with fail
          refine (l1Own_any _ _ _ _ _ (HA.take (k := y) (by omega))).mono ?_
          rintro e w2 ⟨a2, cap2, rfl, hown2, hb2⟩
          have hd2 := (HA.drop (k := y) (by omega)).below hb2 (Nat.le_refl _)
          rw [Nat.zero_add] at hd2
          have hblk : ∀ p, (some ⟨gg, y, none⟩ : Option Addr) = some p → p.block < w6.heap.size := fun p hp => by cases hp; exact hg2
          have HBK := hid hblk
          clear hblk
          go_wp2_with (first | (at_builtin; refine wpList_append_int _ rfl _ _ rfl w6.heap.size _ _ _ _ _ rfl rfl hown2 (by omega) hb2.size ?_; intro a3 cap3 w3 hown3 hb3) | (at_builtin; refine wpList_append_ints _ rfl _ _ rfl w6.heap.size _ _ _ _ _ _ _ _ rfl rfl hown3 (hd2.belowB hb3 HBK.out) (by omega) (Nat.le_trans hb2.size hb3.size) ?_; intro a4 n4 cap4 w4 hn4 hown4 hb4))
          clear hd2 HBK
          have hbb := (hb2.trans hb3).trans hb4
          have A4 := A.later hbb (A.size)
          have hown5 : Own w4 w.heap.size a4 (j + 1) cap4 (putIn xs y (j : Int)) := (hown4.mono A.size).relen (by omega) (by unfold putIn; rfl)
          have hn5 : n4 = j + 1 := by omega
          clear hown4 hown3 hown2 hb2 hb3 hb4 hbb hn4
          go_roundw
          case rel => exact ⟨j + 1, a4, cap4, _, t2, by omega, by go_num, slice_len (by omega), hown5, HI.out.put ⟨by omega, by omega⟩, A4, by omega⟩
          case measure => simp [intOf]; omega
        · skip
          obtain rfl : j = y := by omega
          clear hjk
          by_cases hcj : cap' = j
          · skip
            obtain rfl : j = cap' := hcj.symm
            clear hcj
            have hmax : 0 ≤ maxLen := by unfold maxLen; omega
            have HMX := hid hmax
            clear hmax
            go_wp2_with fail
            refine (l1Own_any _ _ _ _ _ (HA.take (k := j) (by omega))).mono ?_
            rintro e w2 ⟨a2, cap2, rfl, hown2, hb2⟩
            go_wp2_with (first | (at_builtin; refine wpList_append_int _ rfl _ _ rfl w6.heap.size _ _ _ _ _ rfl rfl hown2 (by omega) hb2.size ?_; intro a3 cap3 w3 hown3 hb3) | (at_builtin; refine wpList_append_ints _ rfl _ _ rfl w6.heap.size _ _ _ _ _ _ _ [] rfl rfl hown3 (Has.nilAt _ (by unfold maxLen; omega)) (by omega) (Nat.le_trans hb2.size hb3.size) ?_; intro a4 n4 cap4 w4 hn4 hown4 hb4))
            have hbb := (hb2.trans hb3).trans hb4
            have A4 := A.later hbb (A.size)
            have hown5 : Own w4 w.heap.size a4 (j + 1) cap4 (putIn xs j (j : Int)) := (hown4.mono A.size).relen (by omega) (by unfold putIn; rw [List.drop_eq_nil_of_le (by rw [HLO.out]; exact Nat.le_refl _)])
            have hn5 : n4 = j + 1 := by omega
            clear hown4 hown3 hown2 hb2 hb3 hb4 hbb hn4
            go_roundw
            case rel => exact ⟨j + 1, a4, cap4, _, t2, by omega, by go_num, slice_len (by omega), hown5, HI.out.put ⟨by omega, by omega⟩, A4, by omega⟩
            case measure => simp [intOf]; omega
          · skip
            have hmax : cap' - j ≤ maxLen := by have := HA.2.2.1; omega
            have HMX := hid hmax
            clear hmax
            go_wp2_with fail
            refine (l1Own_any _ _ _ _ _ (HA.take (k := j) (by omega))).mono ?_
            rintro e w2 ⟨a2, cap2, rfl, hown2, hb2⟩
            go_wp2_with (first | (at_builtin; refine wpList_append_int _ rfl _ _ rfl w6.heap.size _ _ _ _ _ rfl rfl hown2 (by omega) hb2.size ?_; intro a3 cap3 w3 hown3 hb3) | (at_builtin; refine wpList_append_ints _ rfl _ _ rfl w6.heap.size _ _ _ _ _ _ _ [] rfl rfl hown3 (Has.nilAt _ HMX.out) (by omega) (Nat.le_trans hb2.size hb3.size) ?_; intro a4 n4 cap4 w4 hn4 hown4 hb4))
            have hbb := (hb2.trans hb3).trans hb4
            have A4 := A.later hbb (A.size)
            have hown5 : Own w4 w.heap.size a4 (j + 1) cap4 (putIn xs j (j : Int)) := (hown4.mono A.size).relen (by omega) (by unfold putIn; rw [List.drop_eq_nil_of_le (by rw [HLO.out]; exact Nat.le_refl _)])
            have hn5 : n4 = j + 1 := by omega
            clear hown4 hown3 hown2 hb2 hb3 hb4 hbb hn4
            go_roundw
            case rel => exact ⟨j + 1, a4, cap4, _, t2, by omega, by go_num, slice_len (by omega), hown5, HI.out.put ⟨by omega, by omega⟩, A4, by omega⟩
            case measure => simp [intOf]; omega
    · skip
      obtain rfl : j = nn := by omega
      by_cases hj0 : 0 < j
      · skip
        go_wp2_with fail
        refine (one_cur g t' 20 _ A.cur (by omega) (by omega)).mono ?_
        rintro e w5 ⟨bb, rfl, ⟨t5, x1, x2, hc5⟩, hg5⟩
        have o5 := hown.kept hg5 (.inl hgl)
        have A5 := A.pick hc5 hg5
        clear hc5 hg5 hown A
        cases bb with
        | false =>
          go_wp2_with fail
          go_ret
          exact ⟨_, _, _, _, t5, rfl, o5, by omega, HI.out.wide (by omega) (by omega), A5, by omega⟩
        | true =>
          go_wp2_with fail
          refine (pick_cur g t5 (j : Int) _ A5.cur (by omega) (by omega)).mono ?_
          rintro e w6 ⟨qx, rfl, q0, q1, ⟨t6, x3, x4, hc6⟩, hg6⟩
          obtain ⟨x, rfl⟩ : ∃ x : Nat, qx = (x : Int) := ⟨_, (Int.toNat_of_nonneg q0).symm⟩
          have hx : x < j := by omega
          have o6 := o5.kept hg6 (.inl hgl)
          have A6 := A5.pick hc6 hg6
          clear hc6 hg6 o5 A5 q0 q1
          go_wp2_with fail
          refine (among_cur g t6 _ 3 3 [-1, 0, (j : Int)] _ (A6.later (alloc_below _ _) (A6.size)).cur (by omega) (has_lit3 w6 (-1) 0 (j : Int)) (by omega) (by omega) (lit_ne A6.cur)).mono ?_
          rintro e w7 ⟨v7, rfl, hv7, ⟨t7, x5, x6, hc7⟩, hg7⟩
          have hv7b : -1 ≤ v7 ∧ v7 ≤ 100 := by simp at hv7; omega
          have A6' := A6.later (alloc_below w6 (.cells #[.int .i64 (-1), .int .i64 0, .int .i64 (j : Int)] 3)) (A6.size)
          have A7 := A6'.pick hc7 hg7
          have o7 := (o6.below (alloc_below w6 (.cells #[.int .i64 (-1), .int .i64 0, .int .i64 (j : Int)] 3)) (Nat.le_refl _)).kept hg7 (.inl hgl)
          clear hc7 hg7 o6 A6 A6' hv7
          obtain ⟨gg, rfl, hgB, hg2, hg3, hg4⟩ := o7.opened hj0
          have hgk := hg3 x hx
          have hgf := hg4 x
          have hxi : (x : Int) < (j : Int) := by omega
          clear hg3 hg4
          go_wp2_with fail
          go_ret
          obtain ⟨s1, s2⟩ := o7.set x v7
          exact ⟨_, _, _, _, t7, rfl, s1, by omega, (HI.out.wide (by omega) (by omega)).set hv7b, A7.later ((Below.refl w.heap.size w7).setCell hgB _) (Nat.le_refl _), by omega⟩
      · skip
        obtain rfl : j = 0 := by omega
        go_wp2_with fail
        go_ret
        exact ⟨_, _, _, _, t', rfl, hown, by omega, HI.out.wide (by omega) (by omega), A, by omega⟩

/-- A list that was drawn, for the caller of a draw. -/
def DrewList' (w : World) (e : Ending) (w' : World) : Prop :=
  ∃ a n cap xs, e = .returned (.slice a n cap) ∧ Own w' w.heap.size a n cap xs ∧ n ≤ 10 ∧ Within xs (-1) 100 ∧ Below w.heap.size w w'

/-- Two lists that were drawn. -/
def DrewTwo (w : World) (e : Ending) (w' : World) : Prop :=
  ∃ a n cap xs a' n' cap' ys, e = .returned (.tuple #[.slice a n cap, .slice a' n' cap']) ∧ Own w' w.heap.size a n cap xs ∧ Own w' w.heap.size a' n' cap' ys ∧ n ≤ 10 ∧ n' ≤ 10 ∧ Below w.heap.size w w'

/-- Two lists and a bool that were drawn. -/
def DrewTwoB (w : World) (e : Ending) (w' : World) : Prop :=
  ∃ a n cap xs a' n' cap' ys b, e = .returned (.tuple #[.slice a n cap, .slice a' n' cap', .bool b]) ∧ Own w' w.heap.size a n cap xs ∧ Own w' w.heap.size a' n' cap' ys ∧ n ≤ 10 ∧ n' ≤ 10 ∧ Below w.heap.size w w'

end Go.Proofs.Ytehdccfkkfkciac

namespace Go.Proofs.Ytehdccfkkfkciac
open Go.RowKit

set_option maxHeartbeats 1600000 in
theorem parked_cur (g t : Nat) (w : World) (h : Cur w g t) (ht : t ≤ 500) :
    Calls Try.prog 50 #[.pointer (some ⟨g, 0, none⟩)] w fun e w' => ∃ a n cap xs p, e = .returned (.tuple #[.slice a n cap, .int .i64 p]) ∧ Own w' (g + 1) a n cap xs ∧ n ≤ 10 ∧ -1 ≤ p ∧ p ≤ 13 ∧ Below g w w' := by
  have hgl := h.lt
  have A0 : At w w g t := ⟨h, Below.refl _ _⟩
  go_enter Try.func50, Try.ntmps50
  go_wp2_with fail
  refine (one_cur g t 4 _ h (by omega) (by omega)).mono ?_
  rintro e w1 ⟨bb, rfl, ⟨t1, ta, tb, hc1⟩, hg1⟩
  have A1 := A0.pick hc1 hg1
  have hsz1 := A1.size
  clear hc1 hg1 A0
  cases bb with
  | true =>
    go_wp2_with fail
    refine (favourites_cur g t1 _ A1.cur (by omega)).mono ?_
    rintro e w2 ⟨a, n, cap, xs, p, rfl, o, hn, p0, p1, hb⟩
    go_wp2_with fail
    go_ret2
    exact ⟨_, _, _, _, _, rfl, o.mono (by omega), hn, p0, p1, A1.below.trans hb⟩
  | false =>
    go_wp2_with fail
    refine (park_cur g t1 6 _ A1.cur (by omega) (by omega) (by omega)).mono ?_
    rintro e w2 ⟨a, n, cap, xs, t2, rfl, o, hn, hw, A2, ht2⟩
    have A3 : At w w2 g t2 := ⟨A2.cur, A1.below.trans A2.below⟩
    clear A1 A2 hw
    go_wp2_with fail
    refine (pick_cur g t2 4 _ A3.cur (by omega) (by omega)).mono ?_
    rintro e w3 ⟨v, rfl, v0, v1, ⟨t3, tc, td, hc3⟩, hg3⟩
    have hv : v ≤ 3 := by omega
    have o3 := o.kept hg3 (.inl (by omega))
    have A4 := A3.pick hc3 hg3
    clear hc3 hg3 A3 o v1
    go_wp2_with fail
    refine (one_cur g t3 2 _ A4.cur (by omega) (by omega)).mono ?_
    rintro e w4 ⟨b2, rfl, ⟨t4, te, tf, hc4⟩, hg4⟩
    have o4 := (o3.kept hg4 (.inl (by omega))).mono (B' := g + 1) (by omega)
    have A5 := A4.pick hc4 hg4
    have hb5 := A5.below
    clear hc4 hg4 A4 A5 o3
    cases b2 with
    | true =>
      go_wp2_with fail
      go_loopw [24] (fun i wr => ∃ (k : Nat) (ys : List Int), k ≤ n ∧ i = .int .i64 (k : Int) ∧ Own wr (g + 1) a n cap ys ∧ Below g w wr) (fun i _ => n - (intOf i).toNat)
      case atStart => exact ⟨0, xs, Nat.zero_le _, rfl, o4, hb5⟩
      case round =>
        obtain ⟨k, ys, hk, rfl, oy, hB⟩ := hrel
        clear o4 hb5
        by_cases hlt : k < n
        · obtain ⟨gg, rfl, q1, q2, q3, q4⟩ := oy.opened (by omega)
          have hck := q3 k hlt
          have hfk := q4 k
          have hgg : g ≤ gg := by have := oy.ge _ rfl; simp at this; omega
          obtain ⟨x, hx⟩ : ∃ x, nth ys k = x := ⟨_, rfl⟩
          rw [hx] at hck
          have hxi : (k : Int) < (n : Int) := by omega
          clear q3 q4 hx
          by_cases e1 : 0 ≤ x
          · by_cases e2 : x < 90
            · go_wp2_with fail
              go_roundw
              case rel => exact ⟨k + 1, _, by omega, by go_num, (oy.set k _).1, hB.setCell (p := ⟨gg, k, none⟩) hgg _⟩
              case measure => simp [intOf]; omega
            · go_wp2_with fail
              go_roundw
              case rel => exact ⟨k + 1, _, by omega, by go_num, oy, hB⟩
              case measure => simp [intOf]; omega
          · go_wp2_with fail
            go_roundw
            case rel => exact ⟨k + 1, _, by omega, by go_num, oy, hB⟩
            case measure => simp [intOf]; omega
        · obtain rfl : k = n := by omega
          go_wp2_with fail
          go_ret2
          exact ⟨_, _, _, _, _, rfl, oy, hn, by omega, by omega, hB⟩
    | false =>
      go_wp2_with fail
      go_ret2
      exact ⟨_, _, _, _, _, rfl, o4, hn, by omega, by omega, hb5⟩

theorem fresh9 (w : World) (a : Option Addr) (n cap : Nat) : Below w.heap.size w (w.alloc (.cells #[.slice a n cap, .int .i64 0, .int .u64 0] 53)) := (Below.refl _ _).alloc (Nat.le_refl _) _
set_option maxHeartbeats 800000 in
theorem drawLeastGr_any (a : Option Addr) (n cap : Nat) (w : World) (h : HasB w a n w.heap.size) :
    Calls Try.prog 21 #[.slice a n cap] w fun e w' => ∃ a n cap xs p, e = .returned (.tuple #[.slice a n cap, .int .i64 p]) ∧ Own w' w.heap.size a n cap xs ∧ n ≤ 10 ∧ -1 ≤ p ∧ p ≤ 13 ∧ Below w.heap.size w w' := by
  have C0 := cur_new (cap := cap) h
  have hb0 := fresh9 w a n cap
  go_enter Try.func21, Try.ntmps21
  go_wp2_with fail
  refine (parked_cur _ 0 _ C0 (by omega)).mono ?_
  rintro e w1 ⟨a1, n1, c1, xs, p, rfl, o, hn, p0, p1, hb⟩
  go_wp2_with fail
  go_ret2
  exact ⟨_, _, _, _, _, rfl, o.mono (by omega), hn, p0, p1, hb0.trans hb⟩
set_option maxHeartbeats 1600000 in
theorem drawReorder_any (a : Option Addr) (n cap : Nat) (w : World) (h : HasB w a n w.heap.size) :
    Calls Try.prog 25 #[.slice a n cap] w fun e w' => ∃ a n cap xs b m cap' os, e = .returned (.tuple #[.slice a n cap, .slice b m cap']) ∧ Own w' w.heap.size a n cap xs ∧ Own w' w.heap.size b m cap' os ∧ n ≤ 10 ∧ m ≤ 10 ∧ Below w.heap.size w w' := by
  have C0 := cur_new (cap := cap) h
  have hb0 := fresh9 w a n cap
  obtain ⟨w1, hw1⟩ : ∃ w1, w.alloc (.cells #[.slice a n cap, .int .i64 0, .int .u64 0] 53) = w1 := ⟨_, rfl⟩
  have hs1 : w1.heap.size = w.heap.size + 1 := by rw [← hw1]; simp
  rw [hw1] at C0 hb0
  have HW := hid hw1
  clear hw1
  go_enter Try.func25, Try.ntmps25
  go_wp2_with fail
  rw [HW.out]
  clear HW
  refine (favourites_at _ 0 _ C0 (by omega)).mono ?_
  rintro e w2 ⟨a1, n1, c1, xs, p, rfl, o, hn, p0, p1, t2, A1, ht2⟩
  clear C0
  go_wp2_with fail
  refine (one_cur _ t2 12 _ A1.cur (by omega) (by omega)).mono ?_
  rintro e w3 ⟨bb, rfl, ⟨t3, ta, tb, hc3⟩, hg3⟩
  have o3 := o.kept hg3 (.inl (by omega))
  have A2 := A1.pick hc3 hg3
  clear hc3 hg3 A1 o
  cases bb with
  | true =>
    go_wp2_with fail
    refine (pick_cur _ t3 6 _ A2.cur (by omega) (by omega)).mono ?_
    rintro e w4 ⟨v, rfl, v0, v1, ⟨t4, tc, td, hc4⟩, hg4⟩
    have o4 := o3.kept hg4 (.inl (by omega))
    have A3 := A2.pick hc4 hg4
    obtain ⟨u, rfl⟩ : ∃ u : Nat, v = (u : Int) := ⟨v.toNat, by omega⟩
    clear hc4 hg4 A2 o3
    go_wp2_with fail
    refine (outcome_cur _ t4 u _ A3.cur (by omega) (by omega)).mono ?_
    rintro e w5 ⟨b, m, cb, os, t5, rfl, o5, hm, hw5, A4, ht5⟩
    have o6 := o4.kept A4.grew (.inl (by omega))
    have hs3 := A3.size
    go_wp2_with fail
    go_ret2
    exact ⟨_, _, _, _, _, _, _, _, rfl, o6.mono (by omega), o5.mono (by omega), hn, hm, hb0.trans (A3.below.trans A4.below)⟩
  | false =>
    go_wp2_with fail
    refine (outcome_cur _ t3 n1 _ A2.cur (by omega) (by omega)).mono ?_
    rintro e w5 ⟨b, m, cb, os, t5, rfl, o5, hm, hw5, A4, ht5⟩
    have o6 := o3.kept A4.grew (.inl (by omega))
    have hs3 := A2.size
    go_wp2_with fail
    go_ret2
    exact ⟨_, _, _, _, _, _, _, _, rfl, o6.mono (by omega), o5.mono (by omega), hn, hm, hb0.trans (A2.below.trans A4.below)⟩
end Go.Proofs.Ytehdccfkkfkciac

namespace Go.Proofs.Ytehdccfkkfkciac
open Go.RowKit

set_option maxHeartbeats 800000 in
theorem paOutcome_any (a : Option Addr) (n cap : Nat) (xs : List Int) (w : World) (h : Has w a n cap xs) :
    Calls Try.prog 58 #[.slice a n cap] w fun e w' => e = .returned (.bool (outB xs)) ∧ w = w' := by
  have hlen := h.len
  have hle := h.le
  by_cases h8 : n ≤ 8
  · by_cases ha : allB xs 0 ((n : Int) - 1) = true
    · have HA := hid ha
      have HR : Hid (outB xs = distB xs n) := hid (by simp [outB, carsB, hlen, h8, ha])
      have HL := hid hlen
      clear ha hlen
      have hcap := h.2.1
      have hmx : cap ≤ maxLen := h.2.2.1
      go_enter Try.func58, Try.ntmps58
      go_wp2_with (go_at_call 60; refine (l1All_any _ _ _ _ _ _ _ h).mono ?_; rintro e w' ⟨rfl, rfl⟩; rw [HA.out])
      go_loop [18] (fun i => ∃ k : Nat, k ≤ n ∧ i = .int .i64 k ∧ Hid (distB xs k = true)) (fun i => n - (intOf i).toNat)
      case atStart => exact ⟨0, Nat.zero_le _, rfl, hid rfl⟩
      case round =>
        obtain ⟨k, hk, rfl, HD⟩ := hrel
        by_cases hlt : k < n
        · obtain ⟨b, off, rfl, hb, hc⟩ := h.2.2.2.2 (by omega)
          have hck := hc k hlt
          have ht := h.take (k := k) (by omega)
          clear hc
          by_cases hq : hasB (xs.take k) (nth xs k) = true
          · have HQ := hid hq
            have HN := hid (distB_no (n := n) hlt hq)
            clear hq
            go_wp2_with fail
            refine (l1Has_any _ _ _ _ _ _ ht).mono ?_
            rintro e w' ⟨rfl, rfl⟩
            rw [HQ.out]
            go_wp2_with fail
            go_ret
            exact ⟨ret_bool (by rw [HR.out, HN.out]), rfl⟩
          · have HQ := hid hq
            clear hq
            go_wp2_with fail
            refine (l1Has_any _ _ _ _ _ _ ht).mono ?_
            rintro e w' ⟨rfl, rfl⟩
            rw [Bool.eq_false_iff.2 HQ.out]
            go_wp2_with fail
            go_round
            case rel => exact ⟨k + 1, by omega, by go_num, hid (by rw [distB_succ, HD.out, Bool.eq_false_iff.2 HQ.out]; rfl)⟩
            case measure => simp [intOf]; omega
        · obtain rfl : k = n := by omega
          go_wp2_with fail
          go_ret
          exact ⟨ret_bool (by rw [HR.out, HD.out]), rfl⟩
    · have HA := hid ha
      have HR : Hid (outB xs = false) := hid (by simp [outB, carsB, hlen, ha])
      clear ha
      go_enter Try.func58, Try.ntmps58
      go_wp2_with (go_at_call 60; refine (l1All_any _ _ _ _ _ _ _ h).mono ?_; rintro e w' ⟨rfl, rfl⟩; rw [Bool.eq_false_iff.2 HA.out])
      go_ret
      exact ⟨ret_bool HR.out.symm, rfl⟩
  · have HR : Hid (outB xs = false) := hid (by simp [outB, carsB, hlen, h8])
    go_enter Try.func58, Try.ntmps58
    go_wp2_with fail
    go_ret
    exact ⟨ret_bool HR.out.symm, rfl⟩

/-- A local array of eight cells: what each holds. -/
structure Arr (w : World) (blk : Nat) (f : Nat → Value) : Prop where
  cell : ∀ z, z < 8 → w.cell? ⟨blk, z, none⟩ = some (f z)
  free : ∀ z, w.frozen? ⟨blk, z, none⟩ = false
theorem eight {v : Value} {z : Nat} (h : z < 8) : (#[v, v, v, v, v, v, v, v] : Array Value)[z]? = some v := by
  rcases (show z = 0 ∨ z = 1 ∨ z = 2 ∨ z = 3 ∨ z = 4 ∨ z = 5 ∨ z = 6 ∨ z = 7 by omega) with rfl | rfl | rfl | rfl | rfl | rfl | rfl | rfl <;> rfl
theorem arr_new (w : World) (v : Value) (t : TypeId) : Arr (w.alloc (.cells #[v, v, v, v, v, v, v, v] t)) w.heap.size fun _ => v :=
  ⟨fun z hz => by rw [World.cell?_alloc_at _ _ _ _ rfl, eight hz], fun z => by rw [World.frozen?_alloc_at _ _ _ _ rfl]⟩
theorem Arr.set {w : World} {blk : Nat} {f : Nat → Value} (h : Arr w blk f) {z : Nat} (hz : z < 8) (v : Value) : Arr (w.setCell ⟨blk, z, none⟩ v) blk fun y => if y = z then v else f y := by
  refine ⟨fun y hy => ?_, fun y => by rw [World.frozen?_setCell]; exact h.free y⟩
  by_cases e : y = z
  · subst e
    rw [World.cell?_setCell_same _ _ _ (h.cell y hy), if_pos rfl]
  · rw [World.cell?_setCell_other _ _ _ _ (by intro hh; injection hh with _ h5 _; exact e h5.symm), if_neg e]
    exact h.cell y hy
theorem Arr.congr {w : World} {blk : Nat} {f g : Nat → Value} (h : Arr w blk f) (e : ∀ z, z < 8 → g z = f z) : Arr w blk g := ⟨fun z hz => by rw [e z hz]; exact h.cell z hz, h.free⟩
theorem has_take_succ {xs : List Int} {k : Nat} (h : k < xs.length) (z : Int) : hasB (xs.take (k + 1)) z = (hasB (xs.take k) z || decide (z = nth xs k)) := by
  rw [Bool.eq_iff_iff]
  simp [hasB, take_succ_nth h]
theorem Arr.below {w w' : World} {blk B : Nat} {f : Nat → Value} (h : Arr w blk f) (hb : Below B w w') (hB : blk < B) : Arr w' blk f :=
  ⟨fun z hz => by rw [hb.cell (p := ⟨blk, z, none⟩) hB]; exact h.cell z hz, fun z => by rw [hb.frozen (p := ⟨blk, z, none⟩) hB]; exact h.free z⟩

set_option maxHeartbeats 800000 in
theorem isOutcome_any (a : Option Addr) (n cap : Nat) (xs : List Int) (w : World) (h : Has w a n cap xs) :
    Calls Try.prog 57 #[.slice a n cap] w (PostBool w (outB xs)) := by
  have hlen := h.len
  by_cases hg : carsB xs n = true
  · have HR : Hid (outB xs = distB xs n) := hid (by simp [outB, hlen, hg])
    have g1 : n ≤ 8 := by have := (carsB_iff.1 hg).1; omega
    have g4 : ∀ i, i < n → 0 ≤ nth xs i ∧ nth xs i ≤ (n : Int) - 1 := fun i hi => (carsB_iff.1 hg).2 _ (nth_mem (by omega))
    have HL := hid hlen
    have HG := hid hg
    clear hg hlen
    go_enter Try.func57, Try.ntmps57
    go_wp2_with (go_at_call 78; refine (areCarsBelow_any _ _ _ _ _ _ h).mono ?_; rintro e w' ⟨rfl, rfl⟩; rw [HG.out])
    have A0 := arr_new w (.bool false) 69
    have B0 : Below w.heap.size w (w.alloc (.cells #[.bool false, .bool false, .bool false, .bool false, .bool false, .bool false, .bool false, .bool false] 69)) := (Below.refl _ _).alloc (Nat.le_refl _) _
    go_loopw [13] (fun i wr => ∃ k : Nat, k ≤ n ∧ i = .int .i64 k ∧ Arr wr w.heap.size (fun z => .bool (hasB (xs.take k) z)) ∧ Hid (distB xs k = true) ∧ Below w.heap.size w wr) (fun i _ => n - (intOf i).toNat)
    case atStart => exact ⟨0, Nat.zero_le _, rfl, A0.congr (fun z _ => by simp [hasB]), hid rfl, B0⟩
    case round =>
      obtain ⟨k, hk, rfl, HA, HD, hb⟩ := hrel
      clear A0 B0
      by_cases hlt : k < n
      · obtain ⟨b, off, rfl, hbb, hc⟩ := h.2.2.2.2 (by omega)
        have hck : wr.cell? ⟨b, off + k, none⟩ = some (.int .i64 (nth xs k)) := by rw [hb.cell (p := ⟨b, off + k, none⟩) hbb]; exact hc k hlt
        obtain ⟨hx0, hx1⟩ := g4 k hlt
        obtain ⟨v, hv⟩ : ∃ v : Nat, nth xs k = (v : Int) := ⟨_, (Int.toNat_of_nonneg hx0).symm⟩
        have hac := HA.cell v (by omega)
        have haf := HA.free v
        rw [hv] at hck hx0 hx1
        have HV := hid hv
        clear hc g4 hv
        by_cases hq : hasB (xs.take k) v = true
        · have HN := hid (distB_no (n := n) hlt (by rw [HV.out]; exact hq))
          rw [hq] at hac
          clear hq
          go_wp2_with fail
          go_ret
          exact postBool (by rw [HR.out, HN.out]) hb
        · have hq' := Bool.eq_false_iff.2 hq
          have HQ := hid hq'
          rw [hq'] at hac
          clear hq hq'
          go_wp2_with fail
          go_roundw
          case rel =>
            refine ⟨k + 1, by omega, by go_num, (HA.set (z := v) (by omega) (.bool true)).congr (fun z hz => ?_), hid (by rw [distB_succ, HD.out, HV.out, HQ.out]; rfl), hb.setCell (by simp) _⟩
            rw [has_take_succ (by rw [HL.out]; omega), HV.out]
            by_cases e : z = v
            · subst e; simp
            · have e' : ¬ (z : Int) = (v : Int) := by omega
              simp [e, e']
          case measure => simp [intOf]; omega
      · obtain rfl : k = n := by omega
        go_wp2_with fail
        go_ret
        exact postBool (by rw [HR.out, HD.out]) hb
  · have HR : Hid (outB xs = false) := hid (by simp [outB, hlen, hg])
    have HG := hid hg
    clear hg
    go_enter Try.func57, Try.ntmps57
    go_wp2_with (go_at_call 78; refine (areCarsBelow_any _ _ _ _ _ _ h).mono ?_; rintro e w' ⟨rfl, rfl⟩; rw [Bool.eq_false_iff.2 HG.out])
    go_ret
    exact postBool HR.out.symm (Below.refl _ _)

/-- What the array of cars holds, behind the first k cars. -/
def carAt (xs : List Int) : Nat → Nat → Int
  | 0, _ => 0
  | k + 1, z => if nth xs k = (z : Int) then (k : Int) else carAt xs k z
theorem carAt_at {xs : List Int} (h : outB xs = true) {j : Nat} (hj : j < xs.length) {v : Nat} (hv : nth xs j = (v : Int)) : ∀ k, j < k → k ≤ xs.length → carAt xs k v = (j : Int)
  | 0, h1, _ => by omega
  | k + 1, h1, h2 => by
    simp only [carAt]
    by_cases e : nth xs k = (v : Int)
    · have := out_inj h (i := k) (j := j) (by omega) hj (by rw [e, hv])
      rw [if_pos e]; omega
    · rw [if_neg e]
      have hne : j ≠ k := by rintro rfl; exact e hv
      exact carAt_at h hj hv k (by omega) (by omega)
/-- The car at a place is an earlier one exactly if the place is among the earlier places. -/
theorem carAt_lt {xs : List Int} (h : outB xs = true) {i v : Nat} (hi : i < xs.length) (hv : v < xs.length) : carAt xs xs.length v < (i : Int) ↔ (v : Int) ∈ xs.take i := by
  obtain ⟨j, hj, e⟩ := mem_nth (out_all h hv)
  rw [carAt_at h hj e xs.length hj (Nat.le_refl _), ← e, out_before h hi hj]
  omega
theorem carAt_bounds (xs : List Int) (z : Nat) : ∀ k, 0 ≤ carAt xs k z ∧ carAt xs k z ≤ (k : Int)
  | 0 => by simp [carAt]
  | k + 1 => by
    have := carAt_bounds xs z k
    simp only [carAt]
    split <;> omega

end Go.Proofs.Ytehdccfkkfkciac

namespace Go.Proofs.Ytehdccfkkfkciac
open Go.RowKit

theorem reorder_yes {xs os : List Int} (h : good xs 12 = true) (hl : os.length = xs.length) (ho : outB os = true) : reorderOf xs os = (reordL xs os, true) := by simp [reorderOf, h, hl, ho]
theorem reorder_no {xs os : List Int} (h : ¬ (good xs 12 = true ∧ os.length = xs.length ∧ outB os = true)) : reorderOf xs os = ([], false) := by
  unfold reorderOf
  rw [if_neg]
  simp only [Bool.and_eq_true, decide_eq_true_eq]
  rintro ⟨⟨h1, h2⟩, h3⟩
  exact h ⟨h1, h2, h3⟩
theorem out_cars {os : List Int} {m n : Nat} (h : outB os = true) (hl : os.length = m) (hn : m = n) : ∀ i, i < m → ∃ c : Nat, c < n ∧ nth os i = (c : Int) := fun i hi => by
  have := out_nth h (i := i) (by omega)
  exact ⟨(nth os i).toNat, by omega, by omega⟩
set_option maxHeartbeats 800000 in
theorem specReorder_any (a b : Option Addr) (n m cap cap' : Nat) (xs os : List Int) (w : World) (h : Has w a n cap xs) (h' : Has w b m cap' os) :
    Calls Try.prog 27 #[.slice a n cap, .slice b m cap'] w (PostInts w (reorderOf xs os)) := by
  have hlx := h.len
  have hlo := h'.len
  by_cases hg : good xs 12 = true
  · have HG := hid hg
    by_cases hmn : m = n
    · have hbe : ((m : Int) != (n : Int)) = false := by simp [hmn]
      by_cases ho : outB os = true
      · have HR := hid (reorder_yes hg (by omega) ho)
        have HO := hid (out_cars ho hlo hmn)
        have HB := hid ho
        clear hg ho hmn hlx hlo
        go_enter Try.func27, Try.ntmps27
        go_wp2_with (first | (go_at_call 34; refine (paGood_any _ _ _ _ _ _ h).mono ?_; rintro e w' ⟨rfl, rfl⟩; rw [HG.out]) | (go_at_call 58; refine (paOutcome_any _ _ _ _ _ h').mono ?_; rintro e w' ⟨rfl, rfl⟩; rw [HB.out]))
        refine (vaOrder_any _ _ _ _ _ _ _ _ _ h h' HO.out).mono ?_
        rintro e w1 ⟨a1, cap1, rfl, hown1, hb1⟩
        go_wp2_with fail
        go_ret2
        exact postInts HR.out hown1 hb1
      · have HR := hid (reorder_no (xs := xs) (os := os) (fun h => ho h.2.2))
        have HB := hid ho
        clear hg ho hmn hlx hlo
        go_enter Try.func27, Try.ntmps27
        go_wp2_with (first | (go_at_call 34; refine (paGood_any _ _ _ _ _ _ h).mono ?_; rintro e w' ⟨rfl, rfl⟩; rw [HG.out]) | (go_at_call 58; refine (paOutcome_any _ _ _ _ _ h').mono ?_; rintro e w' ⟨rfl, rfl⟩; rw [Bool.eq_false_iff.2 HB.out]))
        go_ret2
        exact postInts_no HR.out (Below.refl _ _)
    · have hbe : ((m : Int) != (n : Int)) = true := by simp; omega
      have HR := hid (reorder_no (xs := xs) (os := os) (fun h => hmn (by omega)))
      clear hg hmn hlx hlo
      go_enter Try.func27, Try.ntmps27
      go_wp2_with (go_at_call 34; refine (paGood_any _ _ _ _ _ _ h).mono ?_; rintro e w' ⟨rfl, rfl⟩; rw [HG.out])
      go_ret2
      exact postInts_no HR.out (Below.refl _ _)
  · have HR := hid (reorder_no (xs := xs) (os := os) (fun h => hg h.1))
    have HG := hid hg
    clear hg hlx hlo
    go_enter Try.func27, Try.ntmps27
    go_wp2_with (go_at_call 34; refine (paGood_any _ _ _ _ _ _ h).mono ?_; rintro e w' ⟨rfl, rfl⟩; rw [Bool.eq_false_iff.2 HG.out])
    go_ret2
    exact postInts_no HR.out (Below.refl _ _)
set_option maxHeartbeats 800000 in
theorem implReorder_any (a b : Option Addr) (n m cap cap' : Nat) (xs os : List Int) (w : World) (h : Has w a n cap xs) (h' : Has w b m cap' os) :
    Calls Try.prog 26 #[.slice a n cap, .slice b m cap'] w (PostInts w (reorderOf xs os)) := by
  have hlx := h.len
  have hlo := h'.len
  by_cases hg : good xs 12 = true
  · have HG := hid hg
    by_cases hmn : m = n
    · have hbe : ((m : Int) != (n : Int)) = false := by simp [hmn]
      by_cases ho : outB os = true
      · have HR := hid (reorder_yes hg (by omega) ho)
        have HO := hid (out_cars ho hlo hmn)
        have HB := hid ho
        clear hg ho hmn hlx hlo
        go_enter Try.func26, Try.ntmps26
        go_wp2_with (first | (go_at_call 56; refine (areFavourites_any _ _ _ _ _ _ h).mono ?_; rintro e w' ⟨rfl, rfl⟩; rw [HG.out]) | (go_at_call 57; refine (isOutcome_any _ _ _ _ _ h').mono ?_; rintro e w1 ⟨rfl, hb1⟩; rw [HB.out]))
        refine (reordered_any _ _ _ _ _ _ _ _ _ (h.below hb1 (Nat.le_refl _)) (h'.below hb1 (Nat.le_refl _)) HO.out).mono ?_
        rintro e w2 ⟨a1, cap1, rfl, hown2, hb2⟩
        go_wp2_with fail
        go_ret2
        exact postInts HR.out (hown2.mono hb1.size) (hb1.trans (hb2.mono hb1.size))
      · have HR := hid (reorder_no (xs := xs) (os := os) (fun h => ho h.2.2))
        have HB := hid ho
        clear hg ho hmn hlx hlo
        go_enter Try.func26, Try.ntmps26
        go_wp2_with (first | (go_at_call 56; refine (areFavourites_any _ _ _ _ _ _ h).mono ?_; rintro e w' ⟨rfl, rfl⟩; rw [HG.out]) | (go_at_call 57; refine (isOutcome_any _ _ _ _ _ h').mono ?_; rintro e w1 ⟨rfl, hb1⟩; rw [Bool.eq_false_iff.2 HB.out]))
        go_ret2
        exact postInts_no HR.out hb1
    · have hbe : ((m : Int) != (n : Int)) = true := by simp; omega
      have HR := hid (reorder_no (xs := xs) (os := os) (fun h => hmn (by omega)))
      clear hg hmn hlx hlo
      go_enter Try.func26, Try.ntmps26
      go_wp2_with (go_at_call 56; refine (areFavourites_any _ _ _ _ _ _ h).mono ?_; rintro e w' ⟨rfl, rfl⟩; rw [HG.out])
      go_ret2
      exact postInts_no HR.out (Below.refl _ _)
  · have HR := hid (reorder_no (xs := xs) (os := os) (fun h => hg h.1))
    have HG := hid hg
    clear hg hlx hlo
    go_enter Try.func26, Try.ntmps26
    go_wp2_with (go_at_call 56; refine (areFavourites_any _ _ _ _ _ _ h).mono ?_; rintro e w' ⟨rfl, rfl⟩; rw [Bool.eq_false_iff.2 HG.out])
    go_ret2
    exact postInts_no HR.out (Below.refl _ _)
end Go.Proofs.Ytehdccfkkfkciac

namespace Go.Proofs.Ytehdccfkkfkciac
open Go.RowKit

def greatOf (xs : List Int) (p : Int) : Int × Bool := if good xs p && allPark p xs then (greatL (dists p xs), true) else (0, false)
theorem great_bounds {ys : List Int} (h : ∀ i, i < ys.length → 0 ≤ nth ys i ∧ nth ys i ≤ 12) : ∀ k, k ≤ ys.length → 0 ≤ greatL (ys.take k) ∧ greatL (ys.take k) ≤ 12
  | 0, _ => by simp [greatL]
  | k + 1, hk => by
    have := great_bounds h k (by omega)
    have := h k (by omega)
    rw [great_succ (by omega)]
    omega
set_option maxHeartbeats 800000 in
theorem greatest_any (a : Option Addr) (n cap : Nat) (xs : List Int) (p : Int) (w : World) (h : Has w a n cap xs) :
    Calls Try.prog 45 #[.slice a n cap, .int .i64 p] w (PostInt w (greatOf xs p)) := by
  by_cases hg : (good xs p && allPark p xs) = true
  · have HR : Hid (greatOf xs p = (greatL (dists p xs), true)) := hid (by simp only [greatOf, if_pos hg])
    have HD := hid (dists_yes hg)
    clear hg
    go_enter Try.func45, Try.ntmps45
    go_wp2_with fail
    refine (distancesOf_any _ _ _ _ _ _ h).mono ?_
    rw [HD.out]
    rintro e w1 ⟨a1, m, cap1, rfl, hown, hb⟩
    have HS := hid (fun k (hk : k < m) => great_succ (ys := dists p xs) (k := k) (by rw [hown.len]; exact hk))
    have HT := hid (List.take_of_length_le (l := dists p xs) (i := m) (by rw [hown.len]; exact Nat.le_refl _))
    obtain ⟨_, h1, h2, h3, h4⟩ := hown.has
    clear hown HD
    generalize dists p xs = ys at *
    go_wp2_with fail
    go_loop [8, 21] (fun g i => ∃ (k : Nat) (v : Int), k ≤ m ∧ i = .int .i64 (k : Int) ∧ g = .int .i64 v ∧ Hid (v = greatL (ys.take k))) (fun _ i => m - (intOf i).toNat)
    case atStart => exact ⟨0, 0, Nat.zero_le _, rfl, rfl, hid rfl⟩
    case round =>
      obtain ⟨k, v, hk, rfl, rfl, HV⟩ := hrel
      by_cases hlt : k < m
      · obtain ⟨b, off, rfl, hbb, hc⟩ := h4 (by omega)
        have hck := hc k hlt
        have HS' := hid (HS.out k hlt)
        clear hc
        go_wp2_with fail
        go_round
        case rel => exact ⟨k + 1, _, by omega, by go_num, rfl, hid (by rw [HS'.out, HV.out] <;> (split <;> omega))⟩
        case measure => simp [intOf]; omega
      · obtain rfl : k = m := by omega
        go_wp2_with fail
        go_ret2
        exact postInt (by rw [HR.out, HV.out, HT.out]) hb
  · have HR : Hid (greatOf xs p = (0, false)) := hid (by simp only [greatOf, if_neg hg])
    have HD := hid (dists_no hg)
    clear hg
    go_enter Try.func45, Try.ntmps45
    go_wp2_with fail
    refine (distancesOf_any _ _ _ _ _ _ h).mono ?_
    rw [HD.out]
    rintro e w1 ⟨a1, m, cap1, rfl, hown, hb⟩
    go_wp2_with fail
    go_ret2
    exact postInt HR.out hb
end Go.Proofs.Ytehdccfkkfkciac

namespace Go.Proofs.Ytehdccfkkfkciac
open Go.RowKit

/-- How often numbers occur, one behind the other in a list. -/
def runsTo (s : List Int) : Nat → List Int
  | 0 => []
  | k + 1 => if k = 0 ∨ nth s (k - 1) ≠ nth s k then runsTo s k ++ [1] else (runsTo s k).set ((runsTo s k).length - 1) (nth (runsTo s k) ((runsTo s k).length - 1) + 1)
theorem length_runsTo (s : List Int) : ∀ k, (runsTo s k).length ≤ k ∧ (0 < k → 0 < (runsTo s k).length)
  | 0 => by simp [runsTo]
  | k + 1 => by
    have ih := length_runsTo s k
    simp only [runsTo]
    split
    · simp; omega
    · rename_i h
      rw [List.length_set]
      have : k ≠ 0 := fun e => h (.inl e)
      omega
/-- How often a number occurs. -/
def occ (s : List Int) (v : Int) : Int := (s.count v : Int)
theorem occ_succ {s : List Int} {k : Nat} (h : k < s.length) (v : Int) : occ (s.take (k + 1)) v = occ (s.take k) v + if nth s k = v then 1 else 0 := by
  unfold occ
  rw [take_succ_nth h, List.count_append, List.count_singleton]
  simp only [beq_iff_eq]
  split <;> omega
/-- The numbers that occur among those less than m: how often. -/
def occs (s : List Int) (m : Nat) : List Int := ((List.range m).map fun (v : Nat) => occ s v).filter fun c => c != 0
theorem occs_succ (s : List Int) (m : Nat) : occs s (m + 1) = occs s m ++ if occ s m = 0 then [] else [occ s m] := by
  unfold occs
  rw [List.range_succ, List.map_append, List.filter_append]
  congr 1
  by_cases h : occ s m = 0 <;> simp [h]
theorem occs_congr {s t : List Int} : ∀ {m : Nat}, (∀ v : Nat, v < m → occ s v = occ t v) → occs s m = occs t m
  | 0, _ => rfl
  | m + 1, h => by rw [occs_succ, occs_succ, occs_congr (m := m) (fun v hv => h v (by omega)), h m (by omega)]
theorem occs_more {s : List Int} {m : Nat} : ∀ k, (∀ v : Nat, m ≤ v → v < m + k → occ s v = 0) → occs s (m + k) = occs s m
  | 0, _ => rfl
  | k + 1, h => by
    rw [show m + (k + 1) = (m + k) + 1 from rfl, occs_succ, if_pos (h (m + k) (by omega) (by omega)), List.append_nil]
    exact occs_more k fun v a b => h v a (by omega)
theorem occ_none {s : List Int} {v : Int} (h : v ∉ s) : occ s v = 0 := by
  unfold occ
  rw [List.count_eq_zero.2 h]
  rfl
theorem occ_pos {s : List Int} {v : Int} (h : v ∈ s) : 0 < occ s v := by
  unfold occ
  have := List.count_pos_iff.2 h
  omega
/-- The runs of a sorted list: how often each number occurs. -/
theorem runs_occs {s : List Int} (hs : s.Pairwise (· ≤ ·)) (h0 : ∀ x ∈ s, 0 ≤ x) : ∀ k, k < s.length → ∀ m : Nat, nth s k = (m : Int) → runsTo s (k + 1) = occs (s.take (k + 1)) (m + 1)
  | 0, hk, m, hm => by
    have e : ∀ v : Nat, occ (s.take 1) v = if v = m then 1 else 0 := by
      intro v
      rw [occ_succ hk, hm]
      have : ((m : Int) = (v : Int)) = (v = m) := by apply propext; omega
      simp [occ, this]
    rw [occs_succ, show occs (s.take 1) m = [] from by
      have := occs_more (s := s.take 1) (m := 0) m (fun v _ hv => by rw [e, if_neg (by omega)])
      rw [Nat.zero_add] at this
      rw [this]; rfl, e, if_pos rfl]
    simp [runsTo]
  | k + 1, hk, m, hm => by
    have h1 : ∃ v : Nat, nth s k = (v : Int) := ⟨(nth s k).toNat, by have := h0 _ (nth_mem (xs := s) (i := k) (by omega)); omega⟩
    obtain ⟨v, hv⟩ := h1
    have hle := sorted_nth hs (i := k) (j := k + 1) (by omega) hk
    rw [hv, hm] at hle
    have ih := runs_occs hs h0 k (by omega) v hv
    have hup : ∀ u : Nat, (v : Int) < (u : Int) → occ (s.take (k + 1)) u = 0 := by
      intro u hu
      apply occ_none
      intro hmem
      obtain ⟨i, hi, e⟩ := mem_nth hmem
      rw [List.length_take] at hi
      rw [nth_take (by omega)] at e
      have := sorted_nth hs (i := i) (j := k) (by omega) (by omega)
      omega
    have hsucc := fun u : Nat => occ_succ (s := s) (k := k + 1) hk (u : Int)
    rw [hm] at hsucc
    have hpos : 0 < occ (s.take (k + 1)) v := occ_pos (by
      have := nth_mem (xs := s.take (k + 1)) (i := k) (by simp; omega)
      rw [nth_take (by omega), hv] at this
      exact this)
    rw [runsTo, show k + 1 - 1 = k from rfl, hv, hm]
    have ih' := ih
    generalize runsTo s (k + 1) = R at ih' ⊢
    by_cases e : v = m
    · subst e
      rw [if_neg (by simp)]
      rw [ih', occs_succ, occs_succ, if_neg (by omega)]
      have h2 : occ (s.take (k + 1 + 1)) v = occ (s.take (k + 1)) v + 1 := by rw [hsucc v, if_pos rfl]
      rw [if_neg (by omega), h2]
      have h3 : occs (s.take (k + 1 + 1)) v = occs (s.take (k + 1)) v := occs_congr fun u hu => by rw [hsucc u, if_neg (by omega)]; omega
      rw [h3]
      generalize occs (s.take (k + 1)) v = A
      rw [show (A ++ [occ (s.take (k + 1)) v]).length - 1 = A.length by simp, nth_append_at, List.set_append_right _ _ (Nat.le_refl _)]
      simp
    · rw [if_pos (.inr (by omega))]
      have h2 : occ (s.take (k + 1 + 1)) m = 1 := by rw [hsucc m, if_pos rfl, hup m (by omega)]; rfl
      rw [ih', occs_succ (s.take (k + 1 + 1)) m, h2, if_neg (by omega)]
      congr 1
      have h3 : occs (s.take (k + 1 + 1)) m = occs (s.take (k + 1)) m := occs_congr fun u hu => by rw [hsucc u, if_neg (by omega)]; omega
      rw [h3]
      have h4 := occs_more (s := s.take (k + 1)) (m := v + 1) (m - (v + 1)) (fun u a _ => hup u (by omega))
      rw [show v + 1 + (m - (v + 1)) = m by omega] at h4
      exact h4.symm
theorem runs_all {s : List Int} {m : Nat} (hs : s.Pairwise (· ≤ ·)) (h0 : ∀ x ∈ s, 0 ≤ x ∧ x < (m : Int)) : runsTo s s.length = occs s m := by
  by_cases hl : s.length = 0
  · have : s = [] := List.eq_nil_of_length_eq_zero hl
    subst this
    have := occs_more (s := []) (m := 0) m (fun v _ _ => by simp [occ])
    rw [Nat.zero_add] at this
    rw [this]
    rfl
  · obtain ⟨k, hk⟩ : ∃ k, s.length = k + 1 := ⟨s.length - 1, by omega⟩
    have hx := h0 _ (nth_mem (xs := s) (i := k) (by omega))
    have h1 := runs_occs hs (fun x hx => (h0 x hx).1) k (by omega) (nth s k).toNat (by omega)
    rw [hk, h1, List.take_of_length_le (by omega)]
    have h2 := occs_more (s := s) (m := (nth s k).toNat + 1) (m - ((nth s k).toNat + 1)) (fun u a _ => occ_none fun hm => by
      obtain ⟨i, hi, e⟩ := mem_nth hm
      have := sorted_nth hs (i := i) (j := k) (by omega) (by omega)
      omega)
    rw [show (nth s k).toNat + 1 + (m - ((nth s k).toNat + 1)) = m by omega] at h2
    exact h2.symm
theorem occ_perm {s t : List Int} (h : s.Perm t) (v : Int) : occ s v = occ t v := by unfold occ; rw [h.count_eq]
theorem occs_perm {s t : List Int} (h : s.Perm t) (m : Nat) : occs s m = occs t m := occs_congr fun v _ => occ_perm h v
/-- If each number occurs, none is left out. -/
theorem occs_full {s : List Int} {m : Nat} (h : ∀ v : Nat, v < m → (v : Int) ∈ s) : occs s m = (List.range m).map fun (v : Nat) => occ s v := by
  unfold occs
  rw [List.filter_eq_self]
  intro c hc
  obtain ⟨v, hv, rfl⟩ := List.mem_map.1 hc
  have := occ_pos (h v (by simpa using hv))
  simp
  omega

/-- The factorial. -/
def fct : Nat → Nat
  | 0 => 1
  | n + 1 => (n + 1) * fct n
theorem fct_pos : ∀ n, 0 < fct n
  | 0 => by decide
  | n + 1 => Nat.mul_pos (by omega) (fct_pos n)
theorem chs_fct : ∀ n, n < 9 → ∀ k, k < 9 → k ≤ n → chs n k * fct k * fct (n - k) = fct n := by decide +kernel
/-- The orders, group by group: how many, and of how many cars. -/
def groups : List Int → Nat × Nat
  | gs => gs.foldl (fun r g => (r.1 * chs (r.2 + g.toNat) g.toNat, r.2 + g.toNat)) (1, 0)
theorem groups_snoc (gs : List Int) (g : Int) : groups (gs ++ [g]) = ((groups gs).1 * chs ((groups gs).2 + g.toNat) g.toNat, (groups gs).2 + g.toNat) := by simp [groups]
/-- The product of the factorials. -/
def fcts (gs : List Int) : Nat := gs.foldl (fun r g => r * fct g.toNat) 1
theorem fcts_snoc (gs : List Int) (g : Int) : fcts (gs ++ [g]) = fcts gs * fct g.toNat := by simp [fcts]
theorem groups_fct : ∀ (k : Nat) (gs : List Int), gs.length = k → (groups gs).2 < 9 → (groups gs).1 * fcts gs = fct (groups gs).2
  | 0, gs, h, _ => by
    have : gs = [] := List.eq_nil_of_length_eq_zero h
    subst this
    rfl
  | k + 1, gs, h, h9 => by
    obtain ⟨hs, g, rfl⟩ : ∃ hs g, gs = hs ++ [g] := ⟨gs.dropLast, gs.getLast (by intro e; simp [e] at h), (List.dropLast_concat_getLast (by intro e; simp [e] at h)).symm⟩
    rw [groups_snoc] at h9 ⊢
    simp only at h9
    have ih := groups_fct k hs (by simpa using h) (by omega)
    rw [fcts_snoc]
    have hc := chs_fct ((groups hs).2 + g.toNat) (by omega) g.toNat (by omega) (by omega)
    rw [show (groups hs).2 + g.toNat - g.toNat = (groups hs).2 by omega, ← ih] at hc
    rw [← hc]
    simp only [Nat.mul_comm, Nat.mul_left_comm, Nat.mul_assoc]
theorem groups_sum (s : List Int) : ∀ m : Nat, (groups (occs s m)).2 = sumTo (fun v => s.count (v : Int)) m
  | 0 => rfl
  | m + 1 => by
    have ih := groups_sum s m
    rw [occs_succ]
    simp only [sumTo]
    split
    · rename_i h
      unfold occ at h
      rw [List.append_nil, ih]
      omega
    · rw [groups_snoc, ih]
      simp [occ]
theorem fcts_occs (s : List Int) : ∀ m : Nat, fcts (occs s (m + 1)) = fcts (occs s m) * fct (s.count (m : Int)) := by
  intro m
  rw [occs_succ]
  split
  · rename_i h
    unfold occ at h
    rw [List.append_nil, show s.count (m : Int) = 0 by omega]
    simp [fct]
  · rw [fcts_snoc]
    simp [occ]
theorem sum_counts {m : Nat} : ∀ (s : List Int), (∀ x ∈ s, 0 ≤ x ∧ x < (m : Int)) → sumTo (fun v => s.count (v : Int)) m = s.length
  | [], _ => by exact sumTo_zero fun _ _ => by simp
  | x :: s, h => by
    have ih := sum_counts s (fun y hy => h y (by simp [hy]))
    have hx := h x (by simp)
    have e : sumTo (fun v => (x :: s).count (v : Int)) m = sumTo (fun v => s.count (v : Int) + if v = x.toNat then 1 else 0) m := sumTo_congr fun v _ => by
      rw [List.count_cons]
      congr 1
      have : (x == (v : Int)) = decide (v = x.toNat) := by rw [Bool.eq_iff_iff]; simp; omega
      rw [this]
      simp
    rw [e, sumTo_add, ih]
    have h2 : ∀ k, sumTo (fun v => if v = x.toNat then 1 else 0) k = if x.toNat < k then 1 else 0 := by
      intro k
      induction k with
      | zero => rfl
      | succ k ih => simp only [sumTo]; rw [ih]; split <;> split <;> split <;> omega
    rw [h2, if_pos (by omega)]
    simp
/-- How many orders there are. -/
def ordersN (s : List Int) (m : Nat) : Nat := (groups (occs s m)).1
theorem orders_fct {s : List Int} {m : Nat} (h8 : s.length ≤ 8) (h : ∀ x ∈ s, 0 ≤ x ∧ x < (m : Int)) : ordersN s m * fcts (occs s m) = fct s.length := by
  have h1 : (groups (occs s m)).2 = s.length := by rw [groups_sum, sum_counts s h]
  have := groups_fct _ (occs s m) rfl (by omega)
  rw [h1] at this
  exact this
theorem fcts_pos : ∀ (s : List Int) (m : Nat), 0 < fcts (occs s m)
  | _, 0 => by simp [occs, fcts]
  | s, m + 1 => by rw [fcts_occs]; exact Nat.mul_pos (fcts_pos s m) (fct_pos _)
theorem fcts_step {s t : List Int} {x : Nat} : ∀ m : Nat, (∀ v : Nat, t.count (v : Int) = s.count (v : Int) + if v = x then 1 else 0) → fcts (occs t m) = fcts (occs s m) * if x < m then s.count (x : Int) + 1 else 1
  | 0, _ => by simp [occs, fcts]
  | m + 1, h => by
    rw [fcts_occs, fcts_occs, fcts_step m h, h m]
    by_cases e : m = x
    · subst e
      rw [if_neg (by omega), if_pos rfl, if_pos (by omega)]
      simp only [fct, Nat.mul_one]
      rw [Nat.mul_assoc, Nat.mul_comm (fct _)]
    · rw [if_neg e]
      have : (x < m + 1) = (x < m) := by apply propext; omega
      simp only [this]
      simp only [Nat.mul_comm, Nat.mul_left_comm, Nat.add_zero]
/-- One car more. -/
theorem orders_step {s : List Int} {m k x : Nat} (h8 : s.length ≤ 8) (h : ∀ y ∈ s, 0 ≤ y ∧ y < (m : Int)) (hk : k < s.length) (hx : nth s k = (x : Int)) :
    ordersN (s.take (k + 1)) m = ordersN (s.take k) m * (k + 1) / ((s.take k).count (x : Int) + 1) := by
  have hxm : x < m := by have := (h _ (nth_mem (xs := s) (i := k) hk)).2; omega
  have hb : ∀ j, ∀ y ∈ s.take j, 0 ≤ y ∧ y < (m : Int) := fun j y hy => h y (List.mem_of_mem_take hy)
  have h1 := orders_fct (s := s.take (k + 1)) (m := m) (by simp; omega) (hb _)
  have h2 := orders_fct (s := s.take k) (m := m) (by simp; omega) (hb _)
  have h3 := fcts_step (s := s.take k) (t := s.take (k + 1)) (x := x) m (fun v => by
    rw [take_succ_nth hk, List.count_append, List.count_singleton, hx]
    congr 1
    have : ((x : Int) == (v : Int)) = decide (v = x) := by rw [Bool.eq_iff_iff]; simp; omega
    rw [this]
    simp)
  rw [if_pos hxm] at h3
  rw [List.length_take, Nat.min_eq_left (by omega)] at h1 h2
  have hf : fct (k + 1) = (k + 1) * fct k := rfl
  rw [hf, ← h2, h3] at h1
  have hp := fcts_pos (s.take k) m
  have h4 : ordersN (s.take (k + 1)) m * ((s.take k).count (x : Int) + 1) = ordersN (s.take k) m * (k + 1) := by
    apply Nat.eq_of_mul_eq_mul_right hp
    rw [Nat.mul_assoc, Nat.mul_comm ((s.take k).count (x : Int) + 1), h1]
    simp only [Nat.mul_comm, Nat.mul_left_comm]
  rw [← h4, Nat.mul_div_cancel _ (by omega)]
theorem orders_le {s : List Int} {m : Nat} (h8 : s.length ≤ 8) (h : ∀ x ∈ s, 0 ≤ x ∧ x < (m : Int)) : ordersN s m ≤ 40320 := by
  have h1 := orders_fct h8 h
  have h2 := fcts_pos s m
  have h3 : ∀ n, n < 9 → fct n ≤ 40320 := by decide
  have h4 := h3 s.length (by omega)
  have := Nat.le_mul_of_pos_right (ordersN s m) h2
  omega
def ordersOf (xs : List Int) : Int × Bool := if isPark xs then ((ordersN xs xs.length : Int), true) else (0, false)
end Go.Proofs.Ytehdccfkkfkciac

namespace Go.Proofs.Ytehdccfkkfkciac
open Go.RowKit Go.Sort

/-- A slice of the call's own of cells of one kind. -/
def OwnE (E : TypeId) (w : World) (B : Nat) (a : Option Addr) (n cap : Nat) (us : List Value) : Prop := w.ownsRow B E 1 (.slice a n cap) n us ∧ us.length = n ∧ n ≤ 2097152
theorem OwnE.below {E : TypeId} {w w' : World} {B K : Nat} {a : Option Addr} {n cap : Nat} {us : List Value} (h : OwnE E w B a n cap us) (hb : Go.RowKit.Below K w w') (hB : w.heap.size ≤ K) : OwnE E w' B a n cap us := by
  obtain ⟨⟨h1, h2⟩, h3⟩ := h
  refine ⟨⟨h1, ?_⟩, h3⟩
  rcases h2 with h2 | ⟨g, cap', cur, hv, hg, hh, r⟩
  · exact .inl h2
  · exact .inr ⟨g, cap', cur, hv, hg, by rw [hb.block g (by have := (Array.getElem?_eq_some_iff.1 hh).1; omega)]; exact hh, r⟩
theorem OwnE.cell {E : TypeId} {w : World} {B g n cap : Nat} {us : List Value} (h : OwnE E w B (some ⟨g, 0, none⟩) n cap us) {i : Nat} (hi : i < n) : w.cell? ⟨g, i, none⟩ = us[i]? := h.1.cellAt i (by omega)
theorem OwnE.lt {E : TypeId} {w : World} {B g n cap : Nat} {us : List Value} (h : OwnE E w B (some ⟨g, 0, none⟩) n cap us) : B ≤ g ∧ g < w.heap.size := h.1.lt g rfl

theorem holds_of_cells {α : Type} [Inhabited α] {enc : α → Value} {w : World} {g : Nat} {cur : Array Value} {e : TypeId} {ds : List α} (hb : w.heap[g]? = some (.cells cur e (0, 0))) (ht : cur.toList.take ds.length = ds.map enc) : Go.Sort.Holds enc w g 0 ds.toArray := by
  intro j hj
  have hj' : j < ds.length := by simpa using hj
  refine ⟨?_, by simp [World.frozen?, hb]⟩
  have h1 : (cur.toList.take ds.length)[j]? = (ds.map enc)[j]? := by rw [ht]
  rw [List.getElem?_take_of_lt hj'] at h1
  simp only [World.cell?, hb, Nat.zero_add]
  simp only [Option.isSome_none, Bool.false_eq_true, if_false]
  rw [← Array.getElem?_toList, h1]
  simp [hj']
theorem heap_sortedE {α : Type} [Inhabited α] (enc : α → Value) {w : World} {g n : Nat} {os : Array Obj} {cur : Array Value} {e : TypeId} {fr : Nat × Nat} (d : Array α) (hb : w.heap[g]? = some (.cells cur e fr)) :
    (grow (putRow enc (Sort.ahead w n) g 0 d) os).heap[g]? = some (.cells (putCells enc 0 d cur) e fr) := by
  have hg : g < w.heap.size := (Array.getElem?_eq_some_iff.1 hb).1
  rw [heap_grow_old _ _ (by simpa using hg)]
  simp [putRow, mapBlock, Sort.ahead, Array.getElem?_modify, hb, onCells]
theorem grownBy_sortedE {α : Type} [Inhabited α] (enc : α → Value) {w : World} {g n : Nat} {os : Array Obj} (d : Array α) : w.grownBy (grow (putRow enc (Sort.ahead w n) g 0 d) os) (some g) := by
  refine ⟨rfl, rfl, rfl, by simp, fun k hk hne => ?_⟩
  rw [heap_grow_old _ _ (by simpa using hk)]
  have : g ≠ k := fun e => hne (by rw [e])
  simp [putRow, mapBlock, Sort.ahead, Array.getElem?_modify, this]
theorem take_putCellsE {α : Type} [Inhabited α] (enc : α → Value) (cur : Array Value) (ts : List α) (h : ts.length ≤ cur.size) : (putCells enc 0 ts.toArray cur).toList.take ts.length = ts.map enc := by
  apply List.ext_getElem?
  intro j
  by_cases hj : j < ts.length
  · rw [List.getElem?_take_of_lt hj, Array.getElem?_toList]
    simp [putCells, hj, show j < cur.size by omega]
  · rw [List.getElem?_take_eq_none (by omega), List.getElem?_eq_none (by simp; omega)]
theorem toArr {α : Type} (d : Array α) : d.toList.toArray = d := by simp
/-- A permutation, in order: what a sort leaves. -/
theorem sorted_list {α : Type} [Inhabited α] {lt : α → α → Bool} {ds : List α} {d' : Array α} (hp : PermIn 0 ds.length ds.toArray d') (hs : SortedIn lt 0 ds.length d') : d'.toList.Perm ds ∧ d'.toList.Pairwise (fun x y => lt y x = false) := by
  obtain ⟨h1, _, h3⟩ := hp
  have hsz : d'.size = ds.length := by simpa using h1
  constructor
  · have e1 : d'.extract 0 ds.length = d' := by rw [← hsz]; simp
    have e2 : ds.toArray.extract 0 ds.length = ds.toArray := by simp
    rw [e1, e2] at h3
    simpa using h3
  · rw [List.pairwise_iff_getElem]
    intro i j hi hj hij
    have := hs i j (Nat.zero_le _) hij (by simpa [hsz] using hj)
    have hi' : i < d'.size := by simpa using hi
    have hj' : j < d'.size := by simpa using hj
    rw [getElem!_pos d' j hj', getElem!_pos d' i hi'] at this
    simpa using this

/-- The order of integers, as a comparison tells it. -/
def cmpI (x y : Int) : Int := if x < y then -1 else if y < x then 1 else 0
theorem ltOf_cmpI (x y : Int) : ltOf cmpI x y = decide (x < y) := by
  unfold ltOf cmpI
  by_cases h : x < y
  · simp [h]
  · by_cases h2 : y < x
    · simp [h, h2]
    · simp [h, h2]
theorem swo_cmpI : SWO (ltOf cmpI) := ⟨fun x => by simp [ltOf_cmpI], fun x y z h1 h2 => by simp [ltOf_cmpI] at *; omega, fun x y z h1 h2 => by simp [ltOf_cmpI] at *; omega⟩

theorem wishes_sorted {ds : List Int} {d' : Array Int} (hp : PermIn 0 ds.length ds.toArray d') (hs : SortedIn (ltOf cmpI) 0 ds.length d') : d'.toList = insSort ds := by
  obtain ⟨h1, h2⟩ := sorted_list hp hs
  refine sorted_unique (h2.imp fun {x y} h => ?_) (insSort_sorted ds) (h1.trans (insSort_perm ds).symm)
  simp [ltOf_cmpI] at h
  omega

end Go.Proofs.Ytehdccfkkfkciac

namespace Go.Proofs.Ytehdccfkkfkciac
open Go.RowKit Go.Sort

theorem isNaNJ_any (x : Int) (w : World) : Calls Try.prog 83 #[.int .i64 x] w fun e w' => e = .returned (.bool false) ∧ w = w' := by
  have hx : (x != x) = false := by simp
  go_enter Try.func83, Try.ntmps83
  go_wp2_with fail
  go_ret
  exact ⟨rfl, rfl⟩
set_option maxHeartbeats 400000 in
theorem compareJ_any (x y : Int) (w : World) : Calls Try.prog 68 #[.int .i64 x, .int .i64 y] w fun e w' => e = .returned (.int .i64 (cmpI x y)) ∧ w = w' := by
  by_cases h1 : x < y
  · have HR : Hid (cmpI x y = -1) := hid (by simp [cmpI, h1])
    go_enter Try.func68, Try.ntmps68
    go_wp2_with (go_at_call 83; refine (isNaNJ_any _ _).mono ?_; rintro e w' ⟨rfl, rfl⟩)
    go_ret
    exact ⟨ret_int HR.out.symm, rfl⟩
  · by_cases h2 : y < x
    · have HR : Hid (cmpI x y = 1) := hid (by simp [cmpI, h1, h2])
      go_enter Try.func68, Try.ntmps68
      go_wp2_with (go_at_call 83; refine (isNaNJ_any _ _).mono ?_; rintro e w' ⟨rfl, rfl⟩)
      go_ret
      exact ⟨ret_int HR.out.symm, rfl⟩
    · have HR : Hid (cmpI x y = 0) := hid (by simp [cmpI, h1, h2])
      go_enter Try.func68, Try.ntmps68
      go_wp2_with (go_at_call 83; refine (isNaNJ_any _ _).mono ?_; rintro e w' ⟨rfl, rfl⟩)
      go_ret
      exact ⟨ret_int HR.out.symm, rfl⟩

theorem wcmp_any (bx : Nat) (a : Option Addr) (n cap : Nat) (xs : List Int) (x y : Nat) (w : World) (hbx : w.cell? ⟨bx, 0, none⟩ = some (.slice a n cap)) (h : Has w a n cap xs) (hx : x < n) (hy : y < n) :
    Calls Try.prog 67 #[.int .i64 (x : Int), .int .i64 (y : Int), .pointer (some ⟨bx, 0, none⟩)] w fun e w' => e = .returned (.int .i64 (cmpI (nth xs x) (nth xs y))) ∧ Quiet w w' := by
  obtain ⟨b, off, rfl, hb, hc⟩ := h.2.2.2.2 (by omega)
  have c1 := hc x hx
  have c2 := hc y hy
  have z1 : (x : Int) < (n : Int) := by omega
  have z2 : (y : Int) < (n : Int) := by omega
  have z3 : (0 : Int) ≤ (x : Int) := by omega
  have z4 : (0 : Int) ≤ (y : Int) := by omega
  have cq : ∀ j, Calls Try.prog 68 #[.int .i64 (nth xs x), .int .i64 (nth xs y)] (w.drewN j) fun e w'' => e = .returned (.int .i64 (cmpI (nth xs x) (nth xs y))) ∧ w'' = w.drewN j := fun j => (compareJ_any _ _ _).mono fun e w'' ⟨he, hw⟩ => ⟨he, hw.symm⟩
  have CQ := hid cq
  clear hc cq
  go_enter Try.func67, Try.ntmps67
  go_wp2_with fail
  go_quiet ((go_at_call 68; exact Calls.quiet_of_same (CQ.out _)))
  go_wp2_with fail
  go_ret
  exact ⟨rfl, ⟨_, rfl⟩⟩

def encF (m : Nat) (i : Fin (m + 1)) : Value := .int .i64 ((i.val : Nat) : Int)
theorem allFin_enc (m : Nat) : (allFin m).map (encF m) = (upto (m + 1)).map (Value.int .i64) := by
  unfold allFin upto encF
  apply List.ext_getElem
  · simp
  · intro i h1 h2
    simp

set_option maxHeartbeats 1000000 in
theorem insCars_any (B g m cap bx : Nat) (al : Option Addr) (cl : Nat) (xs : List Int) (w : World) (h8 : m + 1 ≤ 8) (hl : xs.length = m + 1) (hbd : ∀ c, c < m + 1 → 0 ≤ nth xs c ∧ nth xs c < (m : Int) + 1)
    (h : Own w B (some ⟨g, 0, none⟩) (m + 1) cap (upto (m + 1))) (hx : Has w al (m + 1) cl xs) (hal : ∀ p, al = some p → p.block ≠ g) (hbx : w.cell? ⟨bx, 0, none⟩ = some (.slice al (m + 1) cl)) (hbg : bx ≠ g) :
    Calls Try.prog 87 #[.slice (some ⟨g, 0, none⟩) (m + 1) cap, .int .i64 0, .int .i64 ((m + 1 : Nat) : Int), .func (.func 67) #[] #[.pointer (some ⟨bx, 0, none⟩)]] w fun e w' =>
      e = .returned (.tuple #[]) ∧ Own w' B (some ⟨g, 0, none⟩) (m + 1) cap (carsL xs) ∧ w.grownBy w' (some g) := by
  have hown := h
  obtain ⟨⟨h1, h2⟩, h3, h4⟩ := h
  rcases h2 with ⟨hv, _⟩ | ⟨g', cap', cur, hv, hg, hh, hnc, hcm, hcs, htake⟩
  · simp at hv
  · simp at hv
    obtain ⟨rfl, rfl⟩ := hv
    have hlen : (allFin m).length = m + 1 := by simp [allFin]
    have hH : Go.Sort.Holds (encF m) w g 0 (allFin m).toArray := holds_of_cells hh (by rw [hlen, allFin_enc]; simpa using htake)
    have hlt : g < w.heap.size := (Array.getElem?_eq_some_iff.1 hh).1
    have eg : ∀ args w, (callFunc 67 args).run Try.prog w = .ok (.enter 67 args) w := by intro args w; go_simp
    have hcmp : CmpReads Try.prog 67 #[.pointer (some ⟨bx, 0, none⟩)] (encF m) (fun x y => cmpI (nth xs x.val) (nth xs y.val)) g 0 (allFin m).toArray.size w := by
      intro q os dk _ x y
      have hgr : w.grownBy (sortWorld (encF m) w g 0 q dk os) (some g) := grownBy_sortedE (encF m) dk
      have hx' := hx.kept hgr hal
      have hb' : (sortWorld (encF m) w g 0 q dk os).cell? ⟨bx, 0, none⟩ = some (.slice al (m + 1) cl) := hgr.cell hbx (by simpa using hbg)
      refine (wcmp_any bx al (m + 1) cl xs x.val y.val _ hb' hx' x.isLt y.isLt).mono ?_
      rintro e w' ⟨rfl, q2, rfl⟩
      exact ⟨rfl, q2, rfl⟩
    have hs := Try.insertionSortCmpFunc_one (encF m) (fun _ => rfl) (fun x y => cmpI (nth xs x.val) (nth xs y.val)) 67 #[.pointer (some ⟨bx, 0, none⟩)] g 0 cap 0 (m + 1) (allFin m).toArray w eg hcmp hH (Nat.zero_le _) (by simp [allFin]) (by simp [allFin]; omega)
    have hsz : (allFin m).toArray.size = m + 1 := by simp [allFin]
    simp only [hsz] at hs
    refine hs.mono ?_
    rintro e w' ⟨rfl, q, rfl⟩
    rw [← sortWorld_none]
    have hlt' : (ltOf fun x y : Fin (m + 1) => cmpI (nth xs x.val) (nth xs y.val)) = fun x y => decide (nth xs x.val < nth xs y.val) := by
      funext x y
      have := ltOf_cmpI (nth xs x.val) (nth xs y.val)
      simpa [ltOf] using this
    have hsort := sort_cars hl (by omega) hbd
    rw [← hlt'] at hsort
    generalize insertionSort (ltOf fun x y : Fin (m + 1) => cmpI (nth xs x.val) (nth xs y.val)) (allFin m).toArray 0 (m + 1) = d' at hsort ⊢
    have hcl : (carsL xs).length = m + 1 := length_carsL hl (by omega) (fun c hc => by have := hbd c hc; omega)
    have hdl : d'.toList.length = m + 1 := by
      have h5 := congrArg List.length hsort
      rw [List.length_map, hcl] at h5
      exact h5
    have henc : d'.toList.map (encF m) = (carsL xs).map (Value.int .i64) := by
      rw [← hsort, List.map_map]
      rfl
    refine ⟨rfl, ⟨⟨by simp [hcl], .inr ⟨g, cap, _, rfl, hg, heap_sortedE _ d' hh, hnc, hcm, by simpa [putCells] using hcs, ?_⟩⟩, hcl, h4⟩, grownBy_sortedE _ d'⟩
    rw [Nat.mul_one, ← henc]
    have := take_putCellsE (encF m) cur d'.toList (by omega)
    rw [toArr, hdl] at this
    exact this

set_option maxHeartbeats 400000 in
theorem insNone_any (a : Option Addr) (cap : Nat) (fv : Value) (w : World) :
    Calls Try.prog 87 #[.slice a 0 cap, .int .i64 0, .int .i64 0, fv] w fun e w' => e = .returned (.tuple #[]) ∧ w' = w := by
  go_enter Try.func87, Try.ntmps87
  go_wp2
  refine wp_loop_rounds 1 ?_
  rw [rounds_succ]
  go_wp2
  all_goals first | (exfalso; omega) | (go_end0; exact ⟨rfl, rfl⟩)

set_option maxHeartbeats 1000000 in
theorem stableCars_any (B m g cap bx : Nat) (al : Option Addr) (cl : Nat) (xs : List Int) (w : World) (h8 : m + 1 ≤ 8) (hl : xs.length = m + 1) (hbd : ∀ c, c < m + 1 → 0 ≤ nth xs c ∧ nth xs c < (m : Int) + 1)
    (h : Own w B (some ⟨g, 0, none⟩) (m + 1) cap (upto (m + 1))) (hx : Has w al (m + 1) cl xs) (hal : ∀ p, al = some p → p.block ≠ g) (hbx : w.cell? ⟨bx, 0, none⟩ = some (.slice al (m + 1) cl)) (hbg : bx ≠ g) :
    Calls Try.prog 66 #[.slice (some ⟨g, 0, none⟩) (m + 1) cap, .func (.func 67) #[] #[.pointer (some ⟨bx, 0, none⟩)]] w fun e w' =>
      e = .returned (.tuple #[]) ∧ Own w' B (some ⟨g, 0, none⟩) (m + 1) cap (carsL xs) ∧ w.grownBy w' (some g) := by
  have hins := insCars_any B g m cap bx al cl xs w h8 hl hbd h hx hal hbx hbg
  have HI := hid hins
  clear hins h hx hal hbx hbg hbd
  have hst : Calls Try.prog 82 #[.slice (some ⟨g, 0, none⟩) (m + 1) cap, .int .i64 ((m + 1 : Nat) : Int), .func (.func 67) #[] #[.pointer (some ⟨bx, 0, none⟩)]] w fun e w' =>
      e = .returned (.tuple #[]) ∧ Own w' B (some ⟨g, 0, none⟩) (m + 1) cap (carsL xs) ∧ w.grownBy w' (some g) := by
    have hn1 : ¬ (20 : Int) ≤ ((m + 1 : Nat) : Int) := by omega
    have hn2 : ¬ (20 : Int) < ((m + 1 : Nat) : Int) := by omega
    go_enter Try.func82, Try.ntmps82
    go_wp2
    refine wp_loop_rounds 1 ?_
    rw [rounds_succ]
    go_wp2_with (go_at_call 87; refine HI.out.mono ?_; rintro e w1 ⟨rfl, hq1, hq2⟩)
    refine wp_loop_rounds 1 ?_
    rw [rounds_succ]
    go_wp2
    all_goals first | (exfalso; omega) | (go_end0; exact ⟨rfl, hq1, hq2⟩)
  go_enter Try.func66, Try.ntmps66
  go_wp2_with fail
  refine hst.mono ?_
  rintro e w1 ⟨rfl, hq1, hq2⟩
  go_wp2_with fail
  go_end0
  exact ⟨rfl, hq1, hq2⟩

set_option maxHeartbeats 1000000 in
theorem stableNone_any (a : Option Addr) (cap : Nat) (fv : Value) (w : World) :
    Calls Try.prog 66 #[.slice a 0 cap, fv] w fun e w' => e = .returned (.tuple #[]) ∧ w' = w := by
  have hst : Calls Try.prog 82 #[.slice a 0 cap, .int .i64 0, fv] w fun e w' => e = .returned (.tuple #[]) ∧ w' = w := by
    go_enter Try.func82, Try.ntmps82
    go_wp2
    refine wp_loop_rounds 1 ?_
    rw [rounds_succ]
    go_wp2_with (go_at_call 87; refine (insNone_any _ _ _ _).mono ?_; rintro e w1 ⟨rfl, rfl⟩)
    refine wp_loop_rounds 1 ?_
    rw [rounds_succ]
    go_wp2
    all_goals first | (exfalso; omega) | (go_end0; exact ⟨rfl, rfl⟩)
  go_enter Try.func66, Try.ntmps66
  go_wp2_with fail
  refine hst.mono ?_
  rintro e w1 ⟨rfl, rfl⟩
  go_wp2_with fail
  go_end0
  exact ⟨rfl, rfl⟩
end Go.Proofs.Ytehdccfkkfkciac

namespace Go.Proofs.Ytehdccfkkfkciac
open Go.RowKit Go.Sort

theorem BlkLt.mono9 {a : Option Addr} {K K' : Nat} (h : BlkLt a K) (hK : K ≤ K') : BlkLt a K' := fun p hp => Nat.lt_of_lt_of_le (h p hp) hK
theorem BlkLt.ne9 {a : Option Addr} {K g : Nat} (h : BlkLt a K) (hg : K ≤ g) : ∀ p, a = some p → p.block ≠ g := fun p hp e => by have := h p hp; omega
theorem cars_of_none {xs : List Int} (h : xs.length = 0) {P : Nat} : carsTo xs P = [] := by
  obtain rfl := List.eq_nil_of_length_eq_zero h
  induction P with
  | zero => rfl
  | succ P ih => simp [carsTo, ih, idxs]
set_option maxHeartbeats 1000000 in
theorem insCarsP_any (P B g m cap bx : Nat) (al : Option Addr) (cl : Nat) (xs : List Int) (w : World) (h8 : m + 1 ≤ 8) (hl : xs.length = m + 1) (hbd : ∀ c, c < m + 1 → 0 ≤ nth xs c ∧ nth xs c < (P : Int))
    (h : Own w B (some ⟨g, 0, none⟩) (m + 1) cap (upto (m + 1))) (hx : Has w al (m + 1) cl xs) (hal : ∀ p, al = some p → p.block ≠ g) (hbx : w.cell? ⟨bx, 0, none⟩ = some (.slice al (m + 1) cl)) (hbg : bx ≠ g) :
    Calls Try.prog 87 #[.slice (some ⟨g, 0, none⟩) (m + 1) cap, .int .i64 0, .int .i64 ((m + 1 : Nat) : Int), .func (.func 67) #[] #[.pointer (some ⟨bx, 0, none⟩)]] w fun e w' =>
      e = .returned (.tuple #[]) ∧ Own w' B (some ⟨g, 0, none⟩) (m + 1) cap (carsTo xs P) ∧ w.grownBy w' (some g) := by
  have hown := h
  obtain ⟨⟨h1, h2⟩, h3, h4⟩ := h
  rcases h2 with ⟨hv, _⟩ | ⟨g', cap', cur, hv, hg, hh, hnc, hcm, hcs, htake⟩
  · simp at hv
  · simp at hv
    obtain ⟨rfl, rfl⟩ := hv
    have hlen : (allFin m).length = m + 1 := by simp [allFin]
    have hH : Go.Sort.Holds (encF m) w g 0 (allFin m).toArray := holds_of_cells hh (by rw [hlen, allFin_enc]; simpa using htake)
    have hlt : g < w.heap.size := (Array.getElem?_eq_some_iff.1 hh).1
    have eg : ∀ args w, (callFunc 67 args).run Try.prog w = .ok (.enter 67 args) w := by intro args w; go_simp
    have hcmp : CmpReads Try.prog 67 #[.pointer (some ⟨bx, 0, none⟩)] (encF m) (fun x y => cmpI (nth xs x.val) (nth xs y.val)) g 0 (allFin m).toArray.size w := by
      intro q os dk _ x y
      have hgr : w.grownBy (sortWorld (encF m) w g 0 q dk os) (some g) := grownBy_sortedE (encF m) dk
      have hx' := hx.kept hgr hal
      have hb' : (sortWorld (encF m) w g 0 q dk os).cell? ⟨bx, 0, none⟩ = some (.slice al (m + 1) cl) := hgr.cell hbx (by simpa using hbg)
      refine (wcmp_any bx al (m + 1) cl xs x.val y.val _ hb' hx' x.isLt y.isLt).mono ?_
      rintro e w' ⟨rfl, q2, rfl⟩
      exact ⟨rfl, q2, rfl⟩
    have hs := Try.insertionSortCmpFunc_one (encF m) (fun _ => rfl) (fun x y => cmpI (nth xs x.val) (nth xs y.val)) 67 #[.pointer (some ⟨bx, 0, none⟩)] g 0 cap 0 (m + 1) (allFin m).toArray w eg hcmp hH (Nat.zero_le _) (by simp [allFin]) (by simp [allFin]; omega)
    have hsz : (allFin m).toArray.size = m + 1 := by simp [allFin]
    simp only [hsz] at hs
    refine hs.mono ?_
    rintro e w' ⟨rfl, q, rfl⟩
    rw [← sortWorld_none]
    have hlt' : (ltOf fun x y : Fin (m + 1) => cmpI (nth xs x.val) (nth xs y.val)) = fun x y => decide (nth xs x.val < nth xs y.val) := by
      funext x y
      have := ltOf_cmpI (nth xs x.val) (nth xs y.val)
      simpa [ltOf] using this
    have hsort := sort_carsP hl (by omega) hbd
    rw [← hlt'] at hsort
    generalize insertionSort (ltOf fun x y : Fin (m + 1) => cmpI (nth xs x.val) (nth xs y.val)) (allFin m).toArray 0 (m + 1) = d' at hsort ⊢
    have hcl : (carsTo xs P).length = m + 1 := length_carsP hl (by omega) hbd
    have hdl : d'.toList.length = m + 1 := by
      have h5 := congrArg List.length hsort
      rw [List.length_map, hcl] at h5
      exact h5
    have henc : d'.toList.map (encF m) = (carsTo xs P).map (Value.int .i64) := by
      rw [← hsort, List.map_map]
      rfl
    refine ⟨rfl, ⟨⟨by simp [hcl], .inr ⟨g, cap, _, rfl, hg, heap_sortedE _ d' hh, hnc, hcm, by simpa [putCells] using hcs, ?_⟩⟩, hcl, h4⟩, grownBy_sortedE _ d'⟩
    rw [Nat.mul_one, ← henc]
    have := take_putCellsE (encF m) cur d'.toList (by omega)
    rw [toArr, hdl] at this
    exact this

set_option maxHeartbeats 1000000 in
theorem stableCarsP_any (P B m g cap bx : Nat) (al : Option Addr) (cl : Nat) (xs : List Int) (w : World) (h8 : m + 1 ≤ 8) (hl : xs.length = m + 1) (hbd : ∀ c, c < m + 1 → 0 ≤ nth xs c ∧ nth xs c < (P : Int))
    (h : Own w B (some ⟨g, 0, none⟩) (m + 1) cap (upto (m + 1))) (hx : Has w al (m + 1) cl xs) (hal : ∀ p, al = some p → p.block ≠ g) (hbx : w.cell? ⟨bx, 0, none⟩ = some (.slice al (m + 1) cl)) (hbg : bx ≠ g) :
    Calls Try.prog 66 #[.slice (some ⟨g, 0, none⟩) (m + 1) cap, .func (.func 67) #[] #[.pointer (some ⟨bx, 0, none⟩)]] w fun e w' =>
      e = .returned (.tuple #[]) ∧ Own w' B (some ⟨g, 0, none⟩) (m + 1) cap (carsTo xs P) ∧ w.grownBy w' (some g) := by
  have hins := insCarsP_any P B g m cap bx al cl xs w h8 hl hbd h hx hal hbx hbg
  have HI := hid hins
  clear hins h hx hal hbx hbg hbd
  have hst : Calls Try.prog 82 #[.slice (some ⟨g, 0, none⟩) (m + 1) cap, .int .i64 ((m + 1 : Nat) : Int), .func (.func 67) #[] #[.pointer (some ⟨bx, 0, none⟩)]] w fun e w' =>
      e = .returned (.tuple #[]) ∧ Own w' B (some ⟨g, 0, none⟩) (m + 1) cap (carsTo xs P) ∧ w.grownBy w' (some g) := by
    have hn1 : ¬ (20 : Int) ≤ ((m + 1 : Nat) : Int) := by omega
    have hn2 : ¬ (20 : Int) < ((m + 1 : Nat) : Int) := by omega
    go_enter Try.func82, Try.ntmps82
    go_wp2
    refine wp_loop_rounds 1 ?_
    rw [rounds_succ]
    go_wp2_with (go_at_call 87; refine HI.out.mono ?_; rintro e w1 ⟨rfl, hq1, hq2⟩)
    refine wp_loop_rounds 1 ?_
    rw [rounds_succ]
    go_wp2
    all_goals first | (exfalso; omega) | (go_end0; exact ⟨rfl, hq1, hq2⟩)
  go_enter Try.func66, Try.ntmps66
  go_wp2_with fail
  refine hst.mono ?_
  rintro e w1 ⟨rfl, hq1, hq2⟩
  go_wp2_with fail
  go_end0
  exact ⟨rfl, hq1, hq2⟩

/-- The stable sort of the cars in order. -/
theorem sortCarsP_any (P B n : Nat) (a al : Option Addr) (cap cl bx : Nat) (xs : List Int) (w : World) (h8 : n ≤ 8) (hl : xs.length = n) (hbd : ∀ c, c < n → 0 ≤ nth xs c ∧ nth xs c < (P : Int)) (hBw : B ≤ w.heap.size)
    (h : Own w B a n cap (upto n)) (hx : Has w al n cl xs) (hal : 0 < n → BlkLt al B) (hbx : w.cell? ⟨bx, 0, none⟩ = some (.slice al n cl)) (hbg : bx < B) :
    Calls Try.prog 66 #[.slice a n cap, .func (.func 67) #[] #[.pointer (some ⟨bx, 0, none⟩)]] w fun e w' =>
      e = .returned (.tuple #[]) ∧ Own w' B a n cap (carsTo xs P) ∧ Below B w w' := by
  by_cases hn : n = 0
  · subst hn
    refine (stableNone_any _ _ _ _).mono ?_
    rintro e w1 ⟨rfl, rfl⟩
    exact ⟨rfl, by rw [cars_of_none hl]; exact h, Below.refl _ _⟩
  · obtain ⟨m, rfl⟩ : ∃ m, n = m + 1 := ⟨n - 1, by omega⟩
    obtain ⟨g, rfl, hg1, hg2, _, _⟩ := h.opened (by omega)
    refine (stableCarsP_any P B m g cap bx al cl xs w h8 hl hbd h hx ((hal (by omega)).ne9 hg1) hbx (by omega)).mono ?_
    rintro e w1 ⟨rfl, ho, hgr⟩
    exact ⟨rfl, ho, below_grown hgr hBw (fun k hk => by simp at hk; omega)⟩

set_option maxHeartbeats 1000000 in
theorem carsByP_any (P : Nat) (a : Option Addr) (n cap : Nat) (xs : List Int) (w : World) (h : Has w a n cap xs) (h8 : n ≤ 8) (hbd : ∀ c, c < n → 0 ≤ nth xs c ∧ nth xs c < (P : Int)) :
    Calls Try.prog 38 #[.slice a n cap] w fun e w' => ∃ a2 c2, e = .returned (.slice a2 n c2) ∧ Own w' w.heap.size a2 n c2 (carsTo xs P) ∧ Below w.heap.size w w' := by
  have HL := hid h.len
  have HBD := hid hbd
  have hle := h.le
  clear hbd
  go_enter Try.func38, Try.ntmps38
  go_wp2_with fail
  generalize hW : w.alloc (.cells #[.slice a n cap] 22) = W
  have hbW : Below w.heap.size w W := by rw [← hW]; exact (Below.refl _ w).alloc (Nat.le_refl _) _
  have hsz : W.heap.size = w.heap.size + 1 := by rw [← hW]; simp
  have hbx : W.cell? ⟨w.heap.size, 0, none⟩ = some (.slice a n cap) := by rw [← hW, World.cell?_alloc_at _ _ _ _ rfl]; rfl
  clear hW
  refine (indices_any n _ (by omega)).mono ?_
  rintro e w2 ⟨a2, c2, rfl, own2, st⟩
  have hs2 := st.size
  replace hbx : w2.cell? ⟨w.heap.size, 0, none⟩ = some (.slice a n cap) := by rw [st.cell (p := ⟨w.heap.size, 0, none⟩) (by simp; omega)]; exact hbx
  have hb2 := hbW.trans (st.mono hbW.size)
  clear st hbW
  go_wp2_with fail
  refine (sortCarsP_any P W.heap.size n a2 a c2 cap w.heap.size xs w2 h8 HL.out HBD.out hs2 own2 (h.below hb2 (Nat.le_refl _)) (fun hn => (h.lt hn).mono9 (by omega)) hbx (by omega)).mono ?_
  rintro e w3 ⟨rfl, own3, st⟩
  have hb3 := hb2.trans (st.mono (by omega))
  clear st hb2 own2
  go_wp2_with fail
  go_ret
  exact ⟨_, _, rfl, own3.mono (by omega), hb3⟩
end Go.Proofs.Ytehdccfkkfkciac

namespace Go.Proofs.Ytehdccfkkfkciac
open Go.RowKit

theorem fairOf_yes {xs : List Int} {p : Int} (h : (good xs p && allPark p xs) = true) : fairOf xs p = (fairL xs, true) := by simp only [fairOf, if_pos h]
theorem fairOf_no {xs : List Int} {p : Int} (h : ¬ (good xs p && allPark p xs) = true) : fairOf xs p = ([], false) := by simp only [fairOf, if_neg h]
set_option maxHeartbeats 800000 in
theorem implFair_any (a : Option Addr) (n cap : Nat) (xs : List Int) (p : Int) (w : World) (h : Has w a n cap xs) :
    Calls Try.prog 10 #[.slice a n cap, .int .i64 p] w (PostInts w (fairOf xs p)) := by
  by_cases hg : (good xs p && allPark p xs) = true
  · have HR := hid (fairOf_yes hg)
    have HD := hid (drive_yes hg)
    obtain ⟨g1, g12⟩ := good12 (Bool.and_eq_true_iff.1 hg).1 h.len
    clear hg
    go_enter Try.func10, Try.ntmps10
    go_wp2_with fail
    refine (driveCars_any _ _ _ _ _ _ h).mono ?_
    rw [HD.out]
    rintro e w1 ⟨a1, m, cap1, rfl, hown, hb⟩
    go_wp2_with fail
    refine (carsByP_any 12 _ _ _ _ _ (h.below hb (Nat.le_refl _)) g1 g12).mono ?_
    rintro e w2 ⟨a2, c2, rfl, hown2, hb2⟩
    go_wp2_with fail
    go_ret2
    exact postInts HR.out (hown2.mono hb.size) (hb.trans (hb2.mono hb.size))
  · have HR := hid (fairOf_no hg)
    have HD := hid (drive_no hg)
    clear hg
    go_enter Try.func10, Try.ntmps10
    go_wp2_with fail
    refine (driveCars_any _ _ _ _ _ _ h).mono ?_
    rw [HD.out]
    rintro e w1 ⟨a1, m, cap1, rfl, hown, hb⟩
    go_wp2_with fail
    go_ret2
    exact postInts_no HR.out hb
theorem great_at {xs os : List Int} {p : Int} (h : (good xs p && allPark p xs) = true) (ho : os.Perm (upto xs.length)) : greatOf (reordL xs os) p = (greatL (dists p (reordL xs os)), true) := by
  simp only [greatOf, if_pos (reord_park h ho)]
set_option maxHeartbeats 800000 in
theorem implLeast9_any (a : Option Addr) (n cap : Nat) (xs : List Int) (p : Int) (w : World) (h : Has w a n cap xs) :
    Calls Try.prog 17 #[.slice a n cap, .int .i64 p] w (PostInt w (leastGr xs p)) := by
  by_cases hg : (good xs p && allPark p xs) = true
  · have HR : Hid (leastGr xs p = (greatL (dists p (reordL xs (fairL xs))), true)) := hid (by simp only [leastGr, if_pos hg])
    have HD := hid (fairOf_yes hg)
    obtain ⟨g1, g12⟩ := good12 (Bool.and_eq_true_iff.1 hg).1 h.len
    have HG : Hid (greatOf (reordL xs (fairL xs)) p = (greatL (dists p (reordL xs (fairL xs))), true)) := hid (great_at hg (by rw [h.len]; exact carsP_perm h.len (by omega) g12))
    have HN := hid (fun k (hk : k < n) => fair_cars h.len g1 g12 hk)
    have HLF : Hid ((fairL xs).length = n) := hid (length_carsP h.len (by omega) g12)
    clear hg
    go_enter Try.func17, Try.ntmps17
    go_wp2_with fail
    refine (implFair_any _ _ _ _ _ _ h).mono ?_
    rw [HD.out]
    rintro e w1 ⟨a1, m, cap1, rfl, hown, hb⟩
    obtain rfl : n = m := by rw [← HLF.out]; exact hown.len
    go_wp2_with fail
    refine (reordered_any _ _ _ _ _ _ _ _ _ (h.below hb (Nat.le_refl _)) hown.has HN.out).mono ?_
    rintro e w2 ⟨a2, c2, rfl, hown2, hb2⟩
    have hb12 := hb.trans (hb2.mono hb.size)
    go_wp2_with fail
    refine (greatest_any _ _ _ _ _ _ hown2.has).mono ?_
    rw [HG.out]
    rintro e w3 ⟨rfl, hb3⟩
    go_wp2_with fail
    go_ret2
    exact postInt HR.out (hb12.trans (hb3.mono hb12.size))
  · have HR : Hid (leastGr xs p = (0, false)) := hid (by simp only [leastGr, if_neg hg])
    have HD := hid (fairOf_no hg)
    clear hg
    go_enter Try.func17, Try.ntmps17
    go_wp2_with fail
    refine (implFair_any _ _ _ _ _ _ h).mono ?_
    rw [HD.out]
    rintro e w1 ⟨a1, m, cap1, rfl, hown, hb⟩
    go_wp2_with fail
    go_ret2
    exact postInt HR.out hb
end Go.Proofs.Ytehdccfkkfkciac

namespace Go.Proofs.Ytehdccfkkfkciac
open Go.RowKit

/-- Whether the bytes are too many. -/
def Big (n m : Nat) (w : World) (e : Ending) (w' : World) : Prop := ∃ r : Bool, e = .returned (.bool r) ∧ (r = false → n + m ≤ 1048576) ∧ w = w'

theorem big_any (a b : Option Addr) (n m cap cap' : Nat) (w : World) (hn : n ≤ 9223372036854775807) :
    Calls Try.prog 20 #[.slice a n cap, .slice b m cap'] w (Big n m w) := by
  by_cases h1 : (1048576 : Int) < (n : Int)
  · go_enter Try.func20, Try.ntmps20
    go_wp2_with fail
    go_ret
    exact ⟨true, ret_bool (by simp), by simp, rfl⟩
  · by_cases h2 : (1048576 : Int) - n < (m : Int)
    · go_enter Try.func20, Try.ntmps20
      go_wp2_with fail
      go_ret
      exact ⟨true, ret_bool (by simp), by simp, rfl⟩
    · go_enter Try.func20, Try.ntmps20
      go_wp2_with fail
      go_ret
      exact ⟨false, ret_bool (by simp), fun _ => by omega, rfl⟩

set_option maxHeartbeats 400000 in
theorem numberOf_any (a : Option Addr) (n cap K : Nat) (w : World) (h : HasB w a n K) :
    Calls Try.prog 31 #[.slice a n cap] w fun e w' => ∃ v : Int, e = .returned (.int .i64 v) ∧ 0 ≤ v ∧ v ≤ 1000002 ∧ w = w' := by
  obtain ⟨hn, h4⟩ := h
  go_enter Try.func31, Try.ntmps31
  go_wp2_with fail
  go_loop [3, 8] (fun c i => ∃ (k : Nat) (v : Int), k ≤ n ∧ i = .int .i64 k ∧ c = .int .i64 v ∧ 0 ≤ v ∧ v ≤ 1000002) (fun _ i => n - (intOf i).toNat)
  case atStart => exact ⟨0, 0, Nat.zero_le _, rfl, rfl, by omega, by omega⟩
  case round =>
    obtain ⟨k, v, hk, rfl, rfl, v0, v1⟩ := hrel
    by_cases hlt : k < n
    · obtain ⟨b, off, rfl, hb, hc⟩ := h4 (by omega)
      obtain ⟨u, u0, u1, hck⟩ := hc k hlt
      clear hc h4
      have m0 : 0 ≤ (31 * v + u) % 1000003 := Int.emod_nonneg _ (by omega)
      have m1 : (31 * v + u) % 1000003 ≤ 1000002 := by omega
      go_wp2_with fail
      go_round
      case rel => exact ⟨k + 1, (31 * v + u) % 1000003, by omega, by go_num, rfl, m0, m1⟩
      case measure => simp [intOf]; omega
    · go_wp2_with fail
      go_ret
      exact ⟨v, rfl, v0, v1, rfl⟩

set_option maxHeartbeats 400000 in
theorem jSum_any (a : Option Addr) (n cap : Nat) (ys : List Int) (w : World) (h : Has w a n cap ys) (hs : Small ys) :
    Calls Try.prog 29 #[.slice a n cap] w fun e w' => e = .returned (.int .i64 (total ys)) ∧ w = w' := by
  obtain ⟨h0, h1, h2, h3, h4⟩ := h
  go_enter Try.func29, Try.ntmps29
  go_wp2_with fail
  go_loop [3, 8] (fun c i => ∃ k : Nat, k ≤ n ∧ i = .int .i64 k ∧ c = .int .i64 (total (ys.take k))) (fun _ i => n - (intOf i).toNat)
  case atStart => exact ⟨0, Nat.zero_le _, rfl, rfl⟩
  case round =>
    obtain ⟨k, hk, rfl, rfl⟩ := hrel
    by_cases hlt : k < n
    · obtain ⟨b, off, rfl, hb, hc⟩ := h4 (by omega)
      have hck := hc k hlt
      have ht := total_bounds hs k (by omega)
      obtain ⟨hv0, hv1⟩ := hs k (by omega)
      have HS := hid (total_succ (xs := ys) (k := k) (by omega))
      clear hc h4 hs
      go_wp2_with fail
      go_round
      case rel => exact ⟨k + 1, by omega, by go_num, by rw [HS.out]⟩
      case measure => simp [intOf]; omega
    · obtain rfl : k = n := by omega
      go_wp2_with fail
      go_ret
      exact ⟨ret_int (by rw [List.take_of_length_le (by omega)]), rfl⟩

set_option maxHeartbeats 400000 in
theorem jSame_any (a b : Option Addr) (n m cap cap' : Nat) (xs ys : List Int) (w : World) (h : Has w a n cap xs) (h' : Has w b m cap' ys) :
    Calls Try.prog 24 #[.slice a n cap, .slice b m cap'] w fun e w' => e = .returned (.bool (same xs ys)) ∧ Quiet w w' := by
  obtain ⟨h0, h1, h2, h3, h4⟩ := h
  obtain ⟨k0, k1, k2, k3, k4⟩ := h'
  by_cases hnm : n = m
  · have hb : ((n : Int) != (m : Int)) = false := by simp [hnm]
    subst hnm
    go_enter Try.func24, Try.ntmps24
    go_wp2_with fail
    go_loopw [13] (fun i wr => ∃ k : Nat, k ≤ n ∧ i = .int .i64 k ∧ FromTo xs ys k ∧ Quiet w wr) (fun i _ => n - (intOf i).toNat)
    case atStart => exact ⟨0, Nat.zero_le _, rfl, fun i hi => by omega, ⟨0, rfl⟩⟩
    case round =>
      obtain ⟨k, hk, rfl, hft, q, hq⟩ := hrel
      subst hq
      by_cases hlt : k < n
      · obtain ⟨b1, off1, rfl, hb1, hc1⟩ := h4 (by omega)
        obtain ⟨b2, off2, rfl, hb2, hc2⟩ := k4 (by omega)
        have hck := hc1 k hlt
        have hdk := hc2 k hlt
        have hkk : (k : Int) < (n : Int) := by omega
        have hkz : (0 : Int) ≤ (k : Int) := by omega
        clear hc1 hc2 h4 k4
        by_cases he : nth xs k = nth ys k
        · have hbe : (nth xs k != nth ys k) = false := by simp [he]
          have HE := hid he
          clear he
          go_wp2_with fail
          go_quiet (fail)
          go_wp2_with fail
          go_roundw
          case rel => exact ⟨k + 1, by omega, by go_num, fun i hi => by rcases Nat.lt_succ_iff_lt_or_eq.1 hi with h | rfl; exact hft i h; exact HE.out.symm, ⟨_, rfl⟩⟩
          case measure => simp [intOf]; omega
        · have hbe : (nth xs k != nth ys k) = true := by simp [he]
          have HE := hid he
          clear he
          go_wp2_with fail
          go_quiet (fail)
          go_wp2_with fail
          go_ret
          exact ⟨ret_bool (same_no HE.out).symm, (Quiet.more ⟨_, rfl⟩ _)⟩
      · obtain rfl : k = n := by omega
        go_wp2_with fail
        go_ret
        exact ⟨ret_bool (same_yes (by omega) (by rw [h0]; exact hft)).symm, ⟨_, rfl⟩⟩
  · have hb : ((n : Int) != (m : Int)) = true := by simp; omega
    go_enter Try.func24, Try.ntmps24
    go_wp2_with fail
    go_ret
    exact ⟨ret_bool (show false = same xs ys from by unfold same; symm; rw [decide_eq_false_iff_not]; rintro rfl; omega), ⟨0, rfl⟩⟩

set_option maxHeartbeats 800000 in
theorem jSwapped_any (a : Option Addr) (n cap : Nat) (xs : List Int) (i : Nat) (w : World) (h : Has w a n cap xs) (hi : i + 1 < n) :
    Calls Try.prog 30 #[.slice a n cap, .int .i64 i] w fun e w' => ∃ a' cap', e = .returned (.slice a' n cap') ∧ Own w' w.heap.size a' n cap' (swapped xs i) ∧ Below w.heap.size w w' := by
  have hle := h.le
  have hb0 : Below w.heap.size w (w.alloc (.cells #[] 3)) := (Below.refl _ _).alloc (Nat.le_refl _) _
  go_enter Try.func30, Try.ntmps30
  go_wp2_with (at_builtin; refine wpList_append_ints _ rfl _ _ rfl w.heap.size _ _ _ _ _ _ [] xs rfl rfl (own_lit0 w _ (Nat.le_refl _)) (h.below hb0 (Nat.le_refl _)) (by omega) (by simp) ?_; intro a2 n2 cap2 w2 hn2 hown2 hb2)
  obtain rfl : n2 = n := by omega
  simp only [List.nil_append] at hown2
  clear hn2
  obtain ⟨g, rfl, hg, hgl, hc, hf⟩ := hown2.opened (by omega)
  have hci := hc i (by omega)
  have hcj := hc (i + 1) (by omega)
  have hfi := hf i
  have hfj := hf (i + 1)
  have HO := hid hown2
  have hi1 : (i : Int) + 1 < (n2 : Int) := by omega
  have hi2 : (i : Int) < (n2 : Int) := by omega
  clear hc hf hown2
  go_wp2_with fail
  go_quiet (fail)
  go_wp2_with fail
  go_ret
  obtain ⟨s1, s2⟩ := HO.out.set i (nth xs (i + 1))
  obtain ⟨s3, s4⟩ := s1.set (i + 1) (nth xs i)
  exact ⟨_, _, rfl, s3, (hb0.trans hb2).trans (((((Quiet.rfl' w2).more nq).below w.heap.size).setCell (p := ⟨g, i, none⟩) (by simpa using hg) _).setCell (p := ⟨g, i + 1, none⟩) (by simpa using hg) _)⟩
end Go.Proofs.Ytehdccfkkfkciac

namespace Go.Proofs.Ytehdccfkkfkciac
open Go.RowKit

/-- One of two lists. -/
theorem one_of {W : World} {b n j : Nat} {a a' : Option Addr} {c c' : Nat} {xs ys : List Int} {Q : List Int → Prop} (hj : j < 2) (h0 : W.cell? ⟨b, 0, none⟩ = some (.slice a n c)) (h1 : W.cell? ⟨b, 1, none⟩ = some (.slice a' n c')) (hx : Has W a n c xs) (hy : Has W a' n c' ys) (qx : Q xs) (qy : Q ys) :
    ∃ ay cy zs, W.cell? ⟨b, 0 + j, none⟩ = some (.slice ay n cy) ∧ Has W ay n cy zs ∧ Q zs := by
  by_cases e : j = 0
  · subst e; exact ⟨a, c, xs, h0, hx, qx⟩
  · obtain rfl : j = 1 := by omega
    exact ⟨a', c', ys, h1, hy, qy⟩

set_option maxRecDepth 100000 in
set_option maxHeartbeats 16000000 in
theorem valets_walk (a b : Option Addr) (n m cap cap' : Nat) (w : World) (hn : n ≤ maxLen) (h : n ≤ 1048576 → HasB w a n w.heap.size) (h' : m ≤ 1048576 → HasB w b m w.heap.size) :
    Calls Try.prog 7 #[.slice a n cap, .slice b m cap'] w (Holds w) := by
  have H1 := hid h
  have H2 := hid h'
  have HN := hid hn
  clear h h' hn
  have hB : Below w.heap.size w w := Below.refl _ _
  go_enter Try.func7, Try.ntmps7
  go_wp2_with fail
  refine (big_any _ _ _ _ _ _ _ (by have := HN.out; unfold maxLen at this; omega)).mono ?_
  rintro e _ ⟨r, rfl, hr, rfl⟩
  have HR := hid hr
  clear hr
  cases r with
  | true =>
    go_wp2_with fail
    go_ret
    exact ⟨rfl, hB⟩
  | false =>
    have hnm := HR.out rfl
    clear HR
    have HA := hid (H1.out (by omega))
    have HM := hid (H2.out (by omega))
    clear H1 H2 HN
    go_wp2_with fail
    refine (drawLeastGr_any _ _ _ _ HA.out).mono ?_
    rintro e v1 ⟨a_l, n_l, c_l, xs, p, rfl, o_l, hnl, p0, p1, st⟩
    replace hB := hB.trans (st.mono hB.size)
    clear st
    by_cases hP : (good xs p && allPark p xs) = true
    · skip
      obtain ⟨L, K, M, t, os, ys, ws, f1, f2, f3, f4, f5, f6, f7, f8, f9, n8, f11, f12, f13, f14, f15⟩ := valet_facts hP o_l.len
      have HLG := hid f1
      have HLK := hid f2
      have HFO := hid f4
      have HWO := hid f5
      have HT := hid f6
      have HWT := hid f7
      have HSW := hid f8
      have HRY := hid f11
      have HYL := hid f12
      have HYS := hid f13
      have HO1 := hid f14
      have HO2 := hid f15
      have hL1 := neq_self_int L
      have hK1 := neq_self_int K
      have hM1 := neq_self_int M
      have ht1 := neq_self_int t
      clear f1 f2 f4 f5 f6 f7 f8 f11 f12 f13 f14 f15 hP
      by_cases hsix : n_l ≤ 6
      · skip
        rw [if_pos hsix] at f3
        have HMG := hid f3
        have hLM : decide (M < L) = false := by have := f9 hsix; simp; omega
        have g6 : decide ((n_l : Int) ≤ 6) = true := by simp; omega
        clear f3 f9
        go_wp2_with fail
        refine (implLeast9_any _ _ _ _ _ _ o_l.has).mono ?_
        rw [HLG.out]
        rintro e v2 ⟨rfl, st⟩
        replace o_l := o_l.below st (Nat.le_refl _)
        replace hB := hB.trans (st.mono hB.size)
        clear st
        go_wp2_with fail
        refine (specLeast9_any _ _ _ _ _ _ o_l.has).mono ?_
        rw [HLG.out]
        rintro e v3 ⟨rfl, st⟩
        replace o_l := o_l.below st (Nat.le_refl _)
        replace hB := hB.trans (st.mono hB.size)
        clear st
        go_wp2_with fail
        refine (implMost_any _ _ _ _ _ _ o_l.has).mono ?_
        rw [HMG.out]
        rintro e v4 ⟨rfl, st⟩
        replace o_l := o_l.below st (Nat.le_refl _)
        replace hB := hB.trans (st.mono hB.size)
        clear st
        go_wp2_with fail
        refine (specMost_any _ _ _ _ _ _ o_l.has).mono ?_
        rw [HMG.out]
        rintro e v5 ⟨rfl, st⟩
        replace o_l := o_l.below st (Nat.le_refl _)
        replace hB := hB.trans (st.mono hB.size)
        clear st
        go_wp2_with fail
        refine (implLuckyM_any _ _ _ _ _ _ o_l.has).mono ?_
        rw [HLK.out]
        rintro e v6 ⟨rfl, st⟩
        replace o_l := o_l.below st (Nat.le_refl _)
        replace hB := hB.trans (st.mono hB.size)
        clear st
        go_wp2_with fail
        refine (specLuckyM_any _ _ _ _ _ _ o_l.has).mono ?_
        rw [HLK.out]
        rintro e v7 ⟨rfl, st⟩
        replace o_l := o_l.below st (Nat.le_refl _)
        replace hB := hB.trans (st.mono hB.size)
        clear st
        go_wp2_with fail
        refine (implFair_any _ _ _ _ _ _ o_l.has).mono ?_
        rw [HFO.out]
        rintro e v8 ⟨a_f, n_f, c_f, rfl, o_f, st⟩
        replace o_l := o_l.below st (Nat.le_refl _)
        replace hB := hB.trans (st.mono hB.size)
        clear st
        go_wp2_with fail
        refine (specFair_any _ _ _ _ _ _ o_l.has).mono ?_
        rw [HFO.out]
        rintro e v9 ⟨a_q, n_q, c_q, rfl, o_q, st⟩
        replace o_l := o_l.below st (Nat.le_refl _)
        replace o_f := o_f.below st (Nat.le_refl _)
        replace hB := hB.trans (st.mono hB.size)
        clear st
        go_wp2_with fail
        refine (implWaits_any _ _ _ _ _ _ o_l.has).mono ?_
        rw [HWO.out]
        rintro e v10 ⟨a_w, n_w, c_w, rfl, o_w, st⟩
        replace o_l := o_l.below st (Nat.le_refl _)
        replace o_f := o_f.below st (Nat.le_refl _)
        replace o_q := o_q.below st (Nat.le_refl _)
        replace hB := hB.trans (st.mono hB.size)
        clear st
        go_wp2_with fail
        refine (specWaits_any _ _ _ _ _ _ o_l.has).mono ?_
        rw [HWO.out]
        rintro e v11 ⟨a_x, n_x, c_x, rfl, o_x, st⟩
        replace o_l := o_l.below st (Nat.le_refl _)
        replace o_f := o_f.below st (Nat.le_refl _)
        replace o_q := o_q.below st (Nat.le_refl _)
        replace o_w := o_w.below st (Nat.le_refl _)
        replace hB := hB.trans (st.mono hB.size)
        clear st
        go_wp2_with fail
        refine (jSame_any _ _ _ _ _ _ _ _ _ o_f.has o_q.has).mono ?_
        rintro e v12 ⟨rfl, q⟩
        have st : Below v11.heap.size v11 v12 := q.below _
        replace o_l := o_l.below st (Nat.le_refl _)
        replace o_f := o_f.below st (Nat.le_refl _)
        replace o_q := o_q.below st (Nat.le_refl _)
        replace o_w := o_w.below st (Nat.le_refl _)
        replace o_x := o_x.below st (Nat.le_refl _)
        replace hB := hB.trans (st.mono hB.size)
        clear st
        clear q
        rw [same_self]
        clear o_q
        go_wp2_with fail
        refine (jSame_any _ _ _ _ _ _ _ _ _ o_w.has o_x.has).mono ?_
        rintro e v13 ⟨rfl, q⟩
        have st : Below v12.heap.size v12 v13 := q.below _
        replace o_l := o_l.below st (Nat.le_refl _)
        replace o_f := o_f.below st (Nat.le_refl _)
        replace o_w := o_w.below st (Nat.le_refl _)
        replace o_x := o_x.below st (Nat.le_refl _)
        replace hB := hB.trans (st.mono hB.size)
        clear st
        clear q
        rw [same_self]
        clear o_x
        go_wp2_with fail
        refine (drawReorder_any b m cap' _ (HM.out.grow hB (Nat.le_refl _))).mono ?_
        rintro e v14 ⟨a_a, n_a, c_a, us, a_b, n_b, c_b, bs, rfl, o_a, o_b, hna, hnb, st⟩
        replace o_l := o_l.below st (Nat.le_refl _)
        replace o_f := o_f.below st (Nat.le_refl _)
        replace o_w := o_w.below st (Nat.le_refl _)
        replace hB := hB.trans (st.mono hB.size)
        clear st
        obtain ⟨⟨rs, rb⟩, hr⟩ : ∃ r, reorderOf us bs = r := ⟨_, rfl⟩
        have HRO := hid hr
        have hrb : (rb != rb) = false := by cases rb <;> rfl
        clear hr
        go_wp2_with fail
        refine (implReorder_any _ _ _ _ _ _ _ _ _ o_a.has o_b.has).mono ?_
        rw [HRO.out]
        rintro e v15 ⟨a_r, n_r, c_r, rfl, o_r, st⟩
        replace o_l := o_l.below st (Nat.le_refl _)
        replace o_f := o_f.below st (Nat.le_refl _)
        replace o_w := o_w.below st (Nat.le_refl _)
        replace o_a := o_a.below st (Nat.le_refl _)
        replace o_b := o_b.below st (Nat.le_refl _)
        replace hB := hB.trans (st.mono hB.size)
        clear st
        go_wp2_with fail
        refine (specReorder_any _ _ _ _ _ _ _ _ _ o_a.has o_b.has).mono ?_
        rw [HRO.out]
        rintro e v16 ⟨a_s, n_s, c_s, rfl, o_s, st⟩
        replace o_l := o_l.below st (Nat.le_refl _)
        replace o_f := o_f.below st (Nat.le_refl _)
        replace o_w := o_w.below st (Nat.le_refl _)
        replace o_a := o_a.below st (Nat.le_refl _)
        replace o_b := o_b.below st (Nat.le_refl _)
        replace o_r := o_r.below st (Nat.le_refl _)
        replace hB := hB.trans (st.mono hB.size)
        clear st
        clear o_a o_b
        go_wp2_with fail
        refine (jSame_any _ _ _ _ _ _ _ _ _ o_r.has o_s.has).mono ?_
        rintro e v17 ⟨rfl, q⟩
        have st : Below v16.heap.size v16 v17 := q.below _
        replace o_l := o_l.below st (Nat.le_refl _)
        replace o_f := o_f.below st (Nat.le_refl _)
        replace o_w := o_w.below st (Nat.le_refl _)
        replace o_r := o_r.below st (Nat.le_refl _)
        replace o_s := o_s.below st (Nat.le_refl _)
        replace hB := hB.trans (st.mono hB.size)
        clear st
        clear q
        rw [same_self]
        clear o_r o_s
        go_wp2_with fail
        refine (totalDistance_any _ _ _ _ _ _ o_l.has).mono ?_
        rw [HT.out]
        rintro e v18 ⟨rfl, st⟩
        replace o_l := o_l.below st (Nat.le_refl _)
        replace o_f := o_f.below st (Nat.le_refl _)
        replace o_w := o_w.below st (Nat.le_refl _)
        replace hB := hB.trans (st.mono hB.size)
        clear st
        go_wp2_with fail
        refine (jSum_any _ _ _ _ _ o_w.has HSW.out).mono ?_
        rintro e _ ⟨rfl, rfl⟩
        rw [HWT.out]
        by_cases hn1 : 1 < n_l
        · skip
          go_wp2_with fail
          refine (numberOf_any _ _ _ w.heap.size _ (HM.out.below hB)).mono ?_
          rintro e _ ⟨z, rfl, z0, z1, rfl⟩
          obtain ⟨i, hi⟩ : ∃ i : Nat, z % ((n_l : Int) - 1) = (i : Int) := ⟨_, (Int.toNat_of_nonneg (Int.emod_nonneg _ (by omega))).symm⟩
          have hi2 : i + 1 < n_l := by have := Int.emod_lt_of_pos z (show 0 < (n_l : Int) - 1 by omega); omega
          go_wp2_with fail
          rw [hi]
          refine (jSwapped_any _ _ _ xs i _ o_l.has hi2).mono ?_
          rintro e v19 ⟨a_v, c_v, rfl, o_v, st⟩
          replace o_l := o_l.below st (Nat.le_refl _)
          replace o_f := o_f.below st (Nat.le_refl _)
          replace o_w := o_w.below st (Nat.le_refl _)
          replace hB := hB.trans (st.mono hB.size)
          clear st
          obtain ⟨V, hV0⟩ : ∃ V, v19.alloc (.cells #[.slice a_l n_l c_l, .slice a_v n_l c_v] 22) = V := ⟨_, rfl⟩
          have st : Below v19.heap.size v19 V := by rw [← hV0]; exact (Below.refl _ _).alloc (Nat.le_refl _) _
          have hc0 : V.cell? ⟨v19.heap.size, 0, none⟩ = some (.slice a_l n_l c_l) := by rw [← hV0, World.cell?_alloc_at _ _ _ _ rfl]; rfl
          have hc1 : V.cell? ⟨v19.heap.size, 1, none⟩ = some (.slice a_v n_l c_v) := by rw [← hV0, World.cell?_alloc_at _ _ _ _ rfl]; rfl
          have hVs : v19.heap.size < V.heap.size := by rw [← hV0]; simp
          have HV0 := hid hV0
          clear hV0
          go_wp2_with fail
          rw [HV0.out]
          clear HV0
          replace o_l := o_l.below st (Nat.le_refl _)
          replace o_f := o_f.below st (Nat.le_refl _)
          replace o_w := o_w.below st (Nat.le_refl _)
          replace o_v := o_v.below st (Nat.le_refl _)
          replace hB := hB.trans (st.mono hB.size)
          clear st
          go_loopw [259] (fun i wr => ∃ j : Nat, j ≤ 2 ∧ i = .int .i64 j ∧ Below V.heap.size V wr) (fun i _ => 2 - (intOf i).toNat)
          case atStart => exact ⟨0, by omega, rfl, Below.refl _ _⟩
          case round =>
            obtain ⟨wo, rfl⟩ : ∃ wo : World, wo = wr := ⟨_, rfl⟩
            obtain ⟨j, hj, rfl, st⟩ := hrel
            have hV := st
            by_cases hlt : j < 2
            · skip
              obtain ⟨ay, cy, zs, hcy, H_y, HO⟩ := one_of (Q := OneOrder p n_l L K M ws) hlt hc0 hc1 o_l.has o_v.has HO1.out (HO2.out i hi2)
              rw [Nat.zero_add] at hcy
              have hcw : wo.cell? ⟨v19.heap.size, j, none⟩ = some (.slice ay n_l cy) := by rw [hV.cell (p := ⟨v19.heap.size, j, none⟩) hVs]; exact hcy
              clear hc0 hc1 hcy
              replace o_l := o_l.below st (Nat.le_refl _)
              replace o_f := o_f.below st (Nat.le_refl _)
              replace o_w := o_w.below st (Nat.le_refl _)
              replace o_v := o_v.below st (Nat.le_refl _)
              replace H_y := H_y.below st (Nat.le_refl _)
              replace hB := hB.trans (st.mono hB.size)
              clear st
              obtain ⟨far, luck, z1, z2, z3, z4, z5, z6, z7, z8⟩ := HO
              have Z1 := hid z1
              have Z2 := hid z2
              have Z4 := hid z4
              have Z7 := hid z7
              have Z8 := hid z8
              clear z1 z2 z4 z7 z8
              go_wp2_with fail
              refine (distancesOf_any _ _ _ _ _ _ H_y).mono ?_
              rw [Z1.out]
              rintro e v20 ⟨a_d, n_d, c_d, rfl, o_d, st⟩
              replace o_l := o_l.below st (Nat.le_refl _)
              replace o_f := o_f.below st (Nat.le_refl _)
              replace o_w := o_w.below st (Nat.le_refl _)
              replace o_v := o_v.below st (Nat.le_refl _)
              replace H_y := H_y.below st (Nat.le_refl _)
              replace hB := hB.trans (st.mono hB.size)
              replace hV := hV.trans (st.mono hV.size)
              clear st
              clear hcw
              go_wp2_with fail
              refine (luckyCars_any _ _ _ _ _ _ H_y).mono ?_
              rw [Z2.out]
              rintro e v21 ⟨a_k, n_k, c_k, rfl, o_k, st⟩
              replace o_l := o_l.below st (Nat.le_refl _)
              replace o_f := o_f.below st (Nat.le_refl _)
              replace o_w := o_w.below st (Nat.le_refl _)
              replace o_v := o_v.below st (Nat.le_refl _)
              replace o_d := o_d.below st (Nat.le_refl _)
              replace H_y := H_y.below st (Nat.le_refl _)
              replace hB := hB.trans (st.mono hB.size)
              replace hV := hV.trans (st.mono hV.size)
              clear st
              go_wp2_with fail
              refine (implWaits_any _ _ _ _ _ _ H_y).mono ?_
              rw [Z4.out]
              rintro e v22 ⟨a_u, n_u, c_u, rfl, o_u, st⟩
              replace o_l := o_l.below st (Nat.le_refl _)
              replace o_f := o_f.below st (Nat.le_refl _)
              replace o_w := o_w.below st (Nat.le_refl _)
              replace o_v := o_v.below st (Nat.le_refl _)
              replace o_d := o_d.below st (Nat.le_refl _)
              replace o_k := o_k.below st (Nat.le_refl _)
              replace H_y := H_y.below st (Nat.le_refl _)
              replace hB := hB.trans (st.mono hB.size)
              replace hV := hV.trans (st.mono hV.size)
              clear st
              have hkl := o_k.len
              rw [hkl] at z3
              have hkK : decide (K < (n_k : Int)) = false := by simp; omega
              obtain rfl : n_l = n_d := by rw [← o_d.len, Z8.out]
              clear z3 hkl
              go_wp2_with fail
              refine (jSame_any _ _ _ _ _ _ _ _ _ o_u.has o_w.has).mono ?_
              rintro e v23 ⟨rfl, q⟩
              have st : Below v22.heap.size v22 v23 := q.below _
              replace o_l := o_l.below st (Nat.le_refl _)
              replace o_f := o_f.below st (Nat.le_refl _)
              replace o_w := o_w.below st (Nat.le_refl _)
              replace o_v := o_v.below st (Nat.le_refl _)
              replace o_d := o_d.below st (Nat.le_refl _)
              replace o_k := o_k.below st (Nat.le_refl _)
              replace o_u := o_u.below st (Nat.le_refl _)
              replace H_y := H_y.below st (Nat.le_refl _)
              replace hB := hB.trans (st.mono hB.size)
              replace hV := hV.trans (st.mono hV.size)
              clear st
              clear q
              rw [same_self]
              clear o_u o_k
              go_wp2_with fail
              go_loop [44, 305] (fun g i => ∃ (k : Nat) (v : Int), k ≤ n_l ∧ i = .int .i64 (k : Int) ∧ g = .int .i64 v ∧ Hid (v = greatL (far.take k))) (fun _ i => n_l - (intOf i).toNat)
              case atStart => exact ⟨0, 0, Nat.zero_le _, rfl, rfl, hid rfl⟩
              case round =>
                obtain ⟨k, x, hk, rfl, rfl, HX⟩ := hrel
                by_cases hlk : k < n_l
                · skip
                  obtain ⟨bd, offd, rfl, hbd, hcd⟩ := o_d.has.2.2.2.2 (by omega)
                  have hck := hcd k hlk
                  have HS := hid (great_succ (ys := far) (k := k) (by rw [Z8.out]; exact hlk))
                  obtain ⟨y, hy⟩ : ∃ y, nth far k = y := ⟨_, rfl⟩
                  rw [hy] at hck
                  have HY := hid hy
                  clear hcd hy
                  by_cases hxy : x < y
                  · skip
                    go_wp2_with fail
                    go_round
                    case rel => exact ⟨k + 1, y, by omega, by go_num, rfl, hid (by rw [HS.out, ← HX.out, HY.out]; omega)⟩
                    case measure => simp [intOf]; omega
                  · skip
                    go_wp2_with fail
                    go_round
                    case rel => exact ⟨k + 1, x, by omega, by go_num, rfl, hid (by rw [HS.out, ← HX.out, HY.out]; omega)⟩
                    case measure => simp [intOf]; omega
                · skip
                  obtain rfl : k = n_l := by omega
                  have hx := HX.out
                  rw [List.take_of_length_le (by rw [Z8.out]; exact Nat.le_refl _)] at hx
                  rw [← hx] at z5 z6
                  clear hx HX
                  have hgl : decide (x < L) = false := by simp; omega
                  have hgm : decide (M < x) = false := by have := z6 hsix; simp; omega
                  clear z6
                  go_wp2_with fail
                  go_roundw
                  case rel => exact ⟨j + 1, by omega, by go_num, hV⟩
                  case measure => simp [intOf]; omega
            · skip
              clear hc0 hc1
              replace o_l := o_l.below st (Nat.le_refl _)
              replace o_f := o_f.below st (Nat.le_refl _)
              replace o_w := o_w.below st (Nat.le_refl _)
              replace o_v := o_v.below st (Nat.le_refl _)
              replace hB := hB.trans (st.mono hB.size)
              clear st
              clear hV
              clear o_v
              go_wp2_with fail
              refine (implReorder_any _ _ _ _ _ _ _ _ _ o_l.has o_f.has).mono ?_
              rw [HRY.out]
              rintro e v20 ⟨a_y, n_y, c_y, rfl, o_y, st⟩
              replace o_l := o_l.below st (Nat.le_refl _)
              replace o_f := o_f.below st (Nat.le_refl _)
              replace o_w := o_w.below st (Nat.le_refl _)
              replace hB := hB.trans (st.mono hB.size)
              clear st
              obtain rfl : n_l = n_y := by rw [← o_y.len, HYL.out]
              clear o_l o_f o_w
              go_wp2_with fail
              go_loopw [49] (fun i wr => ∃ k : Nat, 1 ≤ k ∧ (k ≤ n_l ∨ k = 1) ∧ i = .int .i64 (k : Int) ∧ Quiet v20 wr) (fun i _ => n_l + 1 - (intOf i).toNat)
              case atStart => exact ⟨1, by omega, by omega, rfl, ⟨0, rfl⟩⟩
              case round =>
                obtain ⟨k, hk1, hk2, rfl, q1, hq1⟩ := hrel
                subst hq1
                by_cases hlk : k < n_l
                · skip
                  obtain ⟨u, rfl⟩ : ∃ u, k = u + 1 := ⟨k - 1, by omega⟩
                  obtain ⟨by1, offy, rfl, hby, hcy⟩ := o_y.has.2.2.2.2 (by omega)
                  have hk3 := hcy (u + 1) hlk
                  have hk4 := hcy u (by omega)
                  have hs := HYS.out u (by omega)
                  generalize nth ys (u + 1) = y1 at *
                  generalize nth ys u = y0 at *
                  have hyy : decide (y1 < y0) = false := by simp; omega
                  clear hcy
                  go_wp2_with fail
                  go_quiet (fail)
                  go_wp2_with fail
                  go_roundw
                  case rel => exact ⟨u + 2, by omega, by omega, by go_num, ⟨_, rfl⟩⟩
                  case measure => simp [intOf]; omega
                · skip
                  go_wp2_with fail
                  go_ret
                  exact ⟨rfl, hB.trans ((show Quiet v20 _ from ⟨_, rfl⟩).below _)⟩
        · skip
          obtain ⟨V, hV0⟩ : ∃ V, v18.alloc (.cells #[.slice a_l n_l c_l, .slice a_l n_l c_l] 22) = V := ⟨_, rfl⟩
          have st : Below v18.heap.size v18 V := by rw [← hV0]; exact (Below.refl _ _).alloc (Nat.le_refl _) _
          have hc0 : V.cell? ⟨v18.heap.size, 0, none⟩ = some (.slice a_l n_l c_l) := by rw [← hV0, World.cell?_alloc_at _ _ _ _ rfl]; rfl
          have hc1 : V.cell? ⟨v18.heap.size, 1, none⟩ = some (.slice a_l n_l c_l) := by rw [← hV0, World.cell?_alloc_at _ _ _ _ rfl]; rfl
          have hVs : v18.heap.size < V.heap.size := by rw [← hV0]; simp
          have HV0 := hid hV0
          clear hV0
          go_wp2_with fail
          rw [HV0.out]
          clear HV0
          replace o_l := o_l.below st (Nat.le_refl _)
          replace o_f := o_f.below st (Nat.le_refl _)
          replace o_w := o_w.below st (Nat.le_refl _)
          replace hB := hB.trans (st.mono hB.size)
          clear st
          go_loopw [259] (fun i wr => ∃ j : Nat, j ≤ 2 ∧ i = .int .i64 j ∧ Below V.heap.size V wr) (fun i _ => 2 - (intOf i).toNat)
          case atStart => exact ⟨0, by omega, rfl, Below.refl _ _⟩
          case round =>
            obtain ⟨wo, rfl⟩ : ∃ wo : World, wo = wr := ⟨_, rfl⟩
            obtain ⟨j, hj, rfl, st⟩ := hrel
            have hV := st
            by_cases hlt : j < 2
            · skip
              obtain ⟨ay, cy, zs, hcy, H_y, HO⟩ := one_of (Q := OneOrder p n_l L K M ws) hlt hc0 hc1 o_l.has o_l.has HO1.out HO1.out
              rw [Nat.zero_add] at hcy
              have hcw : wo.cell? ⟨v18.heap.size, j, none⟩ = some (.slice ay n_l cy) := by rw [hV.cell (p := ⟨v18.heap.size, j, none⟩) hVs]; exact hcy
              clear hc0 hc1 hcy
              replace o_l := o_l.below st (Nat.le_refl _)
              replace o_f := o_f.below st (Nat.le_refl _)
              replace o_w := o_w.below st (Nat.le_refl _)
              replace H_y := H_y.below st (Nat.le_refl _)
              replace hB := hB.trans (st.mono hB.size)
              clear st
              obtain ⟨far, luck, z1, z2, z3, z4, z5, z6, z7, z8⟩ := HO
              have Z1 := hid z1
              have Z2 := hid z2
              have Z4 := hid z4
              have Z7 := hid z7
              have Z8 := hid z8
              clear z1 z2 z4 z7 z8
              go_wp2_with fail
              refine (distancesOf_any _ _ _ _ _ _ H_y).mono ?_
              rw [Z1.out]
              rintro e v19 ⟨a_d, n_d, c_d, rfl, o_d, st⟩
              replace o_l := o_l.below st (Nat.le_refl _)
              replace o_f := o_f.below st (Nat.le_refl _)
              replace o_w := o_w.below st (Nat.le_refl _)
              replace H_y := H_y.below st (Nat.le_refl _)
              replace hB := hB.trans (st.mono hB.size)
              replace hV := hV.trans (st.mono hV.size)
              clear st
              clear hcw
              go_wp2_with fail
              refine (luckyCars_any _ _ _ _ _ _ H_y).mono ?_
              rw [Z2.out]
              rintro e v20 ⟨a_k, n_k, c_k, rfl, o_k, st⟩
              replace o_l := o_l.below st (Nat.le_refl _)
              replace o_f := o_f.below st (Nat.le_refl _)
              replace o_w := o_w.below st (Nat.le_refl _)
              replace o_d := o_d.below st (Nat.le_refl _)
              replace H_y := H_y.below st (Nat.le_refl _)
              replace hB := hB.trans (st.mono hB.size)
              replace hV := hV.trans (st.mono hV.size)
              clear st
              go_wp2_with fail
              refine (implWaits_any _ _ _ _ _ _ H_y).mono ?_
              rw [Z4.out]
              rintro e v21 ⟨a_u, n_u, c_u, rfl, o_u, st⟩
              replace o_l := o_l.below st (Nat.le_refl _)
              replace o_f := o_f.below st (Nat.le_refl _)
              replace o_w := o_w.below st (Nat.le_refl _)
              replace o_d := o_d.below st (Nat.le_refl _)
              replace o_k := o_k.below st (Nat.le_refl _)
              replace H_y := H_y.below st (Nat.le_refl _)
              replace hB := hB.trans (st.mono hB.size)
              replace hV := hV.trans (st.mono hV.size)
              clear st
              have hkl := o_k.len
              rw [hkl] at z3
              have hkK : decide (K < (n_k : Int)) = false := by simp; omega
              obtain rfl : n_l = n_d := by rw [← o_d.len, Z8.out]
              clear z3 hkl
              go_wp2_with fail
              refine (jSame_any _ _ _ _ _ _ _ _ _ o_u.has o_w.has).mono ?_
              rintro e v22 ⟨rfl, q⟩
              have st : Below v21.heap.size v21 v22 := q.below _
              replace o_l := o_l.below st (Nat.le_refl _)
              replace o_f := o_f.below st (Nat.le_refl _)
              replace o_w := o_w.below st (Nat.le_refl _)
              replace o_d := o_d.below st (Nat.le_refl _)
              replace o_k := o_k.below st (Nat.le_refl _)
              replace o_u := o_u.below st (Nat.le_refl _)
              replace H_y := H_y.below st (Nat.le_refl _)
              replace hB := hB.trans (st.mono hB.size)
              replace hV := hV.trans (st.mono hV.size)
              clear st
              clear q
              rw [same_self]
              clear o_u o_k
              go_wp2_with fail
              go_loop [44, 305] (fun g i => ∃ (k : Nat) (v : Int), k ≤ n_l ∧ i = .int .i64 (k : Int) ∧ g = .int .i64 v ∧ Hid (v = greatL (far.take k))) (fun _ i => n_l - (intOf i).toNat)
              case atStart => exact ⟨0, 0, Nat.zero_le _, rfl, rfl, hid rfl⟩
              case round =>
                obtain ⟨k, x, hk, rfl, rfl, HX⟩ := hrel
                by_cases hlk : k < n_l
                · skip
                  obtain ⟨bd, offd, rfl, hbd, hcd⟩ := o_d.has.2.2.2.2 (by omega)
                  have hck := hcd k hlk
                  have HS := hid (great_succ (ys := far) (k := k) (by rw [Z8.out]; exact hlk))
                  obtain ⟨y, hy⟩ : ∃ y, nth far k = y := ⟨_, rfl⟩
                  rw [hy] at hck
                  have HY := hid hy
                  clear hcd hy
                  by_cases hxy : x < y
                  · skip
                    go_wp2_with fail
                    go_round
                    case rel => exact ⟨k + 1, y, by omega, by go_num, rfl, hid (by rw [HS.out, ← HX.out, HY.out]; omega)⟩
                    case measure => simp [intOf]; omega
                  · skip
                    go_wp2_with fail
                    go_round
                    case rel => exact ⟨k + 1, x, by omega, by go_num, rfl, hid (by rw [HS.out, ← HX.out, HY.out]; omega)⟩
                    case measure => simp [intOf]; omega
                · skip
                  obtain rfl : k = n_l := by omega
                  have hx := HX.out
                  rw [List.take_of_length_le (by rw [Z8.out]; exact Nat.le_refl _)] at hx
                  rw [← hx] at z5 z6
                  clear hx HX
                  have hgl : decide (x < L) = false := by simp; omega
                  have hgm : decide (M < x) = false := by have := z6 hsix; simp; omega
                  clear z6
                  go_wp2_with fail
                  go_roundw
                  case rel => exact ⟨j + 1, by omega, by go_num, hV⟩
                  case measure => simp [intOf]; omega
            · skip
              clear hc0 hc1
              replace o_l := o_l.below st (Nat.le_refl _)
              replace o_f := o_f.below st (Nat.le_refl _)
              replace o_w := o_w.below st (Nat.le_refl _)
              replace hB := hB.trans (st.mono hB.size)
              clear st
              clear hV
              go_wp2_with fail
              refine (implReorder_any _ _ _ _ _ _ _ _ _ o_l.has o_f.has).mono ?_
              rw [HRY.out]
              rintro e v19 ⟨a_y, n_y, c_y, rfl, o_y, st⟩
              replace o_l := o_l.below st (Nat.le_refl _)
              replace o_f := o_f.below st (Nat.le_refl _)
              replace o_w := o_w.below st (Nat.le_refl _)
              replace hB := hB.trans (st.mono hB.size)
              clear st
              obtain rfl : n_l = n_y := by rw [← o_y.len, HYL.out]
              clear o_l o_f o_w
              go_wp2_with fail
              go_loopw [49] (fun i wr => ∃ k : Nat, 1 ≤ k ∧ (k ≤ n_l ∨ k = 1) ∧ i = .int .i64 (k : Int) ∧ Quiet v19 wr) (fun i _ => n_l + 1 - (intOf i).toNat)
              case atStart => exact ⟨1, by omega, by omega, rfl, ⟨0, rfl⟩⟩
              case round =>
                obtain ⟨k, hk1, hk2, rfl, q1, hq1⟩ := hrel
                subst hq1
                by_cases hlk : k < n_l
                · skip
                  exact absurd hlk (by omega)
                · skip
                  go_wp2_with fail
                  go_ret
                  exact ⟨rfl, hB.trans ((show Quiet v19 _ from ⟨_, rfl⟩).below _)⟩
      · skip
        rw [if_neg hsix] at f3
        have HMG := hid f3
        have g6 : decide ((n_l : Int) ≤ 6) = false := by simp; omega
        clear f3 f9
        go_wp2_with fail
        refine (implLeast9_any _ _ _ _ _ _ o_l.has).mono ?_
        rw [HLG.out]
        rintro e v2 ⟨rfl, st⟩
        replace o_l := o_l.below st (Nat.le_refl _)
        replace hB := hB.trans (st.mono hB.size)
        clear st
        go_wp2_with fail
        refine (specLeast9_any _ _ _ _ _ _ o_l.has).mono ?_
        rw [HLG.out]
        rintro e v3 ⟨rfl, st⟩
        replace o_l := o_l.below st (Nat.le_refl _)
        replace hB := hB.trans (st.mono hB.size)
        clear st
        go_wp2_with fail
        refine (implMost_any _ _ _ _ _ _ o_l.has).mono ?_
        rw [HMG.out]
        rintro e v4 ⟨rfl, st⟩
        replace o_l := o_l.below st (Nat.le_refl _)
        replace hB := hB.trans (st.mono hB.size)
        clear st
        go_wp2_with fail
        refine (specMost_any _ _ _ _ _ _ o_l.has).mono ?_
        rw [HMG.out]
        rintro e v5 ⟨rfl, st⟩
        replace o_l := o_l.below st (Nat.le_refl _)
        replace hB := hB.trans (st.mono hB.size)
        clear st
        go_wp2_with fail
        refine (implLuckyM_any _ _ _ _ _ _ o_l.has).mono ?_
        rw [HLK.out]
        rintro e v6 ⟨rfl, st⟩
        replace o_l := o_l.below st (Nat.le_refl _)
        replace hB := hB.trans (st.mono hB.size)
        clear st
        go_wp2_with fail
        refine (specLuckyM_any _ _ _ _ _ _ o_l.has).mono ?_
        rw [HLK.out]
        rintro e v7 ⟨rfl, st⟩
        replace o_l := o_l.below st (Nat.le_refl _)
        replace hB := hB.trans (st.mono hB.size)
        clear st
        go_wp2_with fail
        refine (implFair_any _ _ _ _ _ _ o_l.has).mono ?_
        rw [HFO.out]
        rintro e v8 ⟨a_f, n_f, c_f, rfl, o_f, st⟩
        replace o_l := o_l.below st (Nat.le_refl _)
        replace hB := hB.trans (st.mono hB.size)
        clear st
        go_wp2_with fail
        refine (specFair_any _ _ _ _ _ _ o_l.has).mono ?_
        rw [HFO.out]
        rintro e v9 ⟨a_q, n_q, c_q, rfl, o_q, st⟩
        replace o_l := o_l.below st (Nat.le_refl _)
        replace o_f := o_f.below st (Nat.le_refl _)
        replace hB := hB.trans (st.mono hB.size)
        clear st
        go_wp2_with fail
        refine (implWaits_any _ _ _ _ _ _ o_l.has).mono ?_
        rw [HWO.out]
        rintro e v10 ⟨a_w, n_w, c_w, rfl, o_w, st⟩
        replace o_l := o_l.below st (Nat.le_refl _)
        replace o_f := o_f.below st (Nat.le_refl _)
        replace o_q := o_q.below st (Nat.le_refl _)
        replace hB := hB.trans (st.mono hB.size)
        clear st
        go_wp2_with fail
        refine (specWaits_any _ _ _ _ _ _ o_l.has).mono ?_
        rw [HWO.out]
        rintro e v11 ⟨a_x, n_x, c_x, rfl, o_x, st⟩
        replace o_l := o_l.below st (Nat.le_refl _)
        replace o_f := o_f.below st (Nat.le_refl _)
        replace o_q := o_q.below st (Nat.le_refl _)
        replace o_w := o_w.below st (Nat.le_refl _)
        replace hB := hB.trans (st.mono hB.size)
        clear st
        go_wp2_with fail
        refine (jSame_any _ _ _ _ _ _ _ _ _ o_f.has o_q.has).mono ?_
        rintro e v12 ⟨rfl, q⟩
        have st : Below v11.heap.size v11 v12 := q.below _
        replace o_l := o_l.below st (Nat.le_refl _)
        replace o_f := o_f.below st (Nat.le_refl _)
        replace o_q := o_q.below st (Nat.le_refl _)
        replace o_w := o_w.below st (Nat.le_refl _)
        replace o_x := o_x.below st (Nat.le_refl _)
        replace hB := hB.trans (st.mono hB.size)
        clear st
        clear q
        rw [same_self]
        clear o_q
        go_wp2_with fail
        refine (jSame_any _ _ _ _ _ _ _ _ _ o_w.has o_x.has).mono ?_
        rintro e v13 ⟨rfl, q⟩
        have st : Below v12.heap.size v12 v13 := q.below _
        replace o_l := o_l.below st (Nat.le_refl _)
        replace o_f := o_f.below st (Nat.le_refl _)
        replace o_w := o_w.below st (Nat.le_refl _)
        replace o_x := o_x.below st (Nat.le_refl _)
        replace hB := hB.trans (st.mono hB.size)
        clear st
        clear q
        rw [same_self]
        clear o_x
        go_wp2_with fail
        refine (drawReorder_any b m cap' _ (HM.out.grow hB (Nat.le_refl _))).mono ?_
        rintro e v14 ⟨a_a, n_a, c_a, us, a_b, n_b, c_b, bs, rfl, o_a, o_b, hna, hnb, st⟩
        replace o_l := o_l.below st (Nat.le_refl _)
        replace o_f := o_f.below st (Nat.le_refl _)
        replace o_w := o_w.below st (Nat.le_refl _)
        replace hB := hB.trans (st.mono hB.size)
        clear st
        obtain ⟨⟨rs, rb⟩, hr⟩ : ∃ r, reorderOf us bs = r := ⟨_, rfl⟩
        have HRO := hid hr
        have hrb : (rb != rb) = false := by cases rb <;> rfl
        clear hr
        go_wp2_with fail
        refine (implReorder_any _ _ _ _ _ _ _ _ _ o_a.has o_b.has).mono ?_
        rw [HRO.out]
        rintro e v15 ⟨a_r, n_r, c_r, rfl, o_r, st⟩
        replace o_l := o_l.below st (Nat.le_refl _)
        replace o_f := o_f.below st (Nat.le_refl _)
        replace o_w := o_w.below st (Nat.le_refl _)
        replace o_a := o_a.below st (Nat.le_refl _)
        replace o_b := o_b.below st (Nat.le_refl _)
        replace hB := hB.trans (st.mono hB.size)
        clear st
        go_wp2_with fail
        refine (specReorder_any _ _ _ _ _ _ _ _ _ o_a.has o_b.has).mono ?_
        rw [HRO.out]
        rintro e v16 ⟨a_s, n_s, c_s, rfl, o_s, st⟩
        replace o_l := o_l.below st (Nat.le_refl _)
        replace o_f := o_f.below st (Nat.le_refl _)
        replace o_w := o_w.below st (Nat.le_refl _)
        replace o_a := o_a.below st (Nat.le_refl _)
        replace o_b := o_b.below st (Nat.le_refl _)
        replace o_r := o_r.below st (Nat.le_refl _)
        replace hB := hB.trans (st.mono hB.size)
        clear st
        clear o_a o_b
        go_wp2_with fail
        refine (jSame_any _ _ _ _ _ _ _ _ _ o_r.has o_s.has).mono ?_
        rintro e v17 ⟨rfl, q⟩
        have st : Below v16.heap.size v16 v17 := q.below _
        replace o_l := o_l.below st (Nat.le_refl _)
        replace o_f := o_f.below st (Nat.le_refl _)
        replace o_w := o_w.below st (Nat.le_refl _)
        replace o_r := o_r.below st (Nat.le_refl _)
        replace o_s := o_s.below st (Nat.le_refl _)
        replace hB := hB.trans (st.mono hB.size)
        clear st
        clear q
        rw [same_self]
        clear o_r o_s
        go_wp2_with fail
        refine (totalDistance_any _ _ _ _ _ _ o_l.has).mono ?_
        rw [HT.out]
        rintro e v18 ⟨rfl, st⟩
        replace o_l := o_l.below st (Nat.le_refl _)
        replace o_f := o_f.below st (Nat.le_refl _)
        replace o_w := o_w.below st (Nat.le_refl _)
        replace hB := hB.trans (st.mono hB.size)
        clear st
        go_wp2_with fail
        refine (jSum_any _ _ _ _ _ o_w.has HSW.out).mono ?_
        rintro e _ ⟨rfl, rfl⟩
        rw [HWT.out]
        have hn1 : 1 < n_l := by omega
        go_wp2_with fail
        refine (numberOf_any _ _ _ w.heap.size _ (HM.out.below hB)).mono ?_
        rintro e _ ⟨z, rfl, z0, z1, rfl⟩
        obtain ⟨i, hi⟩ : ∃ i : Nat, z % ((n_l : Int) - 1) = (i : Int) := ⟨_, (Int.toNat_of_nonneg (Int.emod_nonneg _ (by omega))).symm⟩
        have hi2 : i + 1 < n_l := by have := Int.emod_lt_of_pos z (show 0 < (n_l : Int) - 1 by omega); omega
        go_wp2_with fail
        rw [hi]
        refine (jSwapped_any _ _ _ xs i _ o_l.has hi2).mono ?_
        rintro e v19 ⟨a_v, c_v, rfl, o_v, st⟩
        replace o_l := o_l.below st (Nat.le_refl _)
        replace o_f := o_f.below st (Nat.le_refl _)
        replace o_w := o_w.below st (Nat.le_refl _)
        replace hB := hB.trans (st.mono hB.size)
        clear st
        obtain ⟨V, hV0⟩ : ∃ V, v19.alloc (.cells #[.slice a_l n_l c_l, .slice a_v n_l c_v] 22) = V := ⟨_, rfl⟩
        have st : Below v19.heap.size v19 V := by rw [← hV0]; exact (Below.refl _ _).alloc (Nat.le_refl _) _
        have hc0 : V.cell? ⟨v19.heap.size, 0, none⟩ = some (.slice a_l n_l c_l) := by rw [← hV0, World.cell?_alloc_at _ _ _ _ rfl]; rfl
        have hc1 : V.cell? ⟨v19.heap.size, 1, none⟩ = some (.slice a_v n_l c_v) := by rw [← hV0, World.cell?_alloc_at _ _ _ _ rfl]; rfl
        have hVs : v19.heap.size < V.heap.size := by rw [← hV0]; simp
        have HV0 := hid hV0
        clear hV0
        go_wp2_with fail
        rw [HV0.out]
        clear HV0
        replace o_l := o_l.below st (Nat.le_refl _)
        replace o_f := o_f.below st (Nat.le_refl _)
        replace o_w := o_w.below st (Nat.le_refl _)
        replace o_v := o_v.below st (Nat.le_refl _)
        replace hB := hB.trans (st.mono hB.size)
        clear st
        go_loopw [259] (fun i wr => ∃ j : Nat, j ≤ 2 ∧ i = .int .i64 j ∧ Below V.heap.size V wr) (fun i _ => 2 - (intOf i).toNat)
        case atStart => exact ⟨0, by omega, rfl, Below.refl _ _⟩
        case round =>
          obtain ⟨wo, rfl⟩ : ∃ wo : World, wo = wr := ⟨_, rfl⟩
          obtain ⟨j, hj, rfl, st⟩ := hrel
          have hV := st
          by_cases hlt : j < 2
          · skip
            obtain ⟨ay, cy, zs, hcy, H_y, HO⟩ := one_of (Q := OneOrder p n_l L K M ws) hlt hc0 hc1 o_l.has o_v.has HO1.out (HO2.out i hi2)
            rw [Nat.zero_add] at hcy
            have hcw : wo.cell? ⟨v19.heap.size, j, none⟩ = some (.slice ay n_l cy) := by rw [hV.cell (p := ⟨v19.heap.size, j, none⟩) hVs]; exact hcy
            clear hc0 hc1 hcy
            replace o_l := o_l.below st (Nat.le_refl _)
            replace o_f := o_f.below st (Nat.le_refl _)
            replace o_w := o_w.below st (Nat.le_refl _)
            replace o_v := o_v.below st (Nat.le_refl _)
            replace H_y := H_y.below st (Nat.le_refl _)
            replace hB := hB.trans (st.mono hB.size)
            clear st
            obtain ⟨far, luck, z1, z2, z3, z4, z5, z6, z7, z8⟩ := HO
            have Z1 := hid z1
            have Z2 := hid z2
            have Z4 := hid z4
            have Z7 := hid z7
            have Z8 := hid z8
            clear z1 z2 z4 z7 z8
            go_wp2_with fail
            refine (distancesOf_any _ _ _ _ _ _ H_y).mono ?_
            rw [Z1.out]
            rintro e v20 ⟨a_d, n_d, c_d, rfl, o_d, st⟩
            replace o_l := o_l.below st (Nat.le_refl _)
            replace o_f := o_f.below st (Nat.le_refl _)
            replace o_w := o_w.below st (Nat.le_refl _)
            replace o_v := o_v.below st (Nat.le_refl _)
            replace H_y := H_y.below st (Nat.le_refl _)
            replace hB := hB.trans (st.mono hB.size)
            replace hV := hV.trans (st.mono hV.size)
            clear st
            clear hcw
            go_wp2_with fail
            refine (luckyCars_any _ _ _ _ _ _ H_y).mono ?_
            rw [Z2.out]
            rintro e v21 ⟨a_k, n_k, c_k, rfl, o_k, st⟩
            replace o_l := o_l.below st (Nat.le_refl _)
            replace o_f := o_f.below st (Nat.le_refl _)
            replace o_w := o_w.below st (Nat.le_refl _)
            replace o_v := o_v.below st (Nat.le_refl _)
            replace o_d := o_d.below st (Nat.le_refl _)
            replace H_y := H_y.below st (Nat.le_refl _)
            replace hB := hB.trans (st.mono hB.size)
            replace hV := hV.trans (st.mono hV.size)
            clear st
            go_wp2_with fail
            refine (implWaits_any _ _ _ _ _ _ H_y).mono ?_
            rw [Z4.out]
            rintro e v22 ⟨a_u, n_u, c_u, rfl, o_u, st⟩
            replace o_l := o_l.below st (Nat.le_refl _)
            replace o_f := o_f.below st (Nat.le_refl _)
            replace o_w := o_w.below st (Nat.le_refl _)
            replace o_v := o_v.below st (Nat.le_refl _)
            replace o_d := o_d.below st (Nat.le_refl _)
            replace o_k := o_k.below st (Nat.le_refl _)
            replace H_y := H_y.below st (Nat.le_refl _)
            replace hB := hB.trans (st.mono hB.size)
            replace hV := hV.trans (st.mono hV.size)
            clear st
            have hkl := o_k.len
            rw [hkl] at z3
            have hkK : decide (K < (n_k : Int)) = false := by simp; omega
            obtain rfl : n_l = n_d := by rw [← o_d.len, Z8.out]
            clear z3 hkl
            go_wp2_with fail
            refine (jSame_any _ _ _ _ _ _ _ _ _ o_u.has o_w.has).mono ?_
            rintro e v23 ⟨rfl, q⟩
            have st : Below v22.heap.size v22 v23 := q.below _
            replace o_l := o_l.below st (Nat.le_refl _)
            replace o_f := o_f.below st (Nat.le_refl _)
            replace o_w := o_w.below st (Nat.le_refl _)
            replace o_v := o_v.below st (Nat.le_refl _)
            replace o_d := o_d.below st (Nat.le_refl _)
            replace o_k := o_k.below st (Nat.le_refl _)
            replace o_u := o_u.below st (Nat.le_refl _)
            replace H_y := H_y.below st (Nat.le_refl _)
            replace hB := hB.trans (st.mono hB.size)
            replace hV := hV.trans (st.mono hV.size)
            clear st
            clear q
            rw [same_self]
            clear o_u o_k
            go_wp2_with fail
            go_loop [44, 305] (fun g i => ∃ (k : Nat) (v : Int), k ≤ n_l ∧ i = .int .i64 (k : Int) ∧ g = .int .i64 v ∧ Hid (v = greatL (far.take k))) (fun _ i => n_l - (intOf i).toNat)
            case atStart => exact ⟨0, 0, Nat.zero_le _, rfl, rfl, hid rfl⟩
            case round =>
              obtain ⟨k, x, hk, rfl, rfl, HX⟩ := hrel
              by_cases hlk : k < n_l
              · skip
                obtain ⟨bd, offd, rfl, hbd, hcd⟩ := o_d.has.2.2.2.2 (by omega)
                have hck := hcd k hlk
                have HS := hid (great_succ (ys := far) (k := k) (by rw [Z8.out]; exact hlk))
                obtain ⟨y, hy⟩ : ∃ y, nth far k = y := ⟨_, rfl⟩
                rw [hy] at hck
                have HY := hid hy
                clear hcd hy
                by_cases hxy : x < y
                · skip
                  go_wp2_with fail
                  go_round
                  case rel => exact ⟨k + 1, y, by omega, by go_num, rfl, hid (by rw [HS.out, ← HX.out, HY.out]; omega)⟩
                  case measure => simp [intOf]; omega
                · skip
                  go_wp2_with fail
                  go_round
                  case rel => exact ⟨k + 1, x, by omega, by go_num, rfl, hid (by rw [HS.out, ← HX.out, HY.out]; omega)⟩
                  case measure => simp [intOf]; omega
              · skip
                obtain rfl : k = n_l := by omega
                have hx := HX.out
                rw [List.take_of_length_le (by rw [Z8.out]; exact Nat.le_refl _)] at hx
                rw [← hx] at z5 z6
                clear hx HX
                have hgl : decide (x < L) = false := by simp; omega
                clear z6
                go_wp2_with fail
                go_roundw
                case rel => exact ⟨j + 1, by omega, by go_num, hV⟩
                case measure => simp [intOf]; omega
          · skip
            clear hc0 hc1
            replace o_l := o_l.below st (Nat.le_refl _)
            replace o_f := o_f.below st (Nat.le_refl _)
            replace o_w := o_w.below st (Nat.le_refl _)
            replace o_v := o_v.below st (Nat.le_refl _)
            replace hB := hB.trans (st.mono hB.size)
            clear st
            clear hV
            clear o_v
            go_wp2_with fail
            refine (implReorder_any _ _ _ _ _ _ _ _ _ o_l.has o_f.has).mono ?_
            rw [HRY.out]
            rintro e v20 ⟨a_y, n_y, c_y, rfl, o_y, st⟩
            replace o_l := o_l.below st (Nat.le_refl _)
            replace o_f := o_f.below st (Nat.le_refl _)
            replace o_w := o_w.below st (Nat.le_refl _)
            replace hB := hB.trans (st.mono hB.size)
            clear st
            obtain rfl : n_l = n_y := by rw [← o_y.len, HYL.out]
            clear o_l o_f o_w
            go_wp2_with fail
            go_loopw [49] (fun i wr => ∃ k : Nat, 1 ≤ k ∧ (k ≤ n_l ∨ k = 1) ∧ i = .int .i64 (k : Int) ∧ Quiet v20 wr) (fun i _ => n_l + 1 - (intOf i).toNat)
            case atStart => exact ⟨1, by omega, by omega, rfl, ⟨0, rfl⟩⟩
            case round =>
              obtain ⟨k, hk1, hk2, rfl, q1, hq1⟩ := hrel
              subst hq1
              by_cases hlk : k < n_l
              · skip
                obtain ⟨u, rfl⟩ : ∃ u, k = u + 1 := ⟨k - 1, by omega⟩
                obtain ⟨by1, offy, rfl, hby, hcy⟩ := o_y.has.2.2.2.2 (by omega)
                have hk3 := hcy (u + 1) hlk
                have hk4 := hcy u (by omega)
                have hs := HYS.out u (by omega)
                generalize nth ys (u + 1) = y1 at *
                generalize nth ys u = y0 at *
                have hyy : decide (y1 < y0) = false := by simp; omega
                clear hcy
                go_wp2_with fail
                go_quiet (fail)
                go_wp2_with fail
                go_roundw
                case rel => exact ⟨u + 2, by omega, by omega, by go_num, ⟨_, rfl⟩⟩
                case measure => simp [intOf]; omega
              · skip
                go_wp2_with fail
                go_ret
                exact ⟨rfl, hB.trans ((show Quiet v20 _ from ⟨_, rfl⟩).below _)⟩
    · skip
      have HLG : Hid (leastGr xs p = (0, false)) := hid (by simp only [leastGr, if_neg hP])
      have HLK := hid (lucky_no hP)
      have HFO : Hid (fairOf xs p = ([], false)) := hid (by simp only [fairOf, if_neg hP])
      have HWO := hid (waits_no hP)
      have HMG : Hid (mostGr xs p = (0, false)) := hid (by unfold mostGr; rw [Bool.eq_false_iff.2 hP]; rfl)
      clear hP
      go_wp2_with fail
      refine (implLeast9_any _ _ _ _ _ _ o_l.has).mono ?_
      rw [HLG.out]
      rintro e v2 ⟨rfl, st⟩
      replace o_l := o_l.below st (Nat.le_refl _)
      replace hB := hB.trans (st.mono hB.size)
      clear st
      go_wp2_with fail
      refine (specLeast9_any _ _ _ _ _ _ o_l.has).mono ?_
      rw [HLG.out]
      rintro e v3 ⟨rfl, st⟩
      replace o_l := o_l.below st (Nat.le_refl _)
      replace hB := hB.trans (st.mono hB.size)
      clear st
      go_wp2_with fail
      refine (implMost_any _ _ _ _ _ _ o_l.has).mono ?_
      rw [HMG.out]
      rintro e v4 ⟨rfl, st⟩
      replace o_l := o_l.below st (Nat.le_refl _)
      replace hB := hB.trans (st.mono hB.size)
      clear st
      go_wp2_with fail
      refine (specMost_any _ _ _ _ _ _ o_l.has).mono ?_
      rw [HMG.out]
      rintro e v5 ⟨rfl, st⟩
      replace o_l := o_l.below st (Nat.le_refl _)
      replace hB := hB.trans (st.mono hB.size)
      clear st
      go_wp2_with fail
      refine (implLuckyM_any _ _ _ _ _ _ o_l.has).mono ?_
      rw [HLK.out]
      rintro e v6 ⟨rfl, st⟩
      replace o_l := o_l.below st (Nat.le_refl _)
      replace hB := hB.trans (st.mono hB.size)
      clear st
      go_wp2_with fail
      refine (specLuckyM_any _ _ _ _ _ _ o_l.has).mono ?_
      rw [HLK.out]
      rintro e v7 ⟨rfl, st⟩
      replace o_l := o_l.below st (Nat.le_refl _)
      replace hB := hB.trans (st.mono hB.size)
      clear st
      go_wp2_with fail
      refine (implFair_any _ _ _ _ _ _ o_l.has).mono ?_
      rw [HFO.out]
      rintro e v8 ⟨a_f, n_f, c_f, rfl, o_f, st⟩
      replace o_l := o_l.below st (Nat.le_refl _)
      replace hB := hB.trans (st.mono hB.size)
      clear st
      go_wp2_with fail
      refine (specFair_any _ _ _ _ _ _ o_l.has).mono ?_
      rw [HFO.out]
      rintro e v9 ⟨a_q, n_q, c_q, rfl, o_q, st⟩
      replace o_l := o_l.below st (Nat.le_refl _)
      replace o_f := o_f.below st (Nat.le_refl _)
      replace hB := hB.trans (st.mono hB.size)
      clear st
      go_wp2_with fail
      refine (implWaits_any _ _ _ _ _ _ o_l.has).mono ?_
      rw [HWO.out]
      rintro e v10 ⟨a_w, n_w, c_w, rfl, o_w, st⟩
      replace o_l := o_l.below st (Nat.le_refl _)
      replace o_f := o_f.below st (Nat.le_refl _)
      replace o_q := o_q.below st (Nat.le_refl _)
      replace hB := hB.trans (st.mono hB.size)
      clear st
      go_wp2_with fail
      refine (specWaits_any _ _ _ _ _ _ o_l.has).mono ?_
      rw [HWO.out]
      rintro e v11 ⟨a_x, n_x, c_x, rfl, o_x, st⟩
      replace o_l := o_l.below st (Nat.le_refl _)
      replace o_f := o_f.below st (Nat.le_refl _)
      replace o_q := o_q.below st (Nat.le_refl _)
      replace o_w := o_w.below st (Nat.le_refl _)
      replace hB := hB.trans (st.mono hB.size)
      clear st
      go_wp2_with fail
      refine (jSame_any _ _ _ _ _ _ _ _ _ o_f.has o_q.has).mono ?_
      rintro e v12 ⟨rfl, q⟩
      have st : Below v11.heap.size v11 v12 := q.below _
      replace o_l := o_l.below st (Nat.le_refl _)
      replace o_f := o_f.below st (Nat.le_refl _)
      replace o_q := o_q.below st (Nat.le_refl _)
      replace o_w := o_w.below st (Nat.le_refl _)
      replace o_x := o_x.below st (Nat.le_refl _)
      replace hB := hB.trans (st.mono hB.size)
      clear st
      clear q
      rw [same_self]
      clear o_q
      go_wp2_with fail
      refine (jSame_any _ _ _ _ _ _ _ _ _ o_w.has o_x.has).mono ?_
      rintro e v13 ⟨rfl, q⟩
      have st : Below v12.heap.size v12 v13 := q.below _
      replace o_l := o_l.below st (Nat.le_refl _)
      replace o_f := o_f.below st (Nat.le_refl _)
      replace o_w := o_w.below st (Nat.le_refl _)
      replace o_x := o_x.below st (Nat.le_refl _)
      replace hB := hB.trans (st.mono hB.size)
      clear st
      clear q
      rw [same_self]
      clear o_x
      go_wp2_with fail
      refine (drawReorder_any b m cap' _ (HM.out.grow hB (Nat.le_refl _))).mono ?_
      rintro e v14 ⟨a_a, n_a, c_a, us, a_b, n_b, c_b, bs, rfl, o_a, o_b, hna, hnb, st⟩
      replace o_l := o_l.below st (Nat.le_refl _)
      replace o_f := o_f.below st (Nat.le_refl _)
      replace o_w := o_w.below st (Nat.le_refl _)
      replace hB := hB.trans (st.mono hB.size)
      clear st
      obtain ⟨⟨rs, rb⟩, hr⟩ : ∃ r, reorderOf us bs = r := ⟨_, rfl⟩
      have HRO := hid hr
      have hrb : (rb != rb) = false := by cases rb <;> rfl
      clear hr
      go_wp2_with fail
      refine (implReorder_any _ _ _ _ _ _ _ _ _ o_a.has o_b.has).mono ?_
      rw [HRO.out]
      rintro e v15 ⟨a_r, n_r, c_r, rfl, o_r, st⟩
      replace o_l := o_l.below st (Nat.le_refl _)
      replace o_f := o_f.below st (Nat.le_refl _)
      replace o_w := o_w.below st (Nat.le_refl _)
      replace o_a := o_a.below st (Nat.le_refl _)
      replace o_b := o_b.below st (Nat.le_refl _)
      replace hB := hB.trans (st.mono hB.size)
      clear st
      go_wp2_with fail
      refine (specReorder_any _ _ _ _ _ _ _ _ _ o_a.has o_b.has).mono ?_
      rw [HRO.out]
      rintro e v16 ⟨a_s, n_s, c_s, rfl, o_s, st⟩
      replace o_l := o_l.below st (Nat.le_refl _)
      replace o_f := o_f.below st (Nat.le_refl _)
      replace o_w := o_w.below st (Nat.le_refl _)
      replace o_a := o_a.below st (Nat.le_refl _)
      replace o_b := o_b.below st (Nat.le_refl _)
      replace o_r := o_r.below st (Nat.le_refl _)
      replace hB := hB.trans (st.mono hB.size)
      clear st
      clear o_a o_b
      go_wp2_with fail
      refine (jSame_any _ _ _ _ _ _ _ _ _ o_r.has o_s.has).mono ?_
      rintro e v17 ⟨rfl, q⟩
      have st : Below v16.heap.size v16 v17 := q.below _
      replace o_l := o_l.below st (Nat.le_refl _)
      replace o_f := o_f.below st (Nat.le_refl _)
      replace o_w := o_w.below st (Nat.le_refl _)
      replace o_r := o_r.below st (Nat.le_refl _)
      replace o_s := o_s.below st (Nat.le_refl _)
      replace hB := hB.trans (st.mono hB.size)
      clear st
      clear q
      rw [same_self]
      clear o_r o_s
      clear o_l o_f o_w
      go_wp2_with fail
      go_ret
      exact ⟨rfl, hB⟩
end Go.Proofs.Ytehdccfkkfkciac

