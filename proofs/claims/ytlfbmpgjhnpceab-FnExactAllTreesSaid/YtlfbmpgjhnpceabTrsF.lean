/- The program's list of all trees. -/
import Derived.Test.YtlfbmpgjhnpceabBase
import Derived.Laws.CopyOwn
import Derived.Deep.RegionLaw
import Derived.Test.YtlfbmpgjhnpceabOutL
import Derived.Test.YtlfbmpgjhnpceabMathS
import Derived.Test.YtlfbmpgjhnpceabMathL
import Derived.RangeFuncNested
import Derived.RangeFuncBound
import Derived.RangeFuncCalls
import Derived.RangeFuncLeaves
import Derived.Shelf.Abstract
import Derived.WalkKit
import Derived.OwnWalkIn
import Derived.TacticsInMore
import Derived.LoopNIn
import Derived.LoopIn
import Derived.Test.YtlfbmpgjhnpceabImplN
import Derived.Deep.RegionHeld3
import Derived.Deep.DeepCutAuto
import Derived.Test.YtlfbmpgjhnpceabMathUn
import Derived.Test.YtlfbmpgjhnpceabSpecTq
import Derived.Test.YtlfbmpgjhnpceabImplTc
import Derived.Test.YtlfbmpgjhnpceabImplTq
namespace Go.Proofs.Ytlfbmpgjhnpceab
open Go.RowKit

/-- Numbers laid over the first ones. -/
def over0 (xs ys : List Int) : List Int := ys.take xs.length ++ xs.drop ys.length
theorem length_over0 (xs ys : List Int) : (over0 xs ys).length = xs.length := by simp [over0]; omega
theorem over0_all {xs ys : List Int} (h : ys.length = xs.length) : over0 xs ys = ys := by
  simp [over0, h, List.take_of_length_le (Nat.le_of_eq h)]
theorem over0_nth {xs ys : List Int} (h : ys.length ≤ xs.length) (i : Nat) : nth (over0 xs ys) i = if i < ys.length then nth ys i else nth xs i := by
  unfold over0
  rw [List.take_of_length_le h]
  split
  · rw [nth_append_left (by assumption)]
  · simp only [nth, List.getD_eq_getElem?_getD, List.getElem?_append, List.getElem?_drop]
    rw [if_neg (by assumption), show ys.length + (i - ys.length) = i by omega]

theorem wpList_copy_intsT (T S : TypeId) (hT : Try.prog.underlying T = some (.slice 3)) {ops : Array Oper} {rest : List Oper} {o : Oper} {a : Act} {Q : Exit → Act → World → Prop} (w : World) (hgd : o.guard = none) (d s : Operand)
    (ho : o.op = .call { callee := .builtin .copy, args := #[d, s], argTypes := #[T, S] })
    (B : Nat) (a0 a1 : Option Addr) (n m cap cap1 : Nat) (xs ys : List Int) (hd : a.eval d = .slice a0 n cap) (hs : a.eval s = .slice a1 m cap1)
    (hown : Own w B a0 n cap xs) (hhas : Has w a1 m cap1 ys) (hmn : m ≤ n)
    (h : ∀ w', Own w' B a0 n cap (over0 xs ys) → Below B w w' → wpList Try.prog ops Q rest (a.put o.dst (.int .i64 (m : Int))) w') :
    wpList Try.prog ops Q (o :: rest) a w := by
  have hlx := hown.len
  have hly := hhas.len
  obtain ⟨⟨h1, h2⟩, h3⟩ := hown
  obtain ⟨i0, hi, hz0, hz1, hz2⟩ := info_parts Try.infoInt
  have hsz : (Try.prog.info? 3).map (·.size) = some 1 := by rw [hi]; simp [hz1]
  rcases h2 with ⟨hv, hn⟩ | ⟨g, cap', cur, hv, hg, hh, hnc, hcm, hcs, htake⟩
  · simp at hv
    obtain ⟨rfl, _, rfl⟩ := hv
    obtain rfl : m = 0 := by omega
    refine wpList_copy_nothing hgd d s T S ho 3 hT hsz none a1 n 0 0 cap1 hd hs (by simp) ?_
    have hx : xs = [] := List.eq_nil_of_length_eq_zero (by omega)
    have hy : ys = [] := List.eq_nil_of_length_eq_zero (by omega)
    subst hx hy
    exact h w ⟨⟨h1, .inl ⟨by simp; omega, hn⟩⟩, h3⟩ (Below.refl _ _)
  · simp at hv
    obtain ⟨rfl, rfl⟩ := hv
    refine wpList_copy_splice hgd d s T S ho 3 hT hsz (some ⟨g, 0, none⟩) a1 n cap m cap1 hd hs g 0 cur.toList 3 (by simpa using hh) (ys.map (Value.int .i64)) (by rw [List.length_map, hly]; exact (Nat.min_eq_left hmn).symm) (fun hp => ⟨rfl, ?_⟩) (by simp; omega) (by intro v hv; obtain ⟨y, _, rfl⟩ := List.mem_map.1 hv; rfl) B w (Below.refl _ _) hg ?_
    · obtain ⟨b, off, rfl, _, _⟩ := hhas.2.2.2.2 (by simp at hp; omega)
      exact ⟨_, rfl, has_cells hhas⟩
    · intro w' hw' hb
      have e : (a.put o.dst (goInt (ys.map (Value.int .i64)).length)) = a.put o.dst (.int .i64 (m : Int)) := by simp [goInt, hly]
      rw [e]
      refine h w' ⟨⟨by rw [List.length_map, length_over0]; simpa using h1, .inr ⟨g, cap, _, rfl, hg, hw'.out, hnc, hcm, ?_, ?_⟩⟩, by rw [length_over0]; exact h3.1, h3.2⟩ hb
      · simp only [splice, Nat.zero_add, List.length_map]
        simp
        omega
      · have ht : cur.toList.take n = xs.map (Value.int .i64) := by simpa using htake
        simp only [splice, List.take_zero, List.nil_append, Nat.zero_add, List.length_map, Nat.mul_one, over0, List.map_append, List.map_take, List.map_drop]
        rw [List.take_append, List.take_of_length_le (by simp; omega), List.length_map, ← ht, List.take_of_length_le (l := ys.map (Value.int .i64)) (by simp; omega), List.drop_take]
theorem wpList_copy_ints {ops : Array Oper} {rest : List Oper} {o : Oper} {a : Act} {Q : Exit → Act → World → Prop} (w : World) (hgd : o.guard = none) (d s : Operand)
    (ho : o.op = .call { callee := .builtin .copy, args := #[d, s], argTypes := #[22, 22] })
    (B : Nat) (a0 a1 : Option Addr) (n m cap cap1 : Nat) (xs ys : List Int) (hd : a.eval d = .slice a0 n cap) (hs : a.eval s = .slice a1 m cap1)
    (hown : Own w B a0 n cap xs) (hhas : Has w a1 m cap1 ys) (hmn : m ≤ n)
    (h : ∀ w', Own w' B a0 n cap (over0 xs ys) → Below B w w' → wpList Try.prog ops Q rest (a.put o.dst (.int .i64 (m : Int))) w') :
    wpList Try.prog ops Q (o :: rest) a w := wpList_copy_intsT 22 22 Try.underlying22 w hgd d s ho B a0 a1 n m cap cap1 xs ys hd hs hown hhas hmn h

/-- 'make(T, n)' of integers. -/
theorem wpList_make_intsT (T : TypeId) (hT : Try.prog.underlying T = some (.slice 3)) {ops : Array Oper} {rest : List Oper} {o : Oper} {a : Act} {Q : Exit → Act → World → Prop} (w : World) (hgd : o.guard = none) (l c : Operand) (ho : o.op = Op.makeSlice T l c)
    (n : Nat) (hl : a.eval l = .int .i64 (n : Int)) (hc : a.eval c = .int .i64 (n : Int)) (hn : n ≤ 2097152)
    (h : ∀ a' cap' w', Own w' w.heap.size a' n cap' (List.replicate n 0) → Below w.heap.size w w' → wpList Try.prog ops Q rest (a.put o.dst (.slice a' n cap')) w') :
    wpList Try.prog ops Q (o :: rest) a w := by
  obtain ⟨i0, hi, hz0, hz1, hz2⟩ := info_parts Try.infoInt
  refine wpList_make_full (P := Try.prog) w hgd l c T ho w.heap.size 3 i0 (.int .i64 0) 1 hT hi hz0 hz1 .i64 .i64 n n n hl hc rfl rfl (by rw [hz2]; omega) (by unfold maxLen; omega) (Nat.le_refl _) ?_
  intro w' hown hgrow
  obtain ⟨a', cap', hv, ho'⟩ := own_of_row (xs := List.replicate n 0) hown (by simp) (by rw [show (Value.int IntKind.i64 0).cells = #[.int .i64 0] from rfl, toList_madeCells_one]; simp) (by simpa using hn)
  rw [hv]
  exact h _ _ _ ho' (below_grown hgrow (Nat.le_refl _) (by simp))
end Go.Proofs.Ytlfbmpgjhnpceab

namespace Go.Proofs.Ytlfbmpgjhnpceab
open Go.RowKit

theorem mul64_0 (w : World) : Calls Try.prog 203 #[.int .u64 1, .int .u64 0] w fun e w' => e = .returned (.tuple #[.int .u64 0, .int .u64 0]) ∧ w = w' := by
  go_enter Try.func203, Try.ntmps203
  go_wp2
  go_ret2
  exact ⟨rfl, rfl⟩
theorem mul64_1 (w : World) : Calls Try.prog 203 #[.int .u64 1, .int .u64 1] w fun e w' => e = .returned (.tuple #[.int .u64 0, .int .u64 1]) ∧ w = w' := by
  go_enter Try.func203, Try.ntmps203
  go_wp2
  go_ret2
  exact ⟨rfl, rfl⟩
theorem mul64_2 (w : World) : Calls Try.prog 203 #[.int .u64 1, .int .u64 2] w fun e w' => e = .returned (.tuple #[.int .u64 0, .int .u64 2]) ∧ w = w' := by
  go_enter Try.func203, Try.ntmps203
  go_wp2
  go_ret2
  exact ⟨rfl, rfl⟩
theorem mul64_3 (w : World) : Calls Try.prog 203 #[.int .u64 1, .int .u64 3] w fun e w' => e = .returned (.tuple #[.int .u64 0, .int .u64 3]) ∧ w = w' := by
  go_enter Try.func203, Try.ntmps203
  go_wp2
  go_ret2
  exact ⟨rfl, rfl⟩
theorem mul64_4 (w : World) : Calls Try.prog 203 #[.int .u64 1, .int .u64 4] w fun e w' => e = .returned (.tuple #[.int .u64 0, .int .u64 4]) ∧ w = w' := by
  go_enter Try.func203, Try.ntmps203
  go_wp2
  go_ret2
  exact ⟨rfl, rfl⟩
theorem mul64_5 (w : World) : Calls Try.prog 203 #[.int .u64 1, .int .u64 5] w fun e w' => e = .returned (.tuple #[.int .u64 0, .int .u64 5]) ∧ w = w' := by
  go_enter Try.func203, Try.ntmps203
  go_wp2
  go_ret2
  exact ⟨rfl, rfl⟩
theorem mul64_any (k : Nat) (hk : k ≤ 5) (w : World) : Calls Try.prog 203 #[.int .u64 1, .int .u64 (k : Int)] w fun e w' => e = .returned (.tuple #[.int .u64 0, .int .u64 (k : Int)]) ∧ w = w' := by
  rcases (show k = 0 ∨ k = 1 ∨ k = 2 ∨ k = 3 ∨ k = 4 ∨ k = 5 by omega) with rfl | rfl | rfl | rfl | rfl | rfl
  · exact mul64_0 w
  · exact mul64_1 w
  · exact mul64_2 w
  · exact mul64_3 w
  · exact mul64_4 w
  · exact mul64_5 w
theorem mul_any (k : Nat) (hk : k ≤ 5) (w : World) : Calls Try.prog 177 #[.int .u64 1, .int .u64 (k : Int)] w fun e w' => e = .returned (.tuple #[.int .u64 0, .int .u64 (k : Int)]) ∧ w = w' := by
  go_enter Try.func177, Try.ntmps177
  go_wp2_with (go_at_call 203; refine (mul64_any k hk _).mono ?_; rintro e w' ⟨rfl, rfl⟩)
  go_ret2
  exact ⟨rfl, rfl⟩

/-- The first m numbers copied behind themselves. -/
def overAt (zs : List Int) (m c : Nat) : List Int := zs.take m ++ (zs.take c ++ zs.drop (m + c))
theorem length_overAt {zs : List Int} {m c : Nat} (h : m + c ≤ zs.length) : (overAt zs m c).length = zs.length := by simp [overAt]; omega
theorem overAt_rep {zs : List Int} {m c : Nat} {x : Int} (hc : c ≤ m) (hz : zs.take m = List.replicate m x) : (overAt zs m c).take (m + c) = List.replicate (m + c) x := by
  unfold overAt
  have h1 : zs.take c = List.replicate c x := by
    have := congrArg (List.take c) hz
    rw [List.take_take, Nat.min_eq_left hc] at this
    rw [this]
    simp [Nat.min_eq_left hc]
  rw [hz, h1, List.take_append, List.take_of_length_le (by simp), List.length_replicate, Nat.add_sub_cancel_left, List.take_append, List.take_of_length_le (by simp), List.length_replicate, Nat.sub_self, List.take_zero, List.append_nil, List.replicate_append_replicate]

theorem int_size : (Try.prog.info? 3).map (·.size) = some 1 := by
  obtain ⟨i0, hi, hz0, hz1, hz2⟩ := info_parts Try.infoInt
  rw [hi]; simp [hz1]

theorem take_three {α : Type} {A X Z : List α} {n m c : Nat} (hA : A.length = m) (hX : X.length = c) (h : m + c ≤ n) : (A ++ (X ++ Z)).take n = A ++ (X ++ Z.take (n - (m + c))) := by
  subst hA hX
  rw [← List.append_assoc, List.take_append, List.take_of_length_le (by simp; omega), List.append_assoc, List.length_append]

theorem step_copy_self {ops : Array Oper} {o : Oper} {a : Act} {w : World} {K : Act → World → Prop} {Q : Exit → Act → World → Prop} {E : Prop} (hgd : o.guard = none) (d s : Operand)
    (ho : o.op = .call { callee := .builtin .copy, args := #[d, s], argTypes := #[22, 22] })
    (B g n cap m c : Nat) (zs : List Int) (hd : a.eval d = .slice (some ⟨g, m, none⟩) (n - m) (cap - m)) (hs : a.eval s = .slice (some ⟨g, 0, none⟩) m cap)
    (hown : Own w B (some ⟨g, 0, none⟩) n cap zs) (hm : m ≤ n) (hc : c = Nat.min m (n - m))
    (h : ∀ w', Own w' B (some ⟨g, 0, none⟩) n cap (overAt zs m c) → Below B w w' → K (a.put o.dst (.int .i64 (c : Int))) w') :
    if Region.wanted o (yielded ops a.tmps) = true then Oper.wp Try.prog o a w K Q else E := by
  have hlx := hown.len
  have hcm : c ≤ m ∧ c ≤ n - m := by rw [hc]; exact ⟨Nat.min_le_left _ _, Nat.min_le_right _ _⟩
  have hcells := has_cells (hown.has)
  obtain ⟨⟨h1, h2⟩, h3⟩ := hown
  obtain ⟨i0, hi, hz0, hz1, hz2⟩ := info_parts Try.infoInt
  have hsz : (Try.prog.info? 3).map (·.size) = some 1 := by rw [hi]; simp [hz1]
  rcases h2 with ⟨hv, hn⟩ | ⟨g', cap', cur, hv, hg, hh, hnc, hcm', hcs, htake⟩
  · simp at hv
  · simp at hv
    obtain ⟨rfl, rfl⟩ := hv
    have htk : cur.toList.take n = zs.map (Value.int .i64) := by simpa using htake
    refine step_copy_splice hgd d s 22 22 ho 3 Try.underlying22 hsz (some ⟨g, m, none⟩) (some ⟨g, 0, none⟩) (n - m) (cap - m) m cap hd hs g m cur.toList 3 (by simpa using hh) ((zs.take c).map (Value.int .i64)) (by simp; omega) (fun hp => ⟨rfl, _, rfl, fun j v hj => ?_⟩) (by simp; omega) (by intro v hv; obtain ⟨y, _, rfl⟩ := List.mem_map.1 hv; rfl) B w (Below.refl _ _) hg ?_
    · refine hcells j v ?_
      rw [List.getElem?_map] at hj ⊢
      rw [List.getElem?_take] at hj
      split at hj
      · exact hj
      · simp at hj
    · intro w' hw' hb
      have hl : ((zs.take c).map (Value.int .i64)).length = c := by simp; omega
      have e : (a.put o.dst (goInt ((zs.take c).map (Value.int .i64)).length)) = a.put o.dst (.int .i64 (c : Int)) := by rw [hl]; simp [goInt]
      rw [e]
      refine h w' ⟨⟨by rw [List.length_map, length_overAt (by omega)]; simpa using h1, .inr ⟨g, cap, _, rfl, hg, hw'.out, hnc, hcm', ?_, ?_⟩⟩, by rw [length_overAt (by omega)]; exact h3.1, h3.2⟩ hb
      · simp only [splice, hl]
        simp
        omega
      · simp only [splice]
        rw [hl]
        simp only [Nat.mul_one, overAt, List.map_append, List.map_take, List.map_drop]
        rw [← htk]
        have e1 : (cur.toList.take n).take m = cur.toList.take m := by rw [List.take_take, Nat.min_eq_left hm]
        have hlen : n ≤ cur.toList.length := by
          have := congrArg List.length htk
          simp at this
          simp
          omega
        rw [e1, List.drop_take]
        exact take_three (by rw [List.length_take]; omega) (by rw [List.length_take, List.length_take]; omega) (by omega)

set_option maxRecDepth 100000 in
set_option maxHeartbeats 1000000 in
theorem repeat_any (a : Option Addr) (cap k : Nat) (x : Int) (w : World) (h : Has w a 1 cap [x]) (hk : k ≤ 5) :
    Calls Try.prog 147 #[.slice a 1 cap, .int .i64 (k : Int)] w fun e w' => ∃ a' cap', e = .returned (.slice a' k cap') ∧ Own w' w.heap.size a' k cap' (List.replicate k x) ∧ Below w.heap.size w w' := by
  by_cases hk0 : k = 0
  · subst hk0
    go_enter Try.func147, Try.ntmps147
    go_wp2_with (first | (go_at_call 177; refine (mul_any 0 hk _).mono ?_; rintro e w' ⟨rfl, rfl⟩) | (at_make; refine wpList_make_ints _ rfl _ _ rfl 0 rfl rfl (by omega) ?_; intro a1 cap1 w1 hown1 hb1) | (with_reducible refine wpList_copy_nothing rfl _ _ _ _ rfl 3 Try.underlying22 int_size _ _ _ _ _ _ rfl rfl (Nat.min_eq_right (Nat.zero_le _)) ?_))
    refine wp_loop_rounds 1 ?_
    rw [rounds_succ]
    go_wp2_with fail
    go_ret
    exact ⟨_, _, rfl, hown1, hb1⟩
  · have hk1 : 1 ≤ k := by omega
    clear hk0
    go_enter Try.func147, Try.ntmps147
    go_wp2_with (first | (go_at_call 177; refine (mul_any k hk _).mono ?_; rintro e w' ⟨rfl, rfl⟩) | (at_make; refine wpList_make_ints _ rfl _ _ rfl k rfl rfl (by omega) ?_; intro a1 cap1 w1 hown1 hb1) | (with_reducible refine wpList_copy_ints _ rfl _ _ rfl w.heap.size _ _ _ _ _ _ _ _ rfl rfl hown1 (h.below hb1 (Nat.le_refl _)) (by omega) ?_; intro w2 hown2 hb2))
    have hT : (over0 (List.replicate k 0) [x]).take 1 = List.replicate 1 x := by
      obtain ⟨j, rfl⟩ : ∃ j, k = j + 1 := ⟨k - 1, by omega⟩
      simp [over0]
    obtain ⟨g, rfl, hg1, hg2, -, -⟩ := hown1.opened (by omega)
    have HT := hid hT
    have hbw := hb1.trans hb2
    clear hT hown1 hb1 hb2 hg2
    go_wp2_with fail
    go_loopw [8] (fun i wr => ∃ (m : Nat) (zs : List Int), i = .int .i64 m ∧ 1 ≤ m ∧ m ≤ k ∧ Own wr w.heap.size (some ⟨g, 0, none⟩) k cap1 zs ∧ Hid (zs.take m = List.replicate m x) ∧ Below w.heap.size w wr) (fun i _ => k - (intOf i).toNat)
    case atStart => exact ⟨1, _, rfl, Nat.le_refl _, hk1, hown2, HT, hbw⟩
    case round =>
      clear HT hown2 hbw
      obtain ⟨m, zs, rfl, hm1, hm2, hown, HZ, hb⟩ := hrel
      by_cases hlt : m < k
      · have hcap := hown.has.2.1
        have hm3 : m ≤ cap1 := by omega
        have hcm : ¬ cap1 = m := by omega
        have HL := hid hown.len
        obtain ⟨c, hc⟩ : ∃ c, c = Nat.min m (k - m) := ⟨_, rfl⟩
        have hc1 : c ≤ m ∧ c ≤ k - m ∧ 1 ≤ c := by rw [hc]; exact ⟨Nat.min_le_left _ _, Nat.min_le_right _ _, Nat.le_min.2 ⟨hm1, by omega⟩⟩
        obtain ⟨hc2, hc3, hc4⟩ := hc1
        have HC := hid hc
        have hwr : IntKind.i64.wrap ((m : Int) + (c : Int)) = (m : Int) + (c : Int) := IntWalk.i64_in _ (by omega)
        have HZ2 := hid (overAt_rep (zs := zs) hc2 HZ.out)
        clear hc
        go_wp2_with fail
        go_region_law (refine step_copy_self rfl (.tmp 41) (.tmp 44) rfl w.heap.size g k cap1 m c zs (by simp [Act.eval, Act.put]) (by simp [Act.eval, Act.put]) hown hm2 HC.out ?_; intro w4 hown4 hb4)
        all_goals
          have hbd := hb.trans (((Below.refl w.heap.size wr).drew).trans hb4)
          clear hb4
          simp [Act.put]
          go_wp2_with fail
          go_roundw
          case rel => exact ⟨m + c, _, by go_num, by omega, by omega, hown4, HZ2, hbd⟩
          case measure => simp [intOf]; omega
      · obtain rfl : m = k := by omega
        have HL := hid hown.len
        go_wp2_with fail
        go_ret
        have hz := HZ.out
        rw [List.take_of_length_le (by rw [HL.out]; exact Nat.le_refl _)] at hz
        exact ⟨_, _, rfl, by rw [← hz]; exact hown, hb⟩
end Go.Proofs.Ytlfbmpgjhnpceab

namespace Go.Proofs.Ytlfbmpgjhnpceab
open Go.RowKit

set_option maxHeartbeats 2000000 in
theorem stepApart_any (B : Nat) (a al ah : Option Addr) (n cap capl caph : Nat) (ys ls hs : List Int) (w : World) (h : Own w B a n cap ys) (hl : Has w al n capl ls) (hh : Has w ah n caph hs)
    (hal : ∀ g, a = some ⟨g, 0, none⟩ → ∀ q, al = some q → q.block ≠ g) (hah : ∀ g, a = some ⟨g, 0, none⟩ → ∀ q, ah = some q → q.block ≠ g) (hbd : ∀ i, i < n → nth hs i ≤ 1000) (hys : ∀ i, i < n → 0 ≤ nth ys i) :
    Calls Try.prog 149 #[.slice a n cap, .slice al n capl, .slice ah n caph] w fun e w' => e = .returned (.tuple #[]) ∧ Own w' B a n cap (stepC ys ls hs).1 ∧ Marked w w' a := by
  have hn := h.le
  have HLY := hid h.len
  have HLL := hid hl.len
  have HLH := hid hh.len
  by_cases h0 : n = 0
  · have hn0 : n ≤ 0 := by omega
    have HR : Hid ((stepC ys ls hs).1 = ys) := hid (by
      have : ys = [] := List.eq_nil_of_length_eq_zero (by rw [HLY.out]; omega)
      subst this
      simp [stepC])
    clear h0
    go_enter Try.func149, Try.ntmps149
    go_wp2_with fail
    refine wp_loop_rounds 1 ?_
    rw [rounds_succ]
    go_wp2_with fail
    go_end0
    exact ⟨rfl, by rw [HR.out]; exact h, ⟨none, World.grownBy.refl _ _, by simp⟩⟩
  · obtain ⟨g, rfl, hg1, hg2, hg3, hg4⟩ := h.opened (by omega)
    obtain ⟨bl, ol, rfl, hbl, hcl⟩ := hl.2.2.2.2 (by omega)
    obtain ⟨bh, oh, rfl, hbh, hch⟩ := hh.2.2.2.2 (by omega)
    have hl1 : bl ≠ g := hal _ rfl _ rfl
    have hh1 : bh ≠ g := hah _ rfl _ rfl
    clear hg3 hg4 hal hah
    go_enter Try.func149, Try.ntmps149
    go_wp2_with fail
    go_loopw [6] (fun i wr => ∃ (k : Nat), k ≤ n ∧ i = .int .i64 ((k : Int) - 1) ∧ Own wr B (some ⟨g, 0, none⟩) n cap (midStep ys ls hs k) ∧ Hid ((stepC (ys.drop k) (ls.drop k) (hs.drop k)).2 = true) ∧ w.grownBy wr (some g)) (fun i _ => (intOf i + 1).toNat)
    case atStart =>
      refine ⟨n, Nat.le_refl _, rfl, ?_, hid ?_, World.grownBy.refl _ _⟩
      · unfold midStep
        rw [List.drop_eq_nil_of_le (by rw [HLY.out]; omega), List.take_of_length_le (by rw [HLY.out]; omega)]
        simpa [stepC] using h
      · rw [List.drop_eq_nil_of_le (by rw [HLY.out]; omega)]; simp [stepC]
    case round =>
      obtain ⟨k, hk, rfl, hown, HC, hgr⟩ := hrel
      match k, hk, HC, hown with
      | 0, hk, HC, hown =>
        go_wp2_with fail
        go_end0
        refine ⟨rfl, ?_, ⟨some g, hgr, fun g' hg' => ⟨_, rfl, by simpa using hg'⟩⟩⟩
        simpa [midStep] using hown
      | j + 1, hk, HC, hown =>
        have e : ((j + 1 : Nat) : Int) - 1 = (j : Int) := by omega
        rw [e]
        clear e
        obtain ⟨g', hga, hg1', hg2', hg3', hg4'⟩ := hown.opened (by omega)
        cases hga
        have hcy := hg3' j (by omega)
        have hfy := hg4' j
        have e1 : nth (midStep ys ls hs (j + 1)) j = nth ys j := by
          unfold midStep
          rw [nth_append_left (by simp; rw [HLY.out]; omega), nth_take (by omega)]
        rw [e1] at hcy
        have hcl' : wr.cell? ⟨bl, ol + j, none⟩ = some (.int .i64 (nth ls j)) := grown_cell hgr (hcl j (by omega)) (by omega)
        have hch' : wr.cell? ⟨bh, oh + j, none⟩ = some (.int .i64 (nth hs j)) := grown_cell hgr (hch j (by omega)) (by omega)
        have hb1000 := hbd j (by omega)
        have hy0 := hys j (by omega)
        have hjn : (j : Int) < (n : Int) := by omega
        have hjz : (0 : Int) ≤ (j : Int) := by omega
        have HE := hid (stepC_at (ys := ys) (ls := ls) (hs := hs) (j := j) (by rw [HLY.out]; omega) (by rw [HLL.out]; omega) (by rw [HLH.out]; omega))
        have hset : ∀ z : Int, (midStep ys ls hs (j + 1)).set j z = ys.take j ++ z :: (stepC (ys.drop (j + 1)) (ls.drop (j + 1)) (hs.drop (j + 1))).1 := by
          intro z
          unfold midStep
          rw [take_succ_nth (by rw [HLY.out]; omega), List.append_assoc]
          have hlj : (ys.take j).length = j := by simp; rw [HLY.out]; omega
          rw [List.set_append_right _ _ (by omega), hlj, Nat.sub_self]
          rfl
        have HSET := hid hset
        clear hcl hch hg3' hg4' e1 hset hbd hys hg2' hg1'
        by_cases hlt : nth ys j < nth hs j
        · have htd : decide (nth ys j < nth hs j) = true := by simpa using hlt
          have HR : Hid ((midStep ys ls hs (j + 1)).set j (nth ys j + 1) = (stepC ys ls hs).1) := hid (by
            have he := HE.out
            simp only [HC.out, if_true, if_pos hlt] at he
            rw [HSET.out, stepC_done (ys := ys) (ls := ls) (hs := hs) j (by rw [HLY.out]; omega) (by rw [HLY.out, HLL.out]) (by rw [HLY.out, HLH.out]) (by rw [he]), he])
          go_wp2_with fail
          go_quiet (fail)
          go_wp2_with fail
          refine bodyPost_ret (results_none rfl _ _ _) rfl ?_
          have hd : Own (wr.drewN nq) B (some ⟨g, 0, none⟩) n cap (midStep ys ls hs (j + 1)) := hown
          obtain ⟨s1, s2⟩ := hd.set j (nth ys j + 1)
          rw [HR.out] at s1
          exact ⟨rfl, s1, ⟨some g, grown_trans (grown_drewN hgr nq) s2, fun g' hg' => ⟨_, rfl, by simpa using hg'⟩⟩⟩
        · have htd : decide (nth ys j < nth hs j) = false := by simp; omega
          have HR : Hid ((midStep ys ls hs (j + 1)).set j (nth ls j) = midStep ys ls hs j ∧ (stepC (ys.drop j) (ls.drop j) (hs.drop j)).2 = true) := hid (by
            have he := HE.out
            simp only [HC.out, if_true, if_neg hlt] at he
            refine ⟨?_, by rw [he]⟩
            rw [HSET.out]
            unfold midStep
            rw [he])
          go_wp2_with fail
          go_quiet (fail)
          go_wp2_with fail
          go_roundw
          case rel =>
            have hd : Own (wr.drewN nq) B (some ⟨g, 0, none⟩) n cap (midStep ys ls hs (j + 1)) := hown
            obtain ⟨s1, s2⟩ := hd.set j (nth ls j)
            rw [HR.out.1] at s1
            exact ⟨j, by omega, by go_num, s1, hid HR.out.2, grown_trans (grown_drewN hgr nq) s2⟩
          case measure => simp [intOf]

end Go.Proofs.Ytlfbmpgjhnpceab

namespace Go.Proofs.Ytlfbmpgjhnpceab
open Go.RowKit

theorem place_run {p : Int} {out : List Int} : ∀ (f : Nat) (x : Int), x ≤ p → p - x ≤ f → ∃ y, Runs out p x y ∧ ¬ (y < p ∧ y ∈ out) ∧ y ≤ p ∧ place p out x = if p ≤ y then -1 else y := by
  have key : ∀ (f : Nat) (x : Int), x ≤ p → p - x ≤ f → ∃ y, Runs out p x y ∧ ¬ (y < p ∧ y ∈ out) ∧ y ≤ p := by
    intro f
    induction f with
    | zero => intro x h1 h2; exact ⟨x, Runs.refl _ _ _, by omega, h1⟩
    | succ f ih =>
      intro x h1 h2
      by_cases hx : x < p ∧ x ∈ out
      · obtain ⟨y, r, h3, h4⟩ := ih (x + 1) (by omega) (by omega)
        refine ⟨y, ⟨by have := r.1; omega, fun z z1 z2 => ?_⟩, h3, h4⟩
        by_cases e : z = x
        · subst e; exact hx
        · exact r.2 z (by omega) z2
      · exact ⟨x, Runs.refl _ _ _, hx, h1⟩
  intro f x h1 h2
  obtain ⟨y, r, h3, h4⟩ := key f x h1 h2
  exact ⟨y, r, h3, h4, place_of r h3 h4⟩

theorem place_ex {p : Int} {out : List Int} {x : Int} (h : x ≤ p) : ∃ y, Runs out p x y ∧ ¬ (y < p ∧ y ∈ out) ∧ y ≤ p ∧ place p out x = if p ≤ y then -1 else y :=
  place_run (p - x).toNat x h (by omega)

/-! ### Looking back -/
/-- The first free place from x on backwards, of so many; -1 if there is none. -/
def lookBack (out : List Int) : Nat → Int → Int
  | 0, _ => -1
  | f + 1, x => if x < 0 then -1 else if hasB out x then lookBack out f (x - 1) else x

theorem lookBack_bounds (out : List Int) : ∀ (f : Nat) (x : Int), -1 ≤ lookBack out f x ∧ (lookBack out f x ≤ x ∨ lookBack out f x = -1)
  | 0, x => by simp [lookBack]
  | f + 1, x => by
    have ih := lookBack_bounds out f (x - 1)
    unfold lookBack
    split
    · simp
    · split
      · omega
      · omega
theorem lookBack_neg {out : List Int} {f : Nat} {x : Int} (h : x < 0) : lookBack out f x = -1 := by
  cases f with
  | zero => rfl
  | succ f => simp [lookBack, h]
theorem lookBack_zero {out : List Int} {x : Int} : lookBack out 0 x = -1 := rfl
theorem lookBack_step {out : List Int} {f : Nat} {x : Int} (h : 0 ≤ x) (hm : hasB out x = true) : lookBack out (f + 1) x = lookBack out f (x - 1) := by
  rw [lookBack, if_neg (by omega), if_pos hm]
theorem lookBack_hit {out : List Int} {f : Nat} {x : Int} (h : 0 ≤ x) (hm : ¬ hasB out x = true) : lookBack out (f + 1) x = x := by
  rw [lookBack, if_neg (by omega), if_neg hm]

/-- Where a car goes that looks back m places. -/
def backPlace (p : Int) (m : Nat) (out : List Int) (x : Int) : Int := if lookBack out (m + 1) x < 0 then place p out x else lookBack out (m + 1) x
theorem backPlace_neg {p : Int} {m : Nat} {out : List Int} {x : Int} (h : lookBack out (m + 1) x = -1) : backPlace p m out x = place p out x := by
  unfold backPlace; rw [if_pos (by omega)]
theorem backPlace_pos {p : Int} {m : Nat} {out : List Int} {x : Int} (h : 0 ≤ lookBack out (m + 1) x) : backPlace p m out x = lookBack out (m + 1) x := by
  unfold backPlace; rw [if_neg (by omega)]
def backs (p : Int) (m : Nat) (xs : List Int) : List Int := xs.foldl (fun out x => out ++ [backPlace p m out x]) []
theorem backs_nil (p : Int) (m : Nat) : backs p m [] = [] := rfl
theorem backs_snoc (p : Int) (m : Nat) (xs : List Int) (x : Int) : backs p m (xs ++ [x]) = backs p m xs ++ [backPlace p m (backs p m xs) x] := by simp [backs]
theorem backs_succ {p : Int} {m : Nat} {xs : List Int} {k : Nat} (h : k < xs.length) : backs p m (xs.take (k + 1)) = backs p m (xs.take k) ++ [backPlace p m (backs p m (xs.take k)) (nth xs k)] := by
  rw [take_succ_nth h, backs_snoc]
theorem length_backs (p : Int) (m : Nat) (xs : List Int) : (backs p m xs).length = xs.length := by
  have : ∀ (ys out : List Int), (ys.foldl (fun out x => out ++ [backPlace p m out x]) out).length = out.length + ys.length := by
    intro ys
    induction ys with
    | nil => intro out; rfl
    | cons y ys ih => intro out; simp only [List.foldl_cons]; rw [ih]; simp; omega
  simp [backs, this]
theorem backPlace_bounds {p : Int} {m : Nat} {out : List Int} {x : Int} (h0 : 0 ≤ x) (h1 : x < p) : -1 ≤ backPlace p m out x ∧ (backPlace p m out x < p) := by
  have h2 := lookBack_bounds out (m + 1) x
  have h3 := place_bounds (p := p) (out := out) h0
  unfold backPlace
  split <;> omega
theorem backs_zero_place {p : Int} {out : List Int} {x : Int} (h0 : 0 ≤ x) (h1 : x < p) : backPlace p 0 out x = place p out x := by
  unfold backPlace
  by_cases hm : hasB out x = true
  · rw [lookBack_step h0 hm, lookBack_zero, if_pos (by omega)]
  · rw [lookBack_hit h0 hm, if_neg (by omega)]
    have := place_of (p := p) (Runs.refl out p x) (fun e => hm (hasB_iff.2 e.2)) (by omega)
    rw [this, if_neg (by omega)]

def backB (xs : List Int) (p k : Int) : Bool := good xs p && inB k 0 8
def driveBackOf (xs : List Int) (p k : Int) : List Int × Bool := if backB xs p k && !hasB (backs p k.toNat xs) (-1) then (backs p k.toNat xs, true) else ([], false)
def doBackOf (xs : List Int) (p k : Int) : Bool × Bool := if backB xs p k then (!hasB (backs p k.toNat xs) (-1), true) else (false, false)
/-- The least number of places from k on, of so many. -/
def leastFrom (xs : List Int) (p : Int) : Nat → Nat → Int × Bool
  | 0, _ => (0, false)
  | f + 1, k => if hasB (backs p k xs) (-1) then leastFrom xs p f (k + 1) else ((k : Int), true)
def leastBackOf (xs : List Int) (p : Int) : Int × Bool := if good xs p then leastFrom xs p 9 0 else (0, false)

/-! ### Cars that fail -/
def driveSomeOf (xs : List Int) (p : Int) : List Int × Bool := if good xs p then (drive p xs, true) else ([], false)
/-- How many stand on no place. -/
def fails (ys : List Int) : Nat := ys.countP fun y => decide (y < 0)
theorem fails_le (ys : List Int) : fails ys ≤ ys.length := List.countP_le_length
theorem fails_succ {ys : List Int} {k : Nat} (h : k < ys.length) : fails (ys.take (k + 1)) = fails (ys.take k) + if nth ys k < 0 then 1 else 0 := by
  unfold fails
  rw [take_succ_nth h, List.countP_append]
  simp
/-- The surplus of favourites from a place on. -/
def surplus (xs : List Int) (p j : Int) : Int := (xs.length : Int) - below xs j - (p - j)
/-- The greatest surplus from the places less than j on, or 0. -/
def defTo (xs : List Int) (p : Int) : Nat → Int
  | 0 => 0
  | j + 1 => max (defTo xs p j) (surplus xs p j)

/-- How many stand on a place less than j. -/
def stood (ys : List Int) (j : Int) : Nat := ys.countP fun y => decide (0 ≤ y) && decide (y < j)

theorem place_new {p : Int} {out : List Int} {x : Int} (h1 : x ≤ p) : place p out x = -1 ∨ (place p out x ∉ out ∧ x ≤ place p out x ∧ place p out x < p) := by
  obtain ⟨y, r, h3, h4, h5⟩ := place_ex (out := out) h1
  have h6 := r.1
  rw [h5]
  split
  · exact .inl rfl
  · exact .inr ⟨fun e => h3 ⟨by omega, e⟩, h6, by omega⟩

/-- No place is taken twice. -/
theorem drive_once {p : Int} {xs : List Int} (hb : ∀ x ∈ xs, 0 ≤ x ∧ x ≤ p - 1) (j : Int) (hj : 0 ≤ j) : ∀ k, k ≤ xs.length → (drive p (xs.take k)).countP (fun y => decide (y = j)) = if hasB (drive p (xs.take k)) j then 1 else 0 := by
  intro k
  induction k with
  | zero => intro _; simp [drive, hasB]
  | succ k ih =>
    intro hk
    have ih := ih (by omega)
    obtain ⟨h0, h1⟩ := hb _ (nth_mem (xs := xs) (i := k) (by omega))
    rw [drive_succ (by omega), List.countP_append, ih]
    generalize drive p (xs.take k) = out at *
    have hn := place_new (p := p) (out := out) (x := nth xs k) (by omega)
    generalize place p out (nth xs k) = y at *
    by_cases e : y = j
    · subst e
      have : y ∉ out := by rcases hn with h | h; omega; exact h.1
      simp [this, hasB]
    · have e' : ¬ j = y := fun h => e h.symm
      simp [hasB, e, e']

theorem stood_succ (ys : List Int) (j : Int) (hj : 0 ≤ j) : stood ys (j + 1) = stood ys j + ys.countP (fun y => decide (y = j)) := by
  induction ys with
  | nil => rfl
  | cons y ys ih =>
    unfold stood at *
    simp only [List.countP_cons, ih, Bool.and_eq_true, decide_eq_true_eq]
    by_cases e : y = j
    · subst e
      rw [if_pos ⟨hj, by omega⟩, if_neg (by omega), if_pos rfl]
      omega
    · simp only [if_neg e]
      by_cases e2 : 0 ≤ y ∧ y < j
      · rw [if_pos ⟨e2.1, by omega⟩, if_pos e2]; omega
      · rw [if_neg (by omega), if_neg e2]; omega

/-- Fewer than the favourites below j + 1 stand below j: just then j is taken. -/
theorem taken_iff {p : Int} {xs : List Int} (hb : ∀ x ∈ xs, 0 ≤ x ∧ x ≤ p - 1) (j : Int) (hj : 0 ≤ j) (hp : j < p) : ∀ k, k ≤ xs.length →
    (stood (drive p (xs.take k)) j ≤ below (xs.take k) j) ∧ (hasB (drive p (xs.take k)) j = true ↔ stood (drive p (xs.take k)) j < below (xs.take k) (j + 1)) := by
  intro k
  induction k with
  | zero => intro _; simp [drive, hasB, stood, below]
  | succ k ih =>
    intro hk
    have ih := ih (by omega)
    obtain ⟨h0, h1⟩ := hb _ (nth_mem (xs := xs) (i := k) (by omega))
    rw [drive_succ (by omega), below_succ (by omega), below_succ (by omega)]
    obtain ⟨y, r, h3, h4, h5⟩ := place_ex (p := p) (out := drive p (xs.take k)) (x := nth xs k) (by omega)
    rw [h5]
    have hmono : below (xs.take k) j ≤ below (xs.take k) (j + 1) := by
      unfold below
      exact List.countP_mono_left fun x _ hx => by simp at *; omega
    generalize drive p (xs.take k) = out at *
    have hs : ∀ z : Int, stood (out ++ [z]) j = stood out j + if 0 ≤ z ∧ z < j then 1 else 0 := by
      intro z
      unfold stood
      rw [List.countP_append]
      simp [List.countP_cons]
    rw [hs]
    have hh : ∀ z : Int, hasB (out ++ [z]) j = (hasB out j || decide (z = j)) := by
      intro z
      by_cases e : z = j
      · subst e; simp [hasB]
      · have e' : ¬ j = z := fun h => e h.symm
        simp [hasB, e, e']
    rw [hh]
    have hr := r.1
    by_cases hy : p ≤ y
    · rw [if_pos hy]
      have hj2 : nth xs k ≤ j → hasB out j = true := fun h => hasB_iff.2 (r.2 j h (by omega)).2
      have e1 : ¬ ((0 : Int) ≤ -1 ∧ (-1 : Int) < j) := by omega
      have e2 : ¬ (-1 : Int) = j := by omega
      simp only [if_neg e1, e2, decide_false, Bool.or_false]
      by_cases hx : nth xs k < j + 1
      · have := hj2 (by omega)
        rw [if_pos hx]
        refine ⟨by split <;> omega, ⟨fun _ => ?_, fun _ => this⟩⟩
        have := ih.2.1 this
        omega
      · rw [if_neg hx, if_neg (by omega)]
        exact ⟨by omega, ih.2⟩
    · rw [if_neg hy]
      by_cases hyj : y < j
      · rw [if_pos ⟨by omega, hyj⟩, if_pos (show nth xs k < j by omega), if_pos (show nth xs k < j + 1 by omega), show decide (y = j) = false from by simp; omega, Bool.or_false]
        refine ⟨by omega, ih.2.trans ⟨fun h => by omega, fun h => by omega⟩⟩
      · rw [if_neg (show ¬ (0 ≤ y ∧ y < j) by omega)]
        by_cases e : y = j
        · subst e
          have : hasB out y = false := hasB_not.2 fun e => h3 ⟨by omega, e⟩
          have h6 : ¬ stood out y < below (xs.take k) (y + 1) := fun h => by have := ih.2.2 h; simp_all
          simp only [decide_true, Bool.or_true, true_iff]
          rw [if_pos (show nth xs k < y + 1 by omega)]
          refine ⟨by split <;> omega, by omega⟩
        · rw [show decide (y = j) = false from by simp; omega, Bool.or_false]
          have hj2 : nth xs k ≤ j → hasB out j = true := fun h => hasB_iff.2 (r.2 j h (by omega)).2
          by_cases hx : nth xs k < j + 1
          · have h7 := hj2 (by omega)
            rw [if_pos hx]
            refine ⟨by split <;> omega, ⟨fun _ => ?_, fun _ => h7⟩⟩
            have := ih.2.1 h7
            omega
          · rw [if_neg hx, if_neg (by omega)]
            exact ⟨by omega, ih.2⟩

/-- How many of the favourites below a place do not stand below it. -/
theorem over_step {p : Int} {xs : List Int} (hb : ∀ x ∈ xs, 0 ≤ x ∧ x ≤ p - 1) (j : Int) (hj : 0 ≤ j) (hp : j < p) :
    (stood (drive p xs) (j + 1) = if stood (drive p xs) j < below xs (j + 1) then stood (drive p xs) j + 1 else stood (drive p xs) j) ∧ stood (drive p xs) j ≤ below xs j ∧ below xs j ≤ below xs (j + 1) := by
  have h1 := taken_iff hb j hj hp xs.length (Nat.le_refl _)
  have h2 := drive_once hb j hj xs.length (Nat.le_refl _)
  rw [List.take_of_length_le (Nat.le_refl _)] at h1 h2
  have hmono : below xs j ≤ below xs (j + 1) := by
    unfold below
    exact List.countP_mono_left fun x _ hx => by simp at *; omega
  refine ⟨?_, h1.1, hmono⟩
  rw [stood_succ _ _ hj, h2]
  by_cases e : hasB (drive p xs) j = true
  · rw [if_pos e, if_pos (h1.2.1 e)]
  · rw [if_neg e, if_neg fun h => e (h1.2.2 h)]; rfl

theorem over_max {p : Int} {xs : List Int} (hb : ∀ x ∈ xs, 0 ≤ x ∧ x ≤ p - 1) : ∀ q : Nat, (q : Int) ≤ p →
    (∀ j : Nat, j ≤ q → (below xs q : Int) - below xs j - ((q : Int) - j) ≤ (below xs q : Int) - stood (drive p xs) q) ∧ (∃ j : Nat, j ≤ q ∧ (below xs q : Int) - below xs j - ((q : Int) - j) = (below xs q : Int) - stood (drive p xs) q) ∧ (stood (drive p xs) q : Int) ≤ below xs q := by
  intro q
  induction q with
  | zero =>
    intro _
    have h0 : stood (drive p xs) 0 = 0 := by
      unfold stood
      rw [List.countP_eq_zero]
      intro y _
      simp
    have h1 : below xs 0 = 0 := by
      unfold below
      rw [List.countP_eq_zero]
      intro y hy
      have := hb y hy
      simp
      omega
    simp only [Int.natCast_zero] at *
    refine ⟨fun j hj => ?_, ⟨0, Nat.le_refl _, ?_⟩, ?_⟩
    · obtain rfl : j = 0 := by omega
      simp [h0, h1]
    · simp [h0, h1]
    · rw [h0, h1]; simp
  | succ q ih =>
    intro hq
    obtain ⟨i1, ⟨j, i2, i3⟩, i4⟩ := ih (by omega)
    obtain ⟨s1, s2, s3⟩ := over_step hb (q : Int) (by omega) (by omega)
    have e : ((q + 1 : Nat) : Int) = (q : Int) + 1 := by omega
    rw [e]
    refine ⟨fun k hk => ?_, ?_, ?_⟩
    · by_cases hk2 : k ≤ q
      · have := i1 k hk2
        rw [s1]
        split <;> omega
      · obtain rfl : k = q + 1 := by omega
        rw [e, s1]
        split <;> omega
    · by_cases hlt : stood (drive p xs) q < below xs ((q : Int) + 1)
      · refine ⟨j, by omega, ?_⟩
        rw [s1, if_pos hlt]
        omega
      · refine ⟨q + 1, Nat.le_refl _, ?_⟩
        rw [e, s1, if_neg hlt]
        omega
    · rw [s1]
      split <;> omega

theorem defTo_max (xs : List Int) (p : Int) : ∀ q : Nat, 0 ≤ defTo xs p q ∧ (∀ j, j < q → surplus xs p j ≤ defTo xs p q) ∧ (defTo xs p q = 0 ∨ ∃ j, j < q ∧ defTo xs p q = surplus xs p j)
  | 0 => ⟨by simp [defTo], fun j hj => by omega, .inl rfl⟩
  | q + 1 => by
    obtain ⟨h1, h2, h3⟩ := defTo_max xs p q
    refine ⟨by rw [defTo]; omega, fun j hj => ?_, ?_⟩
    · rw [defTo]
      by_cases e : j < q
      · have := h2 j e; omega
      · obtain rfl : j = q := by omega
        omega
    · rw [defTo]
      by_cases e : surplus xs p q ≤ defTo xs p q
      · rw [Int.max_eq_left e]
        rcases h3 with h | ⟨j, h, h'⟩
        · exact .inl h
        · exact .inr ⟨j, by omega, h'⟩
      · rw [Int.max_eq_right (by omega)]
        exact .inr ⟨q, by omega, rfl⟩

theorem stood_fails {ys : List Int} {p : Int} (h : ∀ y ∈ ys, y < p) : stood ys p + fails ys = ys.length := by
  induction ys with
  | nil => rfl
  | cons y ys ih =>
    have ih := ih fun z hz => h z (List.mem_cons_of_mem _ hz)
    have := h y List.mem_cons_self
    unfold stood fails at *
    simp only [List.countP_cons, List.length_cons, Bool.and_eq_true, decide_eq_true_eq]
    split <;> split <;> omega

theorem drive_lt {p : Int} (hp : 0 ≤ p) {xs : List Int} (hb : ∀ x ∈ xs, 0 ≤ x ∧ x ≤ p - 1) : ∀ k, k ≤ xs.length → ∀ y ∈ drive p (xs.take k), -1 ≤ y ∧ y < p := by
  intro k
  induction k with
  | zero => intro _ y hy; simp [drive] at hy
  | succ k ih =>
    intro hk y hy
    rw [drive_succ (by omega), List.mem_append, List.mem_singleton] at hy
    rcases hy with hy | rfl
    · exact ih (by omega) y hy
    · obtain ⟨h0, h1⟩ := hb _ (nth_mem (xs := xs) (i := k) (by omega))
      have := place_bounds (p := p) (out := drive p (xs.take k)) h0
      omega

/-- The cars that fail are as many as the greatest surplus. -/
theorem fails_defect {p : Nat} {xs : List Int} (hp : 1 ≤ p) (hb : ∀ x ∈ xs, 0 ≤ x ∧ x ≤ (p : Int) - 1) : (fails (drive p xs) : Int) = defTo xs p p := by
  obtain ⟨h1, ⟨j, h2, h3⟩, h4⟩ := over_max hb p (Int.le_refl _)
  have hall : below xs p = xs.length := by
    unfold below
    rw [List.countP_eq_length]
    intro x hx
    have := hb x hx
    simp
    omega
  have hs := stood_fails (ys := drive p xs) (p := p) (fun y hy => by
    have := drive_lt (p := (p : Int)) (by omega) hb xs.length (Nat.le_refl _) y (by rw [List.take_of_length_le (Nat.le_refl _)]; exact hy)
    omega)
  rw [length_drive] at hs
  obtain ⟨d1, d2, d3⟩ := defTo_max xs p p
  have hall2 := hall
  rw [hall] at h1 h3 h4
  have e1 : ∀ j : Nat, surplus xs p j = (xs.length : Int) - below xs j - ((p : Int) - j) := fun j => rfl
  have hle : defTo xs p p ≤ fails (drive p xs) := by
    rcases d3 with h | ⟨k, hk, h⟩
    · omega
    · have := h1 k (by omega)
      rw [h, e1]
      omega
  have hge : (fails (drive p xs) : Int) ≤ defTo xs p p := by
    by_cases e : j < p
    · have := d2 j e
      rw [e1] at this
      omega
    · obtain rfl : j = p := by omega
      rw [hall] at h3
      omega
  omega

def defectOf (xs : List Int) (p : Int) : Int × Bool := if good xs p then ((fails (drive p xs) : Int), true) else (0, false)

/-! ### Places that are needed -/
theorem drive_other {p q : Int} {xs : List Int} (hb : ∀ x ∈ xs, 0 ≤ x ∧ x ≤ q - 1) : ∀ k, k ≤ xs.length → (∀ y ∈ drive q (xs.take k), 0 ≤ y ∧ y < p) → drive p (xs.take k) = drive q (xs.take k) := by
  intro k
  induction k with
  | zero => intro _ _; rfl
  | succ k ih =>
    intro hk hy
    obtain ⟨h0, h1⟩ := hb _ (nth_mem (xs := xs) (i := k) (by omega))
    rw [drive_succ (by omega)] at hy
    have ih := ih (by omega) fun y h => hy y (List.mem_append_left _ h)
    have hz := hy _ (List.mem_append_right _ List.mem_cons_self)
    rw [drive_succ (by omega), drive_succ (by omega), ih]
    generalize drive q (xs.take k) = out at *
    obtain ⟨y, r, h3, h4, h5⟩ := place_ex (p := q) (out := out) (x := nth xs k) (by omega)
    rw [h5] at hz ⊢
    have hyq : ¬ q ≤ y := fun e => by rw [if_pos e] at hz; omega
    rw [if_neg hyq] at hz ⊢
    rw [place_of (p := p) (y := y) ⟨r.1, fun z h6 h7 => ⟨by omega, (r.2 z h6 h7).2⟩⟩ (fun e => h3 ⟨by omega, e.2⟩) (by omega), if_neg (by omega)]

theorem drive_same {p q : Int} (hpq : p ≤ q) {xs : List Int} (hb : ∀ x ∈ xs, 0 ≤ x ∧ x ≤ p - 1) : ∀ k, k ≤ xs.length → (-1 : Int) ∉ drive p (xs.take k) → drive q (xs.take k) = drive p (xs.take k) := by
  intro k
  induction k with
  | zero => intro _ _; rfl
  | succ k ih =>
    intro hk hy
    obtain ⟨h0, h1⟩ := hb _ (nth_mem (xs := xs) (i := k) (by omega))
    rw [drive_succ (by omega)] at hy
    have ih := ih (by omega) fun h => hy (List.mem_append_left _ h)
    have hz : place p (drive p (xs.take k)) (nth xs k) ≠ -1 := fun e => hy (List.mem_append_right _ (by rw [e]; exact List.mem_cons_self))
    rw [drive_succ (by omega), drive_succ (by omega), ih]
    generalize drive p (xs.take k) = out at *
    obtain ⟨y, r, h3, h4, h5⟩ := place_ex (p := p) (out := out) (x := nth xs k) (by omega)
    rw [h5] at hz ⊢
    have hyq : ¬ p ≤ y := fun e => by rw [if_pos e] at hz; exact hz rfl
    rw [if_neg hyq]
    rw [place_of (p := q) (y := y) ⟨r.1, fun z h6 h7 => ⟨by omega, (r.2 z h6 h7).2⟩⟩ (fun e => h3 ⟨by omega, e.2⟩) (by omega), if_neg (by omega)]

/-- The greatest place and one more, at least 1. -/
def needTo (ys : List Int) : Int := ys.foldl (fun m y => max m (y + 1)) 1
theorem needTo_snoc (ys : List Int) (y : Int) : needTo (ys ++ [y]) = max (needTo ys) (y + 1) := by simp [needTo]
theorem needTo_succ {ys : List Int} {k : Nat} (h : k < ys.length) : needTo (ys.take (k + 1)) = max (needTo (ys.take k)) (nth ys k + 1) := by rw [take_succ_nth h, needTo_snoc]
theorem needTo_max : ∀ (ys : List Int), 1 ≤ needTo ys ∧ (∀ y ∈ ys, y < needTo ys) ∧ (needTo ys = 1 ∨ ∃ y ∈ ys, needTo ys = y + 1) := by
  intro ys
  have key : ∀ k, k ≤ ys.length → 1 ≤ needTo (ys.take k) ∧ (∀ y ∈ ys.take k, y < needTo (ys.take k)) ∧ (needTo (ys.take k) = 1 ∨ ∃ y ∈ ys.take k, needTo (ys.take k) = y + 1) := by
    intro k
    induction k with
    | zero => intro _; simp [needTo]
    | succ k ih =>
      intro hk
      obtain ⟨h1, h2, h3⟩ := ih (by omega)
      rw [needTo_succ (by omega), take_succ_nth (by omega)]
      refine ⟨by omega, fun y hy => ?_, ?_⟩
      · rw [List.mem_append, List.mem_singleton] at hy
        rcases hy with hy | rfl
        · have := h2 y hy; omega
        · omega
      · by_cases e : nth ys k + 1 ≤ needTo (ys.take k)
        · rw [Int.max_eq_left e]
          rcases h3 with h | ⟨y, hy, h⟩
          · exact .inl h
          · exact .inr ⟨y, List.mem_append_left _ hy, h⟩
        · rw [Int.max_eq_right (by omega)]
          exact .inr ⟨_, List.mem_append_right _ List.mem_cons_self, rfl⟩
  have := key ys.length (Nat.le_refl _)
  rwa [List.take_of_length_le (Nat.le_refl _)] at this

def neededOf (xs : List Int) : Int × Bool := if good xs 12 && allPark 12 xs then (needTo (drive 12 xs), true) else (0, false)
/-- Does a street of so many places serve? -/
def serves (xs : List Int) (p : Int) : Bool := allB xs 0 (p - 1) && allPark p xs

theorem serves_iff {xs : List Int} (hb : ∀ x ∈ xs, 0 ≤ x ∧ x ≤ 11) {p : Int} (h1 : 1 ≤ p) (h2 : p ≤ 12) : serves xs p = true ↔ allPark 12 xs = true ∧ needTo (drive 12 xs) ≤ p := by
  obtain ⟨n1, n2, n3⟩ := needTo_max (drive 12 xs)
  unfold serves
  rw [Bool.and_eq_true, allB_iff, allPark_iff, allPark_iff]
  constructor
  · rintro ⟨h3, h4⟩
    have := drive_same (q := 12) h2 h3 xs.length (Nat.le_refl _) (by rw [List.take_of_length_le (Nat.le_refl _)]; exact h4)
    rw [List.take_of_length_le (Nat.le_refl _)] at this
    refine ⟨by rw [this]; exact h4, ?_⟩
    rcases n3 with h | ⟨y, hy, h⟩
    · omega
    · rw [this] at hy
      have := drive_lt (p := p) (by omega) h3 xs.length (Nat.le_refl _) y (by rw [List.take_of_length_le (Nat.le_refl _)]; exact hy)
      omega
  · rintro ⟨h3, h4⟩
    have hy : ∀ y ∈ drive 12 xs, 0 ≤ y ∧ y < p := by
      intro y hy
      have h5 := n2 y hy
      have h6 := drive_lt (p := 12) (by omega) (by simpa using hb) xs.length (Nat.le_refl _) y (by rw [List.take_of_length_le (Nat.le_refl _)]; exact hy)
      have h7 : y ≠ -1 := fun e => h3 (e ▸ hy)
      omega
    have := drive_other (p := p) (q := 12) (by simpa using hb) xs.length (Nat.le_refl _) (by rw [List.take_of_length_le (Nat.le_refl _)]; exact hy)
    rw [List.take_of_length_le (Nat.le_refl _)] at this
    refine ⟨fun x hx => ?_, by rw [this]; exact h3⟩
    obtain ⟨k, hk, rfl⟩ : ∃ k, k < xs.length ∧ nth xs k = x := by
      obtain ⟨k, hk, e⟩ := List.getElem_of_mem hx
      exact ⟨k, hk, by simp [nth, hk, e]⟩
    have h8 := hb _ hx
    have h9 := drive_get (p := 12) hk
    have h10 := hy (nth (drive 12 xs) k) (nth_mem (by rw [length_drive]; exact hk))
    have h11 := place_bounds (p := 12) (out := drive 12 (xs.take k)) h8.1
    rw [h9] at h10
    omega
end Go.Proofs.Ytlfbmpgjhnpceab

namespace Go.Proofs.Ytlfbmpgjhnpceab
open Go.RowKit

/-- Are so many places from y on all there and free? -/
def fits (tk : List Int) (p y : Int) : Nat → Bool
  | 0 => true
  | L + 1 => fits tk p y L && (decide (y + (L : Int) < p) && !hasB tk (y + (L : Int)))
/-- So many places from y on. -/
def cover (y : Int) : Nat → List Int
  | 0 => []
  | L + 1 => cover y L ++ [y + (L : Int)]
theorem mem_cover {y z : Int} : ∀ {L : Nat}, z ∈ cover y L ↔ y ≤ z ∧ z < y + L
  | 0 => by simp [cover]; try omega
  | L + 1 => by
    rw [cover, List.mem_append, mem_cover, List.mem_singleton]
    omega
theorem hasB_append (xs ys : List Int) (z : Int) : hasB (xs ++ ys) z = (hasB xs z || hasB ys z) := by simp [hasB]
theorem hasB_cover {T : List Int} {y z : Int} {L : Nat} (h : ¬ (y ≤ z ∧ z < y + L)) : hasB (T ++ cover y L) z = hasB T z := by
  rw [hasB_append, show hasB (cover y L) z = false from hasB_not.2 fun e => h (mem_cover.1 e), Bool.or_false]
theorem hasB_covered {T : List Int} {y z : Int} {L : Nat} (h : y ≤ z ∧ z < y + L) : hasB (T ++ cover y L) z = true := by
  rw [hasB_append, show hasB (cover y L) z = true from hasB_iff.2 (mem_cover.2 h), Bool.or_true]
theorem fits_yes {T : List Int} {p y : Int} {L : Nat} (h : fits T p y L = true) (h1 : y + (L : Int) < p) (h2 : hasB T (y + (L : Int)) = false) : fits T p y (L + 1) = true := by
  simp [fits, h, h1, h2]
theorem fits_no {T : List Int} {p y : Int} {L M : Nat} (h : ¬ (y + (L : Int) < p ∧ hasB T (y + (L : Int)) = false)) (hl : L < M) : fits T p y M = false := by
  induction M with
  | zero => omega
  | succ M ih =>
    by_cases e : L = M
    · subst e
      rw [fits]
      by_cases h1 : y + (L : Int) < p
      · have : hasB T (y + (L : Int)) = true := by
          cases hh : hasB T (y + (L : Int)) with
          | true => rfl
          | false => exact absurd ⟨h1, hh⟩ h
        simp [this]
      · simp [h1]
    · rw [fits, ih (by omega), Bool.false_and]

/-- Behind k cars: their places, all places that are taken, and whether none is blocked (otherwise those ahead of the blocked one). -/
def longAt (p : Int) (xs ls : List Int) : Nat → List Int × List Int × Bool
  | 0 => ([], [], true)
  | k + 1 =>
    if (longAt p xs ls k).2.2 then
      if decide (0 ≤ place p (longAt p xs ls k).2.1 (nth xs k)) && fits (longAt p xs ls k).2.1 p (place p (longAt p xs ls k).2.1 (nth xs k)) (nth ls k).toNat then
        ((longAt p xs ls k).1 ++ [place p (longAt p xs ls k).2.1 (nth xs k)], (longAt p xs ls k).2.1 ++ cover (place p (longAt p xs ls k).2.1 (nth xs k)) (nth ls k).toNat, true)
      else ((longAt p xs ls k).1, (longAt p xs ls k).2.1, false)
    else longAt p xs ls k

theorem longAt_go {p : Int} {xs ls out T : List Int} {k : Nat} {y : Int} (h : longAt p xs ls k = (out, T, true)) (hy : place p T (nth xs k) = y) (h0 : 0 ≤ y) (hf : fits T p y (nth ls k).toNat = true) :
    longAt p xs ls (k + 1) = (out ++ [y], T ++ cover y (nth ls k).toNat, true) := by
  rw [longAt, h]
  simp [hy, h0, hf]
theorem longAt_stop {p : Int} {xs ls out T : List Int} {k : Nat} (h : longAt p xs ls k = (out, T, true)) (hy : ¬ (0 ≤ place p T (nth xs k) ∧ fits T p (place p T (nth xs k)) (nth ls k).toNat = true)) :
    longAt p xs ls (k + 1) = (out, T, false) := by
  rw [longAt, h]
  have : (decide (0 ≤ place p T (nth xs k)) && fits T p (place p T (nth xs k)) (nth ls k).toNat) = false := by
    rw [Bool.eq_false_iff]
    intro e
    simp at e
    exact hy e
  simp only [this, if_true, Bool.false_eq_true, if_false]
theorem longAt_stays {p : Int} {xs ls : List Int} {k : Nat} (h : (longAt p xs ls k).2.2 = false) : longAt p xs ls (k + 1) = longAt p xs ls k := by
  rw [longAt, h]
  simp
theorem longAt_end {p : Int} {xs ls : List Int} {k : Nat} (h : (longAt p xs ls k).2.2 = false) : ∀ m, k ≤ m → longAt p xs ls m = longAt p xs ls k := by
  intro m hm
  induction m with
  | zero => rw [show k = 0 from by omega]
  | succ m ih =>
    by_cases e : k = m + 1
    · rw [e]
    · have := ih (by omega)
      rw [longAt_stays (by rw [this]; exact h), this]
theorem longAt_facts (p : Int) (xs ls : List Int) : ∀ k, (∀ y ∈ (longAt p xs ls k).1, 0 ≤ y) ∧ ((longAt p xs ls k).2.2 = true → (longAt p xs ls k).1.length = k) ∧ ((longAt p xs ls k).2.2 = false → (longAt p xs ls k).1.length < k) := by
  intro k
  induction k with
  | zero => simp [longAt]
  | succ k ih =>
    obtain ⟨h1, h2, h3⟩ := ih
    by_cases hb : (longAt p xs ls k).2.2 = true
    · rw [longAt, if_pos hb]
      split
      · rename_i hc
        simp at hc
        refine ⟨fun y hy => ?_, fun _ => by simp [h2 hb], fun e => by simp at e⟩
        simp at hy
        rcases hy with hy | rfl
        · exact h1 y hy
        · exact hc.1
      · exact ⟨h1, fun e => by simp at e, fun _ => by simp only; rw [h2 hb]; omega⟩
    · have hb' : (longAt p xs ls k).2.2 = false := by simpa using hb
      rw [longAt_stays hb']
      exact ⟨h1, fun e => absurd e hb, fun _ => by have := h3 hb'; omega⟩

/-- Lengths. -/
def lenB (ls : List Int) : Bool := inB ls.length 1 8 && (allB ls 1 12 && decide (total ls ≤ 12))
theorem lenB_iff {ls : List Int} : lenB ls = true ↔ (1 ≤ ls.length ∧ ls.length ≤ 8) ∧ (∀ x ∈ ls, 1 ≤ x ∧ x ≤ 12) ∧ total ls ≤ 12 := by
  have e : ((1 : Int) ≤ (ls.length : Int) ∧ (ls.length : Int) ≤ 8) ↔ (1 ≤ ls.length ∧ ls.length ≤ 8) := by omega
  simp only [lenB, Bool.and_eq_true, inB_iff, allB_iff, decide_eq_true_eq, e]
def taskB (xs ls : List Int) : Bool := lenB ls && (decide (xs.length = ls.length) && allB xs 0 (total ls - 1))
/-- How many cars park. -/
def longN (xs ls : List Int) : List Int := (longAt (total ls) xs ls xs.length).1
def longOk (xs ls : List Int) : Bool := (longAt (total ls) xs ls xs.length).2.2
theorem longN_ok (xs ls : List Int) : (longN xs ls).length = xs.length ↔ longOk xs ls = true := by
  obtain ⟨_, h2, h3⟩ := longAt_facts (total ls) xs ls xs.length
  unfold longN longOk
  cases hb : (longAt (total ls) xs ls xs.length).2.2 with
  | true => simp [h2 hb]
  | false => have := h3 hb; simp; omega
theorem longN_le (xs ls : List Int) : (longN xs ls).length ≤ xs.length := by
  obtain ⟨_, h2, h3⟩ := longAt_facts (total ls) xs ls xs.length
  unfold longN
  cases hb : (longAt (total ls) xs ls xs.length).2.2 with
  | true => rw [h2 hb]; omega
  | false => have := h3 hb; omega
def driveLongOf (xs ls : List Int) : List Int × Bool := if taskB xs ls && longOk xs ls then (longN xs ls, true) else ([], false)
def isLongOf (xs ls : List Int) : Bool × Bool := if taskB xs ls then (longOk xs ls, true) else (false, false)
def blockedOf (xs ls : List Int) : Int × Bool := if taskB xs ls && !longOk xs ls then (((longN xs ls).length : Int), true) else (0, false)

theorem total_lens {ls : List Int} (h : ∀ x ∈ ls, 0 ≤ x) : ∀ k, k ≤ ls.length → 0 ≤ total (ls.take k) ∧ total (ls.take k) ≤ total ls := by
  have h0 : ∀ k, k ≤ ls.length → 0 ≤ total (ls.take k) := by
    intro k
    induction k with
    | zero => intro _; simp [total]
    | succ k ih =>
      intro hk
      rw [total_succ (by omega)]
      have := ih (by omega)
      have := h _ (nth_mem (xs := ls) (i := k) (by omega))
      omega
  have h1 : ∀ j k, k + j = ls.length → total (ls.take k) ≤ total ls := by
    intro j
    induction j with
    | zero => intro k hk; rw [List.take_of_length_le (by omega)]; exact Int.le_refl _
    | succ j ih =>
      intro k hk
      have h2 := ih (k + 1) (by omega)
      rw [total_succ (by omega)] at h2
      have := h _ (nth_mem (xs := ls) (i := k) (by omega))
      omega
  exact fun k hk => ⟨h0 k hk, h1 (ls.length - k) k (by omega)⟩
theorem total_ge {ls : List Int} (h : ∀ x ∈ ls, 1 ≤ x) : ∀ k, k ≤ ls.length → (k : Int) ≤ total (ls.take k) := by
  intro k
  induction k with
  | zero => intro _; simp [total]
  | succ k ih =>
    intro hk
    rw [total_succ (by omega)]
    have := ih (by omega)
    have := h _ (nth_mem (xs := ls) (i := k) (by omega))
    omega

/-! ### The count of long parking functions -/
def prodLong (ls : List Int) : Nat → Int
  | 0 => 1
  | i + 1 => if i = 0 then 1 else prodLong ls i * (total (ls.take i) + ls.length - i + 1)
theorem prodLong_one (ls : List Int) : prodLong ls 1 = 1 := by simp [prodLong]
theorem prodLong_succ (ls : List Int) {i : Nat} (h : 1 ≤ i) : prodLong ls (i + 1) = prodLong ls i * (total (ls.take i) + ls.length - i + 1) := by
  rw [prodLong, if_neg (by omega)]
theorem factor_bounds {ls : List Int} (h : lenB ls = true) {i : Nat} (hi : i ≤ ls.length) : 0 ≤ total (ls.take i) ∧ total (ls.take i) ≤ 12 ∧ 1 ≤ total (ls.take i) + ls.length - i + 1 ∧ total (ls.take i) + ls.length - i + 1 ≤ 21 := by
  obtain ⟨h1, h2, h3⟩ := lenB_iff.1 h
  have := total_lens (fun x hx => by have := h2 x hx; omega) i hi
  omega
theorem prodLong_bounds {ls : List Int} (h : lenB ls = true) : ∀ i, i ≤ ls.length → 1 ≤ prodLong ls i ∧ prodLong ls i ≤ 21 ^ i
  | 0, _ => by simp [prodLong]
  | i + 1, hi => by
    obtain ⟨h1, h2⟩ := prodLong_bounds h i (by omega)
    rw [prodLong]
    split
    · rename_i e; subst e; simp
    · obtain ⟨_, _, f1, f2⟩ := factor_bounds h (i := i) (by omega)
      generalize total (ls.take i) + ls.length - i + 1 = f at *
      constructor
      · have := Int.mul_le_mul h1 f1 (by omega) (by omega)
        omega
      · have := Int.mul_le_mul h2 f2 (by omega) (by exact Int.pow_nonneg (by omega))
        rw [Int.pow_succ]
        exact this
theorem prodLong_le {ls : List Int} (h : lenB ls = true) {i : Nat} (hi : i ≤ ls.length) : 1 ≤ prodLong ls i ∧ prodLong ls i ≤ 37822859361 := by
  obtain ⟨h1, h2⟩ := prodLong_bounds h i hi
  obtain ⟨h3, _⟩ := lenB_iff.1 h
  refine ⟨h1, Int.le_trans h2 ?_⟩
  have : (21 : Nat) ^ i ≤ 21 ^ 8 := Nat.pow_le_pow_right (by omega) (by omega)
  have e : ((21 : Int) ^ i) = (((21 : Nat) ^ i : Nat) : Int) := by simp
  rw [e]
  have : (21 : Nat) ^ 8 = 37822859361 := by decide
  omega
def countLongOf (ls : List Int) : Int × Bool := if lenB ls then (prodLong ls ls.length, true) else (0, false)

/-! ### Stretched lists -/
/-- The lengths of the first k cars that stand on places less than x. -/
def strSum (order ls : List Int) (x : Int) : Nat → Int
  | 0 => 0
  | k + 1 => strSum order ls x k + if nth order k < x then nth ls k else 0
theorem strSum_bounds {order ls : List Int} (h : ∀ x ∈ ls, 0 ≤ x) (x : Int) : ∀ k, k ≤ ls.length → 0 ≤ strSum order ls x k ∧ strSum order ls x k ≤ total (ls.take k)
  | 0, _ => by simp [strSum, total]
  | k + 1, hk => by
    obtain ⟨h1, h2⟩ := strSum_bounds (order := order) h x k (by omega)
    have := h _ (nth_mem (xs := ls) (i := k) (by omega))
    rw [strSum, total_succ (by omega)]
    split <;> omega
def stretch (xs ls : List Int) : List Int := xs.map fun x => strSum (drive xs.length xs) ls x ls.length
theorem length_stretch (xs ls : List Int) : (stretch xs ls).length = xs.length := by simp [stretch]
theorem stretch_take {xs ls : List Int} {k : Nat} (h : k < xs.length) : (stretch xs ls).take (k + 1) = (stretch xs ls).take k ++ [strSum (drive xs.length xs) ls (nth xs k) ls.length] := by
  rw [take_succ_nth (by rw [length_stretch]; exact h)]
  congr 2
  simp [stretch, nth, h]
def stretchOf (xs ls : List Int) : List Int × Bool := if isPark xs && (lenB ls && decide (xs.length = ls.length)) then (stretch xs ls, true) else ([], false)
end Go.Proofs.Ytlfbmpgjhnpceab

namespace Go.Proofs.Ytlfbmpgjhnpceab
open Go.RowKit

/-- All lists of n numbers less than n. -/
def allTried (n : Nat) : List (List Int) := lex (List.replicate n 0) (List.replicate n ((n : Int) - 1))

theorem nth_rep {n i : Nat} {x : Int} (h : i < n) : nth (List.replicate n x) i = x := by simp [nth, h]
theorem tried_seq {n : Nat} (hn : 1 ≤ n) : SeqTo (fun ys => stepC ys (List.replicate n 0) (List.replicate n ((n : Int) - 1))) (List.replicate n 0) (allTried n) (List.replicate n 0, true) :=
  lex_ne _ _ (fun i hi => by
    simp at hi
    rw [nth_rep hi, nth_rep hi]
    omega) (by simp)
theorem length_lexRep (n : Nat) (hn : 1 ≤ n) : ∀ k, (lex (List.replicate k 0) (List.replicate k ((n : Int) - 1))).length = n ^ k
  | 0 => by simp [lex]
  | k + 1 => by
    rw [List.replicate_succ, List.replicate_succ, length_lex_cons, length_lexRep n hn k, Nat.pow_succ, Nat.mul_comm]
    congr 1
    unfold span
    omega
theorem length_allTried {n : Nat} (hn : 1 ≤ n) : (allTried n).length = n ^ n := length_lexRep n hn n


theorem upFrom_mem {x : Int} : ∀ {k : Nat} {l : Int}, x ∈ upFrom l k → l ≤ x ∧ x < l + k
  | 0, _, h => by simp [upFrom] at h
  | k + 1, l, h => by
    rw [upFrom, List.mem_cons] at h
    rcases h with rfl | h
    · omega
    · have := upFrom_mem h; omega
theorem lexRep_mem {n : Nat} {zs : List Int} : ∀ {k : Nat}, zs ∈ lex (List.replicate k 0) (List.replicate k ((n : Int) - 1)) → zs.length = k ∧ ∀ x ∈ zs, 0 ≤ x ∧ x ≤ (n : Int) - 1 := by
  intro k
  induction k generalizing zs with
  | zero => intro h; simp [lex] at h; subst h; simp
  | succ k ih =>
    intro h
    rw [List.replicate_succ, List.replicate_succ, lex, List.mem_flatMap] at h
    obtain ⟨x, hx, h⟩ := h
    rw [List.mem_map] at h
    obtain ⟨ys, hy, rfl⟩ := h
    obtain ⟨h1, h2⟩ := ih hy
    have h3 := upFrom_mem hx
    unfold span at h3
    refine ⟨by simp [h1], fun z hz => ?_⟩
    rw [List.mem_cons] at hz
    rcases hz with rfl | hz
    · omega
    · exact h2 z hz
theorem tried_get {n k : Nat} (hn : 1 ≤ n) (hk : k < n ^ n) : (allTried n).getD k [] ∈ allTried n := by
  have h := length_allTried hn
  have hk' : k < (allTried n).length := by omega
  rw [List.getD_eq_getElem?_getD, List.getElem?_eq_getElem hk']
  exact List.getElem_mem hk'
/-- What is known of one of them. -/
theorem tried_good {n k : Nat} (hn : 1 ≤ n) (hn5 : n ≤ 5) (hk : k < n ^ n) : ((allTried n).getD k []).length = n ∧ good ((allTried n).getD k []) n = true := by
  obtain ⟨h1, h2⟩ := lexRep_mem (n := n) (k := n) (tried_get hn hk)
  exact ⟨h1, good_iff.2 ⟨by omega, by omega, h2⟩⟩

/-- How many of the first k lists meet a test. -/
def cntTo (f : List Int → Bool) (L : List (List Int)) (k : Nat) : Nat := (L.take k).countP f
theorem cntTo_succ {f : List Int → Bool} {L : List (List Int)} {k : Nat} (h : k < L.length) : cntTo f L (k + 1) = cntTo f L k + if f (L.getD k []) = true then 1 else 0 := by
  unfold cntTo
  rw [List.take_succ_eq_append_getElem h, List.countP_append]
  have : L.getD k [] = L[k] := by simp [h]
  rw [this]
  simp [List.countP_cons]
theorem cntTo_le (f : List Int → Bool) (L : List (List Int)) (k : Nat) : cntTo f L k ≤ k := by
  unfold cntTo
  exact Nat.le_trans List.countP_le_length (by simp; omega)

/-- Do all cars park that look back so many places? -/
def backOk (n m : Nat) (l : List Int) : Bool := !hasB (backs n m l) (-1)
def countBackOf (n k : Int) : Int × Bool := if inB n 1 5 && inB k 0 8 then ((cntTo (backOk n.toNat k.toNat) (allTried n.toNat) (n.toNat ^ n.toNat) : Int), true) else (0, false)
end Go.Proofs.Ytlfbmpgjhnpceab

namespace Go.Proofs.Ytlfbmpgjhnpceab
open Go.RowKit Go.Shelf

attribute [local go_sem] Oper.semAt_some

def zcells (n : Nat) : Array Value := madeCells #[.int .i64 0] n
theorem run_mk (n : Nat) (hn : n ≤ 2097152) (w : World) : (Instr.makeSlice 22 (.int .i64 (n : Int)) (.int .i64 (n : Int))).run Try.prog w = .ok (.slice (some ⟨w.heap.size, 0, none⟩) n n) (w.alloc (.cells (zcells n) 3)) := by
  obtain ⟨i0, hi, hz0, hz1, hz2⟩ := info_parts Try.infoInt
  have h := run_makeSlice (P := Try.prog) w 22 3 i0 (.int .i64 0) Try.underlying22 hi hz0 .i64 .i64 n n (by omega) (Int.le_refl _) (by simp [hz1]; omega) (by rw [hz2]; omega) (by omega)
  simp only [Int.toNat_natCast, hz1, Nat.mul_one] at h
  exact h
/-- What such a make lays. -/
theorem own_mk {W : World} {B n b : Nat} (hn : n ≤ 2097152) (hb : b = W.heap.size) (hB : B ≤ W.heap.size) : Own (W.alloc (.cells (zcells n) 3)) B (some ⟨b, 0, none⟩) n n (List.replicate n 0) := by
  subst hb
  have hz : (zcells n).toList = (List.replicate n (0 : Int)).map (Value.int .i64) := by
    unfold zcells
    rw [toList_madeCells_one]
    simp
  refine ⟨⟨by simp, .inr ⟨W.heap.size, n, zcells n, rfl, hB, heap_alloc_new W _, Nat.le_refl _, by unfold maxLen; omega, by simp [zcells, size_madeCells], ?_⟩⟩, by simp, hn⟩
  rw [hz]
  simp
theorem Own.al {W : World} {B : Nat} {a : Option Addr} {n cap : Nat} {xs : List Int} (h : Own W B a n cap xs) (O : Obj) : Own (W.alloc O) B a n cap xs := h.below ((Below.refl W.heap.size W).alloc (Nat.le_refl _) O) (Nat.le_refl _)
theorem Own.ct {W W' : World} {B : Nat} {a : Option Addr} {n cap : Nat} {xs : List Int} (hb : Below W.heap.size W W') (h : Own W B a n cap xs) : Own W' B a n cap xs := h.below hb (Nat.le_refl _)
theorem Own.dr {W : World} {B : Nat} {a : Option Addr} {n cap : Nat} {xs : List Int} (h : Own W B a n cap xs) : Own W.drew B a n cap xs := h
theorem below_al {B : Nat} {W V : World} {O : Obj} (hB : B ≤ V.heap.size) (h : Below B W V) : Below B W (V.alloc O) := h.alloc hB O
theorem below_dr {B : Nat} {W V : World} (h : Below B W V) : Below B W V.drew := h.drew
theorem below_ct {B K : Nat} {W V V' : World} (hb : Below K V V') (hK : B ≤ K) (h : Below B W V) : Below B W V' := h.trans (hb.mono hK)
theorem has_cell {W : World} {b : Nat} {x : Int} (hb : b < W.heap.size) (hc : W.cell? ⟨b, 0, none⟩ = some (.int .i64 x)) : Has W (some ⟨b, 0, none⟩) 1 1 [x] := by
  refine ⟨rfl, Nat.le_refl _, by unfold maxLen; omega, by omega, fun _ => ⟨b, 0, rfl, hb, fun i hi => ?_⟩⟩
  obtain rfl : i = 0 := by omega
  exact hc
theorem cell_past {w : World} {bn : Nat} {v : Value} (hb : bn < w.heap.size) (hc : w.cell? ⟨bn, 0, none⟩ = some v) :
    (∀ O, (w.alloc O).cell? ⟨bn, 0, none⟩ = some v) ∧ (∀ O1 O2, ((w.alloc O1).alloc O2).cell? ⟨bn, 0, none⟩ = some v) ∧ (∀ O1 O2 O3, (((w.alloc O1).alloc O2).alloc O3).cell? ⟨bn, 0, none⟩ = some v) := by
  have k1 : ∀ (w : World), bn < w.heap.size → w.cell? ⟨bn, 0, none⟩ = some v → ∀ O, (w.alloc O).cell? ⟨bn, 0, none⟩ = some v := fun w hb hc O => by rw [World.cell?_alloc_past _ _ _ (by simpa using hb)]; exact hc
  exact ⟨k1 w hb hc, fun O1 O2 => k1 _ (by simp; omega) (k1 w hb hc O1) O2, fun O1 O2 O3 => k1 _ (by simp; omega) (k1 _ (by simp; omega) (k1 w hb hc O1) O2) O3⟩
theorem lit0 (W : World) (b : Nat) (x : Int) (t : TypeId) (h : b = W.heap.size) : ((W.alloc (.cells #[.int .i64 x] t)).drew).cell? ⟨b, 0, none⟩ = some (.int .i64 x) := by
  show (W.alloc (.cells #[.int .i64 x] t)).cell? ⟨b, 0, none⟩ = _
  rw [World.cell?_alloc_at _ _ _ _ (by simpa using h)]; rfl
theorem lit1 (W : World) (O : Obj) (b : Nat) (x : Int) (t : TypeId) (h : b = W.heap.size) : (((W.alloc (.cells #[.int .i64 x] t)).alloc O).drew).cell? ⟨b, 0, none⟩ = some (.int .i64 x) := by
  show ((W.alloc (.cells #[.int .i64 x] t)).alloc O).cell? ⟨b, 0, none⟩ = _
  rw [World.cell?_alloc_past _ _ _ (by simp; omega)]
  exact lit0 W b x t h
theorem lit2 (W : World) (O O' : Obj) (b : Nat) (x : Int) (t : TypeId) (h : b = W.heap.size) : ((((W.alloc (.cells #[.int .i64 x] t)).alloc O).alloc O').drew).cell? ⟨b, 0, none⟩ = some (.int .i64 x) := by
  show (((W.alloc (.cells #[.int .i64 x] t)).alloc O).alloc O').cell? ⟨b, 0, none⟩ = _
  rw [World.cell?_alloc_past _ _ _ (by simp; omega)]
  exact lit1 W O b x t h

/-- What lies at or beyond a block, and lay there, lies as it lay. -/
def Kept (base : Nat) (W W' : World) : Prop := W.heap.size ≤ W'.heap.size ∧ ∀ b, base ≤ b → b < W.heap.size → W'.heap[b]? = W.heap[b]?
theorem Own.keptFrom {W W' : World} {B : Nat} {a : Option Addr} {n cap : Nat} {xs : List Int} (h : Own W B a n cap xs) (hk : Kept B W W') : Own W' B a n cap xs := by
  obtain ⟨⟨h1, h2⟩, h3⟩ := h
  refine ⟨⟨h1, ?_⟩, h3⟩
  rcases h2 with h2 | ⟨g, cap', cur, hv, hg, hh, r⟩
  · exact .inl h2
  · exact .inr ⟨g, cap', cur, hv, hg, by rw [hk.2 g hg (Array.getElem?_eq_some_iff.1 hh).1]; exact hh, r⟩

/-- The three lists of the iterator: the present one, the least and the greatest. -/
structure Tri (W : World) (base n g1 : Nat) (a2 a3 : Option Addr) (c2 c3 : Nat) (zs : List Int) : Prop where
  l : Own W base (some ⟨g1, 0, none⟩) n n zs
  lo : Own W base a2 n c2 (List.replicate n 0)
  hi : Own W base a3 n c3 (List.replicate n ((n : Int) - 1))
  ne2 : ∀ g, (some ⟨g1, 0, none⟩ : Option Addr) = some ⟨g, 0, none⟩ → ∀ q, a2 = some q → q.block ≠ g
  ne3 : ∀ g, (some ⟨g1, 0, none⟩ : Option Addr) = some ⟨g, 0, none⟩ → ∀ q, a3 = some q → q.block ≠ g

theorem Own.marked_ne {w w' : World} {B : Nat} {a : Option Addr} {g1 n cap : Nat} {xs : List Int} (h : Own w B a n cap xs) (hm : Marked w w' (some ⟨g1, 0, none⟩)) (hne : ∀ q, a = some q → q.block ≠ g1) : Own w' B a n cap xs := by
  obtain ⟨row, hgr, hr⟩ := hm
  cases row with
  | none => exact ⟨h.1.kept hgr ((Classical.em _).elim .inl fun h => .inr h), h.2⟩
  | some g =>
    obtain ⟨p, hp, rfl⟩ := hr g rfl
    cases hp
    exact h.kept hgr (.inr hne)
theorem Tri.keptFrom {W W' : World} {base n g1 : Nat} {a2 a3 : Option Addr} {c2 c3 : Nat} {zs : List Int} (h : Tri W base n g1 a2 a3 c2 c3 zs) (hk : Kept base W W') : Tri W' base n g1 a2 a3 c2 c3 zs :=
  ⟨h.l.keptFrom hk, h.lo.keptFrom hk, h.hi.keptFrom hk, h.ne2, h.ne3⟩

/-- Behind the statement that makes the three lists. -/
def RegPost (W : World) (base n : Nat) (y : Value) (bn : Nat) (e : Exit) (a : Act) (w' : World) : Prop :=
  e = .normal ∧ ∃ (g1 g2 g0 : Nat) (a3 : Option Addr) (c3 : Nat), a = { tmps := #[y, .pointer (some ⟨bn, 0, none⟩), undef, .slice (some ⟨g1, 0, none⟩) n n, .slice (some ⟨g2, 0, none⟩) n n, .slice a3 n c3, .int .i64 (n : Int), .slice (some ⟨g1, 0, none⟩) n n, .int .i64 (n : Int), .slice (some ⟨g2, 0, none⟩) n n, .int .i64 (n : Int), .int .i64 ((n : Int) - 1), .slice (some ⟨g0, 0, none⟩) 1 1, .int .i64 (n : Int), .slice a3 n c3, undef, undef, undef, undef, undef, undef, undef, undef, undef, undef, undef, undef, undef, undef], defers := [] } ∧
    Tri w' base n g1 (some ⟨g2, 0, none⟩) a3 n c3 (List.replicate n 0) ∧ Below base W w'

set_option maxRecDepth 100000 in
set_option maxHeartbeats 8000000 in
theorem tried1_in (m l bn n N : Nat) (hN : n ^ n = N) (hn1 : 1 ≤ n) (hn5 : n ≤ 5) (J : Nat → World → Prop) (W : World) (base : Nat) (hbase : base = W.heap.size) (hbn : bn < base)
    (hJc : ∀ k V, J k V → V.cell? ⟨bn, 0, none⟩ = some (.int .i64 (n : Int)) ∧ base ≤ V.heap.size)
    (hJb : ∀ k V V', J k V → Below base V V' → J k V')
    (hY : ∀ k V g, J k V → k < N → Own V base (some ⟨g, 0, none⟩) n n ((allTried n).getD k []) → YieldAt Fence.wide (m - 1) Try.prog l #[.slice (some ⟨g, 0, none⟩) n n] V fun e V' => e = .returned (.bool true) ∧ J (k + 1) V' ∧ Kept base V V')
    (h0 : J 0 W) :
    CallsIn Fence.wide m Try.prog 146 #[.func (.yield l) #[] #[], .pointer (some ⟨bn, 0, none⟩)] W fun e W' => (∃ r, e = .returned r) ∧ J N W' := by
  subst hbase
  obtain ⟨hc, -⟩ := hJc 0 W h0
  have hb : bn < W.heap.size := hbn
  have hmk := run_mk n (by omega)
  have hwr : IntKind.i64.wrap ((n : Int) - 1) = (n : Int) - 1 := IntWalk.i64_in _ (by omega)
  obtain ⟨k1, k2, k3⟩ := cell_past hb hc
  refine callsIn_of_wp Try.func146 rfl trivial ?_ rfl
  simp only [Try.ntmps146, List.size_toArray, List.length_cons, List.length_nil, Nat.reduceAdd, Nat.reduceSub, Array.replicate_succ, Array.replicate_zero, List.push_toArray, List.append_toArray, List.nil_append, List.cons_append]
  gi_wp2
  refine wpIn_wide.2 (Code.wp_mono (Q := RegPost W W.heap.size n (.func (.yield l) #[] #[]) bn) ?_ ?_)
  · rintro e a w1 ⟨rfl, g1, g2, g0, a3, c3, rfl, T, hb1⟩
    have hN5 : N ≤ 3125 := by
      rw [← hN]
      exact Nat.le_trans (Nat.pow_le_pow_left hn5 n) (Nat.pow_le_pow_right (by omega) hn5)
    have HNN := hid hN
    have HLS := hid (SeqTo.at [] (tried_seq hn1))
    have HLL : Hid ((allTried n).length = N) := hid (by rw [length_allTried hn1, hN])
    have hJ0 := hJb 0 W w1 h0 hb1
    have HY := hid hY
    have HJC := hid hJc
    have HJB := hid hJb
    obtain ⟨hc1, -⟩ := hJc 0 w1 hJ0
    clear hY hN k1 k2 k3 hmk hJc hJb hc h0
    have hwd : Fence.wide.depth.isSome = true → 1 ≤ m := fun h => by cases h
    gi_wp2_with (refine ⟨trivial, hwd, ?_⟩; gi_at_call 148; refine (callsIn_wide.2 (power_at n n N _ _ _ rfl rfl (by omega) (by omega) HNN)).mono ?_; rintro e w' ⟨rfl, rfl⟩)
    gi_loopw [18] (fun i wr => ∃ (k : Nat) (zs : List Int), k ≤ N ∧ i = .int .i64 k ∧ J k wr ∧ Tri wr W.heap.size n g1 (some ⟨g2, 0, none⟩) a3 n c3 zs ∧ Hid (k < N → zs = (allTried n).getD k []) ∧ Hid (∀ x ∈ zs, 0 ≤ x)) (fun i _ => N - (intOf i).toNat)
    case atStart => exact ⟨0, _, Nat.zero_le _, rfl, hJ0, T, hid (fun _ => HLS.out.1.symm), hid (fun x hx => by have := List.eq_of_mem_replicate hx; omega)⟩
    case round =>
      clear T hJ0 hc1
      obtain ⟨k, zs, hk, rfl, hJ, T, HZ, HZN⟩ := hrel
      by_cases hlt : k < N
      · obtain ⟨fn, tmps, assign, body, hy, hR⟩ := HY.out k wr g1 hJ hlt (by rw [← HZ.out hlt]; exact T.l)
        have HR := hid hR
        clear hR
        gi_wp2
        refine ⟨hwd, HR.out.mono ?_⟩
        rintro e W3 ⟨rfl, hJ3, hK3⟩
        have T3 := T.keptFrom hK3
        have STEP := stepApart_any W.heap.size _ _ _ n n n c3 zs _ _ W3 T3.l T3.lo.has T3.hi.has T3.ne2 T3.ne3 (fun i hi => by rw [nth_rep hi]; omega) (fun i hi => HZN.out _ (nth_mem (by rw [T3.l.len]; exact hi)))
        have HS := hid STEP
        obtain ⟨-, hb3⟩ := HJC.out (k + 1) W3 hJ3
        clear STEP
        gi_wp2_with (refine ⟨trivial, hwd, ?_⟩; gi_at_call 149; refine (callsIn_wide.2 HS.out).mono ?_; rintro e W4 ⟨rfl, hl4, hm4⟩)
        go_roundw
        case rel =>
          refine ⟨k + 1, _, by omega, by go_num, HJB.out (k + 1) W3 W4 hJ3 (hm4.below T3.l.ge hb3), ⟨hl4, T3.lo.marked_ne hm4 (T3.ne2 _ rfl), T3.hi.marked_ne hm4 (T3.ne3 _ rfl), T3.ne2, T3.ne3⟩, hid (fun hlt2 => ?_), hid (stepC_nonneg _ _ _ HZN.out (fun x hx => by have := List.eq_of_mem_replicate hx; omega))⟩
          rw [HZ.out hlt]
          exact HLS.out.2 k (by rw [HLL.out]; exact hlt2)
        case measure => simp [intOf]; omega
      · obtain rfl : k = N := by omega
        gi_wp2
        go_end0
        exact ⟨⟨_, rfl⟩, hJ⟩
  · go_region_held3 (fun w' => w'.cell? ⟨bn, 0, none⟩ = some (.int .i64 (n : Int))) (first | go_keep | skip) (first | (go_at_call 147; refine (repeat_any _ 1 n ((n : Int) - 1) _ (has_cell (by simp; try omega) (by first | exact lit0 _ _ _ _ (by simp) | exact lit1 _ _ _ _ _ (by simp) | exact lit2 _ _ _ _ _ _ (by simp))) hn5).mono ?_; rintro e w' ⟨a', cap', rfl, hown, hbw⟩; have hkk : w'.cell? ⟨bn, 0, none⟩ = some (.int .i64 (n : Int)) := (by rw [hbw.cell (p := ⟨bn, 0, none⟩) (by simp; omega)]; simp [*]); obtain ⟨j1, j2, -⟩ := cell_past (show bn < w'.heap.size by have := hbw.size; simp at this; omega) hkk))
    all_goals
      have hsz := hbw.size
      simp at hsz
      refine ⟨rfl, _, _, _, _, _, rfl, ⟨?_, ?_, ?_, ?_, ?_⟩, ?_⟩
      · repeat (first | ((with_reducible refine own_mk ?_ ?_ ?_) <;> first | omega | (simp; done) | (simp; omega)) | with_reducible refine Own.dr ?_ | with_reducible refine Own.al ?_ _ | with_reducible refine Own.ct hbw ?_)
      · repeat (first | ((with_reducible refine own_mk ?_ ?_ ?_) <;> first | omega | (simp; done) | (simp; omega)) | with_reducible refine Own.dr ?_ | with_reducible refine Own.al ?_ _ | with_reducible refine Own.ct hbw ?_)
      · repeat (first | ((with_reducible refine hown.mono ?_); focus (first | (simp; done) | (simp; omega))) | with_reducible refine Own.al ?_ _)
      · intro g e q hq; cases e; cases hq; simp; try omega
      · intro g e q hq; cases e
        have hg3 := hown.ge q hq
        have hl3 := hown.lt q hq
        simp at hg3
        omega
      · repeat (first | with_reducible exact Below.refl _ _ | ((with_reducible refine below_al ?_ ?_); (focus first | omega | (simp; omega) | simp)) | with_reducible refine below_dr ?_ | ((with_reducible refine below_ct hbw ?_ ?_); (focus first | omega | (simp; omega) | simp)))
/-! END OF tried1_in -/

/-- The iterator that triedLists hands back: the block of n. -/
def TrFn (bn : Nat) : Value := .func (.func 146) #[] #[.pointer (some ⟨bn, 0, none⟩)]
theorem tried_any (v : Int) (w : World) :
    Calls Try.prog 89 #[.int .i64 v] w fun e w' => e = .returned (TrFn w.heap.size) ∧ w' = w.alloc (.cells #[.int .i64 v] 3) := by
  have hmf : ∀ (fn : Fn) (first cap : Array Value) (w : World), (Instr.makeFunc fn first cap).run Try.prog w = .ok (.func fn first cap) w := fun _ _ _ _ => rfl
  go_enter Try.func89, Try.ntmps89
  go_wp2_with fail
  go_ret
  exact ⟨rfl, rfl⟩

/-- How a round of such a loop ends: it goes on. -/
def trPost (B base : Nat) (I : Nat → World → Prop) (k : Nat) (W : World) : Exit → Act → World → Prop
  | .normal, _, W' => KeepsFrom B W W' ∧ I (k + 1) W' ∧ Kept base W W'
  | _, _, _ => False

set_option maxHeartbeats 1000000 in
/-- 'for list := range triedLists(n)'. -/
theorem wpIn_tried (m : Nat) {g : Operand} {tp : Tmp} {assign body : Code} {Q : Exit → Act → World → Prop} {a : Act} {w : World} (bn n N : Nat) (hN : n ^ n = N) (hn1 : 1 ≤ n) (hn5 : n ≤ 5) (hbn : bn < w.heap.size)
    (hg : a.eval g = TrFn bn) (I : Nat → World → Prop) (hIc : ∀ k V, I k V → V.cell? ⟨bn, 0, none⟩ = some (.int .i64 (n : Int)))
    (hIb : ∀ k V V', I k V → Below (w.heap.size + 2) V V' → I k V') (hI : OwnFrom w.heap.size I) (h0 : I 0 w) (a₁ : Value → Act)
    (hassign : ∀ (l : Nat) (x : Value) (W : World) (K : Act → World → Prop), K (a₁ x) W →
      assign.wpIn (Fence.wide.inRound l) (m - 1 - 1) Try.prog (Exit.then K (fun _ _ _ => False)) { tmps := a.tmps.setIfInBounds tp x, defers := [] } W)
    (hbody : ∀ (l k gl : Nat) (W : World), I k W → w.heap.size + 2 ≤ W.heap.size → k < N → Own W (w.heap.size + 2) (some ⟨gl, 0, none⟩) n n ((allTried n).getD k []) → body.wpIn (Fence.wide.inRound l) (m - 1 - 1) Try.prog (trPost w.heap.size (w.heap.size + 2) I k W) (a₁ (.slice (some ⟨gl, 0, none⟩) n n)) W)
    (hdone : ∀ (D : Nat) (W : World), w.heap.size ≤ D → I N W → W.heap[D]? = some (.deferred (some [])) → Q .normal { a with defers := { target := .collected D, args := #[] } :: a.defers } W) :
    (Code.rangeFunc g #[tp] assign body).wpIn Fence.wide m Try.prog Q a w := by
  refine wpIn_rangeFunc fun fn hfn => ?_
  have key : ∀ rec : LoopState → Option Code → Loop, rec = (fun st pe => { state := st, pending := pe, fn := fn, tmps := a.tmps, params := #[tp], assign := assign, body := body, defers := w.heap.size }) →
      ∀ W1, (w.alloc (.deferred (some []))).alloc (.loop (rec .ready none)) = W1 → CallsIn Fence.wide (m - 1) Try.prog 146 #[.func (.yield (w.heap.size + 1)) #[] #[], .pointer (some ⟨bn, 0, none⟩)] W1
        (rangePost Fence.wide m Try.prog (w.heap.size + 1) Q { a with defers := { target := .collected w.heap.size, args := #[] } :: a.defers }) := by
    intro rec hrec W1 hW1
    have hblk : (w.alloc (.deferred (some []))).heap.size = w.heap.size + 1 := World.size_alloc w _
    have hsz1 : W1.heap.size = w.heap.size + 2 := by rw [← hW1]; simp
    have hl1 : W1.heap[w.heap.size + 1]? = some (.loop (rec .ready none)) := by
      rw [← hW1, ← hblk]; exact World.alloc_heap_new _ _
    have hd1 : W1.heap[w.heap.size]? = some (.deferred (some [])) := by
      rw [← hW1]; exact (Below.heap_alloc _ _ _ (by simp)).trans (World.alloc_heap_new w _)
    have hi1 : I 0 W1 := by rw [← hW1]; exact hI.alloc _ (hI.alloc _ h0)
    refine (tried1_in (m - 1) (w.heap.size + 1) bn n N hN hn1 hn5
      (fun k W => I k W ∧ W.heap[w.heap.size + 1]? = some (.loop (rec .ready none)) ∧ W.heap[w.heap.size]? = some (.deferred (some [])))
      W1 W1.heap.size rfl (by rw [hsz1]; omega) (fun k V h => ⟨hIc k V h.1, by rw [hsz1]; have := (Array.getElem?_eq_some_iff.1 h.2.1).1; omega⟩) ?_ ?_ ⟨hi1, hl1, hd1⟩).mono ?_
    · rintro k V V' ⟨h1, h2, h3⟩ hb
      rw [hsz1] at hb
      exact ⟨hIb k V V' h1 hb, by rw [hb.block _ (by omega)]; exact h2, by rw [hb.block _ (by omega)]; exact h3⟩
    · rintro k W gl ⟨hi, hl, hd⟩ hlt hown
      have hlt2 : w.heap.size + 1 < W.heap.size := (Array.getElem?_eq_some_iff.1 hl).1
      have hy := run_yield (P := Try.prog) (args := #[.slice (some ⟨gl, 0, none⟩) n n]) hl (by rw [hrec]; rfl)
      rw [hrec] at hy
      have hz : ∀ (ts : Array Value) (y : Value), ((#[tp] : Array Tmp).zip #[y]).foldl (fun t (p, v) => t.setIfInBounds p v) ts = ts.setIfInBounds tp y := fun ts y => by simp
      refine ⟨fn, _, assign, body, hy, roundIn_of_wpIn hfn ?_⟩
      rw [hz]
      refine hassign _ (.slice (some ⟨gl, 0, none⟩) n n) W _ ?_
      clear hy
      refine ⟨_, run_beginRound hl (by rw [hrec]), ?_⟩
      generalize hWb : W.putObj (w.heap.size + 1) (.loop { rec .ready none with state := .busy }) = Wb
      have hszb : Wb.heap.size = W.heap.size := by rw [← hWb]; simp
      have hlb : Wb.heap[w.heap.size + 1]? = some (.loop { rec .ready none with state := .busy }) := by rw [← hWb]; exact World.putObj_heap_same hlt2
      have hdb : Wb.heap[w.heap.size]? = some (.deferred (some [])) := by rw [← hWb]; exact (World.putObj_heap_other (by omega)).trans hd
      have hib : I k Wb := by rw [← hWb]; exact hI.putObj _ hi (by omega) hl rfl
      have hkb : Kept W1.heap.size W Wb := ⟨by omega, fun b h1 h2 => by rw [← hWb]; exact World.putObj_heap_other (by omega)⟩
      have hob := hown.keptFrom hkb
      rw [hsz1] at hob
      refine wpIn_mono (hbody _ k gl Wb hib (by omega) hlt hob) ?_
      rintro e a3 W3 hp
      cases e with
      | normal =>
        obtain ⟨hk3, hi3, hkk⟩ := hp
        have h3 := hk3.same _ _ (by omega) hlb rfl
        have h4 := hk3.same _ _ (Nat.le_refl _) hdb rfl
        have he := run_endRound (P := Try.prog) none h3
        rw [hrec] at he h3
        have hsz3 : w.heap.size + 1 < W3.heap.size := (Array.getElem?_eq_some_iff.1 h3).1
        refine ⟨_, _, he, rfl, ⟨hI.putObj _ hi3 (by omega) h3 rfl, by rw [hrec]; exact World.putObj_heap_same hsz3, (World.putObj_heap_other (by omega)).trans h4⟩, ?_⟩
        refine ⟨?_, fun b h1 h2 => ?_⟩
        · have := hkk.1
          simp
          omega
        · rw [World.putObj_heap_other (by omega), hkk.2 b (by omega) (by omega)]
          exact hkb.2 b h1 h2
      | ret => exact hp.elim
      | exit id => exact hp.elim
      | goto t => exact hp.elim
      | panic ch => exact hp.elim
      | outgrown => exact hp.elim
    · rintro e W2 ⟨⟨r, rfl⟩, hi, hl, hd⟩
      refine ⟨none, _, by have := run_endLoop (P := Try.prog) hl (by rw [hrec]; simp); rw [hrec] at this; exact this, ?_⟩
      exact hdone _ _ (Nat.le_refl _) (hI.putObj _ hi (by omega) hl rfl) ((World.putObj_heap_other (by omega)).trans hd)
  obtain ⟨W1, hW1⟩ : ∃ W1, (w.alloc (.deferred (some []))).alloc (.loop { state := .ready, pending := none, fn := fn, tmps := a.tmps, params := #[tp], assign := assign, body := body, defers := w.heap.size }) = W1 := ⟨_, rfl⟩
  refine ⟨w.heap.size + 1, [{ target := .collected w.heap.size, args := #[] }], W1, { target := .fn (.func 146) #[.pointer (some ⟨bn, 0, none⟩)], args := #[.func (.yield (w.heap.size + 1)) #[] #[]] }, W1, 146,
    #[.func (.yield (w.heap.size + 1)) #[] #[], .pointer (some ⟨bn, 0, none⟩)], W1, (by rw [← hW1]; exact run_enterLoop_outer _ _ _ _ _), ?_, (fun _ _ => trivial), ?_, (fun h => by cases h), key _ rfl W1 hW1⟩
  · simp only [resolve, hg, TrFn]
    simp [go_sem]
  · simp [invoke, go_sem]
end Go.Proofs.Ytlfbmpgjhnpceab

namespace Go.Proofs.Ytlfbmpgjhnpceab
open Go.RowKit Go.Shelf

attribute [local go_sem] Oper.semAt_some

theorem isTried_any (n : Int) (w : World) : Calls Try.prog 88 #[.int .i64 n] w fun e w' => e = .returned (.bool (inB n 1 5)) ∧ w = w' := by
  by_cases h1 : 1 ≤ n
  · by_cases h2 : n ≤ 5
    · have HR : Hid (inB n 1 5 = true) := hid (inB_iff.2 ⟨h1, h2⟩)
      go_enter Try.func88, Try.ntmps88
      go_wp2_with fail
      go_ret
      exact ⟨ret_bool HR.out.symm, rfl⟩
    · have HR : Hid (inB n 1 5 = false) := hid (inB_not.2 (by omega))
      go_enter Try.func88, Try.ntmps88
      go_wp2_with fail
      go_ret
      exact ⟨ret_bool HR.out.symm, rfl⟩
  · have HR : Hid (inB n 1 5 = false) := hid (inB_not.2 (by omega))
    go_enter Try.func88, Try.ntmps88
    go_wp2_with fail
    go_ret
    exact ⟨ret_bool HR.out.symm, rfl⟩

theorem keeps_below {B K : Nat} {W W' : World} (hb : Below K W W') (hK : W.heap.size ≤ K) : KeepsFrom B W W' :=
  ⟨hb.size, fun k o _ hk _ => by rw [hb.block k (by have := (Array.getElem?_eq_some_iff.1 hk).1; omega)]; exact hk⟩
theorem kept_below {base K : Nat} {W W' : World} (hb : Below K W W') (hK : W.heap.size ≤ K) : Kept base W W' :=
  ⟨hb.size, fun b _ h2 => hb.block b (by omega)⟩
theorem kept_set {base : Nat} (W : World) (g i : Nat) (v : Value) (hg : g < base) : Kept base W (W.setCell ⟨g, i, none⟩ v) :=
  ⟨by simp, fun b h1 _ => heap_setCell_other W ⟨g, i, none⟩ b v (by simp; omega)⟩
theorem Kept.trans {base : Nat} {A B C : World} (h : Kept base A B) (h' : Kept base B C) : Kept base A C :=
  ⟨Nat.le_trans h.1 h'.1, fun b h1 h2 => by rw [h'.2 b h1 (by have := h.1; omega), h.2 b h1 h2]⟩

theorem alloc_keep {w : World} {b : Nat} {v : Value} (h : w.cell? ⟨b, 0, none⟩ = some v) (hb : b < w.heap.size) (O : Obj) : (w.alloc O).cell? ⟨b, 0, none⟩ = some v := by
  rw [World.cell?_alloc_past _ _ _ (by simpa using hb)]; exact h
end Go.Proofs.Ytlfbmpgjhnpceab

namespace Go.Proofs.Ytlfbmpgjhnpceab
open Go.RowKit

/-- The last c digits of a number. -/
def dg (B N : Nat) : Nat → List Int
  | 0 => []
  | c + 1 => ((N / B ^ c % B : Nat) : Int) :: dg B N c
theorem length_dg (B N : Nat) : ∀ c, (dg B N c).length = c
  | 0 => rfl
  | c + 1 => by simp [dg, length_dg B N c]
/-- All words of m numbers of at most m + 1. -/
def wordsL (m : Nat) : List (List Int) := lex (List.replicate m 0) (List.replicate m ((m : Int) + 1))
theorem words_dg : ∀ m, m < 5 → wordsL m = (List.range ((m + 2) ^ m)).map fun k => dg (m + 2) k m := by decide +kernel
theorem words_len {m : Nat} (hm : m < 5) : (wordsL m).length = (m + 2) ^ m := by rw [words_dg m hm]; simp
theorem words_get {m k : Nat} (hm : m < 5) (hk : k < (m + 2) ^ m) : (wordsL m).getD k [] = dg (m + 2) k m := by
  rw [words_dg m hm]
  simp [hk]
theorem words_seq (m : Nat) : SeqTo (fun ys => stepC ys (List.replicate m 0) (List.replicate m ((m : Int) + 1))) (List.replicate m 0) (wordsL m) (List.replicate m 0, true) :=
  lex_ne _ _ (fun i hi => by
    simp at hi
    rw [nth_rep hi, nth_rep hi]
    omega) (by simp)
theorem dg_bound {B N : Nat} (hB : 0 < B) : ∀ c, ∀ x ∈ dg B N c, 0 ≤ x ∧ x < B
  | 0, x, h => by simp [dg] at h
  | c + 1, x, h => by
    rw [dg, List.mem_cons] at h
    rcases h with rfl | h
    · have := Nat.mod_lt (N / B ^ c) hB; omega
    · exact dg_bound hB c x h
theorem dg_word {m k : Nat} (hm : m < 5) : Word (dg (m + 2) k m) (m + 1) := by
  refine ⟨by rw [length_dg], by omega, fun i hi => ?_⟩
  have := dg_bound (B := m + 2) (N := k) (by omega) m _ (nth_mem hi)
  omega
def allTrees (m : Nat) : List (List Int) := (wordsL m).map unOf
def allTr (n : Int) : List (List Int) × Bool := if inB n 1 5 then (allTrees (n.toNat - 1), true) else ([], false)
theorem allTrees_take {m k : Nat} (hm : m < 5) (hk : k < (m + 2) ^ m) : (allTrees m).take (k + 1) = (allTrees m).take k ++ [unOf (dg (m + 2) k m)] := by
  have hl : k < (allTrees m).length := by simp [allTrees, words_len hm, hk]
  rw [List.take_succ_eq_append_getElem hl]
  congr 2
  have hk' : k < (wordsL m).length := by rw [words_len hm]; exact hk
  have := words_get hm hk
  simp [hk'] at this
  simp [allTrees, this]
theorem length_allTrees {m : Nat} (hm : m < 5) : (allTrees m).length = (m + 2) ^ m := by simp [allTrees, words_len hm]
theorem cnt_words (m : Nat) : (m + 2) ^ m = if m + 1 = 0 then 1 else (m + 1 + 1) ^ (m + 1 - 1) := by simp
end Go.Proofs.Ytlfbmpgjhnpceab

namespace Go.Proofs.Ytlfbmpgjhnpceab
open Go.RowKit

theorem drop_set {xs : List Int} {j : Nat} {y : Int} (h : j < xs.length) : (xs.set j y).drop j = y :: xs.drop (j + 1) := by
  rw [drop_nth (xs := xs.set j y) (by simpa using h), nth_set h, if_pos rfl]
  congr 1
  rw [List.drop_set]
  simp

set_option maxHeartbeats 800000 in
theorem trWord_is (m B N : Nat) (w : World) (hm : m ≤ 7) (hb0 : 1 ≤ B) (hb1 : B ≤ 100) (hn1 : N ≤ 1000000) :
    Calls Try.prog 169 #[.int .i64 (m : Int), .int .i64 (B : Int), .int .i64 (N : Int)] w fun e w' => ∃ a' cap', e = .returned (.slice a' m cap') ∧ Own w' w.heap.size a' m cap' (dg B N m) ∧ Below w.heap.size w w' := by
  go_enter Try.func169, Try.ntmps169
  go_wp2_with (at_make; refine wpList_make_ints _ rfl _ _ rfl m rfl rfl (by omega) ?_; intro a' cap' w1 hown1 hb1)
  go_loopw [2, 8] (fun nu i wr => ∃ (k : Nat) (z : Nat) (xs : List Int), k ≤ m ∧ i = .int .i64 ((k : Int) - 1) ∧ nu = .int .i64 (z : Int) ∧ z ≤ 1000000 ∧ Own wr w.heap.size a' m cap' xs ∧ Hid (z = N / B ^ (m - k) ∧ xs.drop k = dg B N (m - k)) ∧ Below w.heap.size w wr) (fun _ i _ => (intOf i + 1).toNat)
  case atStart => exact ⟨m, N, _, Nat.le_refl _, rfl, rfl, hn1, hown1, hid ⟨by simp, by rw [Nat.sub_self]; simp [dg]⟩, ‹_›⟩
  case round =>
    obtain ⟨k, z, xs, hk, rfl, rfl, z1, hown, HD, hb⟩ := hrel
    clear hown1
    by_cases h0 : 0 < k
    · obtain ⟨j, rfl⟩ : ∃ j, k = j + 1 := ⟨k - 1, by omega⟩
      obtain ⟨g, rfl, hg1, hg2, hcell, hfr⟩ := hown.opened (by omega)
      have hck := hcell j (by omega)
      have hfk := hfr j
      have ejj : ((j + 1 : Nat) : Int) - 1 = (j : Int) := by omega
      rw [ejj]
      have hmod : (z : Int) % (B : Int) = ((z % B : Nat) : Int) := by simp
      have hdiv : (z : Int) / (B : Int) = ((z / B : Nat) : Int) := by simp
      have hdl : z / B ≤ z := Nat.div_le_self _ _
      have HL := hid hown.len
      have HS : Hid (z / B = N / B ^ (m - j) ∧ (xs.set j ((z % B : Nat) : Int)).drop j = dg B N (m - j)) := hid (by
        obtain ⟨e1, e2⟩ := HD.out
        have e3 : m - j = (m - (j + 1)) + 1 := by omega
        refine ⟨?_, ?_⟩
        · rw [e1, Nat.div_div_eq_div_mul, e3, Nat.pow_succ]
        · rw [drop_set (by rw [HL.out]; omega), e2, e3, dg, e1])
      have hq0 : 0 ≤ (z : Int) / (B : Int) := Int.ediv_nonneg (by omega) (by omega)
      have hq1 : (z : Int) / (B : Int) ≤ 1000000 := by rw [hdiv]; omega
      have HM := hid hmod
      have HV := hid hdiv
      clear hcell hfr hmod hdiv
      go_wp2_with fail
      go_roundw
      case rel => exact ⟨j, z / B, xs.set j ((z % B : Nat) : Int), by omega, rfl, by rw [← HV.out], by omega, by rw [← HM.out]; exact (hown.set j _).1, HS, hb.setCell (by simpa using hg1) _⟩
      case measure => simp [intOf]
    · obtain rfl : k = 0 := by omega
      have HX : Hid (xs = dg B N m) := hid (by have := HD.out.2; simpa using this)
      go_wp2_with fail
      go_ret
      exact ⟨_, _, rfl, by rw [← HX.out]; exact hown, hb⟩

theorem trWord_at (m B N : Nat) (M b num : Int) (w : World) (hM : M = (m : Int)) (hB : b = (B : Int)) (hN : num = (N : Int)) (hm : m ≤ 7) (hb0 : 1 ≤ B) (hb1 : B ≤ 100) (hn1 : N ≤ 1000000) :
    Calls Try.prog 169 #[.int .i64 M, .int .i64 b, .int .i64 num] w fun e w' => ∃ a' cap', e = .returned (.slice a' m cap') ∧ Own w' w.heap.size a' m cap' (dg B N m) ∧ Below w.heap.size w w' := by
  subst hM hB hN
  exact trWord_is m B N w hm hb0 hb1 hn1

set_option maxHeartbeats 2000000 in
theorem trAll_any (n m : Nat) (hnm : n = m + 1) (hm : m < 5) (w : World) : Calls Try.prog 115 #[.int .i64 (n : Int)] w (RetRows w (allTrees m)) := by
  obtain ⟨N, hN⟩ : ∃ N, (m + 2) ^ m = N := ⟨_, rfl⟩
  have hN5 : N ≤ 1296 := by
    have : ∀ m, m < 5 → (m + 2) ^ m ≤ 1296 := by decide
    rw [← hN]; exact this m hm
  have HC : Hid (cnt n = N) := hid (by unfold cnt; rw [if_neg (by omega), ← hN, hnm]; simp)
  have HT := hid (fun k (hk : k < N) => allTrees_take hm (by rw [hN]; exact hk))
  have HL : Hid ((allTrees m).length = N) := hid (by rw [length_allTrees hm, hN])
  have HNM := hid hnm
  have hn1 : n ≤ m + 1 := by omega
  have hn2 : m + 1 ≤ n := by omega
  have hw1 : IntKind.i64.wrap ((n : Int) - 1) = (n : Int) - 1 := IntWalk.i64_in _ (by omega)
  have HWD := hid (fun k => dg_word (m := m) (k := k) hm)
  clear hN hnm hw1
  go_enter Try.func115, Try.ntmps115
  go_wp2_with fail
  go_loopw [3, 4] (fun o i wr => ∃ (k : Nat) (a' : Option Addr) (cap' : Nat) (rs : List Rw), k ≤ N ∧ i = .int .i64 k ∧ o = .slice a' k cap' ∧ OwnR wr w.heap.size a' k cap' rs ∧ Hid (numsOf rs = (allTrees m).take k) ∧ Below w.heap.size w wr) (fun _ i _ => N - (intOf i).toNat)
  case atStart => exact ⟨0, none, 0, [], Nat.zero_le _, rfl, rfl, OwnR.nil _ _, hid rfl, Below.refl _ _⟩
  case round =>
    obtain ⟨k, a', cap', rs, hk, rfl, rfl, hor, HNU, hb⟩ := hrel
    have hsz := hb.size
    by_cases hlt : k < N
    · go_wp2_with (go_at_call 167; refine (trCount_any n _ (by omega)).mono ?_; rintro e w' ⟨rfl, rfl⟩; rw [HC.out])
      refine (trWord_at m (m + 2) k _ _ _ _ (by omega) (by omega) rfl (by omega) (by omega) (by omega) (by omega)).mono ?_
      rintro e w3 ⟨a3, c3, rfl, o3, hb3⟩
      go_wp2_with fail
      refine (trOf_any _ _ _ _ _ o3.has (HWD.out k)).mono ?_
      rintro e w5 ⟨a5, c5, rfl, o5, hb5⟩
      have hb35 := hb3.trans (hb5.mono hb3.size)
      have o5' := o5.mono hb3.size
      clear o3 hb3 hb5 o5
      go_wp2_with (at_builtin; refine wpList_append_row wr w5 rfl _ _ rfl w.heap.size _ _ _ _ _ _ _ _ rfl rfl hor hb35 o5' (by omega) hsz ?_; intro a6 c6 w6 o6 hb6)
      go_roundw
      case rel =>
        refine ⟨k + 1, a6, c6, _, by omega, by go_num, rfl, o6, hid ?_, (hb.trans (hb35.mono hsz)).trans hb6⟩
        rw [numsOf_append, HNU.out, HT.out k hlt]
        rfl
      case measure => simp [intOf]; omega
    · obtain rfl : k = N := by omega
      have HF : Hid (numsOf rs = allTrees m) := hid (by rw [HNU.out, List.take_of_length_le (by rw [HL.out]; exact Nat.le_refl _)])
      go_wp2_with (go_at_call 167; refine (trCount_any n _ (by omega)).mono ?_; rintro e w' ⟨rfl, rfl⟩; rw [HC.out])
      go_ret
      exact ⟨_, _, _, _, rfl, hor, HF.out, hb⟩

theorem allTr_yes {n : Int} (h : inB n 1 5 = true) : allTr n = (allTrees (n.toNat - 1), true) := by simp [allTr, h]
theorem allTr_no {n : Int} (h : ¬ inB n 1 5 = true) : allTr n = ([], false) := by simp [allTr, h]

set_option maxHeartbeats 400000 in
theorem specAllTrees_any (n : Int) (w : World) : Calls Try.prog 39 #[.int .i64 n] w (PostRows w (allTr n)) := by
  by_cases hn : inB n 1 5 = true
  · obtain ⟨p, rfl⟩ : ∃ p : Nat, n = (p : Int) := ⟨n.toNat, by have := inB_iff.1 hn; omega⟩
    obtain ⟨m, hpm⟩ : ∃ m, p = m + 1 := ⟨p - 1, by have := inB_iff.1 hn; omega⟩
    have hm : m < 5 := by have := inB_iff.1 hn; omega
    have HN := hid hn
    have HR : Hid (allTr p = (allTrees m, true)) := hid (by rw [allTr_yes hn, show (p : Int).toNat - 1 = m by omega])
    have HP := hid hpm
    clear hn hpm
    go_enter Try.func39, Try.ntmps39
    go_wp2_with (go_at_call 85; refine (l1In_any _ _ _ _).mono ?_; rintro e w' ⟨rfl, rfl⟩; rw [HN.out])
    refine (trAll_any p m HP.out hm _).mono ?_
    rintro e w2 ⟨a2, q, cap2, rs, rfl, hown2, hn2, hb2⟩
    go_wp2_with fail
    go_ret2
    exact postRows HR.out hown2 hn2 hb2
  · have HR := hid (allTr_no hn)
    have HN := hid hn
    clear hn
    go_enter Try.func39, Try.ntmps39
    go_wp2_with (go_at_call 85; refine (l1In_any _ _ _ _).mono ?_; rintro e w' ⟨rfl, rfl⟩; rw [Bool.eq_false_iff.2 HN.out])
    go_ret2
    exact postRows_no HR.out (Below.refl _ _)
end Go.Proofs.Ytlfbmpgjhnpceab

namespace Go.Proofs.Ytlfbmpgjhnpceab
open Go.RowKit Go.Shelf

/-- The three lists of words: the present one, the least and the greatest. -/
structure TriW (W : World) (base m g1 : Nat) (a2 a3 : Option Addr) (c2 c3 : Nat) (zs : List Int) : Prop where
  l : Own W base (some ⟨g1, 0, none⟩) m m zs
  lo : Own W base a2 m c2 (List.replicate m 0)
  hi : Own W base a3 m c3 (List.replicate m ((m : Int) + 1))
  ne2 : ∀ g, (some ⟨g1, 0, none⟩ : Option Addr) = some ⟨g, 0, none⟩ → ∀ q, a2 = some q → q.block ≠ g
  ne3 : ∀ g, (some ⟨g1, 0, none⟩ : Option Addr) = some ⟨g, 0, none⟩ → ∀ q, a3 = some q → q.block ≠ g

/-- Behind the statement that makes the three lists. -/
def RegPostW (w : World) (n m : Nat) (e : Exit) (a : Act) (w' : World) : Prop :=
  e = .normal ∧ ∃ (g1 g2 g0 : Nat) (a3 : Option Addr) (c3 : Nat), a = { tmps := #[.int .i64 (n : Int), undef, .slice none 0 0, .slice (some ⟨g1, 0, none⟩) m m, .slice (some ⟨g2, 0, none⟩) m m, .slice a3 m c3, undef, .int .i64 (n : Int), .bool false, undef, .int .i64 (n : Int), .int .i64 (m : Int), .slice (some ⟨g1, 0, none⟩) m m, .int .i64 (n : Int), .int .i64 (m : Int), .slice (some ⟨g2, 0, none⟩) m m, .int .i64 (n : Int), .slice (some ⟨g0, 0, none⟩) 1 1, .int .i64 (n : Int), .int .i64 (m : Int), .slice a3 m c3, undef, undef, undef, undef, undef, undef, undef, undef, undef, undef, undef, undef, undef, undef, undef, undef], defers := [] } ∧
    TriW w' w.heap.size m g1 (some ⟨g2, 0, none⟩) a3 m c3 (List.replicate m 0) ∧ Below w.heap.size w w'

set_option maxRecDepth 100000 in
set_option maxHeartbeats 8000000 in
theorem treesOf_any (n m : Nat) (hnm : n = m + 1) (hm : m < 5) (w : World) : Calls Try.prog 116 #[.int .i64 (n : Int)] w (RetRows w (allTrees m)) := by
  have hmk := run_mk m (by omega)
  have e1 : (n : Int) - 1 = (m : Int) := by omega
  have hwr : IntKind.i64.wrap ((n : Int) - 1) = (m : Int) := by rw [e1]; exact IntWalk.i64_in _ (by omega)
  have hbe : ((n : Int) == 0) = false := by simp; omega
  have HNM := hid hnm
  have hn1 : n ≤ m + 1 := by omega
  have hn2 : m + 1 ≤ n := by omega
  clear hnm e1
  go_enter Try.func116, Try.ntmps116
  go_wp2_with fail
  refine Code.wp_mono (Q := RegPostW w n m) ?_ ?_
  · rintro e a w1 ⟨rfl, g1, g2, g0, a3, c3, rfl, T, hb1⟩
    obtain ⟨N, hN⟩ : ∃ N, (m + 2) ^ m = N := ⟨_, rfl⟩
    have hN5 : N ≤ 1296 := by
      have : ∀ m, m < 5 → (m + 2) ^ m ≤ 1296 := by decide
      rw [← hN]; exact this m hm
    have HC : Hid (streetCnt n n = N) := hid (by rw [streetCnt_self n (by omega)]; unfold cnt; rw [if_neg (by omega), ← hN, HNM.out]; simp)
    have HT := hid (fun k (hk : k < N) => allTrees_take hm (by rw [hN]; exact hk))
    have HL : Hid ((allTrees m).length = N) := hid (by rw [length_allTrees hm, hN])
    have HWL : Hid ((wordsL m).length = N) := hid (by rw [words_len hm, hN])
    have HWG := hid (fun k (hk : k < N) => words_get hm (by rw [hN]; exact hk))
    have HLS := hid (SeqTo.at [] (words_seq m))
    have HWD := hid (fun k => dg_word (m := m) (k := k) hm)
    have hs1 := hb1.size
    clear hN hmk
    go_wp2_with (go_at_call 128; refine (streetN_any n n _ (by omega) (by omega)).mono ?_; rintro e w' ⟨rfl, rfl⟩; rw [HC.out])
    have lt1 := T.l.lt
    have lt2 := T.lo.lt
    have lt3 := T.hi.lt
    go_loopw [6, 24] (fun o i wr => ∃ (k : Nat) (a' : Option Addr) (cap' : Nat) (rs : List Rw) (zs : List Int), k ≤ N ∧ i = .int .i64 k ∧ o = .slice a' k cap' ∧ OwnR wr w1.heap.size a' k cap' rs ∧ Hid (numsOf rs = (allTrees m).take k) ∧
      TriW wr w.heap.size m g1 (some ⟨g2, 0, none⟩) a3 m c3 zs ∧ Hid (k < N → zs = (wordsL m).getD k []) ∧ Hid (∀ x ∈ zs, 0 ≤ x) ∧ Below w.heap.size w wr ∧ w1.heap.size ≤ wr.heap.size) (fun _ i _ => N - (intOf i).toNat)
    case atStart => exact ⟨0, none, 0, [], _, Nat.zero_le _, rfl, rfl, OwnR.nil _ _, hid rfl, T, hid (fun _ => HLS.out.1.symm), hid (fun x hx => by have := List.eq_of_mem_replicate hx; omega), hb1, Nat.le_refl _⟩
    case round =>
      clear T
      obtain ⟨k, a', cap', rs, zs, hk, rfl, rfl, hor, HNU, T, HZ, HZN, hb, hsz⟩ := hrel
      by_cases hlt : k < N
      · have hzd : zs = dg (m + 2) k m := by rw [HZ.out hlt, HWG.out k hlt]
        have hw : Word zs (m + 1) := by rw [hzd]; exact HWD.out k
        have HZD := hid hzd
        have HW := hid hw
        clear hzd hw
        go_wp2_with fail
        refine (treeOfWord_any _ _ _ _ _ T.l.has HW.out).mono ?_
        rintro e w5 ⟨a5, c5, rfl, o5, hb5⟩
        go_wp2_with (at_builtin; refine wpList_append_row wr w5 rfl _ _ rfl w1.heap.size _ _ _ _ _ _ _ _ rfl rfl hor hb5 o5 (by omega) hsz ?_; intro a6 c6 w6 o6 hb6)
        have T6 : TriW w6 w.heap.size m g1 (some ⟨g2, 0, none⟩) a3 m c3 zs := ⟨(T.l.below hb5 (Nat.le_refl _)).belowB hb6 lt1, (T.lo.below hb5 (Nat.le_refl _)).belowB hb6 lt2, (T.hi.below hb5 (Nat.le_refl _)).belowB hb6 lt3, T.ne2, T.ne3⟩
        have hb06 := (hb.trans (hb5.mono hb.size)).trans (hb6.mono hs1)
        have hsz6 := hb6.size
        have hsz5 := hb5.size
        have STEP := hid (stepApart_any w.heap.size _ _ _ m m m c3 zs _ _ w6 T6.l T6.lo.has T6.hi.has T6.ne2 T6.ne3 (fun i hi => by rw [nth_rep hi]; omega) (fun i hi => HZN.out _ (nth_mem (by rw [T6.l.len]; exact hi))))
        clear hor T hb5 hb6 o5
        refine STEP.out.mono ?_
        rintro e w7 ⟨rfl, oc7, hm7⟩
        have o7 := o6.marked_gt hm7 lt1
        have T7 : TriW w7 w.heap.size m g1 (some ⟨g2, 0, none⟩) a3 m c3 _ := ⟨oc7, T6.lo.marked_ne hm7 (T6.ne2 _ rfl), T6.hi.marked_ne hm7 (T6.ne3 _ rfl), T6.ne2, T6.ne3⟩
        have hbm := hm7.below T6.l.ge hb06.size
        have hb07 := hb06.trans hbm
        have hszm := hbm.size
        clear STEP o6 T6 hm7 oc7
        go_wp2_with fail
        go_roundw
        case rel =>
          refine ⟨k + 1, a6, c6, _, _, by omega, by go_num, rfl, o7, hid ?_, T7, hid (fun hlt2 => ?_), hid (stepC_nonneg _ _ _ HZN.out (fun x hx => by have := List.eq_of_mem_replicate hx; omega)), hb07, by have := hbm.size; have := hb06.size; omega⟩
          · rw [numsOf_append, HNU.out, HT.out k hlt, ← HZD.out]
            rfl
          · rw [HZ.out hlt]
            exact HLS.out.2 k (by rw [HWL.out]; exact hlt2)
        case measure => simp [intOf]; omega
      · obtain rfl : k = N := by omega
        go_wp2_with fail
        go_ret
        exact ⟨_, _, _, _, rfl, hor.mono hs1, by rw [HNU.out, List.take_of_length_le (by rw [HL.out]; exact Nat.le_refl _)], hb⟩
  · go_region_held3 (fun _ => True) (trivial) (first | (go_at_call 147; refine (repeat_any _ 1 m (n : Int) _ (has_cell (by simp; try omega) (by first | exact lit0 _ _ _ _ (by simp) | exact lit1 _ _ _ _ _ (by simp) | exact lit2 _ _ _ _ _ _ (by simp))) (by omega)).mono ?_; rintro e w' ⟨a', cap', rfl, hown, hbw⟩))
    all_goals
      have hsz := hbw.size
      simp at hsz
      have hnm : (n : Int) = (m : Int) + 1 := by omega
      rw [hnm] at hown
      refine ⟨rfl, _, _, _, _, _, rfl, ⟨?_, ?_, ?_, ?_, ?_⟩, ?_⟩
      · repeat (first | ((with_reducible refine own_mk ?_ ?_ ?_) <;> first | omega | (simp; done) | (simp; omega)) | with_reducible refine Own.dr ?_ | with_reducible refine Own.al ?_ _ | with_reducible refine Own.ct hbw ?_)
      · repeat (first | ((with_reducible refine own_mk ?_ ?_ ?_) <;> first | omega | (simp; done) | (simp; omega)) | with_reducible refine Own.dr ?_ | with_reducible refine Own.al ?_ _ | with_reducible refine Own.ct hbw ?_)
      · repeat (first | ((with_reducible refine hown.mono ?_); focus (first | (simp; done) | (simp; omega))) | with_reducible refine Own.al ?_ _)
      · intro g e q hq; cases e; cases hq; simp; try omega
      · intro g e q hq; cases e
        have hg3 := hown.ge q hq
        have hl3 := hown.lt q hq
        simp at hg3
        omega
      · repeat (first | with_reducible exact Below.refl _ _ | ((with_reducible refine below_al ?_ ?_); (focus first | omega | (simp; omega) | simp)) | with_reducible refine below_dr ?_ | ((with_reducible refine below_ct hbw ?_ ?_); (focus first | omega | (simp; omega) | simp)))

set_option maxHeartbeats 400000 in
theorem implAllTrees_any (n : Int) (w : World) : Calls Try.prog 40 #[.int .i64 n] w (PostRows w (allTr n)) := by
  by_cases h1 : 1 ≤ n
  · by_cases h2 : n ≤ 5
    · obtain ⟨p, rfl⟩ : ∃ p : Nat, n = (p : Int) := ⟨n.toNat, by omega⟩
      obtain ⟨m, hpm⟩ : ∃ m, p = m + 1 := ⟨p - 1, by omega⟩
      have hm : m < 5 := by omega
      have HR : Hid (allTr p = (allTrees m, true)) := hid (by rw [allTr_yes (inB_iff.2 ⟨h1, h2⟩), show (p : Int).toNat - 1 = m by omega])
      have HP := hid hpm
      clear hpm
      go_enter Try.func40, Try.ntmps40
      go_wp2_with fail
      refine (treesOf_any p m HP.out hm _).mono ?_
      rintro e w2 ⟨a2, q, cap2, rs, rfl, hown2, hn2, hb2⟩
      go_wp2_with fail
      go_ret2
      exact postRows HR.out hown2 hn2 hb2
    · have HR : Hid (allTr n = ([], false)) := hid (allTr_no (by rw [inB_iff]; omega))
      go_enter Try.func40, Try.ntmps40
      go_wp2_with fail
      go_ret2
      exact postRows_no HR.out (Below.refl _ _)
  · have HR : Hid (allTr n = ([], false)) := hid (allTr_no (by rw [inB_iff]; omega))
    go_enter Try.func40, Try.ntmps40
    go_wp2_with fail
    go_ret2
    exact postRows_no HR.out (Below.refl _ _)
end Go.Proofs.Ytlfbmpgjhnpceab

