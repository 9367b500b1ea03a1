/- The library's Repeat at a list of one number, for few repetitions. -/
import Derived.Test.YtnddplldkgphnacCopy
import Derived.Deep.RegionLaw
import Derived.Laws.CopyOwn
namespace Go.Proofs.Ytnddplldkgphnac
open Go.RowKit

theorem mul64_0 (w : World) : Calls Try.prog 121 #[.int .u64 1, .int .u64 0] w fun e w' => e = .returned (.tuple #[.int .u64 0, .int .u64 0]) ∧ w = w' := by
  go_enter Try.func121, Try.ntmps121
  go_wp2
  go_ret2
  exact ⟨rfl, rfl⟩
theorem mul64_1 (w : World) : Calls Try.prog 121 #[.int .u64 1, .int .u64 1] w fun e w' => e = .returned (.tuple #[.int .u64 0, .int .u64 1]) ∧ w = w' := by
  go_enter Try.func121, Try.ntmps121
  go_wp2
  go_ret2
  exact ⟨rfl, rfl⟩
theorem mul64_2 (w : World) : Calls Try.prog 121 #[.int .u64 1, .int .u64 2] w fun e w' => e = .returned (.tuple #[.int .u64 0, .int .u64 2]) ∧ w = w' := by
  go_enter Try.func121, Try.ntmps121
  go_wp2
  go_ret2
  exact ⟨rfl, rfl⟩
theorem mul64_3 (w : World) : Calls Try.prog 121 #[.int .u64 1, .int .u64 3] w fun e w' => e = .returned (.tuple #[.int .u64 0, .int .u64 3]) ∧ w = w' := by
  go_enter Try.func121, Try.ntmps121
  go_wp2
  go_ret2
  exact ⟨rfl, rfl⟩
theorem mul64_4 (w : World) : Calls Try.prog 121 #[.int .u64 1, .int .u64 4] w fun e w' => e = .returned (.tuple #[.int .u64 0, .int .u64 4]) ∧ w = w' := by
  go_enter Try.func121, Try.ntmps121
  go_wp2
  go_ret2
  exact ⟨rfl, rfl⟩
theorem mul64_5 (w : World) : Calls Try.prog 121 #[.int .u64 1, .int .u64 5] w fun e w' => e = .returned (.tuple #[.int .u64 0, .int .u64 5]) ∧ w = w' := by
  go_enter Try.func121, Try.ntmps121
  go_wp2
  go_ret2
  exact ⟨rfl, rfl⟩
theorem mul64_any (k : Nat) (hk : k ≤ 5) (w : World) : Calls Try.prog 121 #[.int .u64 1, .int .u64 (k : Int)] w fun e w' => e = .returned (.tuple #[.int .u64 0, .int .u64 (k : Int)]) ∧ w = w' := by
  rcases (show k = 0 ∨ k = 1 ∨ k = 2 ∨ k = 3 ∨ k = 4 ∨ k = 5 by omega) with rfl | rfl | rfl | rfl | rfl | rfl
  · exact mul64_0 w
  · exact mul64_1 w
  · exact mul64_2 w
  · exact mul64_3 w
  · exact mul64_4 w
  · exact mul64_5 w
theorem mul_any (k : Nat) (hk : k ≤ 5) (w : World) : Calls Try.prog 114 #[.int .u64 1, .int .u64 (k : Int)] w fun e w' => e = .returned (.tuple #[.int .u64 0, .int .u64 (k : Int)]) ∧ w = w' := by
  go_enter Try.func114, Try.ntmps114
  go_wp2_with (go_at_call 121; refine (mul64_any k hk _).mono ?_; rintro e w' ⟨rfl, rfl⟩)
  go_ret2
  exact ⟨rfl, rfl⟩

/-- The first m numbers copied behind themselves. -/
def overAt (zs : List Int) (m c : Nat) : List Int := zs.take m ++ (zs.take c ++ zs.drop (m + c))
theorem length_overAt {zs : List Int} {m c : Nat} (h : m + c ≤ zs.length) : (overAt zs m c).length = zs.length := by simp [overAt]; omega
theorem overAt_rep {zs : List Int} {m c : Nat} {x : Int} (hc : c ≤ m) (hz : zs.take m = List.replicate m x) : (overAt zs m c).take (m + c) = List.replicate (m + c) x := by
  unfold overAt
  have h1 : zs.take c = List.replicate c x := by
    have := congrArg (List.take c) hz
    rw [List.take_take, Nat.min_eq_left hc] at this
    rw [this]
    simp [Nat.min_eq_left hc]
  rw [hz, h1, List.take_append, List.take_of_length_le (by simp), List.length_replicate, Nat.add_sub_cancel_left, List.take_append, List.take_of_length_le (by simp), List.length_replicate, Nat.sub_self, List.take_zero, List.append_nil, List.replicate_append_replicate]

theorem int_size : (Try.prog.info? 3).map (·.size) = some 1 := by
  obtain ⟨i0, hi, hz0, hz1, hz2⟩ := info_parts Try.infoInt
  rw [hi]; simp [hz1]

theorem take_three {α : Type} {A X Z : List α} {n m c : Nat} (hA : A.length = m) (hX : X.length = c) (h : m + c ≤ n) : (A ++ (X ++ Z)).take n = A ++ (X ++ Z.take (n - (m + c))) := by
  subst hA hX
  rw [← List.append_assoc, List.take_append, List.take_of_length_le (by simp; omega), List.append_assoc, List.length_append]

theorem step_copy_self {ops : Array Oper} {o : Oper} {a : Act} {w : World} {K : Act → World → Prop} {Q : Exit → Act → World → Prop} {E : Prop} (hgd : o.guard = none) (d s : Operand)
    (ho : o.op = .call { callee := .builtin .copy, args := #[d, s], argTypes := #[22, 22] })
    (B g n cap m c : Nat) (zs : List Int) (hd : a.eval d = .slice (some ⟨g, m, none⟩) (n - m) (cap - m)) (hs : a.eval s = .slice (some ⟨g, 0, none⟩) m cap)
    (hown : Own w B (some ⟨g, 0, none⟩) n cap zs) (hm : m ≤ n) (hc : c = Nat.min m (n - m))
    (h : ∀ w', Own w' B (some ⟨g, 0, none⟩) n cap (overAt zs m c) → Below B w w' → K (a.put o.dst (.int .i64 (c : Int))) w') :
    if Region.wanted o (yielded ops a.tmps) = true then Oper.wp Try.prog o a w K Q else E := by
  have hlx := hown.len
  have hcm : c ≤ m ∧ c ≤ n - m := by rw [hc]; exact ⟨Nat.min_le_left _ _, Nat.min_le_right _ _⟩
  have hcells := has_cells (hown.has)
  obtain ⟨⟨h1, h2⟩, h3⟩ := hown
  obtain ⟨i0, hi, hz0, hz1, hz2⟩ := info_parts Try.infoInt
  have hsz : (Try.prog.info? 3).map (·.size) = some 1 := by rw [hi]; simp [hz1]
  rcases h2 with ⟨hv, hn⟩ | ⟨g', cap', cur, hv, hg, hh, hnc, hcm', hcs, htake⟩
  · simp at hv
  · simp at hv
    obtain ⟨rfl, rfl⟩ := hv
    have htk : cur.toList.take n = zs.map (Value.int .i64) := by simpa using htake
    refine step_copy_splice hgd d s 22 22 ho 3 Try.underlying22 hsz (some ⟨g, m, none⟩) (some ⟨g, 0, none⟩) (n - m) (cap - m) m cap hd hs g m cur.toList 3 (by simpa using hh) ((zs.take c).map (Value.int .i64)) (by simp; omega) (fun hp => ⟨rfl, _, rfl, fun j v hj => ?_⟩) (by simp; omega) (by intro v hv; obtain ⟨y, _, rfl⟩ := List.mem_map.1 hv; rfl) B w (Below.refl _ _) hg ?_
    · refine hcells j v ?_
      rw [List.getElem?_map] at hj ⊢
      rw [List.getElem?_take] at hj
      split at hj
      · exact hj
      · simp at hj
    · intro w' hw' hb
      have hl : ((zs.take c).map (Value.int .i64)).length = c := by simp; omega
      have e : (a.put o.dst (goInt ((zs.take c).map (Value.int .i64)).length)) = a.put o.dst (.int .i64 (c : Int)) := by rw [hl]; simp [goInt]
      rw [e]
      refine h w' ⟨⟨by rw [List.length_map, length_overAt (by omega)]; simpa using h1, .inr ⟨g, cap, _, rfl, hg, hw'.out, hnc, hcm', ?_, ?_⟩⟩, by rw [length_overAt (by omega)]; exact h3.1, h3.2⟩ hb
      · simp only [splice, hl]
        simp
        omega
      · simp only [splice]
        rw [hl]
        simp only [Nat.mul_one, overAt, List.map_append, List.map_take, List.map_drop]
        rw [← htk]
        have e1 : (cur.toList.take n).take m = cur.toList.take m := by rw [List.take_take, Nat.min_eq_left hm]
        have hlen : n ≤ cur.toList.length := by
          have := congrArg List.length htk
          simp at this
          simp
          omega
        rw [e1, List.drop_take]
        exact take_three (by rw [List.length_take]; omega) (by rw [List.length_take, List.length_take]; omega) (by omega)

set_option maxRecDepth 100000 in
set_option maxHeartbeats 1000000 in
theorem repeat_any (a : Option Addr) (cap k : Nat) (x : Int) (w : World) (h : Has w a 1 cap [x]) (hk : k ≤ 5) :
    Calls Try.prog 102 #[.slice a 1 cap, .int .i64 (k : Int)] w fun e w' => ∃ a' cap', e = .returned (.slice a' k cap') ∧ Own w' w.heap.size a' k cap' (List.replicate k x) ∧ Below w.heap.size w w' := by
  by_cases hk0 : k = 0
  · subst hk0
    go_enter Try.func102, Try.ntmps102
    go_wp2_with (first | (go_at_call 114; refine (mul_any 0 hk _).mono ?_; rintro e w' ⟨rfl, rfl⟩) | (at_make; refine wpList_make_ints _ rfl _ _ rfl 0 rfl rfl (by omega) ?_; intro a1 cap1 w1 hown1 hb1) | (with_reducible refine wpList_copy_nothing rfl _ _ _ _ rfl 3 Try.underlying22 int_size _ _ _ _ _ _ rfl rfl (Nat.min_eq_right (Nat.zero_le _)) ?_))
    refine wp_loop_rounds 1 ?_
    rw [rounds_succ]
    go_wp2_with fail
    go_ret
    exact ⟨_, _, rfl, hown1, hb1⟩
  · have hk1 : 1 ≤ k := by omega
    clear hk0
    go_enter Try.func102, Try.ntmps102
    go_wp2_with (first | (go_at_call 114; refine (mul_any k hk _).mono ?_; rintro e w' ⟨rfl, rfl⟩) | (at_make; refine wpList_make_ints _ rfl _ _ rfl k rfl rfl (by omega) ?_; intro a1 cap1 w1 hown1 hb1) | (with_reducible refine wpList_copy_ints _ rfl _ _ rfl w.heap.size _ _ _ _ _ _ _ _ rfl rfl hown1 (h.below hb1 (Nat.le_refl _)) (by omega) ?_; intro w2 hown2 hb2))
    have hT : (over0 (List.replicate k 0) [x]).take 1 = List.replicate 1 x := by
      obtain ⟨j, rfl⟩ : ∃ j, k = j + 1 := ⟨k - 1, by omega⟩
      simp [over0]
    obtain ⟨g, rfl, hg1, hg2, -, -⟩ := hown1.opened (by omega)
    have HT := hid hT
    have hbw := hb1.trans hb2
    clear hT hown1 hb1 hb2 hg2
    go_wp2_with fail
    go_loopw [8] (fun i wr => ∃ (m : Nat) (zs : List Int), i = .int .i64 m ∧ 1 ≤ m ∧ m ≤ k ∧ Own wr w.heap.size (some ⟨g, 0, none⟩) k cap1 zs ∧ Hid (zs.take m = List.replicate m x) ∧ Below w.heap.size w wr) (fun i _ => k - (intOf i).toNat)
    case atStart => exact ⟨1, _, rfl, Nat.le_refl _, hk1, hown2, HT, hbw⟩
    case round =>
      clear HT hown2 hbw
      obtain ⟨m, zs, rfl, hm1, hm2, hown, HZ, hb⟩ := hrel
      by_cases hlt : m < k
      · have hcap := hown.has.2.1
        have hm3 : m ≤ cap1 := by omega
        have hcm : ¬ cap1 = m := by omega
        have HL := hid hown.len
        obtain ⟨c, hc⟩ : ∃ c, c = Nat.min m (k - m) := ⟨_, rfl⟩
        have hc1 : c ≤ m ∧ c ≤ k - m ∧ 1 ≤ c := by rw [hc]; exact ⟨Nat.min_le_left _ _, Nat.min_le_right _ _, Nat.le_min.2 ⟨hm1, by omega⟩⟩
        obtain ⟨hc2, hc3, hc4⟩ := hc1
        have HC := hid hc
        have hwr : IntKind.i64.wrap ((m : Int) + (c : Int)) = (m : Int) + (c : Int) := IntWalk.i64_in _ (by omega)
        have HZ2 := hid (overAt_rep (zs := zs) hc2 HZ.out)
        clear hc
        go_wp2_with fail
        go_region_law (refine step_copy_self rfl (.tmp 41) (.tmp 44) rfl w.heap.size g k cap1 m c zs (by simp [Act.eval, Act.put]) (by simp [Act.eval, Act.put]) hown hm2 HC.out ?_; intro w4 hown4 hb4)
        all_goals
          have hbd := hb.trans (((Below.refl w.heap.size wr).drew).trans hb4)
          clear hb4
          simp [Act.put]
          go_wp2_with fail
          go_roundw
          case rel => exact ⟨m + c, _, by go_num, by omega, by omega, hown4, HZ2, hbd⟩
          case measure => simp [intOf]; omega
      · obtain rfl : m = k := by omega
        have HL := hid hown.len
        go_wp2_with fail
        go_ret
        have hz := HZ.out
        rw [List.take_of_length_le (by rw [HL.out]; exact Nat.le_refl _)] at hz
        exact ⟨_, _, rfl, by rw [← hz]; exact hown, hb⟩
end Go.Proofs.Ytnddplldkgphnac
