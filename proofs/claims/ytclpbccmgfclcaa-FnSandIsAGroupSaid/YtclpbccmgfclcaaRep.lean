/- The library's Repeat at a list of one number, for few repetitions. -/
import Derived.Test.YtclpbccmgfclcaaCopy
import Derived.Deep.RegionLaw
import Derived.Laws.CopyOwn
namespace Go.Proofs.Ytclpbccmgfclcaa
open Go.RowKit

theorem mul64_0 (w : World) : Calls Try.prog 87 #[.int .u64 1, .int .u64 0] w fun e w' => e = .returned (.tuple #[.int .u64 0, .int .u64 0]) ∧ w = w' := by
  go_enter Try.func87, Try.ntmps87
  go_wp2
  go_ret2
  exact ⟨rfl, rfl⟩
theorem mul64_1 (w : World) : Calls Try.prog 87 #[.int .u64 1, .int .u64 1] w fun e w' => e = .returned (.tuple #[.int .u64 0, .int .u64 1]) ∧ w = w' := by
  go_enter Try.func87, Try.ntmps87
  go_wp2
  go_ret2
  exact ⟨rfl, rfl⟩
theorem mul64_2 (w : World) : Calls Try.prog 87 #[.int .u64 1, .int .u64 2] w fun e w' => e = .returned (.tuple #[.int .u64 0, .int .u64 2]) ∧ w = w' := by
  go_enter Try.func87, Try.ntmps87
  go_wp2
  go_ret2
  exact ⟨rfl, rfl⟩
theorem mul64_3 (w : World) : Calls Try.prog 87 #[.int .u64 1, .int .u64 3] w fun e w' => e = .returned (.tuple #[.int .u64 0, .int .u64 3]) ∧ w = w' := by
  go_enter Try.func87, Try.ntmps87
  go_wp2
  go_ret2
  exact ⟨rfl, rfl⟩
theorem mul64_4 (w : World) : Calls Try.prog 87 #[.int .u64 1, .int .u64 4] w fun e w' => e = .returned (.tuple #[.int .u64 0, .int .u64 4]) ∧ w = w' := by
  go_enter Try.func87, Try.ntmps87
  go_wp2
  go_ret2
  exact ⟨rfl, rfl⟩
theorem mul64_5 (w : World) : Calls Try.prog 87 #[.int .u64 1, .int .u64 5] w fun e w' => e = .returned (.tuple #[.int .u64 0, .int .u64 5]) ∧ w = w' := by
  go_enter Try.func87, Try.ntmps87
  go_wp2
  go_ret2
  exact ⟨rfl, rfl⟩
theorem mul64_any (k : Nat) (hk : k ≤ 5) (w : World) : Calls Try.prog 87 #[.int .u64 1, .int .u64 (k : Int)] w fun e w' => e = .returned (.tuple #[.int .u64 0, .int .u64 (k : Int)]) ∧ w = w' := by
  rcases (show k = 0 ∨ k = 1 ∨ k = 2 ∨ k = 3 ∨ k = 4 ∨ k = 5 by omega) with rfl | rfl | rfl | rfl | rfl | rfl
  · exact mul64_0 w
  · exact mul64_1 w
  · exact mul64_2 w
  · exact mul64_3 w
  · exact mul64_4 w
  · exact mul64_5 w
theorem mul_any (k : Nat) (hk : k ≤ 5) (w : World) : Calls Try.prog 85 #[.int .u64 1, .int .u64 (k : Int)] w fun e w' => e = .returned (.tuple #[.int .u64 0, .int .u64 (k : Int)]) ∧ w = w' := by
  go_enter Try.func85, Try.ntmps85
  go_wp2_with (go_at_call 87; refine (mul64_any k hk _).mono ?_; rintro e w' ⟨rfl, rfl⟩)
  go_ret2
  exact ⟨rfl, rfl⟩

/-- The first m numbers copied behind themselves. -/
def overAt (zs : List Int) (m c : Nat) : List Int := zs.take m ++ (zs.take c ++ zs.drop (m + c))
theorem length_overAt {zs : List Int} {m c : Nat} (h : m + c ≤ zs.length) : (overAt zs m c).length = zs.length := by simp [overAt]; omega
theorem overAt_rep {zs : List Int} {m c : Nat} {x : Int} (hc : c ≤ m) (hz : zs.take m = List.replicate m x) : (overAt zs m c).take (m + c) = List.replicate (m + c) x := by
  unfold overAt
  have h1 : zs.take c = List.replicate c x := by
    have := congrArg (List.take c) hz
    rw [List.take_take, Nat.min_eq_left hc] at this
    rw [this]
    simp [Nat.min_eq_left hc]
  rw [hz, h1, List.take_append, List.take_of_length_le (by simp), List.length_replicate, Nat.add_sub_cancel_left, List.take_append, List.take_of_length_le (by simp), List.length_replicate, Nat.sub_self, List.take_zero, List.append_nil, List.replicate_append_replicate]

theorem int_size : (Try.prog.info? 3).map (·.size) = some 1 := by
  obtain ⟨i0, hi, hz0, hz1, hz2⟩ := info_parts Try.infoInt
  rw [hi]; simp [hz1]

theorem take_three {α : Type} {A X Z : List α} {n m c : Nat} (hA : A.length = m) (hX : X.length = c) (h : m + c ≤ n) : (A ++ (X ++ Z)).take n = A ++ (X ++ Z.take (n - (m + c))) := by
  subst hA hX
  rw [← List.append_assoc, List.take_append, List.take_of_length_le (by simp; omega), List.append_assoc, List.length_append]

theorem step_copy_self {ops : Array Oper} {o : Oper} {a : Act} {w : World} {K : Act → World → Prop} {Q : Exit → Act → World → Prop} {E : Prop} (hgd : o.guard = none) (d s : Operand)
    (ho : o.op = .call { callee := .builtin .copy, args := #[d, s], argTypes := #[24, 24] })
    (B g n cap m c : Nat) (zs : List Int) (hd : a.eval d = .slice (some ⟨g, m, none⟩) (n - m) (cap - m)) (hs : a.eval s = .slice (some ⟨g, 0, none⟩) m cap)
    (hown : Own w B (some ⟨g, 0, none⟩) n cap zs) (hm : m ≤ n) (hc : c = Nat.min m (n - m))
    (h : ∀ w', Own w' B (some ⟨g, 0, none⟩) n cap (overAt zs m c) → Below B w w' → K (a.put o.dst (.int .i64 (c : Int))) w') :
    if Region.wanted o (yielded ops a.tmps) = true then Oper.wp Try.prog o a w K Q else E := by
  have hlx := hown.len
  have hcm : c ≤ m ∧ c ≤ n - m := by rw [hc]; exact ⟨Nat.min_le_left _ _, Nat.min_le_right _ _⟩
  have hcells := has_cells (hown.has)
  obtain ⟨⟨h1, h2⟩, h3⟩ := hown
  obtain ⟨i0, hi, hz0, hz1, hz2⟩ := info_parts Try.infoInt
  have hsz : (Try.prog.info? 3).map (·.size) = some 1 := by rw [hi]; simp [hz1]
  rcases h2 with ⟨hv, hn⟩ | ⟨g', cap', cur, hv, hg, hh, hnc, hcm', hcs, htake⟩
  · simp at hv
  · simp at hv
    obtain ⟨rfl, rfl⟩ := hv
    have htk : cur.toList.take n = zs.map (Value.int .i64) := by simpa using htake
    refine step_copy_splice hgd d s 24 24 ho 3 Try.underlying24 hsz (some ⟨g, m, none⟩) (some ⟨g, 0, none⟩) (n - m) (cap - m) m cap hd hs g m cur.toList 3 (by simpa using hh) ((zs.take c).map (Value.int .i64)) (by simp; omega) (fun hp => ⟨rfl, _, rfl, fun j v hj => ?_⟩) (by simp; omega) (by intro v hv; obtain ⟨y, _, rfl⟩ := List.mem_map.1 hv; rfl) B w (Below.refl _ _) hg ?_
    · refine hcells j v ?_
      rw [List.getElem?_map] at hj ⊢
      rw [List.getElem?_take] at hj
      split at hj
      · exact hj
      · simp at hj
    · intro w' hw' hb
      have hl : ((zs.take c).map (Value.int .i64)).length = c := by simp; omega
      have e : (a.put o.dst (goInt ((zs.take c).map (Value.int .i64)).length)) = a.put o.dst (.int .i64 (c : Int)) := by rw [hl]; simp [goInt]
      rw [e]
      refine h w' ⟨⟨by rw [List.length_map, length_overAt (by omega)]; simpa using h1, .inr ⟨g, cap, _, rfl, hg, hw'.out, hnc, hcm', ?_, ?_⟩⟩, by rw [length_overAt (by omega)]; exact h3.1, h3.2⟩ hb
      · simp only [splice, hl]
        simp
        omega
      · simp only [splice]
        rw [hl]
        simp only [Nat.mul_one, overAt, List.map_append, List.map_take, List.map_drop]
        rw [← htk]
        have e1 : (cur.toList.take n).take m = cur.toList.take m := by rw [List.take_take, Nat.min_eq_left hm]
        have hlen : n ≤ cur.toList.length := by
          have := congrArg List.length htk
          simp at this
          simp
          omega
        rw [e1, List.drop_take]
        exact take_three (by rw [List.length_take]; omega) (by rw [List.length_take, List.length_take]; omega) (by omega)

end Go.Proofs.Ytclpbccmgfclcaa
