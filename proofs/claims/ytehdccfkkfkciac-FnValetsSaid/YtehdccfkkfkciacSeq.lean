/- slices.Sorted(slices.Values(xs)), by the contracts of the library's functions, and slices.Compact. -/
import Derived.RangeFuncBox
import Derived.RangeFuncLeaves
import Derived.Shelf.Abstract
import Derived.WalkKit
import Derived.OwnWalkIn
import Derived.TacticsInMore
import Derived.LoopNIn
import Derived.LoopIn
import Derived.Maps.AppendAt
import Derived.Test.YtehdccfkkfkciacSpecS
import Derived.Test.YtehdccfkkfkciacSrt
import Derived.Test.YtehdccfkkfkciacPal
import Derived.Test.YtehdccfkkfkciacShelfT
import Derived.Deep.LoopGhost
namespace Go.Proofs.Ytehdccfkkfkciac
open Go.RowKit Go.Shelf

attribute [local go_sem] Oper.semAt_some

/-- The closure that slices.Values hands back. -/
def ValFn (b : Nat) : Value := .func (.func 71) #[] #[.pointer (some ⟨b, 0, none⟩)]
theorem values_any (a : Option Addr) (n cap : Nat) (w : World) :
    Calls Try.prog 41 #[.slice a n cap] w fun e w' => e = .returned (ValFn w.heap.size) ∧ w' = w.alloc (.cells #[.slice a n cap] 22) := by
  have hmf : ∀ (fn : Fn) (first cap : Array Value) (w : World), (Instr.makeFunc fn first cap).run Try.prog w = .ok (.func fn first cap) w := fun _ _ _ _ => rfl
  go_enter Try.func41, Try.ntmps41
  go_wp2_with fail
  go_ret
  exact ⟨rfl, rfl⟩

set_option maxRecDepth 100000 in
set_option maxHeartbeats 1000000 in
theorem values1_in (m l Bs : Nat) (a : Option Addr) (n cap : Nat) (xs : List Int) (w : World) (hH : Has w a n cap xs) (J Jx : List Int → World → Prop)
    (hY : ∀ pre x W, J pre W → pre.length < n → YieldAt Fence.wide (m - 1) Try.prog l #[.int .i64 x] W fun e W' =>
      (e = .returned (.bool true) ∧ J (pre ++ [x]) W' ∧ Below w.heap.size W W') ∨ (e = .returned (.bool false) ∧ Jx (pre ++ [x]) W'))
    (W : World) (hW : Below w.heap.size w W) (hBs : W.cell? ⟨Bs, 0, none⟩ = some (.slice a n cap)) (h0 : J [] W) :
    CallsIn Fence.wide m Try.prog 71 #[.func (.yield l) #[] #[], .pointer (some ⟨Bs, 0, none⟩)] W fun e W' => (∃ v, e = .returned v) ∧
      ((∃ ys, ys = xs ∧ J ys W') ∨ (∃ pre, True ∧ Jx pre W')) := by
  have hl := hH.len
  have hle := hH.le
  refine callsIn_of_wp Try.func71 rfl trivial ?_ rfl
  simp only [Try.ntmps71, List.size_toArray, List.length_cons, List.length_nil, Nat.reduceAdd, Nat.reduceSub, Array.replicate_succ, Array.replicate_zero, List.push_toArray, List.append_toArray, List.nil_append, List.cons_append]
  gi_wp2
  gi_loopw [7] (fun i wr => ∃ k : Nat, k ≤ n ∧ i = .int .i64 (k : Int) ∧ J (xs.take k) wr ∧ Below w.heap.size w wr) (fun i _ => n - (intOf i).toNat)
  case atStart => exact ⟨0, Nat.zero_le _, rfl, by simpa using h0, hW⟩
  case round =>
    obtain ⟨k, hk, rfl, hJs, hbw⟩ := hrel
    by_cases hlt : k < n
    · have hHr := hH.below hbw (Nat.le_refl _)
      obtain ⟨b, off, rfl, hbb, hc⟩ := hHr.2.2.2.2 (by omega)
      have hcx := hc k hlt
      clear hc hHr hBs
      obtain ⟨fn, tmps, assign, body, hy, hR⟩ := hY _ (nth xs k) wr hJs (by simp; omega)
      have hwd : Fence.wide.depth.isSome = true → 1 ≤ m := fun h => by cases h
      gi_wp2
      refine ⟨hwd, hR.mono ?_⟩
      rintro e W3 (⟨rfl, hJ3, hk3⟩ | ⟨rfl, hJx3⟩)
      · gi_wp2
        go_roundw
        case rel => exact ⟨k + 1, by omega, by simp, by rw [take_succ_nth (by omega)]; exact hJ3, hbw.trans hk3⟩
        case measure => simp [intOf]; omega
      · gi_wp2
        refine bodyPost_ret (results_none rfl _ _ _) rfl ?_
        exact ⟨⟨_, rfl⟩, .inr ⟨_, trivial, hJx3⟩⟩
    · obtain rfl : k = n := by omega
      gi_wp2
      go_end0
      exact ⟨⟨_, rfl⟩, .inl ⟨_, by rw [List.take_of_length_le (by omega)], hJs⟩⟩

theorem values_stops (m Bs : Nat) (a : Option Addr) (n cap : Nat) (xs : List Int) (w w0 : World) (hH : Has w a n cap xs) (hb : Below w.heap.size w w0) (hBs : w0.cell? ⟨Bs, 0, none⟩ = some (.slice a n cap)) (hlt : Bs < w0.heap.size) :
    SeqStopsK Fence.wide m Try.prog 71 #[.pointer (some ⟨Bs, 0, none⟩)] (fun x : Int => #[Value.int .i64 x]) (Below w.heap.size) (fun ys => ys = xs) (fun _ => True) n w0 := fun l J Jx W hW _ _ hY h0 =>
  values1_in m l Bs a n cap xs w hH J Jx hY W (hb.trans (hW.mono hb.size)) ((hW.cell (p := ⟨Bs, 0, none⟩) hlt).trans hBs) h0

set_option maxRecDepth 100000 in
set_option maxHeartbeats 2000000 in
theorem appendSeq_any (Bs : Nat) (a : Option Addr) (n cap : Nat) (xs : List Int) (w : World) (hH : Has w a n cap xs) (hBs : w.cell? ⟨Bs, 0, none⟩ = some (.slice a n cap)) (hlt : Bs < w.heap.size) :
    Calls Try.prog 84 #[.slice none 0 0, ValFn Bs] w fun e w' => ∃ a' cap', e = .returned (.slice a' n cap') ∧ Own w' w.heap.size a' n cap' xs ∧ Below w.heap.size w w' := by
  have hl := hH.len
  have hle := hH.le
  obtain ⟨i0, hi, hz0, hz1, hz2⟩ := info_parts (show (Try.prog.info? 3).map (fun i => (i.zero, i.size, i.bytes)) = some (some (.int .i64 0), 1, 8) by kernel_rfl)
  refine (callsIn_wide (n := 8)).1 ?_
  refine callsIn_of_wp_marks Try.func84 rfl trivial ?_ rfl
  simp only [Try.ntmps84, List.size_toArray, List.length_cons, List.length_nil, Nat.reduceAdd, Nat.reduceSub, Array.replicate_succ, Array.replicate_zero, List.push_toArray, List.append_toArray, List.nil_append, List.cons_append]
  gi_wp2
  have bO := Boxed.new w 22 (.slice none 0 0)
  have hB0 : Below w.heap.size w (w.alloc (.cells #[.slice none 0 0] 22)) := (Below.refl _ w).alloc (Nat.le_refl _) _
  refine wpIn_rangeFunc_ownG rfl (by omega) (gf := 71) (lb := #[.pointer (some ⟨Bs, 0, none⟩)]) rfl trivial (enters_of Try.func71 (by kernel_rfl) rfl)
    (values_stops _ Bs a n cap xs w _ hH hB0 ((hB0.cell (p := ⟨Bs, 0, none⟩) hlt).trans hBs) (by simp; omega)) belowK_t (belowK_b (by simp)) (Below.refl _ _) (fun _ => rfl)
    (fun (pre : List Int) W => (∃ v, Boxed W w.heap.size 22 v ∧ W.ownsRow w.heap.size 3 1 v pre.length (pre.map (Value.int .i64)) ∧ True) ∧ Below w.heap.size w W)
    (fun _ _ _ => False)
    (OwnFrom.and (Own.from (holdsRow_own w.heap.size w.heap.size 22 3 1 (fun pre : List Int => pre.length) (fun pre : List Int => pre.map (Value.int .i64)) (fun _ _ => True)) _) (ownFrom_below (Nat.le_refl _) (by simp)))
    (fun _ _ _ _ _ hs _ _ => hs)
    ⟨⟨_, bO, World.ownsRow_nil _ _ _ _, trivial⟩, hB0⟩
    (fun x => { tmps := #[.slice none 0 0, ValFn Bs, .pointer (some ⟨w.heap.size, 0, none⟩), undef, .slice none 0 0, .int .i64 x, ValFn Bs, .int .i64 x, undef, undef, undef, undef, undef], defers := [] }) ?assign ?body ?done ?stop
  case assign =>
    intro l x W K hK
    gi_wp2
    exact hK
  case body =>
    rintro l pre x W ⟨⟨v, hv, hrow, -⟩, hB⟩ hlt
    have hc := hv.cell
    gi_wp2_with (gi_at_builtin; refine wpListIn_append_own _ rfl _ _ 22 rfl w.heap.size 3 i0 (.int .i64 0) 1 8 Try.underlying22 hi hz0 hz1 hz2 rfl (by decide) _ _ _ rfl (hrow.alloc _) ⟨W.heap.size, 0, none⟩ 1 1 [.int .i64 x] rfl rfl (cell_one_new _ _ _) (by simp [Value.oneCell']) (by unfold maxLen; omega) (by omega) (by have := hB.size; simp; omega) ?_; intro v' w1 hown' hgrow _; obtain ⟨g', cap', rfl⟩ := ownsRow_succ hown'; obtain ⟨hv1, hv2, hr2, hk2, hb2⟩ := hv.appended (by decide) hrow hB.size (Nat.le_refl _) hown' hgrow; have hc1 := hv1.cell; have hf1 := hv1.frozen)
    exact ⟨hk2.from _, hb2, ⟨_, hv2, by simpa using hr2, trivial⟩, hB.trans hb2⟩
  case done =>
    rintro D ys W hD rfl ⟨⟨v, hv, hrow, -⟩, hB⟩ hK
    have hc := hv.cell
    gi_wp2
    subst hl
    refine ⟨by simp, .inl ⟨_, _, rfl, run_takeDeferred hK, ?_⟩⟩
    obtain ⟨a', cap', rfl, ho⟩ := own_of_row (xs := ys) (ownsRow_putObj hrow (.deferred none) hK rfl) rfl rfl (by omega)
    exact ⟨_, results_tmp rfl _ _ _, a', cap', rfl, ho, hB.trans (belowK_b (w := w) (Nat.le_refl _) W D _ _ (by simp at hD; omega) hK rfl rfl)⟩
  case stop =>
    rintro D c pre W _ _ h _
    exact h.elim

theorem collect_any (Bs : Nat) (a : Option Addr) (n cap : Nat) (xs : List Int) (w : World) (hH : Has w a n cap xs) (hBs : w.cell? ⟨Bs, 0, none⟩ = some (.slice a n cap)) (hlt : Bs < w.heap.size) :
    Calls Try.prog 69 #[ValFn Bs] w fun e w' => ∃ a' cap', e = .returned (.slice a' n cap') ∧ Own w' w.heap.size a' n cap' xs ∧ Below w.heap.size w w' := by
  go_enter Try.func69, Try.ntmps69
  go_wp2_with (go_at_call 84; refine (appendSeq_any Bs a n cap xs w hH hBs hlt).mono ?_; rintro e w1 ⟨a1, cap1, rfl, hown1, hb1⟩)
  go_ret
  exact ⟨a1, cap1, rfl, hown1, hb1⟩
set_option maxHeartbeats 400000 in
theorem sorted_any (Bs : Nat) (a : Option Addr) (n cap : Nat) (xs : List Int) (w : World) (hH : Has w a n cap xs) (hBs : w.cell? ⟨Bs, 0, none⟩ = some (.slice a n cap)) (hlt : Bs < w.heap.size) :
    Calls Try.prog 40 #[ValFn Bs] w fun e w' => ∃ a' cap', e = .returned (.slice a' n cap') ∧ Own w' w.heap.size a' n cap' (insSort xs) ∧ Below w.heap.size w w' := by
  go_enter Try.func40, Try.ntmps40
  go_wp2_with (go_at_call 69; refine (collect_any Bs a n cap xs w hH hBs hlt).mono ?_; rintro e w1 ⟨a1, cap1, rfl, hown1, hb1⟩)
  refine (sort_any _ _ _ _ _ _ hown1).mono ?_
  rintro e w2 ⟨rfl, hown2, hm⟩
  go_wp2_with fail
  go_ret
  exact ⟨a1, cap1, rfl, hown2, hb1.trans (hm.below hown1.ge hb1.size)⟩
set_option maxHeartbeats 400000 in
theorem compact_any (B : Nat) (a : Option Addr) (n cap : Nat) (xs : List Int) (w : World) (h : Own w B a n cap xs) (hB : B ≤ w.heap.size) :
    Calls Try.prog 42 #[.slice a n cap] w fun e w' => ∃ a', e = .returned (.slice a' (Lib.compact xs).length cap) ∧ Below B w w' := by
  have hl := h.len
  have hle := h.le
  by_cases h0 : n = 0
  · subst h0
    obtain rfl : xs = [] := List.eq_nil_of_length_eq_zero hl
    go_enter Try.func42, Try.ntmps42
    go_wp2_with fail
    go_ret
    exact ⟨a, rfl, Below.refl _ _⟩
  · obtain ⟨g, rfl, hg1, hg2, hg3, hg4⟩ := h.opened (by omega)
    have hcap := h.has.2.1
    refine (Try.slices_Compact_int_cells g 0 n cap xs w (by omega) (by omega) hcap (fun j hj => by rw [Nat.zero_add, hg3 j (by omega)]; rfl) (fun j _ => by rw [Nat.zero_add]; exact hg4 j)).mono ?_
    rintro e w' ⟨rfl, q, rfl⟩
    have hq : Own (w.drewN q) B (some ⟨g, 0, none⟩) n cap xs := h
    have s2 := (own_setCells (Lib.compact (xs.take n) ++ List.replicate (n - (Lib.compact (xs.take n)).length) 0) 0 hq).2
    refine ⟨_, by rw [List.take_of_length_le (by omega)], ?_⟩
    exact (below_drewN (Below.refl B w) q).trans ((Below.refl B _).grown s2 hB (fun k hk => by simp at hk; omega))
end Go.Proofs.Ytehdccfkkfkciac
