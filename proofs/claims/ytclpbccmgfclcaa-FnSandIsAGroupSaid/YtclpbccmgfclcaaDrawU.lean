/- Draws of sand: what is settled. -/
import Derived.Test.YtclpbccmgfclcaaDrawS
import Derived.Deep.RegionWith
import Derived.Deep.DeepCutAuto
namespace Go.Proofs.Ytclpbccmgfclcaa
open Go.RowKit

theorem own_cell {w : World} {B g n cap x : Nat} {xs : List Int} (h : Own w B (some ⟨g, 0, none⟩) n cap xs) (hx : x < n) : w.cell? ⟨g, x, none⟩ = some (.int .i64 (nth xs x)) ∧ w.frozen? ⟨g, x, none⟩ = false := by
  obtain ⟨g', hg, -, -, h3, h4⟩ := h.opened (by omega)
  simp at hg
  subst hg
  exact ⟨h3 x hx, h4 x⟩
/-- A list that was drawn of a law's bytes. -/
def DrewOf (w : World) (e : Ending) (w' : World) : Prop := ∃ a n cap xs, e = .returned (.slice a n cap) ∧ Own w' w.heap.size a n cap xs ∧ n ≤ 10 ∧ Below w.heap.size w w'

set_option maxRecDepth 100000 in
set_option maxHeartbeats 4000000 in
theorem drawStab_any (a : Option Addr) (n cap : Nat) (w : World) (h : HasB w a n w.heap.size) :
    Calls Try.prog 7 #[.slice a n cap] w (DrewOf w) := by
  have C0 := cur_new (cap := cap) h
  have hs0 : (w.alloc (.cells #[.slice a n cap, .int .i64 0, .int .u64 0] 47)).heap.size = w.heap.size + 1 := by simp
  go_enter Try.func7, Try.ntmps7
  go_wp2_with fail
  refine (grains_cur _ 0 _ C0 (by omega)).mono ?_
  rintro e w1 ⟨a1, n1, cap1, xs1, t1, rfl, o1, hn1, hw1, A1, ht1⟩
  have o1' := o1.mono (B' := w.heap.size + 1) (by rw [hs0]; exact Nat.le_refl _)
  have hb := (alloc_below w (.cells #[.slice a n cap, .int .i64 0, .int .u64 0] 47)).trans A1.below
  by_cases h0 : 0 < n1
  · have hn0 : (0 : Int) < (n1 : Int) := by omega
    go_wp2_with fail
    refine (one_cur _ t1 4 _ A1.cur (by omega) (by omega)).mono ?_
    rintro e w2 ⟨b2, rfl, ⟨t2, y1, y2, hc2⟩, hg2⟩
    have A2 := A1.pick hc2 hg2
    have o2 := o1'.kept hg2 (.inl (Nat.lt_succ_self _))
    have hb2 := (alloc_below w (.cells #[.slice a n cap, .int .i64 0, .int .u64 0] 47)).trans A2.below
    clear hc2 hg2 A1 o1 o1' hb
    cases b2 with
    | true =>
      obtain ⟨g, rfl, hg1, -, -, -⟩ := o2.opened h0
      have hgB : w.heap.size ≤ g := by omega
      have K2 : AtG (w.alloc (.cells #[.slice a n cap, .int .i64 0, .int .u64 0] 47)) w2.drew w.heap.size t2 := A2.later (K := w2.heap.size) (Below.refl _ _).drew A2.size
      have oD : Own w2.drew (w.heap.size + 1) (some ⟨g, 0, none⟩) n1 cap1 xs1 := o2.below (K := w2.heap.size) (Below.refl _ _).drew (Nat.le_refl _)
      clear A2 o2 hb2
      go_upto_region 4 with fail
      go_cut [26] (fun _ wx => ∃ xs', Own wx (w.heap.size + 1) (some ⟨g, 0, none⟩) n1 cap1 xs' ∧ Below w.heap.size w wx)
      case first =>
        have hb0 := alloc_below w (.cells #[.slice a n cap, .int .i64 0, .int .u64 0] 47)
        go_region_with (first | (go_at_call 39; with_reducible refine (pick_cur w.heap.size t4 (n1 : Int) _ Kd.cur (by omega) (by omega)).mono ?_; rintro e we ⟨qe, rfl, e0, e1, ⟨t5, e2, e3, ce⟩, ge⟩; obtain ⟨x, rfl⟩ : ∃ x : Nat, qe = (x : Int) := ⟨_, (Int.toNat_of_nonneg e0).symm⟩; have hx : x < n1 := (by omega); have Ke := Kd.pick ce ge; have oe := od.kept ge (.inl (Nat.lt_succ_self _)); obtain ⟨hcx, hfx⟩ := own_cell oe hx) | (go_at_call 39; with_reducible refine (pick_cur w.heap.size t3 30 _ Kb.cur (by omega) (by omega)).mono ?_; rintro e wc ⟨qc, rfl, c0, c1, ⟨t5, c2, c3, cc⟩, gc⟩; have Ke := Kb.pick cc gc; have oe := ob.kept gc (.inl (Nat.lt_succ_self _)); obtain ⟨hcx, hfx⟩ := own_cell oe hx) | (go_at_call 39; with_reducible refine (pick_cur w.heap.size t2 (n1 : Int) _ K2.cur (by omega) (by omega)).mono ?_; rintro e wb ⟨qb, rfl, b0, b1, ⟨t3, b2, b3, cb⟩, gb⟩; obtain ⟨x, rfl⟩ : ∃ x : Nat, qb = (x : Int) := ⟨_, (Int.toNat_of_nonneg b0).symm⟩; have hx : x < n1 := (by omega); have Kb := K2.pick cb gb; have ob := oD.kept gb (.inl (Nat.lt_succ_self _)); obtain ⟨hcb, hfb⟩ := own_cell ob hx) | (go_at_call 39; with_reducible refine (pick_cur w.heap.size t2 30 _ K2.cur (by omega) (by omega)).mono ?_; rintro e wd ⟨qd, rfl, d0, d1, ⟨t4, d2, d3, cd⟩, gd⟩; have Kd := K2.pick cd gd; have od := oD.kept gd (.inl (Nat.lt_succ_self _))))
        all_goals (go_wp2_with fail; go_meet; exact ⟨_, (oe.set x _).1, (hb0.trans Ke.below).setCell hgB _⟩)
      case rest =>
        obtain ⟨xs', ox, hbx⟩ := hcut
        go_wp2_with fail
        go_ret
        exact ⟨_, _, _, _, rfl, ox.mono (Nat.le_succ _), hn1, hbx⟩
    | false =>
      go_wp2_with fail
      go_ret
      exact ⟨_, _, _, _, rfl, o2.mono (Nat.le_succ _), hn1, hb2⟩
  · obtain rfl : n1 = 0 := by omega
    go_wp2_with fail
    go_ret
    exact ⟨_, _, _, _, rfl, o1'.mono (Nat.le_succ _), by omega, hb⟩

set_option maxRecDepth 100000 in
set_option maxHeartbeats 4000000 in
theorem drawTop_any (a : Option Addr) (n cap : Nat) (w : World) (h : HasB w a n w.heap.size) :
    Calls Try.prog 11 #[.slice a n cap] w fun e w' => ∃ a n cap xs i, e = .returned (.tuple #[.slice a n cap, .int .i64 i]) ∧ Own w' w.heap.size a n cap xs ∧ n ≤ 10 ∧ Below w.heap.size w w' := by
  have C0 := cur_new (cap := cap) h
  have hs0 : (w.alloc (.cells #[.slice a n cap, .int .i64 0, .int .u64 0] 47)).heap.size = w.heap.size + 1 := by simp
  go_enter Try.func11, Try.ntmps11
  go_wp2_with fail
  refine (grains_cur _ 0 _ C0 (by omega)).mono ?_
  rintro e w1 ⟨a1, n1, cap1, xs1, t1, rfl, o1, hn1, hw1, A1, ht1⟩
  have o1' := o1.mono (B' := w.heap.size + 1) (by rw [hs0]; exact Nat.le_refl _)
  clear o1
  go_wp2_with fail
  refine (pick_cur w.heap.size t1 ((n1 : Int) + 2) _ A1.cur (by omega) (by omega)).mono ?_
  rintro e w2 ⟨v2, rfl, v0, v1, ⟨t2, y1, y2, hc2⟩, hg2⟩
  have A2 := A1.pick hc2 hg2
  have o2 := o1'.kept hg2 (.inl (Nat.lt_succ_self _))
  have hb2 := (alloc_below w (.cells #[.slice a n cap, .int .i64 0, .int .u64 0] 47)).trans A2.below
  clear hc2 hg2 A1 o1'
  by_cases hs : sandB xs1 = true
  · have HS := hid hs
    clear hs
    by_cases hf : firstN xs1 < xs1.length
    · have HF := hid (fstI_yes hf)
      clear hf
      go_wp2_with (first | (go_at_call 43; refine (reSand_any _ _ _ _ _ o2.has).mono ?_; rintro e w' ⟨rfl, rfl⟩; rw [HS.out]) | (go_at_call 45; refine (reFirst_any _ _ _ _ _ o2.has).mono ?_; rintro e w' ⟨rfl, rfl⟩; rw [HF.out]))
      refine (one_cur _ t2 2 _ A2.cur (by omega) (by omega)).mono ?_
      rintro e w3 ⟨b3, rfl, ⟨t3, z1, z2, hc3⟩, hg3⟩
      have A3 := A2.pick hc3 hg3
      have o3 := o2.kept hg3 (.inl (Nat.lt_succ_self _))
      have hb3 := (alloc_below w (.cells #[.slice a n cap, .int .i64 0, .int .u64 0] 47)).trans A3.below
      clear hc3 hg3 A2 o2 hb2
      cases b3 with
      | true =>
        go_wp2_with (go_at_call 45; refine (reFirst_any _ _ _ _ _ o3.has).mono ?_; rintro e w' ⟨rfl, rfl⟩)
        go_ret2
        exact ⟨_, _, _, _, _, rfl, o3.mono (Nat.le_succ _), hn1, hb3⟩
      | false =>
        go_wp2_with fail
        go_ret2
        exact ⟨_, _, _, _, _, rfl, o3.mono (Nat.le_succ _), hn1, hb3⟩
    · have HF := hid (fstI_no hf)
      clear hf
      go_wp2_with (first | (go_at_call 43; refine (reSand_any _ _ _ _ _ o2.has).mono ?_; rintro e w' ⟨rfl, rfl⟩; rw [HS.out]) | (go_at_call 45; refine (reFirst_any _ _ _ _ _ o2.has).mono ?_; rintro e w' ⟨rfl, rfl⟩; rw [HF.out]))
      go_ret2
      exact ⟨_, _, _, _, _, rfl, o2.mono (Nat.le_succ _), hn1, hb2⟩
  · have HS := hid (Bool.eq_false_iff.2 hs)
    clear hs
    go_wp2_with (go_at_call 43; refine (reSand_any _ _ _ _ _ o2.has).mono ?_; rintro e w' ⟨rfl, rfl⟩; rw [HS.out])
    go_ret2
    exact ⟨_, _, _, _, _, rfl, o2.mono (Nat.le_succ _), hn1, hb2⟩
end Go.Proofs.Ytclpbccmgfclcaa
