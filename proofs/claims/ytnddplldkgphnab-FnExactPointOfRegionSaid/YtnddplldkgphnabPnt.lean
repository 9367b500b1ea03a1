/- PointOfRegion: both sides, by contract. -/
import Derived.Test.YtnddplldkgphnabSpecPoi
import Derived.Test.YtnddplldkgphnabImplPoi
namespace Go.Proofs.Ytnddplldkgphnab
open Go.RowKit

set_option maxRecDepth 100000 in
set_option maxHeartbeats 2000000 in
theorem rePointOf_any (a b : Option Addr) (n cap capb : Nat) (os fs : List Int) (w : World) (h : Has w a n cap os) (h' : Has w b n capb fs) (hr : regB os fs = true) (h8 : n ≤ 8) (hor : ∀ k, k < n → 0 ≤ nth os k ∧ nth os k < (n : Int)) :
    Calls Try.prog 42 #[.agg #[.slice a n cap, .slice b n capb]] w fun e w' => ∃ a' c', e = .returned (.slice a' n c') ∧ Own w' w.heap.size a' n c' (putAt os (negL (solL fs)) (List.replicate n 0) n) ∧ Below w.heap.size w w' := by
  have HOR := hid hor
  have hSL : (solL fs).length = n := by rw [(zero_sol fs).2, h'.len]
  have HSB := hid (fun i => sol_bounds (fs := fs) h'.len h8 i)
  have HR := hid hr
  have BX := boxAt_new w (.slice a n cap) (.slice b n capb) 24
  have hbW : Below w.heap.size w (w.alloc (.cells #[.slice a n cap, .slice b n capb] 24)) := (Below.refl _ _).alloc (Nat.le_refl _) _
  have hsW : (w.alloc (.cells #[.slice a n cap, .slice b n capb] 24)).heap.size = w.heap.size + 1 := by simp
  obtain ⟨y1, y2, y3, y4⟩ := id BX
  clear hr hor
  go_enter Try.func42, Try.ntmps42
  go_wp2_with (at_make; refine wpList_make_ints _ rfl _ _ rfl n rfl rfl (by omega) ?_; intro a1 c1 w1 own1 hb1; have BX1 := BX.below hb1 (by rw [hsW]; exact Nat.lt_succ_self _); obtain ⟨z1, z2, z3, z4⟩ := id BX1)
  have hb2 : Below w.heap.size w w1 := hbW.trans (hb1.mono (by rw [hsW]; exact Nat.le_succ _))
  have hs1 : w.heap.size + 1 ≤ w1.heap.size := by have := hb1.size; omega
  clear y1 y2 y3 y4 BX
  refine (reDepths_any a b n cap capb os fs _ (h.below hb2 (Nat.le_refl _)) (h'.below hb2 (Nat.le_refl _)) HR.out h8).mono ?_
  rintro e w2 ⟨a2, c2, rfl, own2, hb3⟩
  have BX2 := BX1.below hb3 (by omega)
  obtain ⟨x1, x2, x3, x4⟩ := id BX2
  have o1 := own1.below hb3 (Nat.le_refl _)
  rw [hsW] at o1
  have hb4 := hb2.trans (hb3.mono (by omega))
  have hs2 := hb3.size
  have hlt1 := own1.lt
  have hge2 := own2.ge
  clear own1 hb1 hb2 hb3 BX1 z1 z2 z3 z4 hbW
  have hL2 := own2.len
  go_wp2_with fail
  go_loopw [13] (fun i wr => ∃ k : Nat, k ≤ n ∧ i = .int .i64 (k : Int) ∧ Own wr (w.heap.size + 1) a1 n c1 (putAt os (negL (solL fs)) (List.replicate n 0) k) ∧ Own wr w1.heap.size a2 n c2 (solL fs) ∧ BoxAt wr w.heap.size (.slice a n cap) (.slice b n capb) ∧ Below w.heap.size w wr) (fun i _ => n - (intOf i).toNat)
  case atStart => exact ⟨0, by omega, rfl, o1, own2, BX2, hb4⟩
  case round =>
    clear o1 own2 BX2 hb4 x1 x2 x3 x4
    obtain ⟨k, hk, rfl, o1, o2, B, hb⟩ := hrel
    obtain ⟨x1, x2, x3, x4⟩ := id B
    by_cases hkn : k < n
    · obtain ⟨g1, rfl, p1, p2, p3, p4⟩ := o1.opened (by omega)
      obtain ⟨g2, rfl, r1, r2, r3, r4⟩ := o2.opened (by omega)
      obtain ⟨b1, off1, rfl, hbb1, hc1⟩ := h.2.2.2.2 (by omega)
      have hok : wr.cell? ⟨b1, off1 + k, none⟩ = some (.int .i64 (nth os k)) := by rw [hb.cell (p := ⟨b1, off1 + k, none⟩) hbb1]; exact hc1 k hkn
      have hq := HOR.out k hkn
      obtain ⟨q, hq2⟩ : ∃ q : Nat, nth os k = (q : Int) := ⟨(nth os k).toNat, by omega⟩
      have HS := hid (putAt_succ os (negL (solL fs)) (List.replicate n 0) k)
      have HNG := hid (nth_negL (solL fs) k)
      rw [hq2, Int.toNat_natCast] at HS
      rw [hq2] at hok hq
      have hyk := r3 k hkn
      have hqn : q < n := by omega
      have hxq := p3 q hqn
      have hfq := p4 q
      have hbd := HSB.out k
      obtain ⟨yk, hyk2⟩ : ∃ yk, nth (solL fs) k = yk := ⟨_, rfl⟩
      rw [hyk2] at hyk hbd HNG
      have hne : g1 ≠ g2 := by have := hlt1 _ rfl; have := hge2 _ rfl; simp at *; omega
      have hwn : IntKind.i64.wrap (-yk) = -yk := IntWalk.i64_in _ (by omega)
      have s1 := o1.set q (-yk)
      have e1 := s1.1
      rw [← HNG.out, ← HS.out, HNG.out] at e1
      have e2 := o2.kept s1.2 (.inr (fun p hp => by cases hp; exact fun e => hne e.symm))
      have e3 := B.apart (g' := g1) (i := q) (z := .int .i64 (-yk)) (by omega)
      have e4 := hb.setCell (p := ⟨g1, q, none⟩) (by show w.heap.size ≤ g1; omega) (.int .i64 (-yk))
      have hqn2 : (q : Int) < (n : Int) := by omega
      have hq0 : (0 : Int) ≤ (q : Int) := by omega
      clear hc1 p3 p4 r3 r4 hyk2 hq2 s1
      go_wp2_with fail
      go_roundw
      case rel => exact ⟨k + 1, by omega, by go_num, e1, e2, e3, e4⟩
      case measure => simp [intOf]; omega
    · obtain rfl : k = n := by omega
      go_wp2_with fail
      go_ret
      exact ⟨_, _, rfl, o1.mono (Nat.le_succ _), hb⟩

set_option maxRecDepth 100000 in
set_option maxHeartbeats 2000000 in
theorem specPoint_any (a b : Option Addr) (n cap m capb : Nat) (os fs : List Int) (w : World) (h : Has w a n cap os) (h' : Has w b m capb fs) :
    Calls Try.prog 23 #[.agg #[.slice a n cap, .slice b m capb]] w (PostInts w (pointOf os fs)) := by
  have BX := boxAt_new w (.slice a n cap) (.slice b m capb) 24
  have hbW : Below w.heap.size w (w.alloc (.cells #[.slice a n cap, .slice b m capb] 24)) := (Below.refl _ _).alloc (Nat.le_refl _) _
  have hsW : (w.alloc (.cells #[.slice a n cap, .slice b m capb] 24)).heap.size = w.heap.size + 1 := by simp
  have h1 := h.below hbW (Nat.le_refl _)
  have h2 := h'.below hbW (Nat.le_refl _)
  obtain ⟨y1, y2, y3, y4⟩ := id BX
  by_cases hr : regB os fs = true
  · obtain ⟨hon, h8, hor⟩ := reg_order h'.len hr
    obtain rfl : n = m := by rw [← h.len]; exact hon
    have HP := hid (point_yes h'.len hr)
    have HR := hid hr
    clear hr
    go_enter Try.func23, Try.ntmps23
    go_wp2_with (go_at_call 41; refine (reGood_any _ _ _ _ _ _ _ _ _ h1 h2).mono ?_; rintro e w1 ⟨rfl, hb1⟩; rw [HR.out]; have BX1 := BX.below hb1 (by rw [hsW]; exact Nat.lt_succ_self _); obtain ⟨z1, z2, z3, z4⟩ := id BX1)
    have hb2 : Below w.heap.size w w1 := hbW.trans (hb1.mono (by rw [hsW]; exact Nat.le_succ _))
    refine (rePointOf_any a b n cap capb os fs _ (h.below hb2 (Nat.le_refl _)) (h'.below hb2 (Nat.le_refl _)) HR.out h8 hor).mono ?_
    rintro e w2 ⟨a2, c2, rfl, own2, hb3⟩
    have hs := hb2.size
    go_wp2_with fail
    go_ret2
    exact postInts HP.out (own2.mono hs) (hb2.trans (hb3.mono hs))
  · have HP := hid (point_no hr)
    have HR := hid (Bool.eq_false_iff.2 hr)
    clear hr
    go_enter Try.func23, Try.ntmps23
    go_wp2_with (go_at_call 41; refine (reGood_any _ _ _ _ _ _ _ _ _ h1 h2).mono ?_; rintro e w1 ⟨rfl, hb1⟩; rw [HR.out]; have BX1 := BX.below hb1 (by rw [hsW]; exact Nat.lt_succ_self _); obtain ⟨z1, z2, z3, z4⟩ := id BX1)
    go_ret2
    exact postInts HP.out (Own.nil _ _) (hbW.trans (hb1.mono (by rw [hsW]; exact Nat.le_succ _)))

set_option maxRecDepth 100000 in
set_option maxHeartbeats 2000000 in
theorem implPoint_any (a b : Option Addr) (n cap m capb : Nat) (os fs : List Int) (w : World) (h : Has w a n cap os) (h' : Has w b m capb fs) :
    Calls Try.prog 25 #[.agg #[.slice a n cap, .slice b m capb]] w (PostInts w (pointOf os fs)) := by
  have BX := boxAt_new w (.slice a n cap) (.slice b m capb) 24
  have hbW : Below w.heap.size w (w.alloc (.cells #[.slice a n cap, .slice b m capb] 24)) := (Below.refl _ _).alloc (Nat.le_refl _) _
  have hsW : (w.alloc (.cells #[.slice a n cap, .slice b m capb] 24)).heap.size = w.heap.size + 1 := by simp
  have h1 := h.below hbW (Nat.le_refl _)
  have h2 := h'.below hbW (Nat.le_refl _)
  obtain ⟨y1, y2, y3, y4⟩ := id BX
  by_cases hr : regB os fs = true
  · obtain ⟨hon, h8, hor⟩ := reg_order h'.len hr
    obtain rfl : n = m := by rw [← h.len]; exact hon
    have HP := hid (point_yes h'.len hr)
    have HOR := hid hor
    have HSB := hid (fun i => sol_bounds (fs := fs) h'.len h8 i)
    have hr0 := hr
    have HR := hid hr
    clear hr hor
    go_enter Try.func25, Try.ntmps25
    go_wp2_with (go_at_call 43; refine (implIsRegion_any _ _ _ _ _ _ _ _ _ h1 h2).mono ?_; rintro e w1 ⟨rfl, hb1⟩; rw [HR.out]; have BX1 := BX.below hb1 (by rw [hsW]; exact Nat.lt_succ_self _); obtain ⟨z1, z2, z3, z4⟩ := id BX1)
    have hb2 : Below w.heap.size w w1 := hbW.trans (hb1.mono (by rw [hsW]; exact Nat.le_succ _))
    have hs1 : w.heap.size + 1 ≤ w1.heap.size := by have := hb1.size; omega
    refine (greatest_any b n capb os fs _ (h'.below hb2 (Nat.le_refl _)) hr0 h8).mono ?_
    rintro e w2 ⟨a2, c2, rfl, own2, hb3⟩
    have BX2 := BX1.below hb3 (by omega)
    have hb4 := hb2.trans (hb3.mono (by omega))
    have hs2 := hb3.size
    obtain ⟨x1, x2, x3, x4⟩ := id BX2
    clear z1 z2 z3 z4 BX1 y1 y2 y3 y4 BX hb1 hb2 hb3 hbW hr0
    go_wp2_with (at_make; refine wpList_make_ints _ rfl _ _ rfl n rfl rfl (by omega) ?_; intro a1 c1 w3 own1 hb5)
    have BX3 := BX2.below hb5 (by omega)
    have o2 := own2.below hb5 (Nat.le_refl _)
    have hb6 := hb4.trans (hb5.mono (by omega))
    have hlt2 := own2.lt
    have hge1 := own1.ge
    clear own2 BX2 hb4 hb5 x1 x2 x3 x4
    go_loopw [19] (fun i wr => ∃ k : Nat, k ≤ n ∧ i = .int .i64 (k : Int) ∧ Own wr w2.heap.size a1 n c1 (putAt os (negL (solL fs)) (List.replicate n 0) k) ∧ Own wr w1.heap.size a2 n c2 (negL (solL fs)) ∧ BoxAt wr w.heap.size (.slice a n cap) (.slice b n capb) ∧ Below w.heap.size w wr) (fun i _ => n - (intOf i).toNat)
    case atStart => exact ⟨0, by omega, rfl, own1, o2, BX3, hb6⟩
    case round =>
      clear own1 o2 BX3 hb6
      obtain ⟨k, hk, rfl, o1, o2, B, hb⟩ := hrel
      obtain ⟨x1, x2, x3, x4⟩ := id B
      by_cases hkn : k < n
      · obtain ⟨g1, rfl, p1, p2, p3, p4⟩ := o1.opened (by omega)
        obtain ⟨g2, rfl, r1, r2, r3, r4⟩ := o2.opened (by omega)
        obtain ⟨b1, off1, rfl, hbb1, hc1⟩ := h.2.2.2.2 (by omega)
        have hok : wr.cell? ⟨b1, off1 + k, none⟩ = some (.int .i64 (nth os k)) := by rw [hb.cell (p := ⟨b1, off1 + k, none⟩) hbb1]; exact hc1 k hkn
        have hq := HOR.out k hkn
        obtain ⟨q, hq2⟩ : ∃ q : Nat, nth os k = (q : Int) := ⟨(nth os k).toNat, by omega⟩
        have HS := hid (putAt_succ os (negL (solL fs)) (List.replicate n 0) k)
        rw [hq2, Int.toNat_natCast] at HS
        rw [hq2] at hok hq
        have hyk := r3 k hkn
        have hqn : q < n := by omega
        have hxq := p3 q hqn
        have hfq := p4 q
        obtain ⟨yk, hyk2⟩ : ∃ yk, nth (negL (solL fs)) k = yk := ⟨_, rfl⟩
        rw [hyk2] at hyk HS
        have hne : g1 ≠ g2 := by have := hlt2 _ rfl; have := hge1 _ rfl; simp at *; omega
        have s1 := o1.set q yk
        have e1 := s1.1
        rw [← HS.out] at e1
        have e2 := o2.kept s1.2 (.inr (fun p hp => by cases hp; exact fun e => hne e.symm))
        have e3 := B.apart (g' := g1) (i := q) (z := .int .i64 yk) (by omega)
        have e4 := hb.setCell (p := ⟨g1, q, none⟩) (by show w.heap.size ≤ g1; omega) (.int .i64 yk)
        have hqn2 : (q : Int) < (n : Int) := by omega
        have hq0 : (0 : Int) ≤ (q : Int) := by omega
        clear hc1 p3 p4 r3 r4 hyk2 hq2 s1
        go_wp2_with fail
        go_roundw
        case rel => exact ⟨k + 1, by omega, by go_num, e1, e2, e3, e4⟩
        case measure => simp [intOf]; omega
      · obtain rfl : k = n := by omega
        go_wp2_with fail
        go_ret2
        exact postInts HP.out (o1.mono (by omega)) hb
  · have HP := hid (point_no hr)
    have HR := hid (Bool.eq_false_iff.2 hr)
    clear hr
    go_enter Try.func25, Try.ntmps25
    go_wp2_with (go_at_call 43; refine (implIsRegion_any _ _ _ _ _ _ _ _ _ h1 h2).mono ?_; rintro e w1 ⟨rfl, hb1⟩; rw [HR.out]; have BX1 := BX.below hb1 (by rw [hsW]; exact Nat.lt_succ_self _); obtain ⟨z1, z2, z3, z4⟩ := id BX1)
    go_ret2
    exact postInts HP.out (Own.nil _ _) (hbW.trans (hb1.mono (by rw [hsW]; exact Nat.le_succ _)))
end Go.Proofs.Ytnddplldkgphnab
