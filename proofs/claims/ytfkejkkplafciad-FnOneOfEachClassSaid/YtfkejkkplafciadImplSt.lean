/- Turned slope lists and usual lists: the program's functions, by their contracts. -/
import Derived.Test.YtfkejkkplafciadSpecSt
import Derived.Test.YtfkejkkplafciadImplSl
import Derived.Test.YtfkejkkplafciadTby
import Derived.Test.YtfkejkkplafciadAcb
namespace Go.Proofs.Ytfkejkkplafciad
open Go.RowKit

theorem cars_all {xs : List Int} {n : Nat} {b : Int} (hl : xs.length = n) (hn : n ≤ 8) : carsB xs b = allB xs 0 (b - 1) := by
  simp [carsB, hl, hn]

set_option maxHeartbeats 800000 in
theorem canTurn_any (a : Option Addr) (n cap : Nat) (xs : List Int) (ac : Int) (w : World) (h : Has w a n cap xs) :
    Calls Try.prog 72 #[.agg #[.int .i64 (n : Int), .int .i64 ac], .slice a n cap] w fun e w' => e = .returned (.bool (slB (n : Int) ac && allB xs 0 (ac - 1))) ∧ Below w.heap.size w w' := by
  have hb0 := (Below.refl w.heap.size w).alloc (Nat.le_refl _) (.cells #[.int .i64 (n : Int), .int .i64 ac] 71)
  have B0 := boxAt_new w (.int .i64 (n : Int)) (.int .i64 ac) 71
  obtain ⟨W, hW⟩ : ∃ W, w.alloc (.cells #[.int .i64 (n : Int), .int .i64 ac] 71) = W := ⟨_, rfl⟩
  rw [hW] at hb0 B0
  obtain ⟨_, _, _, _⟩ := id B0
  by_cases h1 : slB (n : Int) ac = true
  · obtain ⟨q, rfl, -, hn, -⟩ := slB_parts h1
    have HR : Hid ((slB (n : Int) (q : Int) && allB xs 0 ((q : Int) - 1)) = carsB xs q) := hid (by rw [h1, Bool.true_and, cars_all h.len (by omega)])
    have H1 := hid h1
    clear h1
    go_enter Try.func72, Try.ntmps72
    go_wp2_with fail
    refine (lineSlope_any _ _ _).mono ?_
    rintro e w1 ⟨rfl, hb1⟩
    rw [H1.out]
    have B1 := B0.below hb1 (boxAt_lt B0)
    have hb01 := hb0.trans (hb1.mono hb0.size)
    obtain ⟨_, _, _, _⟩ := id B1
    have h1' := h.below hb01 (Nat.le_refl _)
    go_wp2_with (go_at_call 101; refine (aCars_any _ _ _ _ _ _ h1').mono ?_; rintro e w' ⟨rfl, rfl⟩)
    go_ret
    exact ⟨ret_bool HR.out.symm, hb01⟩
  · have HR : Hid ((slB (n : Int) ac && allB xs 0 (ac - 1)) = false) := hid (by simp [h1])
    have H1 := hid (Bool.eq_false_iff.2 h1)
    clear h1
    go_enter Try.func72, Try.ntmps72
    go_wp2_with fail
    refine (lineSlope_any _ _ _).mono ?_
    rintro e w1 ⟨rfl, hb1⟩
    rw [H1.out]
    have hb01 := hb0.trans (hb1.mono hb0.size)
    go_wp2_with fail
    go_ret
    exact ⟨ret_bool HR.out.symm, hb01⟩

theorem turnSl_no {xs : List Int} {n : Nat} {a : Int} (hl : xs.length = n) (h : ¬ (slB (n : Int) a && allB xs 0 (a - 1)) = true) : turnSlOf xs a = ([], 0, false) := by
  subst hl
  simp only [turnSlOf, h, if_false, Bool.false_eq_true]

set_option maxHeartbeats 800000 in
theorem implTurnSl_any (a : Option Addr) (n cap : Nat) (xs : List Int) (ac : Int) (w : World) (h : Has w a n cap xs) :
    Calls Try.prog 23 #[.slice a n cap, .int .i64 ac] w (PostIntsInt w (turnSlOf xs ac)) := by
  by_cases hg : (slB (n : Int) ac && allB xs 0 (ac - 1)) = true
  · obtain ⟨g1, g2⟩ := Bool.and_eq_true_iff.1 hg
    obtain ⟨q, rfl, hs, hn, hq⟩ := slB_parts g1
    have HR := hid (turnSl_yes h.len hs g2)
    have hx : ∀ i, i < n → 0 ≤ nth xs i ∧ nth xs i < (q : Int) := fun i hi => by have := allB_nth g2 (k := i) (by rw [h.len]; exact hi); omega
    obtain ⟨t0, t1, t2⟩ := slBy_good hs h.len (fun x hx' => by obtain ⟨i, hi, rfl⟩ := mem_nth hx'; exact hx i (by rw [← h.len]; exact hi))
    have HGT := hid (fun s => good_turn (s := s) hs h.len)
    obtain ⟨S, hS⟩ : ∃ S, slBy n q xs = S := ⟨_, rfl⟩
    rw [hS] at t0 t1 t2 HR
    have T1 : Hid (goodSl (turn xs q S) q = true) := hid (by rw [HGT.out]; exact t1)
    have T2 : Hid (∀ j : Nat, j < S → goodSl (turn xs q j) q = false) := hid (fun j hj => by rw [HGT.out]; exact t2 j hj)
    have HX := hid hx
    have HG := hid hg
    clear t1 t2 hS hg g1 g2 hx hs
    go_enter Try.func23, Try.ntmps23
    go_wp2_with fail
    refine (lineOf_any _ _ _ _ _).mono ?_
    rintro e w1 ⟨rfl, hb1⟩
    have hb2 := hb1.alloc hb1.size (.cells #[.int .i64 0, .int .i64 0] 71)
    have B0 := boxAt_new w1 (.int .i64 0) (.int .i64 0) 71
    obtain ⟨W, hW⟩ : ∃ W, w1.alloc (.cells #[.int .i64 0, .int .i64 0] 71) = W := ⟨_, rfl⟩
    rw [hW] at hb2 B0
    have B2 := (B0.set0 (z := .int .i64 (n : Int))).set1 (z := .int .i64 (q : Int))
    have hb3 := (hb2.setCell (p := ⟨w1.heap.size, 0, none⟩) hb1.size (.int .i64 (n : Int))).setCell (p := ⟨w1.heap.size, 1, none⟩) hb1.size (.int .i64 (q : Int))
    obtain ⟨_, _, _, _⟩ := id B0
    obtain ⟨_, _, _, _⟩ := id B2
    go_wp2_with fail
    refine (canTurn_any _ _ _ xs _ _ (h.below hb3 (Nat.le_refl _))).mono ?_
    rintro e w2 ⟨rfl, hb4⟩
    rw [HG.out]
    have B3 := B2.below hb4 (boxAt_lt B2)
    have hb5 := hb3.trans (hb4.mono hb3.size)
    clear B0 hb2 B2 hb3 hb4 hW
    go_wp2_with fail
    go_loopw [18] (fun i wr => ∃ k : Nat, k ≤ S ∧ i = .int .i64 (k : Int) ∧ BoxAt wr w1.heap.size (.int .i64 (n : Int)) (.int .i64 (q : Int)) ∧ Below w.heap.size w wr) (fun i _ => S + 1 - (intOf i).toNat)
    case atStart => exact ⟨0, Nat.zero_le _, rfl, B3, hb5⟩
    case round =>
      clear B3 hb5
      obtain ⟨k, hk, rfl, B3, hb⟩ := hrel
      have hh := h.below hb (Nat.le_refl _)
      have hsz := hb.size
      have hlt0 := boxAt_lt B3
      have hkq : (k : Int) < (q : Int) := by omega
      go_wp2_with fail
      refine (turnedBy_any _ _ _ _ q (k : Int) _ hh (by omega) hq HX).mono ?_
      rintro e w3 ⟨a3, cap3, rfl, hown3, hb6⟩
      have B4 := B3.below hb6 hlt0
      have hb7 := hb.trans (hb6.mono hsz)
      obtain ⟨_, _, _, _⟩ := id B4
      go_wp2_with fail
      refine (linePark_any _ _ _ _ _ _ hown3.has).mono ?_
      rintro e w4 ⟨rfl, hb8⟩
      have B5 := B4.below hb8 (boxAt_lt B4)
      have hb9 := hb7.trans (hb8.mono hb7.size)
      have hown4 := hown3.below hb8 (Nat.le_refl _)
      clear B3 B4 hb hb6 hb7 hb8 hown3 hh
      by_cases hlt : k < S
      · rw [T2.out k hlt]
        go_wp2_with fail
        go_roundw
        case rel => exact ⟨k + 1, by omega, by go_num, B5, hb9⟩
        case measure => simp [intOf]; omega
      · obtain rfl : S = k := by omega
        rw [T1.out]
        go_wp2_with fail
        exact bodyPost_ret (v := .tuple #[.slice a3 n cap3, .int .i64 (S : Int), .bool true]) (by simp [results, Try.results23, go_sem]) rfl (postIntsInt HR.out (hown4.mono hsz) hb9)
  · have HR := hid (turnSl_no h.len hg)
    have HG := hid (Bool.eq_false_iff.2 hg)
    clear hg
    go_enter Try.func23, Try.ntmps23
    go_wp2_with fail
    refine (lineOf_any _ _ _ _ _).mono ?_
    rintro e w1 ⟨rfl, hb1⟩
    have hb2 := hb1.alloc hb1.size (.cells #[.int .i64 0, .int .i64 0] 71)
    have B0 := boxAt_new w1 (.int .i64 0) (.int .i64 0) 71
    obtain ⟨W, hW⟩ : ∃ W, w1.alloc (.cells #[.int .i64 0, .int .i64 0] 71) = W := ⟨_, rfl⟩
    rw [hW] at hb2 B0
    have B2 := (B0.set0 (z := .int .i64 (n : Int))).set1 (z := .int .i64 ac)
    have hb3 := (hb2.setCell (p := ⟨w1.heap.size, 0, none⟩) hb1.size (.int .i64 (n : Int))).setCell (p := ⟨w1.heap.size, 1, none⟩) hb1.size (.int .i64 ac)
    obtain ⟨_, _, _, _⟩ := id B0
    obtain ⟨_, _, _, _⟩ := id B2
    go_wp2_with fail
    refine (canTurn_any _ _ _ xs _ _ (h.below hb3 (Nat.le_refl _))).mono ?_
    rintro e w2 ⟨rfl, hb4⟩
    rw [HG.out]
    have hb5 := hb3.trans (hb4.mono hb3.size)
    go_wp2_with fail
    exact bodyPost_ret (v := .tuple #[.slice none 0 0, .int .i64 0, .bool false]) (by simp [results, Try.results23, go_sem]) rfl (postIntsInt HR.out (Own.nil _ _) hb5)

theorem implUsual_any (a : Option Addr) (n cap : Nat) (xs : List Int) (w : World) (h : Has w a n cap xs) :
    Calls Try.prog 30 #[.slice a n cap] w (PostInts w (usualOf xs)) := by
  have hle := h.le
  by_cases hg : goodSl xs ((n : Int) + 1) = true
  · have HR : Hid (usualOf xs = (xs, true)) := hid (by simp [usualOf, h.len, hg])
    have HG := hid hg
    clear hg
    go_enter Try.func30, Try.ntmps30
    go_wp2_with fail
    refine (lineOf_any _ _ _ _ _).mono ?_
    rintro e w0 ⟨rfl, hb0⟩
    go_wp2_with fail
    refine (linePark_any _ _ _ _ _ _ (h.below hb0 (Nat.le_refl _))).mono ?_
    rintro e w1 ⟨rfl, hb1⟩
    rw [HG.out]
    have hb01 := hb0.trans (hb1.mono hb0.size)
    go_wp2_with fail
    refine (clone_any _ _ _ _ _ (h.below hb01 (Nat.le_refl _))).mono ?_
    rintro e w2 ⟨a2, cap2, rfl, hown2, hb2⟩
    go_wp2_with fail
    go_ret2
    exact postInts HR.out (hown2.mono hb01.size) (hb01.trans (hb2.mono hb01.size))
  · have HR : Hid (usualOf xs = ([], false)) := hid (by simp [usualOf, h.len, hg])
    have HG := hid (Bool.eq_false_iff.2 hg)
    clear hg
    go_enter Try.func30, Try.ntmps30
    go_wp2_with fail
    refine (lineOf_any _ _ _ _ _).mono ?_
    rintro e w0 ⟨rfl, hb0⟩
    go_wp2_with fail
    refine (linePark_any _ _ _ _ _ _ (h.below hb0 (Nat.le_refl _))).mono ?_
    rintro e w1 ⟨rfl, hb1⟩
    rw [HG.out]
    have hb01 := hb0.trans (hb1.mono hb0.size)
    go_wp2_with fail
    go_ret2
    exact postInts_no HR.out hb01
end Go.Proofs.Ytfkejkkplafciad
