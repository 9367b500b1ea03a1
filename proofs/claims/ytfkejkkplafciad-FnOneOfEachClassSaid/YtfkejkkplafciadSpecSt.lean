/- The model's turned slope lists, and usual lists, by their contracts. -/
import Derived.Test.YtfkejkkplafciadSpecSl
import Derived.Test.YtfkejkkplafciadPii
namespace Go.Proofs.Ytfkejkkplafciad
open Go.RowKit

theorem good_turn {n q s : Nat} {xs : List Int} (hs : slN n q = true) (hl : xs.length = n) : goodSl (turn xs q s) q = und (bnds n q) (turn xs q s) := by
  have : (turn xs q s).length = n := by simp [turn, hl]
  simp [goodSl, this, slB_nat, hs]

set_option maxHeartbeats 800000 in
theorem slTurned_any (a : Option Addr) (n cap : Nat) (xs : List Int) (q s : Nat) (w : World) (h : Has w a n cap xs) (hn : n ≤ 6) (hq : 1 ≤ q ∧ q ≤ 13) (hs : s ≤ 13) (hx : Hid (∀ i, i < n → 0 ≤ nth xs i ∧ nth xs i < (q : Int))) :
    Calls Try.prog 102 #[.slice a n cap, .int .i64 (q : Int), .int .i64 (s : Int)] w fun e w' => ∃ a' cap', e = .returned (.slice a' n cap') ∧ Own w' w.heap.size a' n cap' (turn xs q s) ∧ Below w.heap.size w w' := by
  have HL := hid h.len
  have hq0 : ¬ (q : Int) = 0 := by omega
  go_enter Try.func102, Try.ntmps102
  go_wp2_with fail
  go_loopw [7, 12] (fun o i wr => ∃ (k : Nat) (a' : Option Addr) (cap' : Nat), k ≤ n ∧ i = .int .i64 (k : Int) ∧ o = .slice a' k cap' ∧ Own wr w.heap.size a' k cap' (turn (xs.take k) q s) ∧ Below w.heap.size w wr) (fun _ i _ => n - (intOf i).toNat)
  case atStart => exact ⟨0, none, 0, Nat.zero_le _, rfl, rfl, Own.nil _ _, Below.refl _ _⟩
  case round =>
    obtain ⟨k, a', cap', hk, rfl, rfl, hown, hb⟩ := hrel
    by_cases hlt : k < n
    · obtain ⟨b, off, rfl, hbb, hc⟩ := h.2.2.2.2 (by omega)
      have hck : wr.cell? ⟨b, off + k, none⟩ = some (.int .i64 (nth xs k)) := by rw [hb.cell (p := ⟨b, off + k, none⟩) hbb]; exact hc k hlt
      have HS := hid (turn_succ (xs := xs) (p := (q : Int)) (b := (s : Int)) (k := k) (by rw [HL.out]; exact hlt))
      obtain ⟨x0, x1⟩ := hx.out k hlt
      have m0 : 0 ≤ nth xs k + (s : Int) := by omega
      have m1 := Int.emod_nonneg (nth xs k + (s : Int)) hq0
      have m2 := Int.emod_lt_of_pos (nth xs k + (s : Int)) (show (0 : Int) < (q : Int) by omega)
      have hsz := hb.size
      clear hc
      go_wp2_with (at_builtin; refine wpList_append_int _ rfl _ _ rfl w.heap.size _ _ _ _ _ rfl rfl hown (by omega) hsz ?_; intro a4 cap4 w4 hown4 hb4)
      go_roundw
      case rel => exact ⟨k + 1, a4, cap4, by omega, by go_num, rfl, by rw [HS.out]; exact hown4, hb.trans hb4⟩
      case measure => simp [intOf]; omega
    · obtain rfl : n = k := by omega
      have HE : Hid (xs.take n = xs) := hid (List.take_of_length_le (by rw [HL.out]; exact Nat.le_refl _))
      rw [HE.out] at hown
      go_wp2_with fail
      go_ret
      exact ⟨a', cap', rfl, hown, hb⟩

set_option maxHeartbeats 800000 in
theorem slTurn_any (a : Option Addr) (n cap : Nat) (xs : List Int) (q : Nat) (w : World) (h : Has w a n cap xs) (hs : Hid (slN n q = true)) (hx : Hid (∀ i, i < n → 0 ≤ nth xs i ∧ nth xs i < (q : Int))) :
    Calls Try.prog 75 #[.slice a n cap, .int .i64 (q : Int)] w fun e w' => ∃ a' cap', e = .returned (.tuple #[.slice a' n cap', .int .i64 (slBy n q xs : Int)]) ∧ Own w' w.heap.size a' n cap' (turn xs q (slBy n q xs)) ∧ Below w.heap.size w w' := by
  obtain ⟨⟨n0, n1⟩, hq, -⟩ := slN_iff.1 hs.out
  have HL := hid h.len
  obtain ⟨t0, t1, t2⟩ := slBy_good hs.out HL.out (fun x hx' => by obtain ⟨i, hi, rfl⟩ := mem_nth hx'; exact hx.out i (by rw [← HL.out]; exact hi))
  have HG := hid (fun s => good_turn (s := s) hs.out HL.out)
  obtain ⟨S, hS⟩ : ∃ S, slBy n q xs = S := ⟨_, rfl⟩
  rw [hS] at t0 t1 t2 ⊢
  have T1 : Hid (goodSl (turn xs q S) q = true) := hid (by rw [HG.out]; exact t1)
  have T2 : Hid (∀ j : Nat, j < S → goodSl (turn xs q j) q = false) := hid (fun j hj => by rw [HG.out]; exact t2 j hj)
  have HSS := hid hS
  clear t1 t2 hS
  go_enter Try.func75, Try.ntmps75
  go_wp2_with fail
  go_loopw [6] (fun i wr => ∃ k : Nat, k ≤ S ∧ i = .int .i64 (k : Int) ∧ Below w.heap.size w wr) (fun i _ => S - (intOf i).toNat)
  case atStart => exact ⟨0, Nat.zero_le _, rfl, Below.refl _ _⟩
  case round =>
    obtain ⟨k, hk, rfl, hb⟩ := hrel
    have hh := h.below hb (Nat.le_refl _)
    have hsz := hb.size
    go_wp2_with fail
    refine (slTurned_any _ _ _ _ q k _ hh n1 hq (by omega) hx).mono ?_
    rintro e w1 ⟨a1, cap1, rfl, hown1, hb1⟩
    have hb01 := hb.trans (hb1.mono hsz)
    go_wp2_with fail
    refine (slGood_any _ _ _ _ _ _ hown1.has).mono ?_
    rintro e w2 ⟨rfl, hb2⟩
    have hb02 := hb01.trans (hb2.mono hb01.size)
    by_cases hlt : k < S
    · rw [T2.out k hlt]
      go_wp2_with fail
      go_roundw
      case rel => exact ⟨k + 1, by omega, by go_num, hb02⟩
      case measure => simp [intOf]; omega
    · obtain rfl : S = k := by omega
      rw [T1.out]
      have hh2 := h.below hb02 (Nat.le_refl _)
      go_wp2_with fail
      refine (slTurned_any _ _ _ _ q S _ hh2 n1 hq (by omega) hx).mono ?_
      rintro e w3 ⟨a3, cap3, rfl, hown3, hb3⟩
      go_wp2_with fail
      go_ret2
      exact ⟨a3, cap3, rfl, hown3.mono hb02.size, hb02.trans (hb3.mono hb02.size)⟩
theorem turnSl_yes {xs : List Int} {n q : Nat} (hl : xs.length = n) (hs : slN n q = true) (h : allB xs 0 ((q : Int) - 1) = true) : turnSlOf xs q = (turn xs q (slBy n q xs), (slBy n q xs : Int), true) := by
  subst hl
  simp [turnSlOf, slB_nat, hs, h]
theorem turnSl_no1 {xs : List Int} {a : Int} (h : ¬ slB xs.length a = true) : turnSlOf xs a = ([], 0, false) := by simp [turnSlOf, h]
theorem turnSl_no2 {xs : List Int} {a : Int} (h : ¬ allB xs 0 (a - 1) = true) : turnSlOf xs a = ([], 0, false) := by simp [turnSlOf, h]

set_option maxHeartbeats 800000 in
theorem specTurnSl_any (a : Option Addr) (n cap : Nat) (xs : List Int) (ac : Int) (w : World) (h : Has w a n cap xs) :
    Calls Try.prog 24 #[.slice a n cap, .int .i64 ac] w (PostIntsInt w (turnSlOf xs ac)) := by
  have hlen := h.len
  by_cases h1 : slB (n : Int) ac = true
  · obtain ⟨q, rfl, hs, hn, hq⟩ := slB_parts h1
    by_cases h2 : allB xs 0 ((q : Int) - 1) = true
    · have HR := hid (turnSl_yes hlen hs h2)
      have HX : Hid (∀ i, i < n → 0 ≤ nth xs i ∧ nth xs i < (q : Int)) := hid (fun i hi => by have := allB_nth h2 (k := i) (by omega); omega)
      have HS := hid hs
      have H1 := hid h1
      have H2 := hid h2
      clear h1 h2 hlen hs
      go_enter Try.func24, Try.ntmps24
      go_wp2_with (first | (go_at_call 53; refine (slIs_any _ _ _).mono ?_; rintro e w' ⟨rfl, rfl⟩; rw [H1.out]) | (go_at_call 74; refine (l1All_any _ _ _ _ _ _ _ h).mono ?_; rintro e w' ⟨rfl, rfl⟩; rw [H2.out]))
      refine (slTurn_any _ _ _ _ _ _ h HS HX).mono ?_
      rintro e w1 ⟨a1, cap1, rfl, hown1, hb1⟩
      go_wp2_with fail
      exact bodyPost_ret (v := .tuple #[.slice a1 n cap1, .int .i64 (slBy n q xs : Int), .bool true]) (by simp [results, Try.results24, go_sem]) rfl (postIntsInt HR.out hown1 hb1)
    · have HR := hid (turnSl_no2 h2)
      have H1 := hid h1
      have H2 := hid h2
      clear h1 h2 hlen hs
      go_enter Try.func24, Try.ntmps24
      go_wp2_with (first | (go_at_call 53; refine (slIs_any _ _ _).mono ?_; rintro e w' ⟨rfl, rfl⟩; rw [H1.out]) | (go_at_call 74; refine (l1All_any _ _ _ _ _ _ _ h).mono ?_; rintro e w' ⟨rfl, rfl⟩; rw [Bool.eq_false_iff.2 H2.out]))
      exact bodyPost_ret (v := .tuple #[.slice none 0 0, .int .i64 0, .bool false]) (by simp [results, Try.results24, go_sem]) rfl (postIntsInt HR.out (Own.nil _ _) (Below.refl _ _))
  · have HR := hid (turnSl_no1 (xs := xs) (a := ac) (by rw [hlen]; exact h1))
    have H1 := hid h1
    clear h1 hlen
    go_enter Try.func24, Try.ntmps24
    go_wp2_with (go_at_call 53; refine (slIs_any _ _ _).mono ?_; rintro e w' ⟨rfl, rfl⟩; rw [Bool.eq_false_iff.2 H1.out])
    exact bodyPost_ret (v := .tuple #[.slice none 0 0, .int .i64 0, .bool false]) (by simp [results, Try.results24, go_sem]) rfl (postIntsInt HR.out (Own.nil _ _) (Below.refl _ _))

end Go.Proofs.Ytfkejkkplafciad
