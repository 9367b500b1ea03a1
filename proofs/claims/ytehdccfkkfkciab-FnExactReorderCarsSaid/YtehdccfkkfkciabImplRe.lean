/- Chapter 9: ReorderCars, by the contracts of the functions. -/
import Derived.Test.YtehdccfkkfkciabReo
import Derived.Test.YtehdccfkkfkciabOutc
namespace Go.Proofs.Ytehdccfkkfkciab
open Go.RowKit

theorem reorder_yes {xs os : List Int} (h : good xs 12 = true) (hl : os.length = xs.length) (ho : outB os = true) : reorderOf xs os = (reordL xs os, true) := by simp [reorderOf, h, hl, ho]
theorem reorder_no {xs os : List Int} (h : ¬ (good xs 12 = true ∧ os.length = xs.length ∧ outB os = true)) : reorderOf xs os = ([], false) := by
  unfold reorderOf
  rw [if_neg]
  simp only [Bool.and_eq_true, decide_eq_true_eq]
  rintro ⟨⟨h1, h2⟩, h3⟩
  exact h ⟨h1, h2, h3⟩
theorem out_cars {os : List Int} {m n : Nat} (h : outB os = true) (hl : os.length = m) (hn : m = n) : ∀ i, i < m → ∃ c : Nat, c < n ∧ nth os i = (c : Int) := fun i hi => by
  have := out_nth h (i := i) (by omega)
  exact ⟨(nth os i).toNat, by omega, by omega⟩
set_option maxHeartbeats 800000 in
theorem specReorder_any (a b : Option Addr) (n m cap cap' : Nat) (xs os : List Int) (w : World) (h : Has w a n cap xs) (h' : Has w b m cap' os) :
    Calls Try.prog 23 #[.slice a n cap, .slice b m cap'] w (PostInts w (reorderOf xs os)) := by
  have hlx := h.len
  have hlo := h'.len
  by_cases hg : good xs 12 = true
  · have HG := hid hg
    by_cases hmn : m = n
    · have hbe : ((m : Int) != (n : Int)) = false := by simp [hmn]
      by_cases ho : outB os = true
      · have HR := hid (reorder_yes hg (by omega) ho)
        have HO := hid (out_cars ho hlo hmn)
        have HB := hid ho
        clear hg ho hmn hlx hlo
        go_enter Try.func23, Try.ntmps23
        go_wp2_with (first | (go_at_call 48; refine (paGood_any _ _ _ _ _ _ h).mono ?_; rintro e w' ⟨rfl, rfl⟩; rw [HG.out]) | (go_at_call 49; refine (paOutcome_any _ _ _ _ _ h').mono ?_; rintro e w' ⟨rfl, rfl⟩; rw [HB.out]))
        refine (vaOrder_any _ _ _ _ _ _ _ _ _ h h' HO.out).mono ?_
        rintro e w1 ⟨a1, cap1, rfl, hown1, hb1⟩
        go_wp2_with fail
        go_ret2
        exact postInts HR.out hown1 hb1
      · have HR := hid (reorder_no (xs := xs) (os := os) (fun h => ho h.2.2))
        have HB := hid ho
        clear hg ho hmn hlx hlo
        go_enter Try.func23, Try.ntmps23
        go_wp2_with (first | (go_at_call 48; refine (paGood_any _ _ _ _ _ _ h).mono ?_; rintro e w' ⟨rfl, rfl⟩; rw [HG.out]) | (go_at_call 49; refine (paOutcome_any _ _ _ _ _ h').mono ?_; rintro e w' ⟨rfl, rfl⟩; rw [Bool.eq_false_iff.2 HB.out]))
        go_ret2
        exact postInts_no HR.out (Below.refl _ _)
    · have hbe : ((m : Int) != (n : Int)) = true := by simp; omega
      have HR := hid (reorder_no (xs := xs) (os := os) (fun h => hmn (by omega)))
      clear hg hmn hlx hlo
      go_enter Try.func23, Try.ntmps23
      go_wp2_with (go_at_call 48; refine (paGood_any _ _ _ _ _ _ h).mono ?_; rintro e w' ⟨rfl, rfl⟩; rw [HG.out])
      go_ret2
      exact postInts_no HR.out (Below.refl _ _)
  · have HR := hid (reorder_no (xs := xs) (os := os) (fun h => hg h.1))
    have HG := hid hg
    clear hg hlx hlo
    go_enter Try.func23, Try.ntmps23
    go_wp2_with (go_at_call 48; refine (paGood_any _ _ _ _ _ _ h).mono ?_; rintro e w' ⟨rfl, rfl⟩; rw [Bool.eq_false_iff.2 HG.out])
    go_ret2
    exact postInts_no HR.out (Below.refl _ _)
set_option maxHeartbeats 800000 in
theorem implReorder_any (a b : Option Addr) (n m cap cap' : Nat) (xs os : List Int) (w : World) (h : Has w a n cap xs) (h' : Has w b m cap' os) :
    Calls Try.prog 24 #[.slice a n cap, .slice b m cap'] w (PostInts w (reorderOf xs os)) := by
  have hlx := h.len
  have hlo := h'.len
  by_cases hg : good xs 12 = true
  · have HG := hid hg
    by_cases hmn : m = n
    · have hbe : ((m : Int) != (n : Int)) = false := by simp [hmn]
      by_cases ho : outB os = true
      · have HR := hid (reorder_yes hg (by omega) ho)
        have HO := hid (out_cars ho hlo hmn)
        have HB := hid ho
        clear hg ho hmn hlx hlo
        go_enter Try.func24, Try.ntmps24
        go_wp2_with (first | (go_at_call 51; refine (areFavourites_any _ _ _ _ _ _ h).mono ?_; rintro e w' ⟨rfl, rfl⟩; rw [HG.out]) | (go_at_call 52; refine (isOutcome_any _ _ _ _ _ h').mono ?_; rintro e w1 ⟨rfl, hb1⟩; rw [HB.out]))
        refine (reordered_any _ _ _ _ _ _ _ _ _ (h.below hb1 (Nat.le_refl _)) (h'.below hb1 (Nat.le_refl _)) HO.out).mono ?_
        rintro e w2 ⟨a1, cap1, rfl, hown2, hb2⟩
        go_wp2_with fail
        go_ret2
        exact postInts HR.out (hown2.mono hb1.size) (hb1.trans (hb2.mono hb1.size))
      · have HR := hid (reorder_no (xs := xs) (os := os) (fun h => ho h.2.2))
        have HB := hid ho
        clear hg ho hmn hlx hlo
        go_enter Try.func24, Try.ntmps24
        go_wp2_with (first | (go_at_call 51; refine (areFavourites_any _ _ _ _ _ _ h).mono ?_; rintro e w' ⟨rfl, rfl⟩; rw [HG.out]) | (go_at_call 52; refine (isOutcome_any _ _ _ _ _ h').mono ?_; rintro e w1 ⟨rfl, hb1⟩; rw [Bool.eq_false_iff.2 HB.out]))
        go_ret2
        exact postInts_no HR.out hb1
    · have hbe : ((m : Int) != (n : Int)) = true := by simp; omega
      have HR := hid (reorder_no (xs := xs) (os := os) (fun h => hmn (by omega)))
      clear hg hmn hlx hlo
      go_enter Try.func24, Try.ntmps24
      go_wp2_with (go_at_call 51; refine (areFavourites_any _ _ _ _ _ _ h).mono ?_; rintro e w' ⟨rfl, rfl⟩; rw [HG.out])
      go_ret2
      exact postInts_no HR.out (Below.refl _ _)
  · have HR := hid (reorder_no (xs := xs) (os := os) (fun h => hg h.1))
    have HG := hid hg
    clear hg hlx hlo
    go_enter Try.func24, Try.ntmps24
    go_wp2_with (go_at_call 51; refine (areFavourites_any _ _ _ _ _ _ h).mono ?_; rintro e w' ⟨rfl, rfl⟩; rw [Bool.eq_false_iff.2 HG.out])
    go_ret2
    exact postInts_no HR.out (Below.refl _ _)
end Go.Proofs.Ytehdccfkkfkciab
