/- Chapter 4: heights and walks, the model's and the program's functions that tell them, by their contracts. -/
import Derived.Test.YtfkejkkplafciadSpecA
import Derived.Test.YtfkejkkplafciadOutc
import Derived.Test.YtfkejkkplafciadWlk
import Derived.Test.YtfkejkkplafciadMathH
namespace Go.Proofs.Ytfkejkkplafciad
open Go.RowKit

/-! ### Walks -/
theorem walk_no1 {hs ls : List Int} (h : hgtB hs = false) : walkB hs ls = false := by simp [walkB, h]
theorem walk_no2 {hs ls : List Int} {n m : Nat} (hl : hs.length = n) (hl' : ls.length = m) (h : n ≠ m) : walkB hs ls = false := by
  subst hl hl'
  simp [walkB, h]
theorem walk_no3 {hs ls : List Int} (h : outB ls = false) : walkB hs ls = false := by simp [walkB, h]
theorem walk_no4 {hs ls : List Int} {n : Nat} (hl : ls.length = n) (h : riseTo hs ls n = false) : walkB hs ls = false := by subst hl; simp [walkB, h]
theorem walk_yes {hs ls : List Int} {n : Nat} (hl : hs.length = n) (hl' : ls.length = n) (h : hgtB hs = true) (ho : outB ls = true) (hr : riseTo hs ls n = true) : walkB hs ls = true := by
  subst hl'
  rw [walkB_iff]
  exact ⟨h, hl, ho, hr⟩
theorem out_no1 {ls : List Int} {n : Nat} (hl : ls.length = n) (h : allB ls 0 ((n : Int) - 1) = false) : outB ls = false := by subst hl; simp [outB, carsB, h]
theorem out_no2 {ls : List Int} {n : Nat} (hl : ls.length = n) (h : distB ls n = false) : outB ls = false := by subst hl; simp [outB, h]
theorem out_yes {ls : List Int} {n : Nat} (hl : ls.length = n) (h8 : n ≤ 8) (h : allB ls 0 ((n : Int) - 1) = true) (hd : distB ls n = true) : outB ls = true := by subst hl; simp [outB, carsB, h, hd, h8]
theorem rise_first (hs ls : List Int) : riseOk hs ls 0 = true := by simp [riseOk, raisedB]
theorem rise_flat {hs ls : List Int} {k : Nat} (h : ¬ nth hs (k + 1) = nth hs k + 1) : riseOk hs ls (k + 1) = true := by simp [riseOk, raisedB, h]
theorem rise_up {hs ls : List Int} {k : Nat} (h : ¬ nth ls (k + 1) < nth ls k) : riseOk hs ls (k + 1) = true := by simp [riseOk]; right; omega
theorem rise_down {hs ls : List Int} {k : Nat} (h : nth hs (k + 1) = nth hs k + 1) (h' : nth ls (k + 1) < nth ls k) : riseOk hs ls (k + 1) = false := by simp [riseOk, raisedB, h, h']

end Go.Proofs.Ytfkejkkplafciad
