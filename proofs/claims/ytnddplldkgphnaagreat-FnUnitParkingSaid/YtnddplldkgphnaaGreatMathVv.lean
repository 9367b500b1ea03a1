/- Chapter 9: cars in another order: the same places are taken. -/
import Derived.Test.YtnddplldkgphnaaGreatMathFr
import Derived.Test.YtnddplldkgphnaaGreatMathUa
namespace Go.Proofs.YtnddplldkgphnaaGreat
open Go.RowKit

theorem fold_order {p : Int} {xs ys : List Int} (h : xs.Perm ys) : ∀ out : List Int, (∀ x ∈ xs, 0 ≤ x ∧ x ≤ p) →
    (xs.foldl (fun out x => out ++ [place p out x]) out).Perm (ys.foldl (fun out x => out ++ [place p out x]) out) := by
  induction h with
  | nil => exact fun _ _ => List.Perm.refl _
  | cons x _ ih => exact fun out hb => ih _ fun z hz => hb z (List.mem_cons_of_mem _ hz)
  | swap x y l =>
    intro out hb
    simp only [List.foldl_cons]
    exact fold_perm2 l _ _ (fun z hz => (hb z (by simp [hz])).2) (two_perm (hb y (by simp)) (hb x (by simp)))
  | trans h1 _ ih1 ih2 => exact fun out hb => (ih1 out hb).trans (ih2 out fun z hz => hb z (h1.symm.subset hz))
theorem drive_order {p : Int} {xs ys : List Int} (h : xs.Perm ys) (hb : ∀ x ∈ xs, 0 ≤ x ∧ x ≤ p) : (drive p xs).Perm (drive p ys) := fold_order h [] hb
theorem allPark_order {p : Int} {xs ys : List Int} (h : xs.Perm ys) (hb : ∀ x ∈ xs, 0 ≤ x ∧ x ≤ p) : allPark p xs = allPark p ys := by
  rw [Bool.eq_iff_iff, allPark_iff, allPark_iff, (drive_order h hb).mem_iff]
theorem good_order {p : Int} {xs ys : List Int} (h : xs.Perm ys) : good xs p = good ys p := by
  rw [Bool.eq_iff_iff, good_iff, good_iff, h.length_eq]
  simp only [h.mem_iff]
def reordL (xs os : List Int) : List Int := os.map fun c => nth xs c.toNat
theorem length_reord (xs os : List Int) : (reordL xs os).length = os.length := by simp [reordL]
theorem nth_reord {xs os : List Int} {k : Nat} (h : k < os.length) : nth (reordL xs os) k = nth xs (nth os k).toNat := by simp [reordL, nth, h]
theorem reord_succ {xs os : List Int} {k : Nat} (h : k < os.length) : (reordL xs os).take (k + 1) = (reordL xs os).take k ++ [nth xs (nth os k).toNat] := by
  rw [take_succ_nth (by rw [length_reord]; exact h), nth_reord h]
theorem self_upto9 (xs : List Int) : (upto xs.length).map (fun c => nth xs c.toNat) = xs := (ext_nth (by simp [length_upto]) fun i hi => by
  simp [nth, upto, hi]).symm
theorem reord_perm {xs os : List Int} (h : os.Perm (upto xs.length)) : (reordL xs os).Perm xs := by
  have := h.map fun c => nth xs c.toNat
  rw [self_upto9] at this
  exact this
theorem good_le {xs : List Int} {p : Int} (h : good xs p = true) : ∀ x ∈ xs, 0 ≤ x ∧ x ≤ p := fun x hx => by have := (good_iff.1 h).2.2 x hx; omega
theorem good12 {xs : List Int} {p : Int} {n : Nat} (h : good xs p = true) (hl : xs.length = n) : n ≤ 8 ∧ ∀ c, c < n → 0 ≤ nth xs c ∧ nth xs c < ((12 : Nat) : Int) := by
  obtain ⟨h1, h2, h3⟩ := good_iff.1 h
  exact ⟨by omega, fun c hc => by have := h3 _ (nth_mem (xs := xs) (i := c) (by omega)); omega⟩
/-- All park in any order. -/
theorem reord_park {xs os : List Int} {p : Int} (h : (good xs p && allPark p xs) = true) (ho : os.Perm (upto xs.length)) : (good (reordL xs os) p && allPark p (reordL xs os)) = true := by
  obtain ⟨h1, h2⟩ := Bool.and_eq_true_iff.1 h
  rw [Bool.and_eq_true, good_order (reord_perm ho), allPark_order (reord_perm ho) fun x hx => good_le h1 x ((reord_perm ho).subset hx)]
  exact ⟨h1, h2⟩
def fairOf (xs : List Int) (p : Int) : List Int × Bool := if good xs p && allPark p xs then (fairL xs, true) else ([], false)
def leastGr (xs : List Int) (p : Int) : Int × Bool := if good xs p && allPark p xs then (greatL (dists p (reordL xs (fairL xs))), true) else (0, false)
def reorderOf (xs os : List Int) : List Int × Bool := if good xs 12 && decide (os.length = xs.length) && outB os then (reordL xs os, true) else ([], false)
end Go.Proofs.YtnddplldkgphnaaGreat
