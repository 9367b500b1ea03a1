/- How many planes are between two points: in either order of the indices. -/
import Derived.Test.YtnddplldkgphnacMathPl
namespace Go.Proofs.Ytnddplldkgphnac
open Go.RowKit

/-- Is a plane between? -/
def df (xs ys : List Int) (i s : Nat) (c : Int) : Nat := if decide (c < nth xs i - nth xs s) = decide (c < nth ys i - nth ys s) then 0 else 1
def dTwo (xs ys : List Int) (i s : Nat) : Nat := df xs ys i s 0 + df xs ys i s 100
theorem df_le (xs ys : List Int) (i s : Nat) (c : Int) : df xs ys i s c ≤ 1 := by unfold df; split <;> omega
def rowC (xs ys : List Int) (i : Nat) : Nat → Nat
  | 0 => 0
  | s + 1 => rowC xs ys i s + if i < s then dTwo xs ys i s else 0
def totC (xs ys : List Int) (n : Nat) : Nat → Nat
  | 0 => 0
  | i + 1 => totC xs ys n i + rowC xs ys i n
def colC (xs ys : List Int) (s : Nat) : Nat → Nat
  | 0 => 0
  | f + 1 => colC xs ys s f + dTwo xs ys f s
def allC (xs ys : List Int) : Nat → Nat
  | 0 => 0
  | s + 1 => allC xs ys s + colC xs ys s s
theorem rowC_low (xs ys : List Int) (i : Nat) : ∀ s, s ≤ i + 1 → rowC xs ys i s = 0
  | 0, _ => rfl
  | s + 1, h => by rw [rowC, rowC_low xs ys i s (by omega), if_neg (by omega)]
theorem tot_col (xs ys : List Int) (n : Nat) : ∀ k, k ≤ n → totC xs ys (n + 1) k = totC xs ys n k + colC xs ys n k
  | 0, _ => rfl
  | k + 1, h => by
    rw [totC, totC, colC, tot_col xs ys n k (by omega), rowC, if_pos (by omega)]
    omega
theorem tot_all (xs ys : List Int) : ∀ n, totC xs ys n n = allC xs ys n
  | 0 => rfl
  | n + 1 => by
    rw [totC, tot_col xs ys n n (Nat.le_refl _), rowC_low xs ys n (n + 1) (Nat.le_refl _), tot_all xs ys n, allC]
    omega
/-- Over planes. -/
def cD (xs ys : List Int) (ps : List Pl) : Nat := ps.countP fun p => grX xs p != grX ys p
theorem cD_append (xs ys : List Int) (a b : List Pl) : cD xs ys (a ++ b) = cD xs ys a + cD xs ys b := by simp [cD]
theorem cD_two (xs ys : List Int) (f s : Nat) : cD xs ys [((f : Int), (s : Int), 0), ((f : Int), (s : Int), 100)] = dTwo xs ys f s := by
  unfold cD dTwo df grX
  simp only [List.countP_cons, List.countP_nil, Int.toNat_natCast, bne_iff_ne, ne_eq]
  split <;> split <;> simp_all
theorem cD_row (xs ys : List Int) (s : Nat) : ∀ f, cD xs ys (plRow s f) = colC xs ys s f
  | 0 => rfl
  | f + 1 => by rw [plRow, cD_append, cD_row xs ys s f, cD_two, colC]
theorem cD_all (xs ys : List Int) : ∀ n, cD xs ys (plAll n) = allC xs ys n
  | 0 => rfl
  | n + 1 => by rw [plAll, cD_append, cD_all xs ys n, cD_row, allC]
theorem cD_succ {xs ys : List Int} {ps : List Pl} {k : Nat} (h : k < ps.length) : cD xs ys (ps.take (k + 1)) = cD xs ys (ps.take k) + if grX xs (nthP ps k) = grX ys (nthP ps k) then 0 else 1 := by
  rw [take_succ_nthP h, cD_append]
  congr 1
  simp only [cD, List.countP_cons, List.countP_nil, bne_iff_ne, ne_eq]
  split <;> simp_all
theorem cD_le (xs ys : List Int) (ps : List Pl) (k : Nat) : cD xs ys (ps.take k) ≤ k := by
  unfold cD
  exact Nat.le_trans List.countP_le_length (by simp; omega)
theorem dTwo_le (xs ys : List Int) (i s : Nat) : dTwo xs ys i s ≤ 2 := by have := df_le xs ys i s 0; have := df_le xs ys i s 100; unfold dTwo; omega
theorem rowC_le (xs ys : List Int) (i : Nat) : ∀ s, rowC xs ys i s ≤ 2 * s
  | 0 => Nat.le_refl _
  | s + 1 => by
    have := rowC_le xs ys i s
    have := dTwo_le xs ys i s
    rw [rowC]
    split <;> omega
theorem totC_le (xs ys : List Int) (n : Nat) : ∀ i, totC xs ys n i ≤ 2 * n * i
  | 0 => by simp [totC]
  | i + 1 => by
    have h1 := totC_le xs ys n i
    have h2 := rowC_le xs ys i n
    have h3 : 2 * n * (i + 1) = 2 * n * i + 2 * n := Nat.mul_succ _ _
    rw [totC]
    omega
def betweenOf (xs ys : List Int) : Int × Bool := if pointB xs && pointB ys && decide (xs.length = ys.length) then ((allC xs ys xs.length : Int), true) else (0, false)
end Go.Proofs.Ytnddplldkgphnac
