/- Chapter 9: prime parking functions and parts. -/
import Derived.Test.YtnddplldkgphnaaGreatMathFr
import Derived.Test.YtnddplldkgphnaaGreatMathVa
import Derived.Test.YtnddplldkgphnaaGreatMathSm
namespace Go.Proofs.YtnddplldkgphnaaGreat
open Go.RowKit

def allPrimeOf (n : Int) : List (List Int) × Bool := if inB n 1 5 then ((listL n.toNat n.toNat []).filter primeB, true) else ([], false)
/-- The bounds of prime lists. -/
def pbs (n : Nat) : List Int := (List.range n).map fun (i : Nat) => ((i - 1 : Nat) : Int)
theorem length_pbs (n : Nat) : (pbs n).length = n := by simp [pbs]
theorem nth_pbs {n i : Nat} (h : i < n) : nth (pbs n) i = ((i - 1 : Nat) : Int) := by simp [nth, pbs, h]
theorem pbs_bnd (n : Nat) : Bnd (pbs n) := by
  refine ⟨?_, fun b hb => ?_⟩
  · unfold pbs
    rw [List.pairwise_map]
    exact (List.pairwise_lt_range).imp fun h => by omega
  · unfold pbs at hb
    obtain ⟨i, _, rfl⟩ := List.mem_map.1 hb
    omega
theorem prime_list : ∀ n, n < 6 → 0 < n → allB' (pbs n) = (listL n n []).filter primeB := by decide +kernel
theorem cnt_prime : ∀ n, n < 6 → 0 < n → cntB (pbs n) = (n - 1) ^ (n - 1) := by decide +kernel

/-! ### The first place of a part -/
/-- A cut, or 0. -/
def st (xs : List Int) (b : Nat) : Bool := decide (below xs (b : Int) = b)
def begF (xs : List Int) : Nat → Nat
  | 0 => 0
  | b + 1 => if b + 1 < below xs ((b + 1 : Nat) : Int) then begF xs b else b + 1
theorem begF_le (xs : List Int) : ∀ b, begF xs b ≤ b
  | 0 => Nat.le_refl _
  | b + 1 => by
    unfold begF
    split
    · exact Nat.le_succ_of_le (begF_le xs b)
    · exact Nat.le_refl _
theorem below_zero {xs : List Int} (h : ∀ x ∈ xs, 0 ≤ x) : below xs 0 = 0 := by
  unfold below
  rw [List.countP_eq_zero]
  intro x hx
  have := h x hx
  simp
  omega
theorem begF_go {xs : List Int} {b : Nat} (h : b < below xs (b : Int)) (h0 : ∀ x ∈ xs, 0 ≤ x) : 0 < b ∧ begF xs b = begF xs (b - 1) := by
  cases b with
  | zero => rw [show ((0 : Nat) : Int) = 0 from rfl, below_zero h0] at h; omega
  | succ b => exact ⟨by omega, by rw [begF, if_pos h, Nat.add_sub_cancel]⟩
theorem begF_stop {xs : List Int} {b : Nat} (h : ¬ b < below xs (b : Int)) : begF xs b = b := by
  cases b with
  | zero => rfl
  | succ b => rw [begF, if_neg h]
/-- In increasing order. -/
theorem park_sorted {xs : List Int} (h : isPark xs = true) : ∀ i, i < xs.length → 0 ≤ nth (insSort xs) i ∧ nth (insSort xs) i ≤ (i : Int) := by
  have hb := isPark_bounds h
  have h1 : ∀ x ∈ xs, 0 ≤ x := fun x hx => (hb.2 x hx).1
  have h2 := (isPark_zpark hb.1 h1).1 h
  intro i hi
  have hl := length_insSort xs
  refine ⟨h1 _ ((insSort_perm xs).subset (nth_mem (by rw [hl]; exact hi))), ?_⟩
  have := h2 i hi
  rw [Nat.sub_self, Nat.add_zero, ← below_perm (insSort_perm xs)] at this
  have h3 := (below_sorted (insSort_sorted xs) (k := i) (by rw [hl]; exact hi) ((i : Int) + 1)).1 this
  omega
theorem below_ge {xs : List Int} (h : isPark xs = true) {b : Nat} (hb : b ≤ xs.length) : b ≤ below xs (b : Int) := by
  cases b with
  | zero => exact Nat.zero_le _
  | succ b =>
    have hl := length_insSort xs
    have h1 := park_sorted h b (by omega)
    have h2 := (below_sorted (insSort_sorted xs) (k := b) (by omega) ((b : Int) + 1)).2 (by omega)
    rw [below_perm (insSort_perm xs)] at h2
    have : ((b + 1 : Nat) : Int) = (b : Int) + 1 := by omega
    rw [this]
    omega
theorem st_iff {xs : List Int} (h : isPark xs = true) {b : Nat} (hb : b ≤ xs.length) : st xs b = true ↔ ¬ b < below xs (b : Int) := by
  have := below_ge h hb
  simp only [st, decide_eq_true_eq]
  omega
theorem st_at {xs : List Int} (h : isPark xs = true) {b : Nat} (hb : b < xs.length) : st xs b = true ↔ nth (insSort xs) b = (b : Int) := by
  rw [st_iff h (by omega), ← below_perm (insSort_perm xs), below_sorted (insSort_sorted xs) (by rw [length_insSort]; exact hb)]
  have := park_sorted h b hb
  omega
theorem begF_st {xs : List Int} (h : isPark xs = true) : ∀ b, b ≤ xs.length → st xs (begF xs b) = true ∧ ∀ c, begF xs b < c → c ≤ b → st xs c = false
  | 0, _ => ⟨by
      show st xs 0 = true
      rw [st_iff h (Nat.zero_le _), show ((0 : Nat) : Int) = 0 from rfl, below_zero (fun x hx => ((isPark_bounds h).2 x hx).1)]
      omega, fun c h1 h2 => by simp [begF] at h1; omega⟩
  | b + 1, hb => by
    obtain ⟨g1, g2⟩ := begF_st h b (by omega)
    by_cases hc : b + 1 < below xs ((b + 1 : Nat) : Int)
    · rw [begF, if_pos hc]
      refine ⟨g1, fun c h1 h2 => ?_⟩
      by_cases e : c = b + 1
      · subst e
        rw [Bool.eq_false_iff]
        intro hh
        exact ((st_iff h hb).1 hh) hc
      · exact g2 c h1 (by omega)
    · rw [begF, if_neg hc]
      exact ⟨(st_iff h hb).2 hc, fun c h1 h2 => by omega⟩
theorem begF_eq {xs : List Int} (h : isPark xs = true) {a b : Nat} (hb : b ≤ xs.length) (ha : a ≤ b) (h1 : st xs a = true) (h2 : ∀ c, a < c → c ≤ b → st xs c = false) : begF xs b = a := by
  obtain ⟨g1, g2⟩ := begF_st h b hb
  have := begF_le xs b
  rcases Nat.lt_trichotomy (begF xs b) a with h3 | h3 | h3
  · rw [g2 a h3 ha] at h1; cases h1
  · exact h3
  · rw [h2 _ h3 this] at g1; cases g1

/-! ### Cars by the parts in which they are -/
def begC (xs : List Int) (c : Int) : Nat := begF xs (nth xs c.toNat).toNat
def grp (xs cars : List Int) (b : Nat) : List Int := cars.filter fun c => decide (begC xs c = b)
def partRows (xs cars : List Int) : List (List Int) := ((List.range 8).map (grp xs cars)).filter fun r => !r.isEmpty
theorem grp_snoc (xs cars : List Int) (c : Int) (b : Nat) : grp xs (cars ++ [c]) b = if begC xs c = b then grp xs cars b ++ [c] else grp xs cars b := by
  unfold grp
  rw [List.filter_append]
  by_cases h : begC xs c = b <;> simp [h]

/-! ### Parts between neighbouring cuts -/
def cutList (xs : List Int) : List Int := 0 :: (idxs (isCut xs) xs.length ++ [(xs.length : Int)])
def partAt (xs : List Int) (a b : Int) : List Int := (xs.filter fun x => decide (a ≤ x) && decide (x < b)).map (· - a)
def primeParts (xs : List Int) : List (List Int) := (List.range ((cutList xs).length - 1)).map fun k => partAt xs (nth (cutList xs) k) (nth (cutList xs) (k + 1))
def primePartsOf (xs : List Int) : List (List Int) × Bool := if isPark xs then (if xs = [] then [] else primeParts xs, true) else ([], false)
end Go.Proofs.YtnddplldkgphnaaGreat
