/- Outcomes: lists that have each number once, and rows of places that earlier cars took. -/
import Derived.Test.YtakadjhbomggbabMath1
namespace Go.Proofs.Ytakadjhbomggbab
open Go.RowKit

/-- No number occurs before itself, among the first n. -/
def distB (xs : List Int) (n : Nat) : Bool := (List.range n).all fun i => !hasB (xs.take i) (nth xs i)
theorem distB_succ {xs : List Int} {n : Nat} : distB xs (n + 1) = (distB xs n && !hasB (xs.take n) (nth xs n)) := by simp [distB, List.range_succ]
theorem distB_no {xs : List Int} {k n : Nat} (hk : k < n) (h : hasB (xs.take k) (nth xs k) = true) : distB xs n = false := by
  unfold distB
  rw [List.all_eq_false]
  exact ⟨k, by simpa using hk, by simp [h]⟩
def outB (xs : List Int) : Bool := carsB xs xs.length && distB xs xs.length

theorem nodup_take {xs : List Int} : ∀ (n : Nat), n ≤ xs.length → distB xs n = true → (xs.take n).Nodup
  | 0, _, _ => by simp
  | n + 1, hn, h => by
    rw [distB_succ, Bool.and_eq_true] at h
    rw [take_succ_nth (by omega), List.nodup_append]
    refine ⟨nodup_take n (by omega) h.1, by simp, fun a ha b hb => ?_⟩
    simp only [List.mem_singleton] at hb
    subst hb
    have := h.2
    simp [hasB] at this
    rintro rfl
    exact this ha

theorem nodup_le : ∀ (m : Nat) (xs : List Int), xs.Nodup → (∀ x ∈ xs, 0 ≤ x ∧ x < (m : Int)) → xs.length ≤ m
  | 0, xs, _, h => by
    cases xs with
    | nil => simp
    | cons x xs => have := h x (by simp); omega
  | m + 1, xs, hn, h => by
    by_cases hm : (m : Int) ∈ xs
    · have hl := List.length_erase_of_mem hm
      have := nodup_le m (xs.erase (m : Int)) (hn.erase _) (fun x hx => by
        have h1 := h x (List.mem_of_mem_erase hx)
        have h2 : x ≠ (m : Int) := (hn.mem_erase_iff.1 hx).1
        omega)
      omega
    · have := nodup_le m xs hn (fun x hx => by
        have h1 := h x hx
        have h2 : x ≠ (m : Int) := fun e => hm (e ▸ hx)
        omega)
      omega

/-- Each place is some car's. -/
theorem out_all {xs : List Int} (h : outB xs = true) {z : Nat} (hz : z < xs.length) : (z : Int) ∈ xs := by
  simp only [outB, Bool.and_eq_true] at h
  have hc := (carsB_iff.1 h.1).2
  have hn := nodup_take xs.length (Nat.le_refl _) h.2
  rw [List.take_length] at hn
  apply Classical.byContradiction
  intro hm
  have := nodup_le xs.length ((z : Int) :: xs) (List.nodup_cons.2 ⟨hm, hn⟩) (fun x hx => by
    rcases List.mem_cons.1 hx with rfl | hx
    · omega
    · have := hc x hx; omega)
  simp at this
  omega
theorem out_inj {xs : List Int} (h : outB xs = true) {i j : Nat} (hi : i < xs.length) (hj : j < xs.length) (e : nth xs i = nth xs j) : i = j := by
  simp only [outB, Bool.and_eq_true] at h
  have hn := nodup_take xs.length (Nat.le_refl _) h.2
  rw [List.take_length] at hn
  have e' : xs[i] = xs[j] := by simpa [nth, hi, hj] using e
  have hp := List.pairwise_iff_getElem.1 hn
  rcases Nat.lt_trichotomy i j with h1 | h1 | h1
  · exact absurd e' (hp i j hi hj h1)
  · exact h1
  · exact absurd e'.symm (hp j i hj hi h1)
theorem out_nth {xs : List Int} (h : outB xs = true) {i : Nat} (hi : i < xs.length) : 0 ≤ nth xs i ∧ nth xs i < (xs.length : Int) := by
  simp only [outB, Bool.and_eq_true] at h
  have := (carsB_iff.1 h.1).2 _ (nth_mem hi)
  omega
theorem out_le {xs : List Int} (h : outB xs = true) : xs.length ≤ 8 := by
  simp only [outB, Bool.and_eq_true] at h
  exact (carsB_iff.1 h.1).1
/-- A place is an earlier car's exactly if its car's index is less. -/
theorem out_before {xs : List Int} (h : outB xs = true) {i j : Nat} (hi : i < xs.length) (hj : j < xs.length) : nth xs j ∈ xs.take i ↔ j < i := by
  constructor
  · intro hm
    obtain ⟨k, hk, e⟩ := mem_nth hm
    have hk' : k < i := by simp at hk; omega
    rw [nth_take hk'] at e
    have := out_inj h (by omega) hj e
    omega
  · intro hlt
    have : nth (xs.take i) j ∈ xs.take i := nth_mem (by simp; omega)
    rwa [nth_take hlt] at this

/-- From a place downwards, as long as the place below is taken. -/
def down (t : List Int) : Nat → Nat
  | 0 => 0
  | x + 1 => if (x : Int) ∈ t then down t x else x + 1
theorem down_le (t : List Int) : ∀ x, down t x ≤ x
  | 0 => Nat.le_refl _
  | x + 1 => by
    simp only [down]
    split
    · have := down_le t x; omega
    · omega
theorem down_step {t : List Int} {x : Nat} (h : (x : Int) ∈ t) : down t (x + 1) = down t x := by simp [down, h]
theorem down_stop {t : List Int} {x : Nat} (h : (x : Int) ∉ t) : down t (x + 1) = x + 1 := by simp [down, h]

/-- The least favourite with which the car i comes to its place. -/
def leastOf (xs : List Int) (i : Nat) : Int := (down (xs.take i) (nth xs i).toNat : Int)
def rowOf (xs : List Int) (i : Nat) : Int := nth xs i - leastOf xs i + 1
def leasts (xs : List Int) : List Int := (List.range xs.length).map fun i => leastOf xs i
theorem length_leasts (xs : List Int) : (leasts xs).length = xs.length := by simp [leasts]
theorem nth_leasts {xs : List Int} {i : Nat} (h : i < xs.length) : nth (leasts xs) i = leastOf xs i := by simp [nth, leasts, h]
theorem leastOf_bounds {xs : List Int} {i : Nat} (h0 : 0 ≤ nth xs i) : 0 ≤ leastOf xs i ∧ leastOf xs i ≤ nth xs i := by
  have := down_le (xs.take i) (nth xs i).toNat
  unfold leastOf
  omega
def prodTo (xs : List Int) : Nat → Int
  | 0 => 1
  | k + 1 => prodTo xs k * rowOf xs k
theorem prod_bounds {xs : List Int} (h : outB xs = true) : ∀ k, k ≤ xs.length → 1 ≤ prodTo xs k ∧ prodTo xs k ≤ 8 ^ k
  | 0, _ => by simp [prodTo]
  | k + 1, hk => by
    have ih := prod_bounds h k (by omega)
    have h1 := out_nth h (i := k) (by omega)
    have h2 := leastOf_bounds h1.1
    have h3 := out_le h
    have hr : 1 ≤ rowOf xs k ∧ rowOf xs k ≤ 8 := by unfold rowOf; omega
    simp only [prodTo]
    constructor
    · have := Int.mul_le_mul ih.1 hr.1 (by omega) (by omega)
      omega
    · have := Int.mul_le_mul ih.2 hr.2 (by omega) (Int.pow_nonneg (by omega))
      rw [Int.pow_succ]
      exact this
theorem prod_small {xs : List Int} (h : outB xs = true) {k : Nat} (hk : k ≤ xs.length) : 1 ≤ prodTo xs k ∧ prodTo xs k ≤ 16777216 := by
  have h1 := prod_bounds h k hk
  have h8 := out_le h
  refine ⟨h1.1, Int.le_trans h1.2 ?_⟩
  have : (8 : Int) ^ k ≤ 8 ^ 8 := by
    have h9 : 8 ^ k ≤ 8 ^ 8 := Nat.pow_le_pow_right (by omega) (by omega)
    exact_mod_cast h9
  omega
def outcomesOf (xs : List Int) : Int × Bool := if outB xs then (prodTo xs xs.length, true) else (0, false)
end Go.Proofs.Ytakadjhbomggbab
