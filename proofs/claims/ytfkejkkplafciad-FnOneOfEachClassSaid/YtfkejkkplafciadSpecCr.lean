/- The model's circles, by their contracts. -/
import Derived.Test.YtfkejkkplafciadSpecS
import Derived.Test.YtfkejkkplafciadMathC
import Derived.Test.YtfkejkkplafciadPii
import Derived.Deep.LoopGhost
namespace Go.Proofs.Ytfkejkkplafciad
open Go.RowKit

theorem emod_nat (x j p : Nat) : ((x : Int) + (j : Int)) % (p : Int) = (((x + j) % p : Nat) : Int) := by
  rw [Int.natCast_emod, Int.natCast_add]
theorem crun_free {p x k : Nat} {out : List Int} (h : CRuns out p x k) (hl : out.length < p) : k < p := by
  have := cruns_lt h (by omega)
  omega
theorem good_nth' {xs : List Int} {p n : Nat} (h : good xs p = true) (hn : xs.length = n) : n ≤ 8 ∧ 1 ≤ p ∧ p ≤ 12 ∧ (∀ i, i < n → 0 ≤ nth xs i ∧ nth xs i ≤ (p : Int) - 1) := by
  obtain ⟨h1, h2, h3⟩ := good_iff.1 h
  exact ⟨by omega, by omega, by omega, fun i hi => h3 _ (nth_mem (by omega))⟩

theorem circleOf_yes {xs : List Int} {p n : Nat} (h : good xs p = true) (hn : xs.length = n) (hle : n ≤ p) : circleOf xs p = (cdrive p xs, true) := by
  simp [circleOf, h, show xs.length ≤ p by omega]
theorem circleOf_no1 {xs : List Int} {p : Int} (h : ¬ good xs p = true) : circleOf xs p = ([], false) := by simp [circleOf, h]
theorem circleOf_no2 {xs : List Int} {p n : Nat} (hn : xs.length = n) (h : p < n) : circleOf xs p = ([], false) := by simp [circleOf, show ¬ xs.length ≤ p by omega]

theorem circ_nth {xs : List Int} {n : Nat} (h : circB xs = true) (hn : xs.length = n) : n ≤ 8 ∧ (∀ i, i < n → 0 ≤ nth xs i ∧ nth xs i ≤ ((n + 1 : Nat) : Int) - 1) := by
  obtain ⟨h1, h2⟩ := circB_iff.1 h
  refine ⟨by omega, fun i hi => ?_⟩
  have := h2 _ (nth_mem (xs := xs) (i := i) (by omega))
  omega

theorem tmod_emod (x p : Int) : x.tmod p % p = x % p := by
  have h1 := Int.tmod_add_mul_tdiv x p
  conv => rhs; rw [← h1]
  rw [Int.add_mul_emod_self_left]
theorem tmod_bounds (x p : Int) (hp : 0 < p) : -p < x.tmod p ∧ x.tmod p < p := ⟨Int.lt_tmod_of_pos x hp, Int.tmod_lt_of_pos x hp⟩

theorem turnOf_yes {xs : List Int} {p b : Int} (h : good xs p = true) (hb : inB b (-1000) 1000 = true) : turnOf xs p b = (turn xs p b, true) := by simp [turnOf, h, hb]
theorem turnOf_no1 {xs : List Int} {p b : Int} (h : ¬ good xs p = true) : turnOf xs p b = ([], false) := by simp [turnOf, h]
theorem turnOf_no2 {xs : List Int} {p b : Int} (h : ¬ inB b (-1000) 1000 = true) : turnOf xs p b = ([], false) := by simp [turnOf, h]

theorem classOf_yes {xs : List Int} {n : Nat} (h : circB xs = true) (hn : xs.length = n) : classOf xs = (turn xs ((n : Int) + 1) ((n : Int) - cfree xs), (n : Int) - cfree xs, true) := by simp [classOf, h, hn]
theorem classOf_no {xs : List Int} (h : ¬ circB xs = true) : classOf xs = ([], 0, false) := by simp [classOf, h]

end Go.Proofs.Ytfkejkkplafciad
