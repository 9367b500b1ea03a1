/- UsedCells, KeysOf, CostOf, GreatestCost: the model's and the program's functions. -/
import Derived.Test.YtadcmghjhgjeeabImplTt
import Derived.Test.YtadcmghjhgjeeabSpecPt
import Derived.Test.YtadcmghjhgjeeabImplRh
namespace Go.Proofs.Ytadcmghjhgjeeab
open Go.RowKit

def keysOf' (cs : List Int) : List Int × Bool := if tblB cs then (keysL cs, true) else ([], false)
theorem keysOf_yes {cs : List Int} (h : tblB cs = true) : keysOf' cs = (keysL cs, true) := if_pos h
theorem keysOf_no {cs : List Int} (h : tblB cs = false) : keysOf' cs = ([], false) := if_neg (by simp [h])
def costOf' (cs : List Int) : Int × Bool := if tblB cs then (total (costsL cs), true) else (0, false)
theorem costOf_yes {cs : List Int} (h : tblB cs = true) : costOf' cs = (total (costsL cs), true) := if_pos h
theorem costOf_no {cs : List Int} (h : tblB cs = false) : costOf' cs = (0, false) := if_neg (by simp [h])
/-- The greatest number of a list, 0 at least. -/
def mostL (xs : List Int) : Int := xs.foldl max 0
theorem mostL_succ {xs : List Int} {k : Nat} (h : k < xs.length) : mostL (xs.take (k + 1)) = max (mostL (xs.take k)) (nth xs k) := by
  rw [take_succ_nth h]
  simp [mostL]
def mostOf (cs : List Int) : Int × Bool := if tblB cs then (mostL (costsL cs), true) else (0, false)
theorem mostOf_yes {cs : List Int} (h : tblB cs = true) : mostOf cs = (mostL (costsL cs), true) := if_pos h
theorem mostOf_no {cs : List Int} (h : tblB cs = false) : mostOf cs = (0, false) := if_neg (by simp [h])
theorem costs_bounds {cs : List Int} (h12 : cs.length ≤ 12) (hlo : 1 ≤ cs.length) : ∀ x ∈ costsL cs, 0 ≤ x ∧ x ≤ 12 := by
  intro x hx
  unfold costsL at hx
  obtain ⟨c, h1, h2, rfl⟩ := mem_coll.1 hx
  have : costN cs.length (nth cs c) c < cs.length := way_lt (by omega)
  omega
theorem costs_len {cs : List Int} (h12 : cs.length ≤ 12) : (costsL cs).length ≤ 12 := Nat.le_trans (length_coll _ _ _) h12
theorem small_costs {cs : List Int} (h12 : cs.length ≤ 12) (hlo : 1 ≤ cs.length) : Small (costsL cs) := fun i hi => by have := costs_bounds h12 hlo _ (nth_mem hi); omega
theorem total_small {xs : List Int} (h : ∀ x ∈ xs, 0 ≤ x ∧ x ≤ 12) : ∀ k, k ≤ xs.length → 0 ≤ total (xs.take k) ∧ total (xs.take k) ≤ 12 * (k : Int)
  | 0, _ => by simp [total]
  | k + 1, hk => by
    have ih := total_small h k (by omega)
    have := h _ (nth_mem (show k < xs.length by omega))
    rw [total_succ (by omega)]
    omega

end Go.Proofs.Ytadcmghjhgjeeab
