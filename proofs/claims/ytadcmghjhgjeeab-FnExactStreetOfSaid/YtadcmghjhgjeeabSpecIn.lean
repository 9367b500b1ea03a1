/- Keys put in: the model's lists of keys and tables of keys. -/
import Derived.Test.YtadcmghjhgjeeabImplEm
import Derived.Test.YtadcmghjhgjeeabTbl
namespace Go.Proofs.Ytadcmghjhgjeeab
open Go.RowKit

def tabOf (n : Int) (keys : List Int) : List Int × Bool := if keysB n keys then (tabL n.toNat keys, true) else ([], false)
theorem keys_no1 {n : Int} {keys : List Int} (h : inB n 2 12 = false) : keysB n keys = false := by simp [keysB, h]
theorem keys_no2 {n : Int} {keys : List Int} (h : ¬ (keys.length : Int) < n) : keysB n keys = false := by simp [keysB, h]
theorem keys_no3 {n : Int} {keys : List Int} (h : allB keys 0 999 = false) : keysB n keys = false := by simp [keysB, h]
theorem keys_no4 {n : Int} {keys : List Int} {i : Nat} (hi : i < keys.length) (h : hasB (keys.take i) (nth keys i) = true) : keysB n keys = false := by
  have : diffB keys = false := by
    unfold diffB
    rw [List.all_eq_false]
    exact ⟨i, by simpa using hi, by simp [h]⟩
  simp [keysB, this]
theorem keys_yes {n : Int} {keys : List Int} (h1 : inB n 2 12 = true) (h2 : (keys.length : Int) < n) (h3 : allB keys 0 999 = true) (h4 : ∀ i, i < keys.length → hasB (keys.take i) (nth keys i) = false) : keysB n keys = true := by
  have : diffB keys = true := by
    unfold diffB
    simp only [List.all_eq_true, List.mem_range, Bool.not_eq_true']
    exact h4
  simp [keysB, h1, h2, h3, this]

/-- Where an insertion stops. -/
def freeB (cs : List Int) (c : Nat) : Bool := decide (nth cs c = -1)
end Go.Proofs.Ytadcmghjhgjeeab
