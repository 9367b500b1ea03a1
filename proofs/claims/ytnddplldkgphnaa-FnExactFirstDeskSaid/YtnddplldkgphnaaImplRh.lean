/- A ring's keys and costs. -/
import Derived.Test.YtnddplldkgphnaaImplRf
import Derived.Test.YtnddplldkgphnaaSrt
import Derived.Test.YtnddplldkgphnaaReg
namespace Go.Proofs.Ytnddplldkgphnaa
open Go.RowKit

/-- A list of which the first k numbers are told anew. -/
def mixK (g : Int → Int) (us : List Int) (k : Nat) : List Int := (us.map g).take k ++ us.drop k
theorem mixK_zero (g : Int → Int) (us : List Int) : mixK g us 0 = us := by simp [mixK]
theorem mixK_all (g : Int → Int) (us : List Int) : mixK g us us.length = us.map g := by simp [mixK, List.take_of_length_le]
theorem length_mixK {g : Int → Int} {us : List Int} {k : Nat} (h : k ≤ us.length) : (mixK g us k).length = us.length := by simp [mixK]; omega
theorem nth_mixK {g : Int → Int} {us : List Int} {k : Nat} (h : k < us.length) : nth (mixK g us k) k = nth us k := by
  unfold mixK nth
  rw [List.getD_eq_getElem?_getD, List.getD_eq_getElem?_getD, List.getElem?_append_right (by simp; omega), List.length_take, List.length_map, Nat.min_eq_left (by omega), List.getElem?_drop]
  congr 2
  omega
theorem mixK_set {g : Int → Int} {us : List Int} {k : Nat} (h : k < us.length) : (mixK g us k).set k (g (nth us k)) = mixK g us (k + 1) := by
  unfold mixK
  have hl : ((us.map g).take k).length = k := by simp; omega
  rw [List.set_append_right _ _ (by omega), hl, Nat.sub_self, List.drop_eq_getElem_cons h, List.set_cons_zero, List.take_succ_eq_append_getElem (by simpa using h)]
  simp [nth, h]
theorem used_at {cs : List Int} {k : Nat} (hk : k < (usedL cs).length) : ∃ c : Nat, nth (usedL cs) k = (c : Int) ∧ c < cs.length ∧ nth cs c ≠ -1 := by
  obtain ⟨c, h1, h2, h3⟩ := mem_used.1 (nth_mem hk)
  exact ⟨c, h3.symm, h1, h2⟩

end Go.Proofs.Ytnddplldkgphnaa
