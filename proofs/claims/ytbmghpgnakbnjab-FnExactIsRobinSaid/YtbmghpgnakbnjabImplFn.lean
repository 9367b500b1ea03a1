/- FindKey: the model's and the program's function. -/
import Derived.Test.YtbmghpgnakbnjabImplFi
namespace Go.Proofs.Ytbmghpgnakbnjab
open Go.RowKit

/-- Where a key is, as the program looks for it. -/
def findOf' (cs : List Int) (key : Int) : List Int × Int × Bool := if (tblB cs && keyB key) = true then (ringL cs, (srch cs key : Int), decide (nth cs (srch cs key) = key)) else (zeroR, 0, false)
theorem cell_drewRow {w : World} {g k i : Nat} {xs : List Int} {v : Value} (h : w.cell? ⟨g, i, none⟩ = some v) (hne : g ≠ k) : (w.drew.setRow k (ivals xs)).cell? ⟨g, i, none⟩ = some v := by
  rw [cell_setRow_other _ _ _ _ hne]
  exact h

/-- Where a key is, and its cost. -/
def foundOf (cs : List Int) (key : Int) : Int × Int × Bool := if (tblB cs && (keyB key && hasB cs key)) = true then ((findL cs key : Int), (costN cs.length key (findL cs key) : Int), true) else (0, 0, false)
theorem foundOf_no1 {cs : List Int} {key : Int} (h : tblB cs = false) : foundOf cs key = (0, 0, false) := by simp [foundOf, h]
theorem foundOf_no2 {cs : List Int} {key : Int} (h : keyB key = false) : foundOf cs key = (0, 0, false) := by simp [foundOf, h]
theorem foundOf_no3 {cs : List Int} {key : Int} (h : hasB cs key = false) : foundOf cs key = (0, 0, false) := by simp [foundOf, h]
theorem foundOf_yes {cs : List Int} {key : Int} (h1 : tblB cs = true) (h2 : keyB key = true) (h3 : hasB cs key = true) : foundOf cs key = ((findL cs key : Int), (costN cs.length key (findL cs key) : Int), true) := by simp [foundOf, h1, h2, h3]
theorem findOf_found {cs : List Int} {key : Int} (h1 : tblB cs = true) (h2 : keyB key = true) (h3 : hasB cs key = true) : findOf' cs key = (ringL cs, (findL cs key : Int), true) := by
  have ht := tb_iff.1 h1
  have hm := hasB_iff.1 h3
  have hk : key ≠ -1 := by have := (inB_iff.1 h2).1; omega
  unfold findOf'
  rw [if_pos (by rw [h1, h2]; rfl), ← ht.find hk hm, (findL_spec hm).2.1]
  simp
theorem findOf_not {cs : List Int} {key : Int} (h3 : (tblB cs && (keyB key && hasB cs key)) = false) : (findOf' cs key).2.2 = false := by
  unfold findOf'
  split
  · rename_i h
    simp only [Bool.and_eq_true] at h
    have ht := tb_iff.1 h.1
    have hk : key ≠ -1 := by have := (inB_iff.1 h.2).1; omega
    rw [h.1, h.2] at h3
    simp only [decide_eq_false_iff_not]
    intro e
    have := hasB_iff.2 ((ht.there hk).1 e)
    rw [this] at h3
    simp at h3
  · rfl
theorem find_len (cs : List Int) (key : Int) : (findOf' cs key).1.length = 13 := by
  unfold findOf'
  split
  · rename_i h
    simp only [Bool.and_eq_true] at h
    have ht := tb_iff.1 h.1
    exact (Rg.mk (by have := ht.lo; omega) ht.hi).all
  · rfl
theorem postIntInt {w w' : World} {r : Int × Int × Bool} {x y : Int} {ok : Bool} (hr : r = (x, y, ok)) (hb : Below w.heap.size w w') : PostIntInt w r (.returned (.tuple #[.int .i64 x, .int .i64 y, .bool ok])) w' := by subst hr; exact ⟨rfl, hb⟩
end Go.Proofs.Ytbmghpgnakbnjab
