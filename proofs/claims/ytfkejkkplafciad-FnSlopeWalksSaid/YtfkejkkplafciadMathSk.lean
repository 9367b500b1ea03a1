/- Ranks of slopes: the next one is greater, a listed one has its index as its rank. -/
import Derived.Test.YtfkejkkplafciadMathSn
import Derived.Test.YtfkejkkplafciadMathQ
namespace Go.Proofs.Ytfkejkkplafciad
open Go.RowKit

theorem nextU_less {bs xs ys : List Int} : ∀ c, c ≤ xs.length → nextU bs xs c = (ys, true) → lexLess xs ys = true ∧ ys.length = xs.length
  | 0, _, h => by simp [nextU] at h
  | c + 1, hc, h => by
    simp only [nextU] at h
    split at h
    · obtain rfl := (Prod.mk.inj h).1
      have hl : (cand xs c).length = xs.length := length_cand (by omega)
      refine ⟨?_, hl⟩
      have hlt : (xs.take c).length = c := by simp; omega
      have e1 : ∀ i, i < c → nth xs i = nth (cand xs c) i := by
        intro i hi
        unfold cand nth
        rw [List.getD_eq_getElem?_getD, List.getD_eq_getElem?_getD, List.getElem?_append_left (by omega), List.getElem?_take_of_lt hi]
      have e2 : nth (cand xs c) c = nth xs c + 1 := by
        unfold cand
        conv => lhs; unfold nth
        rw [List.getD_eq_getElem?_getD, List.getElem?_append_right (by omega), hlt, Nat.sub_self]
        simp [nth]
      rw [lexLess_at c xs _ (by omega) hl.symm e1 (by omega), e2]
      exact decide_eq_true (by omega)
    · exact nextU_less c (by omega) h
/-- What is listed of a slope. -/
theorem sl_all {n a k : Nat} (hs : slN n a = true) (hk : k < (allB' (bnds n a)).length) :
    ((allB' (bnds n a)).getD k []).length = n ∧ isSlOf ((allB' (bnds n a)).getD k []) a = (true, true) ∧ rankSlOf ((allB' (bnds n a)).getD k []) a = ((k : Int), true) ∧
      (k + 1 < (allB' (bnds n a)).length → lexLess ((allB' (bnds n a)).getD k []) ((allB' (bnds n a)).getD (k + 1) []) = true) := by
  obtain ⟨hc, _, _, h⟩ := allB_chain (bnds_bnd n a)
  obtain ⟨e, r, u, l⟩ := h k hk
  rw [length_bnds] at l
  have hsb : slB (n : Int) (a : Int) = true := by rw [slB_nat, hs]
  refine ⟨l, ?_, ?_, fun hk2 => ?_⟩
  · unfold isSlOf
    rw [l, hsb, Int.toNat_natCast, u]
    rfl
  · unfold rankSlOf goodSl
    rw [l, hsb, Int.toNat_natCast, u, e, r]
    rfl
  · have := hc.2.1 k hk2
    exact (nextU_less _ (Nat.le_refl _) this).1
theorem sl_len {n a : Nat} (hs : slN n a = true) : (allB' (bnds n a)).length = a ^ (n - 1) := by
  obtain ⟨⟨h1, h2⟩, ⟨h3, h4⟩, _⟩ := slN_iff.1 hs
  rw [(allB_chain (bnds_bnd n a)).2.2.1, cnt_slope n (by omega) a (by omega) hs]
theorem sl_cnt {n a : Nat} (hs : slN n a = true) : cntSlOf (n : Int) (a : Int) = (((a ^ (n - 1) : Nat) : Int), true) := by
  unfold cntSlOf
  rw [slB_nat, hs]
  simp only [if_true, Int.toNat_natCast]
theorem sl_at {n a r : Nat} (hs : slN n a = true) (hr : r < a ^ (n - 1)) : slAtOf (n : Int) (a : Int) (r : Int) = ((allB' (bnds n a)).getD r [], true) := by
  obtain ⟨_, _, _, h⟩ := allB_chain (bnds_bnd n a)
  obtain ⟨e, _⟩ := h r (by rw [sl_len hs]; exact hr)
  rw [e]
  unfold slAtOf
  have h2 : inB (r : Int) 0 (((a ^ (n - 1) : Nat) : Int) - 1) = true := inB_iff.2 ⟨by omega, by omega⟩
  simp only [Int.toNat_natCast]
  rw [slB_nat, hs, h2]
  rfl
/-- With a rank. -/
theorem sl_facts {n a r : Nat} (hs : slN n a = true) (hr : r < a ^ (n - 1)) : ∃ xs, slAtOf (n : Int) (a : Int) (r : Int) = (xs, true) ∧ xs.length = n ∧ rankSlOf xs a = ((r : Int), true) ∧
    (r + 1 < a ^ (n - 1) → ∃ ys, slAtOf (n : Int) (a : Int) ((r : Int) + 1) = (ys, true) ∧ ys.length = n ∧ lexLess xs ys = true) := by
  obtain ⟨q1, q2, q3, q4⟩ := sl_all hs (k := r) (by rw [sl_len hs]; exact hr)
  refine ⟨_, sl_at hs hr, q1, q3, fun hlt => ?_⟩
  obtain ⟨p1, _⟩ := sl_all hs (k := r + 1) (by rw [sl_len hs]; exact hlt)
  exact ⟨_, by have := sl_at hs hlt; simpa using this, p1, q4 (by rw [sl_len hs]; exact hlt)⟩
theorem sl_at_no {n a : Nat} {r : Int} (h : ¬ (0 ≤ r ∧ r < ((a ^ (n - 1) : Nat) : Int))) : slAtOf (n : Int) (a : Int) r = ([], false) := by
  have h2 : inB r 0 (((a ^ (n - 1) : Nat) : Int) - 1) = false := by rw [inB_not]; omega
  unfold slAtOf
  simp only [Int.toNat_natCast]
  rw [h2]
  simp
theorem sl_at_bad {n a r : Int} (h : slB n a = false) : slAtOf n a r = ([], false) := by simp [slAtOf, h]
theorem sl_cnt_bad {n a : Int} (h : slB n a = false) : cntSlOf n a = (0, false) := by simp [cntSlOf, h]
theorem sl_all_yes {n a : Nat} (hs : slN n a = true) (h : a ^ (n - 1) ≤ 700) : allSlOf (n : Int) (a : Int) = (allB' (bnds n a), true) := by
  unfold allSlOf
  simp only [Int.toNat_natCast]
  rw [slB_nat, hs]
  simp [h]
theorem sl_all_no {n a : Int} (h : ¬ (slB n a = true ∧ a.toNat ^ (n.toNat - 1) ≤ 700)) : allSlOf n a = ([], false) := by
  unfold allSlOf
  rw [if_neg]
  simpa using h
end Go.Proofs.Ytfkejkkplafciad
