/- Ranks of parking functions: the next one is greater, a listed one has its index as its rank. -/
import Derived.Test.YtabhhmnilidppabMathX
import Derived.Test.YtabhhmnilidppabMathQ
namespace Go.Proofs.Ytabhhmnilidppab
open Go.RowKit

/-- What steps to the next one is lexicographically greater. -/
theorem nextP_less {xs ys : List Int} : ∀ c, c ≤ xs.length → nextP xs c = (ys, true) → lexLess xs ys = true ∧ ys.length = xs.length
  | 0, _, h => by simp [nextP] at h
  | c + 1, hc, h => by
    simp only [nextP] at h
    split at h
    · obtain rfl := (Prod.mk.inj h).1
      have hl : (cand xs c).length = xs.length := length_cand (by omega)
      refine ⟨?_, hl⟩
      have hlt : (xs.take c).length = c := by simp; omega
      have e1 : ∀ i, i < c → nth xs i = nth (cand xs c) i := by
        intro i hi
        unfold cand nth
        rw [List.getD_eq_getElem?_getD, List.getD_eq_getElem?_getD, List.getElem?_append_left (by omega), List.getElem?_take_of_lt hi]
      have e2 : nth (cand xs c) c = nth xs c + 1 := by
        unfold cand
        conv => lhs; unfold nth
        rw [List.getD_eq_getElem?_getD, List.getElem?_append_right (by omega), hlt, Nat.sub_self]
        simp [nth]
      rw [lexLess_at c xs _ (by omega) hl.symm e1 (by omega), e2]
      exact decide_eq_true (by omega)
    · exact nextP_less c (by omega) h

theorem at_no1 {n r : Int} (h : ¬ inB n 0 8 = true) : atOf n r = ([], false) ∧ countOf n = (0, false) := by simp [atOf, countOf, h]
/-- The rank that is asked for. -/
theorem at_facts {n : Nat} {r : Nat} (h8 : n ≤ 8) (hr : r < cnt n) : ∃ xs, atOf (n : Int) (r : Int) = (xs, true) ∧ xs.length = n ∧ isPark xs = true ∧ asked xs = true ∧ rankOf xs = ((r : Int), true) ∧ nextOf xs = atOf n ((r : Int) + 1) ∧
    (r + 1 < cnt n → ∃ ys, atOf n ((r : Int) + 1) = (ys, true) ∧ ys.length = n ∧ lexLess xs ys = true) := by
  have hN := N_nil h8
  have h1 : inB (n : Int) 0 8 = true := inB_iff.2 ⟨by omega, by omega⟩
  have h2 : inB (r : Int) 0 ((cnt n : Int) - 1) = true := inB_iff.2 ⟨by omega, by omega⟩
  obtain ⟨a, b, c⟩ := rk_at (n := n) n [] r (by simp) (by rw [hN]; exact hr)
  have hl : (toI (atL n n [] r)).length = n := by rw [length_toI, length_atL]
  have hp : isPark (toI (atL n n [] r)) = true := by
    rw [isPark_zpark (by omega) (fun x hx => by obtain ⟨y, _, rfl⟩ := List.mem_map.1 hx; omega), hl]
    simpa using c
  have hn : nextOf (toI (atL n n [] r)) = atOf n ((r : Int) + 1) := by
    simp only [nextOf, if_pos hp, toN_toI, hl, a]
  refine ⟨toI (atL n n [] r), by simp [atOf, h1, h2], hl, hp, ?_, by simp only [rankOf, if_pos hp, toN_toI, hl, a], hn, fun hlt => ?_⟩
  · have hb := (isPark_bounds hp)
    simp only [asked, Bool.and_eq_true, decide_eq_true_eq, allB_iff]
    exact ⟨hb.1, fun x hx => ⟨(hb.2 x hx).1, by have := (hb.2 x hx).2; omega⟩⟩
  · have h3 : inB ((r : Int) + 1) 0 ((cnt n : Int) - 1) = true := inB_iff.2 ⟨by omega, by omega⟩
    have e : atOf (n : Int) ((r : Int) + 1) = (toI (atL n n [] (r + 1)), true) := by
      simp only [atOf, Int.toNat_natCast, h1, h3, Bool.and_true, if_true]
      rw [show ((r : Int) + 1).toNat = r + 1 by omega]
    rw [e] at hn
    rw [← nextP_eq hp] at hn
    obtain ⟨q1, q2⟩ := nextP_less _ (Nat.le_refl _) hn
    exact ⟨_, e, by rw [q2, hl], q1⟩
theorem count_yes' {n : Nat} (h8 : n ≤ 8) : countOf (n : Int) = ((cnt n : Int), true) := by
  have h1 : inB (n : Int) 0 8 = true := inB_iff.2 ⟨by omega, by omega⟩
  simp [countOf, h1]
theorem at_no {n : Nat} {r : Int} (h : ¬ (0 ≤ r ∧ r < (cnt n : Int))) : atOf (n : Int) r = ([], false) := by
  have h2 : inB r 0 ((cnt n : Int) - 1) = false := by rw [inB_not]; omega
  simp [atOf, h2]
/-- The rank of a listed one. -/
theorem all_rank {n i : Nat} (h8 : n ≤ 8) (hi : i < (listL n n []).length) : rankOf ((listL n n []).getD i []) = ((i : Int), true) := by
  have hN := N_nil h8
  have hL := list_at (n := n) n [] (by simp)
  simp only [List.nil_append] at hL
  have hlen : (listL n n []).length = cnt n := by rw [hL, List.length_map, List.length_range, hN]
  rw [hlen] at hi
  have hget : (listL n n []).getD i [] = toI (atL n n [] i) := by
    rw [hL, hN]
    simp [hi]
  obtain ⟨xs, e1, _, _, _, e2, _⟩ := at_facts h8 hi
  have h1 : inB (n : Int) 0 8 = true := inB_iff.2 ⟨by omega, by omega⟩
  have h2 : inB (i : Int) 0 ((cnt n : Int) - 1) = true := inB_iff.2 ⟨by omega, by omega⟩
  simp [atOf, h1, h2] at e1
  rw [hget, e1, e2]
end Go.Proofs.Ytabhhmnilidppab
