/- Inversions of trees. -/
import Derived.Test.YtdemcjciijlbeaaMathTr
import Derived.Test.YtdemcjciijlbeaaMathT
namespace Go.Proofs.Ytdemcjciijlbeaa
open Go.RowKit

/-- The first c numbers beyond i that are above the node i, as pairs. -/
def invRow (xs : List Int) (i c : Nat) : List (List Int) := ((List.range c).filter fun t => hasB (abv xs (i : Int)) ((i + 1 + t : Nat) : Int)).map fun t => [(i : Int), ((i + 1 + t : Nat) : Int)]
def invTo (xs : List Int) (k : Nat) : List (List Int) := (List.range k).flatMap fun i => invRow xs (i + 1) (xs.length - (i + 1))
def invL (xs : List Int) : List (List Int) := invTo xs xs.length
def invOf (xs : List Int) : List (List Int) × Bool := if treeB xs then (invL xs, true) else ([], false)
def invCnt (xs : List Int) : Int × Bool := if treeB xs then (((invL xs).length : Int), true) else (0, false)
theorem invRow_zero (xs : List Int) (i : Nat) : invRow xs i 0 = [] := rfl
theorem invRow_yes {xs : List Int} {i c : Nat} (h : hasB (abv xs (i : Int)) ((i + 1 + c : Nat) : Int) = true) : invRow xs i (c + 1) = invRow xs i c ++ [[(i : Int), ((i + 1 + c : Nat) : Int)]] := by
  simp only [invRow, List.range_succ, List.filter_append, List.map_append, List.filter_cons, h, if_true, List.filter_nil, List.map_cons, List.map_nil]
theorem invRow_no {xs : List Int} {i c : Nat} (h : hasB (abv xs (i : Int)) ((i + 1 + c : Nat) : Int) = false) : invRow xs i (c + 1) = invRow xs i c := by
  simp only [invRow, List.range_succ, List.filter_append, List.map_append, List.filter_cons, h, List.filter_nil]
  simp
theorem invTo_succ (xs : List Int) (k : Nat) : invTo xs (k + 1) = invTo xs k ++ invRow xs (k + 1) (xs.length - (k + 1)) := by simp [invTo, List.range_succ]
theorem length_invRow (xs : List Int) (i c : Nat) : (invRow xs i c).length ≤ c := by
  simp only [invRow, List.length_map]
  exact Nat.le_trans (List.length_filter_le _ _) (by simp)

/-- The first q that are above the node i and greater, as pairs. -/
def hiRow (xs : List Int) (i q : Nat) : List (List Int) := ((List.range q).filter fun t => decide ((i : Int) < up xs i (t + 1))).map fun t => [(i : Int), up xs i (t + 1)]
def hiTo (xs : List Int) (k : Nat) : List (List Int) := (List.range k).flatMap fun i => hiRow xs (i + 1) (dep xs ((i : Int) + 1))
theorem hiRow_zero (xs : List Int) (i : Nat) : hiRow xs i 0 = [] := rfl
theorem hiRow_yes {xs : List Int} {i q : Nat} (h : (i : Int) < up xs i (q + 1)) : hiRow xs i (q + 1) = hiRow xs i q ++ [[(i : Int), up xs i (q + 1)]] := by
  have h' : decide ((i : Int) < up xs i (q + 1)) = true := by simpa using h
  simp only [hiRow, List.range_succ, List.filter_append, List.map_append, List.filter_cons, h', if_true, List.filter_nil, List.map_cons, List.map_nil]
theorem hiRow_no {xs : List Int} {i q : Nat} (h : ¬ (i : Int) < up xs i (q + 1)) : hiRow xs i (q + 1) = hiRow xs i q := by
  have h' : decide ((i : Int) < up xs i (q + 1)) = false := by simpa using h
  simp only [hiRow, List.range_succ, List.filter_append, List.map_append, List.filter_cons, h', List.filter_nil]
  simp
theorem hiTo_succ (xs : List Int) (k : Nat) : hiTo xs (k + 1) = hiTo xs k ++ hiRow xs (k + 1) (dep xs ((k : Int) + 1)) := by simp [hiTo, List.range_succ]
theorem length_hiRow (xs : List Int) (i q : Nat) : (hiRow xs i q).length ≤ q := by
  simp only [hiRow, List.length_map]
  exact Nat.le_trans (List.length_filter_le _ _) (by simp)

theorem up_inj {ps : List Int} {v : Int} {d a b : Nat} (h1 : up ps v d = 0) (h2 : ∀ j, j < d → up ps v j ≠ 0) (hb : b ≤ d) (hab : a < b) : up ps v a ≠ up ps v b := fun e => by
  have e1 := up_add ps v b (d - b)
  have e2 := up_add ps v a (d - b)
  rw [show b + (d - b) = d by omega, h1] at e1
  rw [e, ← e1] at e2
  exact h2 _ (by omega) e2
theorem hi_inv {xs : List Int} {n : Nat} (ht : Tree xs n) {i : Nat} (h1 : 1 ≤ i) (h2 : i ≤ n) : (hiRow xs i (dep xs (i : Int))).Perm (invRow xs i (n - i)) := by
  obtain ⟨d1, d2, d3⟩ := ht.dep (v := (i : Int)) (by omega) (by omega)
  refine (List.perm_ext_iff_of_nodup ?_ ?_).2 fun r => ?_
  · unfold hiRow
    refine List.Pairwise.map _ (fun a b h => ?_) (((List.pairwise_lt_range (n := dep xs (i : Int))).filter _).imp_of_mem (fun {a b} ha hb hab => (And.intro hab (And.intro ha hb) : a < b ∧ _ ∧ _)))
    obtain ⟨hab, ha, hb⟩ := h
    simp only [List.mem_filter, List.mem_range] at ha hb
    intro e
    injection e with _ e
    injection e with e _
    exact up_inj d1 d2 (show b + 1 ≤ _ by omega) (show a + 1 < b + 1 by omega) e
  · unfold invRow
    refine List.Pairwise.map _ (fun a b h => ?_) ((List.pairwise_lt_range (n := n - i)).filter _)
    intro e
    injection e with _ e
    injection e with e _
    omega
  · simp only [hiRow, invRow, List.mem_map, List.mem_filter, List.mem_range, decide_eq_true_eq, hasB_iff]
    constructor
    · rintro ⟨t, ⟨ht1, ht2⟩, rfl⟩
      have hb := ht.up_bounds (v := (i : Int)) (by omega) (by omega) (t + 1)
      refine ⟨(up xs i (t + 1)).toNat - (i + 1), ⟨by omega, ?_⟩, ?_⟩
      · rw [show ((i + 1 + ((up xs i (t + 1)).toNat - (i + 1)) : Nat) : Int) = up xs i (t + 1) by omega]
        exact List.mem_map.2 ⟨t, List.mem_range.2 ht1, rfl⟩
      · rw [show ((i + 1 + ((up xs i (t + 1)).toNat - (i + 1)) : Nat) : Int) = up xs i (t + 1) by omega]
    · rintro ⟨c, ⟨hc, hm⟩, rfl⟩
      obtain ⟨t, ht1, ht2⟩ := List.mem_map.1 hm
      rw [List.mem_range] at ht1
      exact ⟨t, ⟨ht1, by rw [ht2]; omega⟩, by rw [ht2]⟩
theorem hiTo_invTo {xs : List Int} {n : Nat} (ht : Tree xs n) : ∀ k, k ≤ n → (hiTo xs k).Perm (invTo xs k)
  | 0, _ => List.Perm.refl _
  | k + 1, hk => by
    rw [hiTo_succ, invTo_succ, ht.len]
    exact (hiTo_invTo ht k (by omega)).append (hi_inv ht (by omega) hk)
theorem hiTo_inv {xs : List Int} {n : Nat} (ht : Tree xs n) : (hiTo xs n).Perm (invL xs) := by
  have := hiTo_invTo ht n (Nat.le_refl _)
  rw [invL, ht.len]
  exact this

/-- A pair as one number, and back. -/
def pairC (r : List Int) : Int := 10 * nth r 0 + nth r 1
def unPair (c : Int) : List Int := [c / 10, c % 10]
theorem un_pairC {i j : Int} (h1 : 0 ≤ j) (h2 : j ≤ 9) : unPair (pairC [i, j]) = [i, j] := by
  have e : pairC [i, j] = 10 * i + j := rfl
  rw [e, unPair]
  congr 1
  · omega
  · congr 1
    omega
theorem inv_un {xs : List Int} {n : Nat} (ht : Tree xs n) (h8 : n ≤ 8) : ∀ r ∈ invL xs, unPair (pairC r) = r := by
  intro r hr
  simp only [invL, invTo, invRow, List.mem_flatMap, List.mem_map, List.mem_filter, List.mem_range] at hr
  obtain ⟨i, hi, c, ⟨hc, _⟩, rfl⟩ := hr
  have := ht.len
  exact un_pairC (by omega) (by omega)
theorem inv_sorted {xs : List Int} {n : Nat} (ht : Tree xs n) (h8 : n ≤ 8) : ((invL xs).map pairC).Pairwise (· ≤ ·) := by
  have hl := ht.len
  refine List.pairwise_map.2 ?_
  rw [invL, invTo, List.pairwise_flatMap]
  refine ⟨fun i _ => ?_, (List.pairwise_lt_range (n := xs.length)).imp_of_mem fun {a b} ha hb hab r hr s hs => ?_⟩
  · unfold invRow
    refine List.Pairwise.map _ (fun a b h => ?_) ((List.pairwise_lt_range (n := xs.length - (i + 1))).filter _)
    simp only [pairC, nth]
    simp
    omega
  · simp only [invRow, List.mem_map, List.mem_filter, List.mem_range] at hr hs ha hb
    obtain ⟨c, ⟨hc, _⟩, rfl⟩ := hr
    obtain ⟨d, ⟨hd, _⟩, rfl⟩ := hs
    simp only [pairC, nth]
    simp
    omega
/-- Rows that are sorted as numbers are the inversions in order. -/
theorem sorted_inv {xs : List Int} {n : Nat} (ht : Tree xs n) (h8 : n ≤ 8) {rs ss : List (List Int)} (hr : rs = hiTo xs n) (hs : ∀ s ∈ ss, s ∈ rs) (he : ss.map pairC = insSort (rs.map pairC)) : ss = invL xs := by
  have hp := hiTo_inv ht
  have e1 : insSort (rs.map pairC) = (invL xs).map pairC := by
    rw [hr, insSort_of_perm (hp.map pairC)]
    exact sorted_unique (insSort_sorted _) (inv_sorted ht h8) (insSort_perm _)
  have e2 : (ss.map pairC).map unPair = ss := by
    rw [List.map_map]
    conv => rhs; rw [← List.map_id ss]
    exact List.map_congr_left fun s h => inv_un ht h8 s (hp.subset (hr ▸ hs s h))
  have e3 : ((invL xs).map pairC).map unPair = invL xs := by
    rw [List.map_map]
    conv => rhs; rw [← List.map_id (invL xs)]
    exact List.map_congr_left fun s h => inv_un ht h8 s h
  rw [← e2, he, e1, e3]
theorem length_hiTo {xs : List Int} {n : Nat} (ht : Tree xs n) (h8 : n ≤ 8) : ∀ k, k ≤ n → (hiTo xs k).length ≤ 8 * k
  | 0, _ => Nat.zero_le _
  | k + 1, hk => by
    have := length_hiTo ht h8 k (by omega)
    have h := length_hiRow xs (k + 1) (dep xs ((k : Int) + 1))
    have d := (ht.dep (v := (k : Int) + 1) (by omega) (by omega)).2.2
    rw [hiTo_succ, List.length_append]
    omega
end Go.Proofs.Ytdemcjciijlbeaa
