/- Chapter 9: unit parking functions and their blocks. -/
import Derived.Test.YtehdccfkkfkciabMathVq
import Derived.Test.YtehdccfkkfkciabMathUa
namespace Go.Proofs.Ytehdccfkkfkciab
open Go.RowKit

/-! ### Blocks -/
def addLast (L : List (List Int)) (v : Int) : List (List Int) := L.dropLast ++ [L.getLast?.getD [] ++ [v]]
def blk (xs ls : List Int) : Nat → List (List Int)
  | 0 => []
  | k + 1 => if nth xs (nth ls k).toNat = (k : Int) then blk xs ls k ++ [[nth ls k]] else addLast (blk xs ls k) (nth ls k)
theorem addLast_snoc (L : List (List Int)) (r : List Int) (v : Int) : addLast (L ++ [r]) v = L ++ [r ++ [v]] := by simp [addLast]
def unitBlocksOf (xs : List Int) : List (List Int) × Bool := if isPark xs && unitB xs 1 then (blk xs (fairL xs) xs.length, true) else ([], false)
theorem fair_bounds {xs : List Int} (h : isPark xs = true) : ∀ c, c < xs.length → 0 ≤ nth xs c ∧ nth xs c < ((12 : Nat) : Int) := fun c hc => by
  have h1 := isPark_bounds h
  have := h1.2 _ (nth_mem hc)
  omega
theorem fair_perm {xs : List Int} (h : isPark xs = true) : (fairL xs).Perm (upto xs.length) := carsP_perm rfl (by have := (isPark_bounds h).1; omega) (fair_bounds h)
theorem fair_length {xs : List Int} (h : isPark xs = true) : (fairL xs).length = xs.length := by rw [(fair_perm h).length_eq, length_upto]
theorem keyC_le {xs : List Int} {u v : Int} (hu : 0 ≤ u) (hu2 : u < 50) (hv : 0 ≤ v) (hv2 : v < 50) (h : keyC xs u ≤ keyC xs v) : nth xs u.toNat ≤ nth xs v.toNat := by
  unfold keyC at h
  omega
/-- In the order by favourites, favourites do not fall. -/
theorem fair_sorted {xs : List Int} {n P : Nat} (hl : xs.length = n) (h8 : n ≤ 50) (hb : ∀ c, c < n → 0 ≤ nth xs c ∧ nth xs c < (P : Int)) : ((carsTo xs P).map fun c => nth xs c.toNat) = insSort xs := by
  have hp := carsP_perm hl h8 hb
  refine sorted_unique ?_ (insSort_sorted xs) ?_
  · rw [List.pairwise_map]
    refine (carsTo_sorted (by omega) (fun c hc => (hb c (by omega)).1) P).imp_of_mem fun {a b} ha hb' h => ?_
    obtain ⟨i, hi, rfl⟩ := mem_upto.1 (hp.subset ha)
    obtain ⟨j, hj, rfl⟩ := mem_upto.1 (hp.subset hb')
    exact keyC_le (by omega) (by omega) (by omega) (by omega) (by omega)
  · refine (hp.map _).trans ?_
    rw [← hl, ← self_upto xs]
    exact (insSort_perm xs).symm
theorem fair_at {xs : List Int} (h : isPark xs = true) {k : Nat} (hk : k < xs.length) : nth xs (nth (fairL xs) k).toNat = nth (insSort xs) k := by
  have h8 := (isPark_bounds h).1
  rw [← fair_sorted rfl (by omega) (fair_bounds h)]
  have hl := fair_length h
  unfold fairL at hl ⊢
  generalize carsTo xs 12 = ls at *
  simp [nth, hl, hk]
theorem app_congr {α : Type} {A B C D : List α} (h1 : A = B) (h2 : C = D) : A ++ C = B ++ D := by rw [h1, h2]
set_option maxHeartbeats 1000000 in
theorem blk_step {xs : List Int} (h : isPark xs = true) : ∀ k, k ≤ xs.length → blk xs (fairL xs) k = ((List.range k).filter (st xs)).map (grp xs ((fairL xs).take k))
  | 0, _ => rfl
  | k + 1, hk => by
    have ih := blk_step h k (by omega)
    have hl := fair_length h
    have hv : (fairL xs).take (k + 1) = (fairL xs).take k ++ [nth (fairL xs) k] := take_succ_nth (by omega)
    have hs := fair_at h (k := k) (by omega)
    have hps := park_sorted h k (by omega)
    have hst := st_at h (b := k) (by omega)
    obtain ⟨c, hc, hcn⟩ := carsP_nth rfl (by have := (isPark_bounds h).1; omega) (fair_bounds h) (k := k) (by omega)
    have hc : nth (fairL xs) k = (c : Int) := hc
    rw [blk, hs, hv, List.range_succ, List.filter_append]
    have hbc : begC xs (nth (fairL xs) k) = begF xs (nth (insSort xs) k).toNat := by unfold begC; rw [hs]
    by_cases e : nth (insSort xs) k = (k : Int)
    · have hsk := hst.2 e
      rw [if_pos e, ih]
      have e1 : begC xs (nth (fairL xs) k) = k := by
        rw [hbc, e, Int.toNat_natCast]
        exact begF_stop ((st_iff h (by omega)).1 hsk)
      have e2 : ([k].filter (st xs)) = [k] := by simp [hsk]
      rw [e2, List.map_append, List.map_singleton]
      refine app_congr ?_ ?_
      · refine List.map_congr_left fun a ha => ?_
        have := List.mem_range.1 (List.mem_filter.1 ha).1
        rw [grp_snoc, if_neg (by omega)]
      · rw [grp_snoc, if_pos e1]
        have : grp xs ((fairL xs).take k) k = [] := by
          unfold grp
          rw [List.filter_eq_nil_iff]
          intro u hu
          obtain ⟨j, hj, rfl⟩ := mem_nth hu
          have hjk : j < k := by rw [List.length_take] at hj; omega
          rw [nth_take hjk]
          have h1 := fair_at h (k := j) (by omega)
          have h2 := park_sorted h j (by omega)
          have h3 := begF_le xs (nth xs (nth (fairL xs) j).toNat).toNat
          unfold begC
          simp only [decide_eq_true_eq]
          omega
        rw [this]
        rfl
    · have hsk : st xs k = false := by rw [Bool.eq_false_iff]; exact fun hh => e (hst.1 hh)
      have hk0 : 0 < k := by
        rcases Nat.eq_zero_or_pos k with rfl | h0
        · exfalso; apply e; omega
        · exact h0
      have e2 : ([k].filter (st xs)) = [] := by simp [hsk]
      rw [if_neg e, e2, List.append_nil, ih]
      have h0 : st xs 0 = true := (st_iff h (Nat.zero_le _)).2 (by rw [show ((0 : Nat) : Int) = 0 from rfl, below_zero (fun x hx => ((isPark_bounds h).2 x hx).1)]; omega)
      have hne : (List.range k).filter (st xs) ≠ [] := List.ne_nil_of_mem (a := 0) (List.mem_filter.2 ⟨List.mem_range.2 hk0, h0⟩)
      have hsp := List.dropLast_concat_getLast hne
      have hlt : ((List.range k).filter (st xs)).Pairwise (· < ·) := List.Pairwise.filter _ List.pairwise_lt_range
      have hma := List.getLast_mem hne
      have hmem : ∀ z, z < k → st xs z = true → z ∈ (List.range k).filter (st xs) := fun z h1 h2 => List.mem_filter.2 ⟨List.mem_range.2 h1, h2⟩
      have hall : ∀ z ∈ (List.range k).filter (st xs), z < k ∧ st xs z = true := fun z hz => ⟨List.mem_range.1 (List.mem_filter.1 hz).1, (List.mem_filter.1 hz).2⟩
      generalize (List.range k).filter (st xs) = F at *
      generalize F.getLast hne = a at *
      generalize F.dropLast = G at *
      subst hsp
      rw [List.pairwise_append] at hlt
      have hGa : ∀ g ∈ G, g < a := fun g hg => hlt.2.2 g hg a (by simp)
      obtain ⟨ha1, ha2⟩ := hall a hma
      have e1 : begC xs (nth (fairL xs) k) = a := by
        rw [hbc]
        have q1 := (st_at h (b := a) (by omega)).1 ha2
        have q2 := sorted_nth (insSort_sorted xs) (i := a) (j := k) (by omega) (by rw [length_insSort]; omega)
        refine begF_eq h (by omega) (by omega) ha2 fun z h1 h2 => ?_
        rw [Bool.eq_false_iff]
        intro hz
        rcases List.mem_append.1 (hmem z (by omega) hz) with h3 | h3
        · have := hGa z h3; omega
        · rw [List.mem_singleton] at h3; omega
      rw [List.map_append, List.map_singleton, addLast_snoc, List.map_append, List.map_singleton]
      refine app_congr ?_ ?_
      · refine List.map_congr_left fun g hg => ?_
        have := hGa g hg
        rw [grp_snoc, if_neg (by omega)]
      · rw [grp_snoc, if_pos e1]
theorem blk_rows {xs : List Int} (h : isPark xs = true) : blk xs (fairL xs) xs.length = partRows xs (fairL xs) := by
  rw [blk_step h _ (Nat.le_refl _), partRows_starts h (fair_perm h), List.take_of_length_le (by rw [fair_length h]; exact Nat.le_refl _)]
  rfl
end Go.Proofs.Ytehdccfkkfkciab
