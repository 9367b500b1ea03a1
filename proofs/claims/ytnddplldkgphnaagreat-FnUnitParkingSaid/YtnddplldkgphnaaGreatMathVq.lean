/- Chapter 9: parts are those between neighbouring cuts; blocks are parts. -/
import Derived.Test.YtnddplldkgphnaaGreatMathVp
namespace Go.Proofs.YtnddplldkgphnaaGreat
open Go.RowKit

theorem filter_lt_range (q : Nat → Bool) (n : Nat) : ∀ m, (List.range m).filter (fun b => decide (b < n) && q b) = (List.range (min m n)).filter q
  | 0 => by simp
  | m + 1 => by
    rw [List.range_succ, List.filter_append, filter_lt_range q n m]
    by_cases h : m < n
    · rw [show min (m + 1) n = m + 1 by omega, show min m n = m by omega, List.range_succ, List.filter_append]
      simp [h, List.filter_cons]
    · rw [show min (m + 1) n = min m n by omega]
      simp [h]
/-- The starts of parts. -/
def starts (xs : List Int) : List Nat := (List.range xs.length).filter (st xs)
theorem mem_starts {xs : List Int} {b : Nat} : b ∈ starts xs ↔ b < xs.length ∧ st xs b = true := by simp [starts]
theorem starts_lt (xs : List Int) : (starts xs).Pairwise (· < ·) := List.Pairwise.filter _ List.pairwise_lt_range
theorem begC_facts {xs : List Int} (h : isPark xs = true) {c : Nat} (hc : c < xs.length) : begC xs (c : Int) < xs.length ∧ st xs (begC xs (c : Int)) = true := by
  have hb := (isPark_bounds h).2 _ (nth_mem hc)
  unfold begC
  rw [Int.toNat_natCast]
  have h1 := begF_le xs (nth xs c).toNat
  exact ⟨by omega, (begF_st h _ (by omega)).1⟩
theorem start_car {xs : List Int} (h : isPark xs = true) {b : Nat} (hb : b < xs.length) (hs : st xs b = true) : ∃ c : Nat, c < xs.length ∧ nth xs c = (b : Int) ∧ begC xs (c : Int) = b := by
  have h1 := (st_at h hb).1 hs
  have h2 : (b : Int) ∈ xs := (insSort_perm xs).subset (by rw [← h1]; exact nth_mem (by rw [length_insSort]; exact hb))
  obtain ⟨c, hc, e⟩ := mem_nth h2
  refine ⟨c, hc, e, ?_⟩
  unfold begC
  rw [Int.toNat_natCast, e, Int.toNat_natCast]
  exact begF_eq h (by omega) (Nat.le_refl _) hs (fun c h1 h2 => by omega)
theorem partRows_starts {xs cars : List Int} (h : isPark xs = true) (hp : cars.Perm (upto xs.length)) : partRows xs cars = (starts xs).map (grp xs cars) := by
  have h8 := (isPark_bounds h).1
  unfold partRows starts
  rw [List.filter_map]
  congr 1
  rw [← show min 8 xs.length = xs.length by omega, ← filter_lt_range]
  refine List.filter_congr fun b _ => ?_
  simp only [Function.comp]
  rw [Bool.eq_iff_iff, Bool.and_eq_true, decide_eq_true_eq, Bool.not_eq_true', List.isEmpty_eq_false_iff]
  constructor
  · intro hne
    obtain ⟨c, hc⟩ := List.exists_mem_of_ne_nil _ hne
    unfold grp at hc
    rw [List.mem_filter, decide_eq_true_eq] at hc
    obtain ⟨i, hi, rfl⟩ := mem_upto.1 (hp.subset hc.1)
    rw [← hc.2]
    have := begC_facts h hi
    exact ⟨by omega, this.2⟩
  · rintro ⟨hb, hs⟩
    obtain ⟨c, hc, _, e⟩ := start_car h hb hs
    refine List.ne_nil_of_mem (a := (c : Int)) ?_
    unfold grp
    rw [List.mem_filter, decide_eq_true_eq]
    exact ⟨hp.symm.subset (mem_upto.2 ⟨c, hc, rfl⟩), e⟩
theorem self_upto (xs : List Int) : xs = (upto xs.length).map fun c => nth xs c.toNat := ext_nth (by simp [length_upto]) fun i hi => by
  simp [nth, upto, hi]
theorem grp_values {xs : List Int} (a : Nat) : (grp xs (upto xs.length) a).map (fun c => nth xs c.toNat) = xs.filter fun x => decide (begF xs x.toNat = a) := by
  conv => rhs; rw [self_upto xs]
  rw [List.filter_map, ← self_upto xs]
  rfl

/-! ### The cuts with both ends -/
theorem idxs_starts {xs : List Int} (h : isPark xs = true) (hn : 0 < xs.length) : (starts xs).map (fun (b : Nat) => (b : Int)) = 0 :: idxs (isCut xs) xs.length := by
  unfold starts idxs
  obtain ⟨m, hm⟩ : ∃ m, xs.length = m + 1 := ⟨xs.length - 1, by omega⟩
  have h0 : st xs 0 = true := (st_iff h (Nat.zero_le _)).2 (by rw [show ((0 : Nat) : Int) = 0 from rfl, below_zero (fun x hx => ((isPark_bounds h).2 x hx).1)]; omega)
  have h1 : isCut xs 0 = false := by simp [isCut]
  rw [hm, List.range_succ_eq_map, List.filter_cons, List.filter_cons, if_pos h0, h1, if_neg (by simp)]
  rw [List.map_cons]
  congr 2
  refine List.filter_congr fun b hb => ?_
  obtain ⟨c, _, rfl⟩ := List.mem_map.1 hb
  simp [isCut, st]
  omega
theorem cutList_starts {xs : List Int} (h : isPark xs = true) (hn : 0 < xs.length) : cutList xs = (starts xs ++ [xs.length]).map fun (b : Nat) => (b : Int) := by
  unfold cutList
  rw [List.map_append, idxs_starts h hn]
  rfl
def nthN (l : List Nat) (i : Nat) : Nat := l.getD i 0
theorem nth_cast (l : List Nat) (i : Nat) : nth (l.map fun (b : Nat) => (b : Int)) i = (nthN l i : Int) := by
  unfold nth nthN
  by_cases h : i < l.length
  · simp [h]
  · simp [h]
/-- A start and what comes behind it. -/
def ends (xs : List Int) : List Nat := starts xs ++ [xs.length]
theorem ends_lt (xs : List Int) : (ends xs).Pairwise (· < ·) := by
  unfold ends
  rw [List.pairwise_append]
  refine ⟨starts_lt xs, List.pairwise_singleton _ _, fun a ha b hb => ?_⟩
  rw [List.mem_singleton] at hb
  subst hb
  exact (mem_starts.1 ha).1
theorem nthN_lt {l : List Nat} (h : l.Pairwise (· < ·)) {i j : Nat} (hij : i < j) (hj : j < l.length) : nthN l i < nthN l j := by
  have := List.pairwise_iff_getElem.1 h i j (by omega) hj hij
  simpa [nthN, hj, show i < l.length by omega] using this
theorem ends_left {xs : List Int} {k : Nat} (hk : k < (starts xs).length) : nthN (ends xs) k = (starts xs)[k] := by
  unfold ends nthN
  simp [List.getElem?_append, hk]
/-- A number lies in a part. -/
theorem part_iff {xs : List Int} (h : isPark xs = true) {k x : Nat} (hk : k < (starts xs).length) (hx : x < xs.length) : (nthN (ends xs) k ≤ x ∧ x < nthN (ends xs) (k + 1)) ↔ begF xs x = nthN (ends xs) k := by
  have hl : (ends xs).length = (starts xs).length + 1 := by simp [ends]
  have hm : nthN (ends xs) k ∈ starts xs := by rw [ends_left hk]; exact List.getElem_mem hk
  obtain ⟨m1, m2⟩ := mem_starts.1 hm
  constructor
  · rintro ⟨h1, h2⟩
    refine begF_eq h (by omega) h1 m2 fun c hc1 hc2 => ?_
    rw [Bool.eq_false_iff]
    intro hs
    have hc : c ∈ starts xs := mem_starts.2 ⟨by omega, hs⟩
    obtain ⟨j, hj, rfl⟩ := List.getElem_of_mem hc
    rw [← ends_left hj] at hc1 hc2
    have hkj : k < j := by
      rcases Nat.lt_trichotomy k j with h3 | h3 | h3
      · exact h3
      · subst h3; omega
      · have := nthN_lt (ends_lt xs) h3 (by omega); omega
    rcases Nat.lt_or_eq_of_le (show k + 1 ≤ j from hkj) with h3 | h3
    · have := nthN_lt (ends_lt xs) h3 (by omega); omega
    · subst h3; omega
  · intro e
    have h1 := begF_le xs x
    refine ⟨by omega, ?_⟩
    obtain ⟨g1, g2⟩ := begF_st h x (by omega)
    refine Classical.byContradiction fun hge => ?_
    by_cases hk1 : k + 1 < (starts xs).length
    · have : nthN (ends xs) k < nthN (ends xs) (k + 1) := nthN_lt (ends_lt xs) (Nat.lt_succ_self k) (by omega)
      have hm' : nthN (ends xs) (k + 1) ∈ starts xs := by rw [ends_left hk1]; exact List.getElem_mem hk1
      have := g2 (nthN (ends xs) (k + 1)) (by omega) (by omega)
      rw [(mem_starts.1 hm').2] at this
      cases this
    · have : nthN (ends xs) (k + 1) = xs.length := by
        unfold ends nthN
        simp [show k + 1 = (starts xs).length by omega]
      omega
theorem primeParts_rows {xs : List Int} (h : isPark xs = true) (hn : 0 < xs.length) : primeParts xs = (starts xs).map fun a => (xs.filter fun x => decide (begF xs x.toNat = a)).map (· - (a : Int)) := by
  have hcl := cutList_starts h hn
  unfold primeParts
  apply List.ext_getElem
  · rw [hcl]; simp
  · intro i h1 h2
    have hi : i < (starts xs).length := by simpa using h2
    simp only [List.getElem_map, List.getElem_range]
    rw [hcl, nth_cast, nth_cast]
    have e1 : nthN (starts xs ++ [xs.length]) i = (starts xs)[i] := ends_left hi
    unfold partAt
    rw [← e1]
    congr 1
    refine List.filter_congr fun x hx => ?_
    have hb := (isPark_bounds h).2 x hx
    have := part_iff h hi (x := x.toNat) (by omega)
    unfold ends at this
    rw [Bool.eq_iff_iff, Bool.and_eq_true, decide_eq_true_eq, decide_eq_true_eq, decide_eq_true_eq, ← this]
    omega
/-- How many are before a part. -/
theorem grp_length {xs cars : List Int} (h : isPark xs = true) (hp : cars.Perm (upto xs.length)) {k : Nat} (hk : k < (starts xs).length) : nthN (ends xs) k + (grp xs cars (nthN (ends xs) k)).length = nthN (ends xs) (k + 1) := by
  have e1 : (grp xs cars (nthN (ends xs) k)).length = (xs.filter fun x => decide (begF xs x.toNat = nthN (ends xs) k)).length := by
    rw [← grp_values, List.length_map]
    unfold grp
    rw [← List.countP_eq_length_filter, ← List.countP_eq_length_filter]
    exact hp.countP_eq _
  have hl : (ends xs).length = (starts xs).length + 1 := by simp [ends]
  have hlt : nthN (ends xs) k < nthN (ends xs) (k + 1) := nthN_lt (ends_lt xs) (Nat.lt_succ_self k) (by omega)
  have hend : ∀ j, j < (ends xs).length → below xs ((nthN (ends xs) j : Nat) : Int) = nthN (ends xs) j := fun j hj => by
    by_cases hj1 : j < (starts xs).length
    · have hm : nthN (ends xs) j ∈ starts xs := by rw [ends_left hj1]; exact List.getElem_mem hj1
      have := (mem_starts.1 hm).2
      simp only [st, decide_eq_true_eq] at this
      omega
    · have e2 : nthN (ends xs) j = xs.length := by
        unfold ends nthN
        simp [show j = (starts xs).length by omega]
      rw [e2]
      exact below_full (fun x hx => by have := (isPark_bounds h).2 x hx; omega)
  have b1 := hend k (by omega)
  have b2 := hend (k + 1) (by omega)
  rw [e1]
  have e3 : below xs ((nthN (ends xs) (k + 1) : Nat) : Int) = below xs ((nthN (ends xs) k : Nat) : Int) + (xs.filter fun x => decide (begF xs x.toNat = nthN (ends xs) k)).length := by
    rw [← List.countP_eq_length_filter]
    unfold below
    have key : ∀ ys : List Int, (∀ x ∈ ys, x ∈ xs) → ys.countP (fun x => decide (x < ((nthN (ends xs) (k + 1) : Nat) : Int))) = ys.countP (fun x => decide (x < ((nthN (ends xs) k : Nat) : Int))) + ys.countP (fun x => decide (begF xs x.toNat = nthN (ends xs) k)) := by
      intro ys
      induction ys with
      | nil => intro _; rfl
      | cons y ys ih =>
        intro hy
        have ih := ih fun x hx => hy x (List.mem_cons_of_mem _ hx)
        have hb := (isPark_bounds h).2 y (hy y (List.mem_cons_self ..))
        have hpi := part_iff h hk (x := y.toNat) (by omega)
        rw [List.countP_cons, List.countP_cons, List.countP_cons, ih]
        by_cases q1 : y < ((nthN (ends xs) k : Nat) : Int)
        · have q2 : y < ((nthN (ends xs) (k + 1) : Nat) : Int) := by omega
          have q3 : ¬ begF xs y.toNat = nthN (ends xs) k := fun e => by have := hpi.2 e; omega
          simp [q1, q2, q3]
          omega
        · by_cases q2 : y < ((nthN (ends xs) (k + 1) : Nat) : Int)
          · have q3 : begF xs y.toNat = nthN (ends xs) k := hpi.1 (by omega)
            simp [q1, q2, q3]
            omega
          · have q3 : ¬ begF xs y.toNat = nthN (ends xs) k := fun e => by have := hpi.2 e; omega
            simp [q1, q2, q3]
    exact key xs fun x hx => hx
  omega
end Go.Proofs.YtnddplldkgphnaaGreat
