/- Runs of a sorted list: how often each number occurs; in how many orders a list can stand. -/
import Derived.Test.YtakadjhbomggbaaGreatMathN
namespace Go.Proofs.YtakadjhbomggbaaGreat
open Go.RowKit

/-- How often numbers occur, one behind the other in a list. -/
def runsTo (s : List Int) : Nat → List Int
  | 0 => []
  | k + 1 => if k = 0 ∨ nth s (k - 1) ≠ nth s k then runsTo s k ++ [1] else (runsTo s k).set ((runsTo s k).length - 1) (nth (runsTo s k) ((runsTo s k).length - 1) + 1)
theorem length_runsTo (s : List Int) : ∀ k, (runsTo s k).length ≤ k ∧ (0 < k → 0 < (runsTo s k).length)
  | 0 => by simp [runsTo]
  | k + 1 => by
    have ih := length_runsTo s k
    simp only [runsTo]
    split
    · simp; omega
    · rename_i h
      rw [List.length_set]
      have : k ≠ 0 := fun e => h (.inl e)
      omega
/-- How often a number occurs. -/
def occ (s : List Int) (v : Int) : Int := (s.count v : Int)
theorem occ_succ {s : List Int} {k : Nat} (h : k < s.length) (v : Int) : occ (s.take (k + 1)) v = occ (s.take k) v + if nth s k = v then 1 else 0 := by
  unfold occ
  rw [take_succ_nth h, List.count_append, List.count_singleton]
  simp only [beq_iff_eq]
  split <;> omega
/-- The numbers that occur among those less than m: how often. -/
def occs (s : List Int) (m : Nat) : List Int := ((List.range m).map fun (v : Nat) => occ s v).filter fun c => c != 0
theorem occs_succ (s : List Int) (m : Nat) : occs s (m + 1) = occs s m ++ if occ s m = 0 then [] else [occ s m] := by
  unfold occs
  rw [List.range_succ, List.map_append, List.filter_append]
  congr 1
  by_cases h : occ s m = 0 <;> simp [h]
theorem occs_congr {s t : List Int} : ∀ {m : Nat}, (∀ v : Nat, v < m → occ s v = occ t v) → occs s m = occs t m
  | 0, _ => rfl
  | m + 1, h => by rw [occs_succ, occs_succ, occs_congr (m := m) (fun v hv => h v (by omega)), h m (by omega)]
theorem occs_more {s : List Int} {m : Nat} : ∀ k, (∀ v : Nat, m ≤ v → v < m + k → occ s v = 0) → occs s (m + k) = occs s m
  | 0, _ => rfl
  | k + 1, h => by
    rw [show m + (k + 1) = (m + k) + 1 from rfl, occs_succ, if_pos (h (m + k) (by omega) (by omega)), List.append_nil]
    exact occs_more k fun v a b => h v a (by omega)
theorem occ_none {s : List Int} {v : Int} (h : v ∉ s) : occ s v = 0 := by
  unfold occ
  rw [List.count_eq_zero.2 h]
  rfl
theorem occ_pos {s : List Int} {v : Int} (h : v ∈ s) : 0 < occ s v := by
  unfold occ
  have := List.count_pos_iff.2 h
  omega
/-- The runs of a sorted list: how often each number occurs. -/
theorem runs_occs {s : List Int} (hs : s.Pairwise (· ≤ ·)) (h0 : ∀ x ∈ s, 0 ≤ x) : ∀ k, k < s.length → ∀ m : Nat, nth s k = (m : Int) → runsTo s (k + 1) = occs (s.take (k + 1)) (m + 1)
  | 0, hk, m, hm => by
    have e : ∀ v : Nat, occ (s.take 1) v = if v = m then 1 else 0 := by
      intro v
      rw [occ_succ hk, hm]
      have : ((m : Int) = (v : Int)) = (v = m) := by apply propext; omega
      simp [occ, this]
    rw [occs_succ, show occs (s.take 1) m = [] from by
      have := occs_more (s := s.take 1) (m := 0) m (fun v _ hv => by rw [e, if_neg (by omega)])
      rw [Nat.zero_add] at this
      rw [this]; rfl, e, if_pos rfl]
    simp [runsTo]
  | k + 1, hk, m, hm => by
    have h1 : ∃ v : Nat, nth s k = (v : Int) := ⟨(nth s k).toNat, by have := h0 _ (nth_mem (xs := s) (i := k) (by omega)); omega⟩
    obtain ⟨v, hv⟩ := h1
    have hle := sorted_nth hs (i := k) (j := k + 1) (by omega) hk
    rw [hv, hm] at hle
    have ih := runs_occs hs h0 k (by omega) v hv
    have hup : ∀ u : Nat, (v : Int) < (u : Int) → occ (s.take (k + 1)) u = 0 := by
      intro u hu
      apply occ_none
      intro hmem
      obtain ⟨i, hi, e⟩ := mem_nth hmem
      rw [List.length_take] at hi
      rw [nth_take (by omega)] at e
      have := sorted_nth hs (i := i) (j := k) (by omega) (by omega)
      omega
    have hsucc := fun u : Nat => occ_succ (s := s) (k := k + 1) hk (u : Int)
    rw [hm] at hsucc
    have hpos : 0 < occ (s.take (k + 1)) v := occ_pos (by
      have := nth_mem (xs := s.take (k + 1)) (i := k) (by simp; omega)
      rw [nth_take (by omega), hv] at this
      exact this)
    rw [runsTo, show k + 1 - 1 = k from rfl, hv, hm]
    have ih' := ih
    generalize runsTo s (k + 1) = R at ih' ⊢
    by_cases e : v = m
    · subst e
      rw [if_neg (by simp)]
      rw [ih', occs_succ, occs_succ, if_neg (by omega)]
      have h2 : occ (s.take (k + 1 + 1)) v = occ (s.take (k + 1)) v + 1 := by rw [hsucc v, if_pos rfl]
      rw [if_neg (by omega), h2]
      have h3 : occs (s.take (k + 1 + 1)) v = occs (s.take (k + 1)) v := occs_congr fun u hu => by rw [hsucc u, if_neg (by omega)]; omega
      rw [h3]
      generalize occs (s.take (k + 1)) v = A
      rw [show (A ++ [occ (s.take (k + 1)) v]).length - 1 = A.length by simp, nth_append_at, List.set_append_right _ _ (Nat.le_refl _)]
      simp
    · rw [if_pos (.inr (by omega))]
      have h2 : occ (s.take (k + 1 + 1)) m = 1 := by rw [hsucc m, if_pos rfl, hup m (by omega)]; rfl
      rw [ih', occs_succ (s.take (k + 1 + 1)) m, h2, if_neg (by omega)]
      congr 1
      have h3 : occs (s.take (k + 1 + 1)) m = occs (s.take (k + 1)) m := occs_congr fun u hu => by rw [hsucc u, if_neg (by omega)]; omega
      rw [h3]
      have h4 := occs_more (s := s.take (k + 1)) (m := v + 1) (m - (v + 1)) (fun u a _ => hup u (by omega))
      rw [show v + 1 + (m - (v + 1)) = m by omega] at h4
      exact h4.symm
theorem runs_all {s : List Int} {m : Nat} (hs : s.Pairwise (· ≤ ·)) (h0 : ∀ x ∈ s, 0 ≤ x ∧ x < (m : Int)) : runsTo s s.length = occs s m := by
  by_cases hl : s.length = 0
  · have : s = [] := List.eq_nil_of_length_eq_zero hl
    subst this
    have := occs_more (s := []) (m := 0) m (fun v _ _ => by simp [occ])
    rw [Nat.zero_add] at this
    rw [this]
    rfl
  · obtain ⟨k, hk⟩ : ∃ k, s.length = k + 1 := ⟨s.length - 1, by omega⟩
    have hx := h0 _ (nth_mem (xs := s) (i := k) (by omega))
    have h1 := runs_occs hs (fun x hx => (h0 x hx).1) k (by omega) (nth s k).toNat (by omega)
    rw [hk, h1, List.take_of_length_le (by omega)]
    have h2 := occs_more (s := s) (m := (nth s k).toNat + 1) (m - ((nth s k).toNat + 1)) (fun u a _ => occ_none fun hm => by
      obtain ⟨i, hi, e⟩ := mem_nth hm
      have := sorted_nth hs (i := i) (j := k) (by omega) (by omega)
      omega)
    rw [show (nth s k).toNat + 1 + (m - ((nth s k).toNat + 1)) = m by omega] at h2
    exact h2.symm
theorem occ_perm {s t : List Int} (h : s.Perm t) (v : Int) : occ s v = occ t v := by unfold occ; rw [h.count_eq]
theorem occs_perm {s t : List Int} (h : s.Perm t) (m : Nat) : occs s m = occs t m := occs_congr fun v _ => occ_perm h v
/-- If each number occurs, none is left out. -/
theorem occs_full {s : List Int} {m : Nat} (h : ∀ v : Nat, v < m → (v : Int) ∈ s) : occs s m = (List.range m).map fun (v : Nat) => occ s v := by
  unfold occs
  rw [List.filter_eq_self]
  intro c hc
  obtain ⟨v, hv, rfl⟩ := List.mem_map.1 hc
  have := occ_pos (h v (by simpa using hv))
  simp
  omega

/-- The factorial. -/
def fct : Nat → Nat
  | 0 => 1
  | n + 1 => (n + 1) * fct n
theorem fct_pos : ∀ n, 0 < fct n
  | 0 => by decide
  | n + 1 => Nat.mul_pos (by omega) (fct_pos n)
theorem chs_fct : ∀ n, n < 9 → ∀ k, k < 9 → k ≤ n → chs n k * fct k * fct (n - k) = fct n := by decide +kernel
/-- The orders, group by group: how many, and of how many cars. -/
def groups : List Int → Nat × Nat
  | gs => gs.foldl (fun r g => (r.1 * chs (r.2 + g.toNat) g.toNat, r.2 + g.toNat)) (1, 0)
theorem groups_snoc (gs : List Int) (g : Int) : groups (gs ++ [g]) = ((groups gs).1 * chs ((groups gs).2 + g.toNat) g.toNat, (groups gs).2 + g.toNat) := by simp [groups]
/-- The product of the factorials. -/
def fcts (gs : List Int) : Nat := gs.foldl (fun r g => r * fct g.toNat) 1
theorem fcts_snoc (gs : List Int) (g : Int) : fcts (gs ++ [g]) = fcts gs * fct g.toNat := by simp [fcts]
theorem groups_fct : ∀ (k : Nat) (gs : List Int), gs.length = k → (groups gs).2 < 9 → (groups gs).1 * fcts gs = fct (groups gs).2
  | 0, gs, h, _ => by
    have : gs = [] := List.eq_nil_of_length_eq_zero h
    subst this
    rfl
  | k + 1, gs, h, h9 => by
    obtain ⟨hs, g, rfl⟩ : ∃ hs g, gs = hs ++ [g] := ⟨gs.dropLast, gs.getLast (by intro e; simp [e] at h), (List.dropLast_concat_getLast (by intro e; simp [e] at h)).symm⟩
    rw [groups_snoc] at h9 ⊢
    simp only at h9
    have ih := groups_fct k hs (by simpa using h) (by omega)
    rw [fcts_snoc]
    have hc := chs_fct ((groups hs).2 + g.toNat) (by omega) g.toNat (by omega) (by omega)
    rw [show (groups hs).2 + g.toNat - g.toNat = (groups hs).2 by omega, ← ih] at hc
    rw [← hc]
    simp only [Nat.mul_comm, Nat.mul_left_comm, Nat.mul_assoc]
theorem groups_sum (s : List Int) : ∀ m : Nat, (groups (occs s m)).2 = sumTo (fun v => s.count (v : Int)) m
  | 0 => rfl
  | m + 1 => by
    have ih := groups_sum s m
    rw [occs_succ]
    simp only [sumTo]
    split
    · rename_i h
      unfold occ at h
      rw [List.append_nil, ih]
      omega
    · rw [groups_snoc, ih]
      simp [occ]
theorem fcts_occs (s : List Int) : ∀ m : Nat, fcts (occs s (m + 1)) = fcts (occs s m) * fct (s.count (m : Int)) := by
  intro m
  rw [occs_succ]
  split
  · rename_i h
    unfold occ at h
    rw [List.append_nil, show s.count (m : Int) = 0 by omega]
    simp [fct]
  · rw [fcts_snoc]
    simp [occ]
theorem sum_counts {m : Nat} : ∀ (s : List Int), (∀ x ∈ s, 0 ≤ x ∧ x < (m : Int)) → sumTo (fun v => s.count (v : Int)) m = s.length
  | [], _ => by exact sumTo_zero fun _ _ => by simp
  | x :: s, h => by
    have ih := sum_counts s (fun y hy => h y (by simp [hy]))
    have hx := h x (by simp)
    have e : sumTo (fun v => (x :: s).count (v : Int)) m = sumTo (fun v => s.count (v : Int) + if v = x.toNat then 1 else 0) m := sumTo_congr fun v _ => by
      rw [List.count_cons]
      congr 1
      have : (x == (v : Int)) = decide (v = x.toNat) := by rw [Bool.eq_iff_iff]; simp; omega
      rw [this]
      simp
    rw [e, sumTo_add, ih]
    have h2 : ∀ k, sumTo (fun v => if v = x.toNat then 1 else 0) k = if x.toNat < k then 1 else 0 := by
      intro k
      induction k with
      | zero => rfl
      | succ k ih => simp only [sumTo]; rw [ih]; split <;> split <;> split <;> omega
    rw [h2, if_pos (by omega)]
    simp
/-- How many orders there are. -/
def ordersN (s : List Int) (m : Nat) : Nat := (groups (occs s m)).1
theorem orders_fct {s : List Int} {m : Nat} (h8 : s.length ≤ 8) (h : ∀ x ∈ s, 0 ≤ x ∧ x < (m : Int)) : ordersN s m * fcts (occs s m) = fct s.length := by
  have h1 : (groups (occs s m)).2 = s.length := by rw [groups_sum, sum_counts s h]
  have := groups_fct _ (occs s m) rfl (by omega)
  rw [h1] at this
  exact this
theorem fcts_pos : ∀ (s : List Int) (m : Nat), 0 < fcts (occs s m)
  | _, 0 => by simp [occs, fcts]
  | s, m + 1 => by rw [fcts_occs]; exact Nat.mul_pos (fcts_pos s m) (fct_pos _)
theorem fcts_step {s t : List Int} {x : Nat} : ∀ m : Nat, (∀ v : Nat, t.count (v : Int) = s.count (v : Int) + if v = x then 1 else 0) → fcts (occs t m) = fcts (occs s m) * if x < m then s.count (x : Int) + 1 else 1
  | 0, _ => by simp [occs, fcts]
  | m + 1, h => by
    rw [fcts_occs, fcts_occs, fcts_step m h, h m]
    by_cases e : m = x
    · subst e
      rw [if_neg (by omega), if_pos rfl, if_pos (by omega)]
      simp only [fct, Nat.mul_one]
      rw [Nat.mul_assoc, Nat.mul_comm (fct _)]
    · rw [if_neg e]
      have : (x < m + 1) = (x < m) := by apply propext; omega
      simp only [this]
      simp only [Nat.mul_comm, Nat.mul_left_comm, Nat.add_zero]
/-- One car more. -/
theorem orders_step {s : List Int} {m k x : Nat} (h8 : s.length ≤ 8) (h : ∀ y ∈ s, 0 ≤ y ∧ y < (m : Int)) (hk : k < s.length) (hx : nth s k = (x : Int)) :
    ordersN (s.take (k + 1)) m = ordersN (s.take k) m * (k + 1) / ((s.take k).count (x : Int) + 1) := by
  have hxm : x < m := by have := (h _ (nth_mem (xs := s) (i := k) hk)).2; omega
  have hb : ∀ j, ∀ y ∈ s.take j, 0 ≤ y ∧ y < (m : Int) := fun j y hy => h y (List.mem_of_mem_take hy)
  have h1 := orders_fct (s := s.take (k + 1)) (m := m) (by simp; omega) (hb _)
  have h2 := orders_fct (s := s.take k) (m := m) (by simp; omega) (hb _)
  have h3 := fcts_step (s := s.take k) (t := s.take (k + 1)) (x := x) m (fun v => by
    rw [take_succ_nth hk, List.count_append, List.count_singleton, hx]
    congr 1
    have : ((x : Int) == (v : Int)) = decide (v = x) := by rw [Bool.eq_iff_iff]; simp; omega
    rw [this]
    simp)
  rw [if_pos hxm] at h3
  rw [List.length_take, Nat.min_eq_left (by omega)] at h1 h2
  have hf : fct (k + 1) = (k + 1) * fct k := rfl
  rw [hf, ← h2, h3] at h1
  have hp := fcts_pos (s.take k) m
  have h4 : ordersN (s.take (k + 1)) m * ((s.take k).count (x : Int) + 1) = ordersN (s.take k) m * (k + 1) := by
    apply Nat.eq_of_mul_eq_mul_right hp
    rw [Nat.mul_assoc, Nat.mul_comm ((s.take k).count (x : Int) + 1), h1]
    simp only [Nat.mul_comm, Nat.mul_left_comm]
  rw [← h4, Nat.mul_div_cancel _ (by omega)]
theorem orders_le {s : List Int} {m : Nat} (h8 : s.length ≤ 8) (h : ∀ x ∈ s, 0 ≤ x ∧ x < (m : Int)) : ordersN s m ≤ 40320 := by
  have h1 := orders_fct h8 h
  have h2 := fcts_pos s m
  have h3 : ∀ n, n < 9 → fct n ≤ 40320 := by decide
  have h4 := h3 s.length (by omega)
  have := Nat.le_mul_of_pos_right (ordersN s m) h2
  omega
def ordersOf (xs : List Int) : Int × Bool := if isPark xs then ((ordersN xs xs.length : Int), true) else (0, false)
end Go.Proofs.YtakadjhbomggbaaGreat
