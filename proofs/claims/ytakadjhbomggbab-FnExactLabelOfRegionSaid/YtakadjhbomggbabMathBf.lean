/- Breadth orders, and the trees of parking functions. -/
import Derived.Test.YtakadjhbomggbabMathTr
namespace Go.Proofs.Ytakadjhbomggbab
open Go.RowKit

/-- The breadth order, as far as the first k are looked at. -/
def bfs (ps : List Int) : Nat → List Int
  | 0 => [0]
  | k + 1 => bfs ps k ++ if k < (bfs ps k).length then nodesW ps (nth (bfs ps k) k) else []
def brOrder (ps : List Int) : List Int := bfs ps (ps.length + 1)
theorem nth_left {xs ys : List Int} {i : Nat} (h : i < xs.length) : nth (xs ++ ys) i = nth xs i := nth_append_left h
theorem bfs_step {ps : List Int} {k : Nat} (h : k < (bfs ps k).length) : bfs ps (k + 1) = bfs ps k ++ nodesW ps (nth (bfs ps k) k) := by simp [bfs, h]
theorem bfs_grows (ps : List Int) (k : Nat) : ∀ m, ∃ t, bfs ps (k + m) = bfs ps k ++ t
  | 0 => ⟨[], by simp⟩
  | m + 1 => by
    obtain ⟨t, ht⟩ := bfs_grows ps k m
    refine ⟨t ++ if k + m < (bfs ps (k + m)).length then nodesW ps (nth (bfs ps (k + m)) (k + m)) else [], ?_⟩
    rw [← Nat.add_assoc, ← List.append_assoc, ← ht]
    rfl
theorem bfs_pos (ps : List Int) (k : Nat) : 0 < (bfs ps k).length := by
  obtain ⟨t, ht⟩ := bfs_grows ps 0 k
  rw [Nat.zero_add] at ht
  rw [ht]; simp [bfs]
theorem bfs_first (ps : List Int) (k : Nat) : nth (bfs ps k) 0 = 0 := by
  obtain ⟨t, ht⟩ := bfs_grows ps 0 k
  rw [Nat.zero_add] at ht
  rw [ht]; simp [bfs, nth]
theorem bfs_nth {ps : List Int} {k m i : Nat} (hkm : k ≤ m) (hi : i < (bfs ps k).length) : nth (bfs ps m) i = nth (bfs ps k) i := by
  obtain ⟨t, ht⟩ := bfs_grows ps k (m - k)
  rw [show k + (m - k) = m by omega] at ht
  rw [ht, nth_left hi]
theorem bfs_len_mono {ps : List Int} {k m : Nat} (hkm : k ≤ m) : (bfs ps k).length ≤ (bfs ps m).length := by
  obtain ⟨t, ht⟩ := bfs_grows ps k (m - k)
  rw [show k + (m - k) = m by omega] at ht
  rw [ht]; simp
theorem bfs_mem {ps : List Int} {v : Int} : ∀ k, v ∈ bfs ps k → v = 0 ∨ (1 ≤ v ∧ v ≤ ps.length ∧ ∃ j, j < k ∧ j < (bfs ps k).length ∧ par ps v = nth (bfs ps k) j)
  | 0, h => by simp [bfs] at h; exact .inl h
  | k + 1, h => by
    have hl : (bfs ps k).length ≤ (bfs ps (k + 1)).length := bfs_len_mono (Nat.le_succ k)
    by_cases hk : k < (bfs ps k).length
    · rw [bfs_step hk, List.mem_append] at h
      rcases h with h | h
      · rcases bfs_mem k h with h | ⟨h1, h2, j, h3, h4, h5⟩
        · exact .inl h
        · exact .inr ⟨h1, h2, j, by omega, by omega, by rw [bfs_nth (Nat.le_succ k) h4]; exact h5⟩
      · obtain ⟨h1, h2, h3⟩ := mem_nodesW.1 h
        exact .inr ⟨h1, h2, k, by omega, by omega, by rw [bfs_nth (Nat.le_succ k) hk]; exact h3⟩
    · have e : bfs ps (k + 1) = bfs ps k := by simp [bfs, hk]
      rw [e] at h ⊢
      rcases bfs_mem k h with h | ⟨h1, h2, j, h3, h4, h5⟩
      · exact .inl h
      · exact .inr ⟨h1, h2, j, by omega, h4, h5⟩
theorem nth_inj {xs : List Int} (h : xs.Nodup) {i j : Nat} (hi : i < xs.length) (hj : j < xs.length) (e : nth xs i = nth xs j) : i = j := by
  simp [nth, hi, hj] at e
  exact (List.getElem_inj h).1 e
theorem bfs_nodup (ps : List Int) : ∀ k, (bfs ps k).Nodup
  | 0 => by simp [bfs]
  | k + 1 => by
    by_cases hk : k < (bfs ps k).length
    · rw [bfs_step hk, List.nodup_append]
      refine ⟨bfs_nodup ps k, nodup_nodesTo _ _ _, fun a ha b hb => ?_⟩
      rintro rfl
      obtain ⟨h1, h2, h3⟩ := mem_nodesW.1 hb
      rcases bfs_mem k ha with h | ⟨_, _, j, h4, h5, h6⟩
      · omega
      · have := nth_inj (bfs_nodup ps k) h5 hk (by rw [← h6, h3])
        omega
    · have e : bfs ps (k + 1) = bfs ps k := by simp [bfs, hk]
      rw [e]; exact bfs_nodup ps k
theorem bfs_bounds {ps : List Int} {v : Int} {k : Nat} (h : v ∈ bfs ps k) : 0 ≤ v ∧ v ≤ ps.length := by
  rcases bfs_mem k h with h | ⟨h1, h2, _⟩ <;> omega
theorem bfs_len (ps : List Int) (k : Nat) : (bfs ps k).length ≤ ps.length + 1 :=
  nodup_le _ _ (bfs_nodup ps k) fun x hx => by have := bfs_bounds hx; omega
theorem bfs_end {ps : List Int} {k : Nat} (h : (bfs ps k).length ≤ k) : ∀ m, bfs ps (k + m) = bfs ps k
  | 0 => rfl
  | m + 1 => by
    have ih := bfs_end h m
    rw [← Nat.add_assoc]
    have : ¬ k + m < (bfs ps (k + m)).length := by rw [ih]; omega
    rw [ih] at this
    simp only [bfs, ih, if_neg this, List.append_nil]
theorem bfs_done {ps : List Int} {k : Nat} (h : (bfs ps k).length ≤ k) : bfs ps k = brOrder ps := by
  unfold brOrder
  rcases Nat.le_total k (ps.length + 1) with hk | hk
  · have := bfs_end h (ps.length + 1 - k)
    rw [show k + (ps.length + 1 - k) = ps.length + 1 by omega] at this
    exact this.symm
  · have := bfs_end (k := ps.length + 1) (bfs_len ps _) (k - (ps.length + 1))
    rw [show ps.length + 1 + (k - (ps.length + 1)) = k by omega] at this
    exact this
theorem br_child {ps : List Int} {v : Int} (h1 : 1 ≤ v) (h2 : v ≤ ps.length) (h : par ps v ∈ brOrder ps) : v ∈ brOrder ps := by
  obtain ⟨j, hj, e⟩ := mem_nth h
  have hl := bfs_len ps (ps.length + 1)
  have hj' : j < (bfs ps (ps.length + 1)).length := hj
  by_cases hjj : j < (bfs ps j).length
  · have : v ∈ bfs ps (j + 1) := by
      rw [bfs_step hjj, List.mem_append]
      refine .inr (mem_nodesW.2 ⟨h1, h2, ?_⟩)
      rw [← e]
      exact bfs_nth (by omega) hjj
    obtain ⟨t, ht⟩ := bfs_grows ps (j + 1) (ps.length + 1 - (j + 1))
    rw [show j + 1 + (ps.length + 1 - (j + 1)) = ps.length + 1 by omega] at ht
    show v ∈ bfs ps (ps.length + 1)
    rw [ht]; simp [this]
  · have := bfs_done (ps := ps) (k := j) (by omega)
    have h3 : (brOrder ps).length = (bfs ps j).length := by rw [this]
    omega
theorem br_all {ps : List Int} {n : Nat} (h : Tree ps n) : ∀ (d : Nat) (v : Int), 0 ≤ v → v ≤ n → dep ps v = d → v ∈ brOrder ps
  | d, v, h1, h2, hd => by
    by_cases e : v = 0
    · subst e
      rw [← bfs_first ps (ps.length + 1)]
      exact nth_mem (bfs_pos _ _)
    · have hp := h.dep_par (v := v) (by omega) h2
      obtain ⟨p1, p2⟩ := h.par (v := v) (by omega) h2
      match d, hd with
      | 0, hd => omega
      | d + 1, hd => exact br_child (by omega) (by rw [h.len]; exact h2) (br_all h d _ p1 p2 (by omega))
theorem nodup_ge : ∀ (m : Nat) (xs : List Int), (∀ v : Nat, v < m → (v : Int) ∈ xs) → m ≤ xs.length
  | 0, _, _ => by omega
  | m + 1, xs, h => by
    have h1 := h m (by omega)
    have hl := List.length_erase_of_mem h1
    have hp := List.length_pos_of_mem h1
    have := nodup_ge m (xs.erase (m : Int)) (fun v hv => by
      have h2 := h v (by omega)
      have h3 : (v : Int) ≠ (m : Int) := by omega
      exact (List.mem_erase_of_ne h3).2 h2)
    omega
theorem br_length {ps : List Int} {n : Nat} (h : Tree ps n) : (brOrder ps).length = n + 1 := by
  have h1 := bfs_len ps (ps.length + 1)
  have h2 := nodup_ge (n + 1) (brOrder ps) (fun v hv => br_all h _ _ (by omega) (by omega) rfl)
  rw [h.len] at h1
  unfold brOrder at h2 ⊢
  rw [h.len] at h2 ⊢
  omega

/-- The index of a number in a list. -/
def plc : List Int → Int → Nat
  | [], _ => 0
  | y :: l, x => if y = x then 0 else plc l x + 1
theorem plc_is {x : Int} : ∀ {l : List Int} {k : Nat}, k < l.length → nth l k = x → (∀ j, j < k → nth l j ≠ x) → plc l x = k
  | [], _, h, _, _ => by simp at h
  | y :: l, 0, _, h, _ => by simp [nth] at h; simp [plc, h]
  | y :: l, k + 1, h1, h2, h3 => by
    have h4 := h3 0 (by omega)
    simp [nth] at h4
    simp only [plc, if_neg h4]
    rw [plc_is (l := l) (k := k) (by simpa using h1) (by simpa [nth] using h2) (fun j hj => by simpa [nth] using h3 (j + 1) (by omega))]
theorem plc_mem {x : Int} : ∀ {l : List Int}, x ∈ l → plc l x < l.length ∧ nth l (plc l x) = x ∧ ∀ j, j < plc l x → nth l j ≠ x
  | [], h => by simp at h
  | y :: l, h => by
    by_cases e : y = x
    · simp [plc, e, nth]
    · have hm : x ∈ l := by simpa [Ne.symm e] using h
      obtain ⟨h1, h2, h3⟩ := plc_mem hm
      simp only [plc, if_neg e]
      refine ⟨by simp; omega, by simpa [nth] using h2, fun j hj => ?_⟩
      cases j with
      | zero => simpa [nth] using e
      | succ j => simpa [nth] using h3 j (by omega)
/-- The parking function of a tree. -/
def potL (ps : List Int) : List Int := ps.map fun p => (plc (brOrder ps) p : Int)
theorem length_potL (ps : List Int) : (potL ps).length = ps.length := by simp [potL]
theorem nth_potL {ps : List Int} {i : Nat} (h : i < ps.length) : nth (potL ps) i = (plc (brOrder ps) (nth ps i) : Int) := by simp [nth, potL, h]
theorem potL_succ {ps : List Int} {k : Nat} (h : k < ps.length) : (potL ps).take (k + 1) = (potL ps).take k ++ [(plc (brOrder ps) (nth ps k) : Int)] := by
  rw [take_succ_nth (by rw [length_potL]; exact h), nth_potL h]

/-! ### The tree of a parking function -/
def tpo (xs : List Int) : Nat → List Int
  | 0 => [0]
  | k + 1 => tpo xs k ++ nodesW xs k
theorem below_step (xs : List Int) (k : Int) : below xs (k + 1) = below xs k + xs.count k := by
  induction xs with
  | nil => rfl
  | cons x xs ih =>
    unfold below at *
    rw [List.countP_cons, List.countP_cons, List.count_cons, ih]
    by_cases e : x = k
    · subst e
      rw [if_pos (by simp; omega), if_neg (by simp), if_pos (by simp)]; omega
    · by_cases e2 : x < k
      · rw [if_pos (by simp; omega), if_pos (by simp; omega), if_neg (by simp; omega)]; omega
      · rw [if_neg (by simp; omega), if_neg (by simp; omega), if_neg (by simp; omega)]; omega
theorem below_none {xs : List Int} (h : ∀ x ∈ xs, 0 ≤ x) : below xs 0 = 0 := by
  unfold below
  rw [List.countP_eq_zero]
  intro x hx
  have := h x hx
  simp; omega
theorem length_tpo {xs : List Int} (h : ∀ x ∈ xs, 0 ≤ x) : ∀ k : Nat, (tpo xs k).length = 1 + below xs k
  | 0 => by
    have := below_none h
    simp [tpo, this]
  | k + 1 => by
    have h1 := length_tpo h k
    have h2 := below_step xs k
    simp only [tpo, List.length_append, nodesW_count]
    rw [show ((k + 1 : Nat) : Int) = (k : Int) + 1 by omega, h2]
    omega
theorem park_below_ge {xs : List Int} (h : isPark xs = true) : ∀ k : Nat, k ≤ xs.length → k ≤ below xs k := fun k hk => by
  obtain ⟨h1, h2, h3⟩ := isPark_iff.1 h
  have hf := from_below xs k
  by_cases e : k < xs.length
  · have := (park_iff h2).1 h3 k (by omega)
    omega
  · obtain rfl : k = xs.length := by omega
    have : from' xs xs.length = 0 := by
      unfold from'
      rw [List.countP_eq_zero]
      intro x hx
      have := h2 x hx
      simp; omega
    omega
theorem tpo_grows (xs : List Int) (k : Nat) : ∀ m, ∃ t, tpo xs (k + m) = tpo xs k ++ t
  | 0 => ⟨[], by simp⟩
  | m + 1 => by
    obtain ⟨t, ht⟩ := tpo_grows xs k m
    exact ⟨t ++ nodesW xs (k + m : Nat), by rw [← Nat.add_assoc, ← List.append_assoc, ← ht]; rfl⟩
theorem tpo_nth {xs : List Int} {k m i : Nat} (hkm : k ≤ m) (hi : i < (tpo xs k).length) : nth (tpo xs m) i = nth (tpo xs k) i := by
  obtain ⟨t, ht⟩ := tpo_grows xs k (m - k)
  rw [show k + (m - k) = m by omega] at ht
  rw [ht, nth_left hi]
theorem length_tpo_park {xs : List Int} (h : isPark xs = true) {k : Nat} (hk : k ≤ xs.length) : k < (tpo xs k).length ∧ (tpo xs k).length ≤ xs.length + 1 := by
  have h1 := length_tpo (xs := xs) (fun x hx => ((isPark_iff.1 h).2.1 x hx).1) k
  have h2 := park_below_ge h k hk
  have h3 := below_le xs k
  omega
/-- The tree of a parking function. -/
def tpL (xs : List Int) : List Int := xs.map fun x => nth (tpo xs xs.length) x.toNat
theorem length_tpL (xs : List Int) : (tpL xs).length = xs.length := by simp [tpL]
theorem nth_tpL {xs : List Int} {i : Nat} (h : i < xs.length) : nth (tpL xs) i = nth (tpo xs xs.length) (nth xs i).toNat := by simp [nth, tpL, h]
/-- What the model has laid behind round k and the first i cars. -/
def TpAt (xs ys : List Int) (k i : Nat) : Prop := ∀ j, j < xs.length → nth ys j = if nth xs j < k ∨ (nth xs j = k ∧ j < i) then nth (tpL xs) j else 0
theorem tpAt_zero {xs : List Int} (h : ∀ x ∈ xs, 0 ≤ x) : TpAt xs (List.replicate xs.length 0) 0 0 := fun j hj => by
  have := h _ (nth_mem hj)
  rw [if_neg (by omega)]
  simp [nth, List.getElem?_replicate]
  split <;> rfl
theorem tpAt_no {xs ys : List Int} {k i : Nat} (h : TpAt xs ys k i) (hx : nth xs i ≠ k) : TpAt xs ys k (i + 1) := fun j hj => by
  rw [h j hj]
  by_cases e : j = i
  · subst e
    by_cases e2 : nth xs j < k
    · rw [if_pos (.inl e2), if_pos (.inl e2)]
    · rw [if_neg (by omega), if_neg (by omega)]
  · by_cases e2 : nth xs j < k ∨ (nth xs j = k ∧ j < i)
    · rw [if_pos e2, if_pos (by omega)]
    · rw [if_neg e2, if_neg (by omega)]
theorem tpAt_yes {xs ys : List Int} {k i : Nat} (hp : isPark xs = true) (h : TpAt xs ys k i) (hi : i < xs.length) (hl : ys.length = xs.length) (hx : nth xs i = k) {t : List Int} : TpAt xs (ys.set i (nth (tpo xs k ++ t) k)) k (i + 1) := fun j hj => by
  have hb := (isPark_iff.1 hp).2.1 _ (nth_mem hi)
  rw [nth_set (by omega)]
  by_cases e : i = j
  · subst e
    rw [if_pos rfl, if_pos (by omega), nth_tpL hi, hx, Int.toNat_natCast]
    have h1 := (length_tpo_park hp (k := k) (by omega)).1
    rw [nth_left h1]
    exact (tpo_nth (by omega) h1).symm
  · rw [if_neg e, h j hj]
    by_cases e2 : nth xs j < k ∨ (nth xs j = k ∧ j < i)
    · rw [if_pos e2, if_pos (by omega)]
    · rw [if_neg e2, if_neg (by omega)]
theorem tpAt_next {xs ys : List Int} {k : Nat} (h : TpAt xs ys k xs.length) : TpAt xs ys (k + 1) 0 := fun j hj => by
  rw [h j hj]
  by_cases e2 : nth xs j < k ∨ (nth xs j = k ∧ j < xs.length)
  · rw [if_pos e2, if_pos (by omega)]
  · rw [if_neg e2, if_neg (by omega)]
theorem tpAt_all {xs ys : List Int} {k : Nat} (hp : isPark xs = true) (hl : ys.length = xs.length) (hk : xs.length ≤ k) (h : TpAt xs ys k 0) : ys = tpL xs :=
  ext_nth (by rw [hl, length_tpL]) fun j hj => by
    have hb := (isPark_iff.1 hp).2.1 _ (nth_mem (xs := xs) (i := j) (by omega))
    rw [h j (by omega), if_pos (by omega)]
end Go.Proofs.Ytakadjhbomggbab
