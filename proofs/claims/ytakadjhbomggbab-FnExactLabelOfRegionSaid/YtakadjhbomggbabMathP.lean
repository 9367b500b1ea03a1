/- Which lists park: places that refuse, sorted numbers, and what lies below. -/
import Derived.Test.YtakadjhbomggbabMathT
import Derived.Test.YtakadjhbomggbabMathO
namespace Go.Proofs.Ytakadjhbomggbab
open Go.RowKit

theorem from_imp {b : Int} : ∀ {xs ys : List Int}, xs.length = ys.length → (∀ i, i < xs.length → b ≤ nth xs i → b ≤ nth ys i) → from' xs b ≤ from' ys b
  | [], [], _, _ => Nat.le_refl _
  | x :: xs, y :: ys, hl, h => by
    have ih := from_imp (xs := xs) (ys := ys) (by simpa using hl) (fun i hi => by have := h (i + 1) (by simpa using hi); simpa [nth] using this)
    have h0 := h 0 (by simp)
    simp only [nth_cons_zero] at h0
    unfold from' at *
    simp only [List.countP_cons, decide_eq_true_eq]
    split <;> split <;> omega
theorem from_mono {xs ys : List Int} (hl : xs.length = ys.length) (h : ∀ i, i < xs.length → nth xs i ≤ nth ys i) (b : Int) : from' xs b ≤ from' ys b :=
  from_imp hl fun i hi hb => Int.le_trans hb (h i hi)
theorem from_step (xs : List Int) (j : Int) : from' xs (j + 1) ≤ from' xs j := by
  unfold from'
  exact List.countP_mono_left fun x _ h => by simp at *; omega
theorem from_mem {xs : List Int} {j : Int} (h : j ∈ xs) : from' xs (j + 1) + 1 ≤ from' xs j := by
  induction xs with
  | nil => simp at h
  | cons x xs ih =>
    have hs := from_step xs j
    unfold from' at *
    simp only [List.countP_cons, decide_eq_true_eq]
    rcases List.mem_cons.1 h with rfl | h
    · split <;> split <;> omega
    · have := ih h
      split <;> split <;> omega
theorem from_all {xs : List Int} {p : Int} : ∀ (n : Nat) (j : Int), j + n = p → (∀ z, j ≤ z → z < p → z ∈ xs) → n ≤ from' xs j
  | 0, _, _, _ => Nat.zero_le _
  | n + 1, j, h, hz => by
    have := from_all n (j + 1) (by omega) (fun z h1 h2 => hz z (by omega) h2)
    have := from_mem (hz j (Int.le_refl _) (by omega))
    omega
theorem from_distinct {ys : List Int} {p j : Int} (hn : ys.Nodup) (hb : ∀ y ∈ ys, y < p) (hj : j ≤ p) : (from' ys j : Int) ≤ p - j := by
  have hnd : ((ys.filter fun x => decide (j ≤ x)).map (· - j)).Nodup := by
    unfold List.Nodup
    rw [List.pairwise_map]
    refine (List.Pairwise.filter _ hn).imp ?_
    intro a b h e
    exact h (by omega)
  have := nodup_le (p - j).toNat _ hnd (fun x hx => by
    obtain ⟨y, hy, rfl⟩ := List.mem_map.1 hx
    obtain ⟨hy1, hy2⟩ := List.mem_filter.1 hy
    have := hb y hy1
    simp at hy2
    omega)
  unfold from'
  rw [List.countP_eq_length_filter]
  rw [List.length_map] at this
  omega
theorem from_perm {xs ys : List Int} (h : xs.Perm ys) (b : Int) : from' xs b = from' ys b := h.countP_eq _
theorem from_take (xs : List Int) (k : Nat) (b : Int) : from' xs b = from' (xs.take k) b + from' (xs.drop k) b := by
  unfold from'
  rw [← List.countP_append, List.take_append_drop]

theorem drive_bounds {p : Int} {xs : List Int} (hb : ∀ x ∈ xs, 0 ≤ x ∧ x ≤ p - 1) (ha : allPark p xs = true) : ∀ y ∈ drive p xs, 0 ≤ y ∧ y < p := by
  intro y hy
  obtain ⟨k, hk, rfl⟩ := mem_nth hy
  rw [length_drive] at hk
  have h := car_at hk hb ha
  have := hb _ (nth_mem hk)
  omega
theorem drive_nodup {p : Int} {xs : List Int} (hb : ∀ x ∈ xs, 0 ≤ x ∧ x ≤ p - 1) (ha : allPark p xs = true) : (drive p xs).Nodup := by
  have hd : distB (drive p xs) (drive p xs).length = true := by
    unfold distB
    rw [List.all_eq_true]
    intro i hi
    rw [List.mem_range, length_drive] at hi
    have h := (car_at hi hb ha).2.2.1
    simp [hasB, h]
  have := nodup_take _ (Nat.le_refl _) hd
  rwa [List.take_length] at this

/-- If all cars park no place refuses. -/
theorem park_from {p : Int} {xs : List Int} (hb : ∀ x ∈ xs, 0 ≤ x ∧ x ≤ p - 1) (ha : allPark p xs = true) {j : Int} (hj : j ≤ p) : (from' xs j : Int) ≤ p - j := by
  have h1 := from_mono (ys := drive p xs) (by rw [length_drive]) (fun i hi => (car_at hi hb ha).1) j
  have h2 := from_distinct (drive_nodup hb ha) (fun y hy => (drive_bounds hb ha y hy).2) hj
  omega

theorem row_start {out : List Int} {p : Int} : ∀ (n : Nat), (∀ z, (n : Int) ≤ z → z < p → z ∈ out) → ∃ j : Nat, j ≤ n ∧ (∀ z, (j : Int) ≤ z → z < p → z ∈ out) ∧ (j = 0 ∨ ((j : Int) - 1) ∉ out)
  | 0, h => ⟨0, Nat.le_refl _, h, .inl rfl⟩
  | n + 1, h => by
    by_cases hm : (n : Int) ∈ out
    · obtain ⟨j, h1, h2, h3⟩ := row_start n (fun z hz1 hz2 => by
        by_cases e : z = n
        · rw [e]; exact hm
        · exact h z (by omega) hz2)
      exact ⟨j, by omega, h2, h3⟩
    · exact ⟨n + 1, Nat.le_refl _, h, .inr (by simpa using hm)⟩

/-- If a car fails a place refuses. -/
theorem fails_from {p : Int} {xs : List Int} (hb : ∀ x ∈ xs, 0 ≤ x ∧ x ≤ p - 1) (ha : ¬ allPark p xs = true) : ∃ j : Nat, (j : Int) < p ∧ p - (j : Int) < (from' xs j : Int) := by
  have hm : (-1 : Int) ∈ drive p xs := Classical.byContradiction fun h => ha (allPark_iff.2 h)
  obtain ⟨k, hk, e⟩ := mem_nth hm
  rw [length_drive] at hk
  rw [drive_get hk] at e
  have hx := hb _ (nth_mem hk)
  have hall : ∀ z, nth xs k ≤ z → z < p → z ∈ drive p (xs.take k) := by
    rcases place_spec (p := p) (out := drive p (xs.take k)) _ (nth xs k) (by omega) rfl with ⟨_, h⟩ | h
    · exact h
    · omega
  obtain ⟨n, hn⟩ : ∃ n : Nat, nth xs k = (n : Int) := ⟨(nth xs k).toNat, by omega⟩
  obtain ⟨j, h1, h2, h3⟩ := row_start (out := drive p (xs.take k)) (p := p) n (fun z a b => hall z (by omega) b)
  have hlt : (j : Int) < p := by omega
  have hc := from_all (xs := drive p (xs.take k)) (p := p) (p - j).toNat (j : Int) (by omega) h2
  have hl : (xs.take k).length = k := by simp; omega
  have hle : from' (drive p (xs.take k)) j ≤ from' (xs.take k) j := by
    refine from_imp (by rw [length_drive]) fun i hi hy => ?_
    rw [length_drive, hl] at hi
    have hik : i < (xs.take k).length := by omega
    rw [drive_get hik] at hy
    have hxi := hb _ (nth_mem (xs := xs) (i := i) (by omega))
    rw [nth_take hi] at hy ⊢
    rcases place_spec (p := p) (out := drive p ((xs.take k).take i)) _ (nth xs i) (by omega) rfl with ⟨e2, _⟩ | ⟨a1, a2, a3, a4⟩
    · omega
    · apply Classical.byContradiction
      intro hlt2
      rcases h3 with h3 | h3
      · omega
      · exact h3 (drive_take_mem i (a4 _ (by omega) (by omega)))
  have ht := from_take xs (k + 1) j
  rw [from_succ hk] at ht
  rw [if_pos (by omega)] at ht
  exact ⟨j, hlt, by omega⟩

theorem park_iff {p : Int} {xs : List Int} (hb : ∀ x ∈ xs, 0 ≤ x ∧ x ≤ p - 1) : allPark p xs = true ↔ ∀ j : Nat, (j : Int) < p → (from' xs j : Int) ≤ p - j := by
  constructor
  · exact fun ha j hj => park_from hb ha (by omega)
  · intro h
    apply Classical.byContradiction
    intro ha
    obtain ⟨j, h1, h2⟩ := fails_from hb ha
    have := h j h1
    omega

/-! The greatest place that refuses. -/
theorem refuseAt_yes {xs : List Int} {p : Int} : ∀ (n : Nat), (refuseAt xs p n).2 = true → ∃ j : Nat, j < n ∧ refuseAt xs p n = ((j : Int), true) ∧ p - (j : Int) < (from' xs j : Int)
  | 0, h => by simp [refuseAt] at h
  | n + 1, h => by
    simp only [refuseAt] at h ⊢
    by_cases hc : p - (n : Int) < (from' xs n : Int)
    · exact ⟨n, by omega, by rw [if_pos hc], hc⟩
    · rw [if_neg hc] at h ⊢
      obtain ⟨j, h1, h2, h3⟩ := refuseAt_yes n h
      exact ⟨j, by omega, h2, h3⟩
theorem refuseAt_no {xs : List Int} {p : Int} : ∀ (n : Nat), (refuseAt xs p n).2 = false → refuseAt xs p n = (0, false) ∧ ∀ j : Nat, j < n → (from' xs j : Int) ≤ p - j
  | 0, _ => ⟨rfl, fun j hj => by omega⟩
  | n + 1, h => by
    simp only [refuseAt] at h ⊢
    by_cases hc : p - (n : Int) < (from' xs n : Int)
    · rw [if_pos hc] at h; simp at h
    · rw [if_neg hc] at h ⊢
      obtain ⟨h1, h2⟩ := refuseAt_no n h
      refine ⟨h1, fun j hj => ?_⟩
      rcases Nat.lt_succ_iff_lt_or_eq.1 hj with h3 | rfl
      · exact h2 j h3
      · omega

theorem refusing_park {xs : List Int} {p : Int} (hg : good xs p = true) (ha : allPark p xs = true) : refusing xs p = (0, false) := by
  have hb := (good_iff.1 hg).2.2
  unfold refusing
  rw [if_pos hg]
  cases h : (refuseAt xs p p.toNat).2 with
  | false => exact (refuseAt_no _ h).1
  | true =>
    obtain ⟨j, h1, _, h3⟩ := refuseAt_yes _ h
    have := (park_iff hb).1 ha j (by omega)
    omega
theorem refusing_fails {xs : List Int} {p : Int} (hg : good xs p = true) (ha : ¬ allPark p xs = true) : ∃ j : Nat, (j : Int) < p ∧ refusing xs p = ((j : Int), true) ∧ p - (j : Int) < (from' xs j : Int) := by
  have hb := (good_iff.1 hg).2.2
  have h1 := (good_iff.1 hg).1
  unfold refusing
  rw [if_pos hg]
  cases h : (refuseAt xs p p.toNat).2 with
  | true =>
    obtain ⟨j, h2, h3, h4⟩ := refuseAt_yes _ h
    exact ⟨j, by omega, h3, h4⟩
  | false => exact absurd ((park_iff hb).2 fun j hj => (refuseAt_no _ h).2 j (by omega)) ha

/-! Sorted numbers. -/
theorem sorted_nth {ys : List Int} (h : ys.Pairwise (· ≤ ·)) {i j : Nat} (hij : i ≤ j) (hj : j < ys.length) : nth ys i ≤ nth ys j := by
  rcases Nat.lt_or_eq_of_le hij with hlt | rfl
  · have := List.pairwise_iff_getElem.1 h i j (by omega) hj hlt
    simpa [nth, hj, show i < ys.length by omega] using this
  · exact Int.le_refl _
theorem nth_dropP {xs : List Int} {i k : Nat} : nth (xs.drop k) i = nth xs (k + i) := by simp [nth]
theorem fitsB_iff {ys : List Int} {n : Nat} : fitsB ys n = true ↔ ∀ i, i < n → nth ys i ≤ (i : Int) := by simp [fitsB]

theorem fits_park {xs : List Int} (h : asked xs = true) : fitsB (insSort xs) xs.length = isPark xs := by
  have hs := insSort_sorted xs
  have hp := insSort_perm xs
  have hl := length_insSort xs
  have ha := carsB_iff.1 (asked_cars xs ▸ h)
  rw [Bool.eq_iff_iff, fitsB_iff, isPark_iff]
  constructor
  · intro hf
    have hb : ∀ x ∈ xs, 0 ≤ x ∧ x ≤ (xs.length : Int) - 1 := by
      intro x hx
      refine ⟨(ha.2 x hx).1, ?_⟩
      obtain ⟨i, hi, rfl⟩ := mem_nth (hp.mem_iff.2 hx)
      have := hf i (by omega)
      omega
    refine ⟨ha.1, hb, (park_iff hb).2 fun j hj => ?_⟩
    rw [← from_perm hp, from_take _ j, ← hl]
    have hz : from' ((insSort xs).take j) j = 0 := by
      unfold from'
      rw [List.countP_eq_zero]
      intro y hy
      obtain ⟨i, hi, rfl⟩ := mem_nth hy
      rw [List.length_take] at hi
      rw [nth_take (by omega)]
      have := hf i (by omega)
      simp
      omega
    have := from_le ((insSort xs).drop j) j
    rw [List.length_drop] at this
    omega
  · rintro ⟨_, hb, hpk⟩ i hi
    apply Classical.byContradiction
    intro hlt
    have hn : nth (insSort xs) i ≤ (xs.length : Int) - 1 := (hb _ (hp.mem_iff.1 (nth_mem (by omega)))).2
    have h1 := (park_iff hb).1 hpk (i + 1) (by omega)
    rw [← from_perm hp, from_take _ i] at h1
    have h2 : from' ((insSort xs).drop i) ((i + 1 : Nat) : Int) = ((insSort xs).drop i).length := by
      unfold from'
      rw [List.countP_eq_length]
      intro y hy
      obtain ⟨k, hk, rfl⟩ := mem_nth hy
      rw [List.length_drop] at hk
      rw [nth_dropP]
      have := sorted_nth hs (i := i) (j := i + k) (by omega) (by omega)
      simp
      omega
    rw [h2, List.length_drop] at h1
    omega

/-! What lies below a parking function. -/
theorem park_below {xs ys : List Int} (hy : isPark ys = true) (hl : xs.length = ys.length) (h : ∀ i, i < xs.length → 0 ≤ nth xs i ∧ nth xs i ≤ nth ys i) : isPark xs = true := by
  obtain ⟨h1, h2, h3⟩ := isPark_iff.1 hy
  have hb : ∀ x ∈ xs, 0 ≤ x ∧ x ≤ (xs.length : Int) - 1 := by
    intro x hx
    obtain ⟨i, hi, rfl⟩ := mem_nth hx
    have := h i hi
    have := h2 _ (nth_mem (xs := ys) (i := i) (by omega))
    omega
  refine isPark_iff.2 ⟨by omega, hb, (park_iff hb).2 fun j hj => ?_⟩
  have := from_mono hl (fun i hi => (h i hi).2) j
  have := (park_iff h2).1 h3 j (by omega)
  omega
/-- Where the cars stand is a parking function, too, above their favourites. -/
theorem drive_park {xs : List Int} (h : isPark xs = true) : isPark (drive xs.length xs) = true ∧ leB xs (drive xs.length xs) xs.length = true := by
  obtain ⟨h1, h2, h3⟩ := isPark_iff.1 h
  have hbd := drive_bounds h2 h3
  have hl := length_drive (xs.length : Int) xs
  have hb : ∀ y ∈ drive xs.length xs, 0 ≤ y ∧ y ≤ ((drive xs.length xs).length : Int) - 1 := fun y hy => by have := hbd y hy; omega
  constructor
  · refine isPark_iff.2 ⟨by omega, hb, (park_iff hb).2 fun j hj => ?_⟩
    exact from_distinct (drive_nodup h2 h3) (fun y hy => by have := hbd y hy; omega) (by omega)
  · unfold leB
    rw [List.all_eq_true]
    intro i hi
    rw [List.mem_range] at hi
    simpa using (car_at hi h2 h3).1
theorem leB_iff {xs ys : List Int} {n : Nat} : leB xs ys n = true ↔ ∀ i, i < n → nth xs i ≤ nth ys i := by simp [leB]
theorem length_mixWith (xs ys : List Int) (low : Bool) : (mixWith xs ys low).length = min xs.length ys.length := by simp [mixWith]
theorem nth_mixWith {xs ys : List Int} {low : Bool} {i : Nat} (h : i < xs.length) (h' : i < ys.length) : nth (mixWith xs ys low) i = if low then min (nth xs i) (nth ys i) else max (nth xs i) (nth ys i) := by
  simp [mixWith, nth, List.getElem?_zipWith, h, h']
theorem mix_low {xs ys : List Int} (h : isPark xs = true) (h' : isPark ys = true) (hl : xs.length = ys.length) : isPark (mixWith xs ys true) = true := by
  refine park_below h (by rw [length_mixWith]; omega) fun i hi => ?_
  rw [length_mixWith] at hi
  rw [nth_mixWith (by omega) (by omega), if_pos rfl]
  have a := (isPark_iff.1 h).2.1 _ (nth_mem (xs := xs) (i := i) (by omega))
  have b := (isPark_iff.1 h').2.1 _ (nth_mem (xs := ys) (i := i) (by omega))
  omega
theorem mix_le {xs ys : List Int} (hl : xs.length = ys.length) : leB (mixWith xs ys true) xs xs.length = true ∧ leB xs (mixWith xs ys false) xs.length = true := by
  rw [leB_iff, leB_iff]
  refine ⟨fun i hi => ?_, fun i hi => ?_⟩
  · rw [nth_mixWith hi (by omega), if_pos rfl]; omega
  · rw [nth_mixWith hi (by omega), if_neg (by simp)]; omega
end Go.Proofs.Ytakadjhbomggbab
