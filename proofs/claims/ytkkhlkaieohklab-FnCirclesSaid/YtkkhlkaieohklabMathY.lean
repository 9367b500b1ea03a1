/- Circles and streets; turned lists; the free place in another order. -/
import Derived.Test.YtkkhlkaieohklabMathC
namespace Go.Proofs.Ytkkhlkaieohklab
open Go.RowKit

/-- Where a street has a place for a car, a circle with as many places or more has the same one. -/
theorem cplace_street {P p : Int} {out : List Int} {x : Int} (h0 : 0 ≤ x) (hx : x ≤ p) (hP : p ≤ P) (h : place p out x ≠ -1) : cplace P out x = place p out x := by
  rcases place_spec (p := p) (out := out) _ x hx rfl with ⟨e, _⟩ | ⟨h1, h2, h3, h4⟩
  · exact absurd e h
  · obtain ⟨k, hk⟩ : ∃ k : Nat, place p out x = x + k := ⟨(place p out x - x).toNat, by omega⟩
    rw [hk] at h1 h2 h3 h4 ⊢
    have hm : ∀ i : Nat, i ≤ k → (x + i) % P = x + i := fun i hi => Int.emod_eq_of_lt (by omega) (by omega)
    rw [cplace_of (k := k) (fun i hi => by rw [hm i (by omega)]; exact h4 _ (by omega) (by omega)) (by rw [hm k (Nat.le_refl _)]; exact h3) (by omega) h0 (by omega), hm k (Nat.le_refl _)]
theorem cdrive_street {P p : Int} {xs : List Int} (hb : ∀ x ∈ xs, 0 ≤ x ∧ x ≤ p - 1) (hP : p ≤ P) (ha : allPark p xs = true) : ∀ k, k ≤ xs.length → cdrive P (xs.take k) = drive p (xs.take k)
  | 0, _ => by simp [cdrive, drive]
  | k + 1, h => by
    have hx := hb _ (nth_mem (xs := xs) (i := k) (by omega))
    have hd := drive_succ (p := p) (xs := xs) (k := k) (by omega)
    have hp : place p (drive p (xs.take k)) (nth xs k) ≠ -1 := by
      intro e
      rw [e] at hd
      exact allPark_iff.1 ha (drive_take_mem (k + 1) (by rw [hd]; simp))
    rw [cdrive_succ (by omega), cdrive_street hb hP ha k (by omega), hd, cplace_street hx.1 (by omega) hP hp]
theorem circle_street {xs : List Int} {p : Int} (hg : good xs p = true) (ha : allPark p xs = true) : cdrive p xs = drive p xs := by
  have := cdrive_street (good_iff.1 hg).2.2 (Int.le_refl _) ha xs.length (Nat.le_refl _)
  rwa [List.take_length] at this

/-! ### Turned lists -/
theorem turn_cplace {out : List Int} {p x b : Int} (hl : (out.length : Int) < p) (hb : ∀ y ∈ out, 0 ≤ y ∧ y < p) (h0 : 0 ≤ x) (h1 : x < p) : cplace p (turn out p b) ((x + b) % p) = (cplace p out x + b) % p := by
  obtain ⟨k, h2, h3, h4, h5⟩ := cplace_spec hl h0 h1
  have hm : ∀ i : Nat, ((x + b) % p + i) % p = ((x + i) % p + b) % p := by
    intro i
    rw [Int.emod_add_emod, Int.emod_add_emod]
    congr 1
    omega
  rw [h5, ← hm k]
  refine cplace_of (k := k) (fun i hi => ?_) ?_ h4 (Int.emod_nonneg _ (by omega)) (Int.emod_lt_of_pos _ (by omega))
  · rw [hm i]
    exact List.mem_map.2 ⟨_, h2 i hi, rfl⟩
  · rw [hm k]
    intro hmem
    obtain ⟨y, hy, e⟩ := List.mem_map.1 hmem
    obtain ⟨y0, y1⟩ := hb y hy
    have e2 : y = (x + k) % p := by
      have a0 := Int.emod_nonneg (x + k) (show p ≠ 0 by omega)
      have a1 := Int.emod_lt_of_pos (x + k) (show 0 < p by omega)
      generalize (x + k) % p = z at *
      have h := Int.emod_emod_of_dvd (y + b) (Int.dvd_refl p)
      have e3 : (y + b - b) % p = (z + b - b) % p := by rw [Int.sub_emod, e, ← Int.sub_emod]
      rw [show y + b - b = y by omega, show z + b - b = z by omega, Int.emod_eq_of_lt y0 y1, Int.emod_eq_of_lt a0 a1] at e3
      exact e3
    exact h3 (e2 ▸ hy)
theorem length_turn (xs : List Int) (p b : Int) : (turn xs p b).length = xs.length := by simp [turn]
theorem nth_turn {xs : List Int} {p b : Int} {k : Nat} (h : k < xs.length) : nth (turn xs p b) k = (nth xs k + b) % p := by simp [turn, nth, h]
theorem take_turn (xs : List Int) (p b : Int) (k : Nat) : (turn xs p b).take k = turn (xs.take k) p b := by simp [turn]
theorem turn_cdrive {xs : List Int} {p b : Int} (hb : ∀ x ∈ xs, 0 ≤ x ∧ x ≤ p - 1) (hl : (xs.length : Int) ≤ p) : ∀ k, k ≤ xs.length → cdrive p (turn (xs.take k) p b) = turn (cdrive p (xs.take k)) p b
  | 0, _ => by simp [cdrive, turn]
  | k + 1, h => by
    have hx := hb _ (nth_mem (xs := xs) (i := k) (by omega))
    have ih := turn_cdrive (b := b) hb hl k (by omega)
    obtain ⟨_, i2⟩ := cdrive_ok hb k (by omega) (by omega)
    have hlen : (cdrive p (xs.take k)).length = k := by rw [length_cdrive]; simp; omega
    have h1 := cdrive_succ (p := p) (xs := turn xs p b) (k := k) (by rw [length_turn]; omega)
    rw [take_turn, take_turn, nth_turn (by omega), ih, turn_cplace (by omega) i2 hx.1 (by omega)] at h1
    rw [h1, cdrive_succ (by omega)]
    simp [turn]
theorem cfree_unique {xs : List Int} (h : circB xs = true) {z : Int} (h0 : 0 ≤ z) (h1 : z ≤ xs.length) (hz : z ∉ cdrive ((xs.length : Int) + 1) xs) : z = cfree xs := by
  have hb := circ_bounds h
  obtain ⟨d1, d2⟩ := cdrive_ok hb xs.length (Nat.le_refl _) (by omega)
  rw [List.take_length] at d1 d2
  obtain ⟨m, m1, m2, m3, m4, _⟩ := one_free d1 (length_cdrive _ _) d2
  obtain ⟨f1, f2, f3, _⟩ := cfree_spec h
  have e1 : cfree xs = m := Classical.byContradiction fun hn => f3 (m4 _ f1 f2 hn)
  have e2 : z = m := Classical.byContradiction fun hn => hz (m4 _ h0 h1 hn)
  omega
theorem turn_circ {xs : List Int} {b : Int} (h : circB xs = true) : circB (turn xs ((xs.length : Int) + 1) b) = true := by
  obtain ⟨h8, _⟩ := circB_iff.1 h
  rw [circB_iff, length_turn]
  refine ⟨h8, fun x hx => ?_⟩
  obtain ⟨y, _, rfl⟩ := List.mem_map.1 hx
  have := Int.emod_nonneg (y + b) (show (xs.length : Int) + 1 ≠ 0 by omega)
  have := Int.emod_lt_of_pos (y + b) (show 0 < (xs.length : Int) + 1 by omega)
  omega
theorem cfree_turn {xs : List Int} {b : Int} (h : circB xs = true) : cfree (turn xs ((xs.length : Int) + 1) b) = (cfree xs + b) % ((xs.length : Int) + 1) := by
  have hb := circ_bounds h
  have ht := turn_cdrive (b := b) hb (by omega) xs.length (Nat.le_refl _)
  rw [List.take_length] at ht
  obtain ⟨f1, f2, f3, _⟩ := cfree_spec h
  obtain ⟨d1, d2⟩ := cdrive_ok hb xs.length (Nat.le_refl _) (by omega)
  rw [List.take_length] at d1 d2
  refine (cfree_unique (turn_circ h) (Int.emod_nonneg _ (by omega)) ?_ ?_).symm
  · rw [length_turn]
    have := Int.emod_lt_of_pos (cfree xs + b) (show 0 < (xs.length : Int) + 1 by omega)
    omega
  · rw [length_turn, ht]
    intro hmem
    obtain ⟨y, hy, e⟩ := List.mem_map.1 hmem
    obtain ⟨y0, y1⟩ := d2 y hy
    have e3 : (y + b - b) % ((xs.length : Int) + 1) = (cfree xs + b - b) % ((xs.length : Int) + 1) := by rw [Int.sub_emod, e, ← Int.sub_emod]
    rw [show y + b - b = y by omega, show cfree xs + b - b = cfree xs by omega, Int.emod_eq_of_lt y0 y1, Int.emod_eq_of_lt f1 (by omega)] at e3
    exact f3 (e3 ▸ hy)

/-! ### All park just if the last place stays free -/
theorem drive_less {p : Int} {xs : List Int} (hp : 0 ≤ p) (hb : ∀ x ∈ xs, 0 ≤ x) : ∀ k, k ≤ xs.length → ∀ y ∈ drive p (xs.take k), y < p
  | 0, _, y, hy => by simp [drive] at hy
  | k + 1, h, y, hy => by
    rw [drive_succ (by omega)] at hy
    rcases List.mem_append.1 hy with h1 | h1
    · exact drive_less hp hb k (by omega) y h1
    · simp at h1
      subst h1
      have := (place_bounds (p := p) (out := drive p (xs.take k)) (x := nth xs k) (hb _ (nth_mem (by omega)))).2.1
      omega
theorem park_free {ys : List Int} (hc : circB ys = true) : isPark ys = true ↔ cfree ys = ys.length := by
  constructor
  · intro hp
    obtain ⟨h8, hb, ha⟩ := isPark_iff.1 hp
    have e := cdrive_street (P := (ys.length : Int) + 1) hb (by omega) ha ys.length (Nat.le_refl _)
    rw [List.take_length] at e
    refine (cfree_unique hc (by omega) (Int.le_refl _) ?_).symm
    rw [e]
    intro hm
    have := drive_less (p := (ys.length : Int)) (by omega) (fun x hx => (hb x hx).1) ys.length (Nat.le_refl _) (ys.length : Int) (by rw [List.take_length]; exact hm)
    omega
  · intro hf
    obtain ⟨h8, hb⟩ := circB_iff.1 hc
    obtain ⟨_, _, f3, _⟩ := cfree_spec hc
    rw [hf] at f3
    have hmem : ∀ k, k ≤ ys.length → (ys.length : Int) ∉ cdrive ((ys.length : Int) + 1) (ys.take k) := by
      intro k hk hm
      apply f3
      have e : cdrive ((ys.length : Int) + 1) ys = (ys.drop k).foldl (fun out x => out ++ [cplace ((ys.length : Int) + 1) out x]) (cdrive ((ys.length : Int) + 1) (ys.take k)) := by
        unfold cdrive
        rw [← List.foldl_append, List.take_append_drop]
      rw [e]
      have : ∀ (zs out : List Int), (ys.length : Int) ∈ out → (ys.length : Int) ∈ zs.foldl (fun out x => out ++ [cplace ((ys.length : Int) + 1) out x]) out := by
        intro zs
        induction zs with
        | nil => intro out h; exact h
        | cons z zs ih => intro out h; simp only [List.foldl_cons]; exact ih _ (by simp [h])
      exact this _ _ hm
    have key : ∀ k, k ≤ ys.length → drive (ys.length : Int) (ys.take k) = cdrive ((ys.length : Int) + 1) (ys.take k) ∧ (-1 : Int) ∉ drive (ys.length : Int) (ys.take k) ∧ ∀ i, i < k → nth ys i ≤ (ys.length : Int) - 1 := by
      intro k
      induction k with
      | zero => intro _; simp [drive, cdrive]
      | succ k ih =>
        intro hk
        obtain ⟨i1, i2, i3⟩ := ih (by omega)
        have hx := hb _ (nth_mem (xs := ys) (i := k) (by omega))
        have hl : (cdrive ((ys.length : Int) + 1) (ys.take k)).length = k := by rw [length_cdrive]; simp; omega
        obtain ⟨j, c1, c2, c3, c4⟩ := cplace_spec (out := cdrive ((ys.length : Int) + 1) (ys.take k)) (p := (ys.length : Int) + 1) (x := nth ys k) (by omega) hx.1 (by omega)
        have hs := cdrive_succ (p := (ys.length : Int) + 1) (xs := ys) (k := k) (by omega)
        have hno := hmem k (by omega)
        have hno2 := hmem (k + 1) hk
        rw [hs, c4] at hno2
        have hxj : nth ys k + j < (ys.length : Int) := by
          apply Classical.byContradiction
          intro hge
          obtain ⟨q, hq⟩ : ∃ q : Nat, nth ys k + q = (ys.length : Int) := ⟨((ys.length : Int) - nth ys k).toNat, by omega⟩
          have hqj : q ≤ j := by omega
          have e : (nth ys k + q) % ((ys.length : Int) + 1) = (ys.length : Int) := by rw [hq]; exact Int.emod_eq_of_lt (by omega) (by omega)
          by_cases hqe : q = j
          · subst hqe
            rw [e] at hno2
            simp at hno2
          · have := c1 q (by omega)
            rw [e] at this
            exact hno this
        have hm : ∀ i : Nat, i ≤ j → (nth ys k + i) % ((ys.length : Int) + 1) = nth ys k + i := fun i hi => Int.emod_eq_of_lt (by omega) (by omega)
        have hpl : place (ys.length : Int) (cdrive ((ys.length : Int) + 1) (ys.take k)) (nth ys k) = nth ys k + j := by
          refine place_is (by omega) hxj (by rw [← hm j (Nat.le_refl _)]; exact c2) fun z z1 z2 => ?_
          obtain ⟨i, rfl⟩ : ∃ i : Nat, z = nth ys k + i := ⟨(z - nth ys k).toNat, by omega⟩
          rw [← hm i (by omega)]
          exact c1 i (by omega)
        have hd := drive_succ (p := (ys.length : Int)) (xs := ys) (k := k) (by omega)
        rw [i1, hpl] at hd
        refine ⟨by rw [hd, hs, c4, hm j (Nat.le_refl _)], ?_, fun i hi => ?_⟩
        · rw [hd, ← i1]
          intro hmm
          rcases List.mem_append.1 hmm with h | h
          · exact i2 h
          · simp at h
            omega
        · by_cases e : i = k
          · subst e; omega
          · exact i3 i (by omega)
    obtain ⟨_, k2, k3⟩ := key ys.length (Nat.le_refl _)
    rw [List.take_length] at k2
    refine isPark_iff.2 ⟨h8, fun x hx => ?_, allPark_iff.2 k2⟩
    obtain ⟨i, hi, rfl⟩ := List.getElem_of_mem hx
    have := k3 i hi
    have e : nth ys i = ys[i] := by simp [nth, hi]
    rw [e] at this
    exact ⟨(hb _ hx).1, this⟩

/-! ### Another order -/
theorem swapped_park {ys : List Int} {i : Nat} (h : i + 1 < ys.length) : isPark (swapped ys i) = isPark ys := by
  have hp := swapped_perm h
  have hl := hp.length_eq
  rw [Bool.eq_iff_iff, isPark_iff, isPark_iff, hl]
  constructor
  · rintro ⟨h1, h2, h3⟩
    have hb : ∀ x ∈ ys, 0 ≤ x ∧ x ≤ (ys.length : Int) - 1 := fun x hx => h2 x (hp.mem_iff.2 hx)
    have hd := drive_swapped (p := (ys.length : Int)) h (fun x hx => by have := hb x hx; omega)
    exact ⟨h1, hb, by rw [allPark_perm hd] at h3; exact h3⟩
  · rintro ⟨h1, h2, h3⟩
    have hd := drive_swapped (p := (ys.length : Int)) h (fun x hx => by have := h2 x hx; omega)
    exact ⟨h1, fun x hx => h2 x (hp.mem_iff.1 hx), by rw [allPark_perm hd]; exact h3⟩
theorem swapped_turn (xs : List Int) (p b : Int) {i : Nat} (h : i + 1 < xs.length) : turn (swapped xs i) p b = swapped (turn xs p b) i := by
  have h1 := nth_turn (xs := xs) (p := p) (b := b) (k := i) (by omega)
  have h2 := nth_turn (xs := xs) (p := p) (b := b) h
  unfold swapped
  rw [h1, h2]
  simp [turn, List.map_set]
theorem cfree_swapped {xs : List Int} (h : circB xs = true) {i : Nat} (hi : i + 1 < xs.length) : circB (swapped xs i) = true ∧ cfree (swapped xs i) = cfree xs := by
  have hp := swapped_perm hi
  have hl := hp.length_eq
  obtain ⟨h8, hb⟩ := circB_iff.1 h
  have hc : circB (swapped xs i) = true := circB_iff.2 ⟨by omega, fun x hx => by rw [hl]; exact hb x (hp.mem_iff.1 hx)⟩
  refine ⟨hc, ?_⟩
  obtain ⟨f1, f2, _⟩ := cfree_spec h
  obtain ⟨g1, g2, _⟩ := cfree_spec hc
  have e1 : cfree (turn xs ((xs.length : Int) + 1) ((xs.length : Int) - cfree xs)) = xs.length := by
    rw [cfree_turn h, show cfree xs + ((xs.length : Int) - cfree xs) = (xs.length : Int) by omega]
    exact Int.emod_eq_of_lt (by omega) (by omega)
  have p1 := (park_free (turn_circ h)).2 (by rw [length_turn]; exact e1)
  rw [← swapped_park (i := i) (by rw [length_turn]; exact hi), ← swapped_turn _ _ _ hi] at p1
  have e2 := cfree_turn (b := (xs.length : Int) - cfree xs) hc
  rw [hl] at e2 g2
  have hc2 := turn_circ (b := (xs.length : Int) - cfree xs) hc
  rw [hl] at hc2
  have e3 := (park_free hc2).1 p1
  rw [length_turn, hl, e2] at e3
  by_cases hlt : cfree (swapped xs i) + ((xs.length : Int) - cfree xs) < (xs.length : Int) + 1
  · rw [Int.emod_eq_of_lt (by omega) hlt] at e3
    omega
  · rw [← Int.emod_add_emod] at e3
    have e4 : (cfree (swapped xs i) + ((xs.length : Int) - cfree xs)) % ((xs.length : Int) + 1) = cfree (swapped xs i) + ((xs.length : Int) - cfree xs) - ((xs.length : Int) + 1) := by
      rw [← Int.sub_emod_right]
      exact Int.emod_eq_of_lt (by omega) (by omega)
    rw [Int.emod_add_emod] at e3
    omega
/-- The turned list k parks just if k is the turn. -/
theorem turn_park {xs : List Int} (h : circB xs = true) {k : Nat} (hk : k ≤ xs.length) : isPark (turn xs ((xs.length : Int) + 1) k) = decide ((k : Int) = (xs.length : Int) - cfree xs) := by
  obtain ⟨f1, f2, _⟩ := cfree_spec h
  have hp := park_free (turn_circ (b := (k : Int)) h)
  rw [length_turn, cfree_turn h] at hp
  rw [Bool.eq_iff_iff, hp, decide_eq_true_eq]
  by_cases hlt : cfree xs + (k : Int) < (xs.length : Int) + 1
  · rw [Int.emod_eq_of_lt (by omega) hlt]
    omega
  · have e4 : (cfree xs + (k : Int)) % ((xs.length : Int) + 1) = cfree xs + (k : Int) - ((xs.length : Int) + 1) := by
      rw [← Int.sub_emod_right]
      exact Int.emod_eq_of_lt (by omega) (by omega)
    rw [e4]
    omega
end Go.Proofs.Ytkkhlkaieohklab
