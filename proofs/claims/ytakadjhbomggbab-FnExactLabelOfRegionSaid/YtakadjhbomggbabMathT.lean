/- Two neighbours exchanged: the same places are taken, the same distances come together. -/
import Derived.Test.YtakadjhbomggbabMathS
namespace Go.Proofs.Ytakadjhbomggbab
open Go.RowKit

/-- What a car's place is. -/
theorem place_spec {p : Int} {out : List Int} : ∀ (f : Nat) (x : Int), x ≤ p → (p - x).toNat = f →
    (place p out x = -1 ∧ ∀ z, x ≤ z → z < p → z ∈ out) ∨ (x ≤ place p out x ∧ place p out x < p ∧ place p out x ∉ out ∧ ∀ z, x ≤ z → z < place p out x → z ∈ out) := by
  have key : ∀ (f : Nat) (x : Int), x ≤ p → (p - x).toNat = f → ∃ y, Runs out p x y ∧ ¬ (y < p ∧ y ∈ out) ∧ y ≤ p := by
    intro f
    induction f with
    | zero => intro x h1 h2; exact ⟨x, Runs.refl _ _ _, by omega, h1⟩
    | succ f ih =>
      intro x h1 h2
      by_cases hx : x ∈ out
      · obtain ⟨y, hr, hn, hp⟩ := ih (x + 1) (by omega) (by omega)
        refine ⟨y, ⟨by have := hr.1; omega, fun z h3 h4 => ?_⟩, hn, hp⟩
        by_cases e : z = x
        · subst e; exact ⟨by omega, hx⟩
        · exact hr.2 z (by omega) h4
      · exact ⟨x, Runs.refl _ _ _, fun h => hx h.2, h1⟩
  intro f x h1 h2
  obtain ⟨y, hr, hn, hp⟩ := key f x h1 h2
  rw [place_of hr hn hp]
  by_cases e : p ≤ y
  · left
    rw [if_pos e]
    exact ⟨rfl, fun z h3 h4 => (hr.2 z h3 (by omega)).2⟩
  · right
    rw [if_neg e]
    exact ⟨hr.1, by omega, fun h => hn ⟨by omega, h⟩, fun z h3 h4 => (hr.2 z h3 h4).2⟩

theorem place_is {p : Int} {out : List Int} {x a : Int} (h1 : x ≤ a) (h2 : a < p) (h3 : a ∉ out) (h4 : ∀ z, x ≤ z → z < a → z ∈ out) : place p out x = a := by
  rw [place_of (y := a) ⟨h1, fun z h5 h6 => ⟨by omega, h4 z h5 h6⟩⟩ (fun h => h3 h.2) (by omega), if_neg (by omega)]
theorem place_fails {p : Int} {out : List Int} {x : Int} (h1 : x ≤ p) (h4 : ∀ z, x ≤ z → z < p → z ∈ out) : place p out x = -1 := by
  rw [place_of (y := p) ⟨h1, fun z h5 h6 => ⟨h6, h4 z h5 h6⟩⟩ (by omega) (by omega), if_pos (by omega)]

theorem place_congr {p : Int} {out out' : List Int} {x : Int} (hx : x ≤ p) (h : ∀ z, z ∈ out ↔ z ∈ out') : place p out x = place p out' x := by
  rcases place_spec (p := p) (out := out) _ x hx rfl with ⟨e, h1⟩ | ⟨h1, h2, h3, h4⟩
  · rw [e, place_fails hx fun z h5 h6 => (h z).1 (h1 z h5 h6)]
  · exact (place_is h1 h2 (fun h5 => h3 ((h _).2 h5)) fun z h5 h6 => (h z).1 (h4 z h5 h6)).symm

theorem fold_perm2 {p : Int} : ∀ (ys out out' : List Int), (∀ y ∈ ys, y ≤ p) → out.Perm out' →
    (ys.foldl (fun out x => out ++ [place p out x]) out).Perm (ys.foldl (fun out x => out ++ [place p out x]) out')
  | [], _, _, _, h => h
  | y :: ys, out, out', hy, h => by
    simp only [List.foldl_cons]
    refine fold_perm2 ys _ _ (fun z hz => hy z (by simp [hz])) ?_
    rw [place_congr (out' := out') (hy y (by simp)) fun z => h.mem_iff]
    exact h.append (List.Perm.refl _)

theorem two_same {p : Int} {out : List Int} {x y : Int} (hx : 0 ≤ x ∧ x ≤ p) (hy : 0 ≤ y ∧ y ≤ p) (h : place p out x = place p out y) :
    place p (out ++ [place p out x]) y = place p (out ++ [place p out y]) x := by
  rcases place_spec (p := p) (out := out) _ x hx.2 rfl with ⟨e1, h1⟩ | ⟨a1, a2, a3, a4⟩
  · rcases place_spec (p := p) (out := out) _ y hy.2 rfl with ⟨e2, h2⟩ | ⟨b1, b2, b3, b4⟩
    · rw [place_fails hy.2 fun z h5 h6 => by simp [h2 z h5 h6], place_fails hx.2 fun z h5 h6 => by simp [h1 z h5 h6]]
    · omega
  · rcases place_spec (p := p) (out := out) _ y hy.2 rfl with ⟨e2, h2⟩ | ⟨b1, b2, b3, b4⟩
    · omega
    · rw [← h] at b1 b2 b3 b4 ⊢
      generalize place p out x = a at *
      rcases place_spec (p := p) (out := out ++ [a]) _ (a + 1) (by omega) rfl with ⟨e3, h3⟩ | ⟨c1, c2, c3, c4⟩
      · have key : ∀ t, t ≤ p → (∀ z, t ≤ z → z < a → z ∈ out) → place p (out ++ [a]) t = -1 := fun t ht hz => place_fails ht fun z h5 h6 => by
          rcases Int.lt_trichotomy z a with h7 | h7 | h7
          · simp [hz z h5 h7]
          · simp [h7]
          · exact h3 z (by omega) h6
        rw [key y hy.2 b4, key x hx.2 a4]
      · have key : ∀ t, t ≤ a → (∀ z, t ≤ z → z < a → z ∈ out) → place p (out ++ [a]) t = place p (out ++ [a]) (a + 1) := fun t ht hz => place_is (by omega) c2 c3 fun z h5 h6 => by
          rcases Int.lt_trichotomy z a with h7 | h7 | h7
          · simp [hz z h5 h7]
          · simp [h7]
          · exact c4 z (by omega) h6
        rw [key y b1 b4, key x a1 a4]

theorem two_other {p : Int} {out : List Int} {x y : Int} (hy : 0 ≤ y ∧ y ≤ p) (h : place p out x ≠ place p out y) :
    place p (out ++ [place p out x]) y = place p out y := by
  rcases place_spec (p := p) (out := out) _ y hy.2 rfl with ⟨e2, h2⟩ | ⟨b1, b2, b3, b4⟩
  · rw [place_fails hy.2 fun z h5 h6 => by simp [h2 z h5 h6], e2]
  · exact place_is b1 b2 (by simp only [List.mem_append, List.mem_singleton, not_or]; exact ⟨b3, fun e => h e.symm⟩) fun z h5 h6 => by simp [b4 z h5 h6]

/-- Two cars one after the other, in either order. -/
theorem two_perm {p : Int} {out : List Int} {x y : Int} (hx : 0 ≤ x ∧ x ≤ p) (hy : 0 ≤ y ∧ y ≤ p) :
    (out ++ [place p out x] ++ [place p (out ++ [place p out x]) y]).Perm (out ++ [place p out y] ++ [place p (out ++ [place p out y]) x]) := by
  rw [List.append_assoc, List.append_assoc]
  refine (List.Perm.refl _).append ?_
  by_cases h : place p out x = place p out y
  · rw [two_same hx hy h, h]
  · rw [two_other hy h, two_other hx (fun e => h e.symm)]
    exact List.Perm.swap _ _ _

/-- A list with two neighbours exchanged. -/
def swapped (xs : List Int) (i : Nat) : List Int := (xs.set i (nth xs (i + 1))).set (i + 1) (nth xs i)

theorem split_two {xs : List Int} {i : Nat} (h : i + 1 < xs.length) : xs = xs.take i ++ ([nth xs i, nth xs (i + 1)] ++ xs.drop (i + 2)) := by
  have e1 : xs.drop i = nth xs i :: xs.drop (i + 1) := by rw [List.drop_eq_getElem_cons (by omega)]; simp [nth, show i < xs.length by omega]
  have e2 : xs.drop (i + 1) = nth xs (i + 1) :: xs.drop (i + 2) := by rw [List.drop_eq_getElem_cons h]; simp [nth, h]
  conv => lhs; rw [← List.take_append_drop i xs, e1, e2]
  simp
theorem swapped_split {xs : List Int} {i : Nat} (h : i + 1 < xs.length) : swapped xs i = xs.take i ++ ([nth xs (i + 1), nth xs i] ++ xs.drop (i + 2)) := by
  refine ext_nth (by simp [swapped]; omega) fun j hj => ?_
  have hj' : j < xs.length := by simpa [swapped] using hj
  unfold swapped
  rw [nth_set (by simpa using h), nth_set (by omega)]
  have e : ∀ (u v : Int), nth (xs.take i ++ ([u, v] ++ xs.drop (i + 2))) j = if j = i then u else if j = i + 1 then v else nth xs j := by
    intro u v
    unfold nth
    simp only [List.getD_eq_getElem?_getD]
    by_cases h1 : j < i
    · rw [List.getElem?_append_left (by simp; omega), if_neg (by omega), if_neg (by omega)]
      simp [h1]
    · rw [List.getElem?_append_right (by simp; omega)]
      have hl : (xs.take i).length = i := by simp; omega
      rw [hl]
      by_cases h2 : j = i
      · simp [h2]
      · by_cases h3 : j = i + 1
        · simp [h3]
        · rw [List.getElem?_append_right (by simp; omega), if_neg h2, if_neg h3]
          simp [show i + 2 + (j - i - 2) = j by omega]
  rw [e]
  by_cases h2 : j = i
  · subst h2; simp
  · by_cases h3 : j = i + 1
    · subst h3; simp
    · rw [if_neg (by omega), if_neg (by omega), if_neg h2, if_neg h3]
theorem swapped_perm {xs : List Int} {i : Nat} (h : i + 1 < xs.length) : (swapped xs i).Perm xs := by
  rw [swapped_split h]
  conv => rhs; rw [split_two h]
  exact (List.Perm.refl _).append ((List.Perm.swap _ _ _).append (List.Perm.refl _))

theorem drive_append (p : Int) (xs ys : List Int) : drive p (xs ++ ys) = ys.foldl (fun out x => out ++ [place p out x]) (drive p xs) := by
  unfold drive
  rw [List.foldl_append]

theorem drive_swapped {p : Int} {xs : List Int} {i : Nat} (h : i + 1 < xs.length) (hb : ∀ x ∈ xs, 0 ≤ x ∧ x ≤ p) : (drive p (swapped xs i)).Perm (drive p xs) := by
  rw [swapped_split h]
  conv => rhs; rw [split_two h]
  rw [drive_append, drive_append, List.foldl_append, List.foldl_append]
  refine fold_perm2 _ _ _ (fun y hy => (hb y (List.mem_of_mem_drop hy)).2) ?_
  simp only [List.foldl_cons, List.foldl_nil]
  exact two_perm (hb _ (nth_mem h)) (hb _ (nth_mem (by omega)))

theorem total_cons_aux : ∀ (xs : List Int) (c : Int), xs.foldl (· + ·) c = c + xs.foldl (· + ·) 0
  | [], c => by simp
  | x :: xs, c => by
    simp only [List.foldl_cons]
    rw [total_cons_aux xs (c + x), total_cons_aux xs (0 + x)]
    omega
theorem total_cons (x : Int) (xs : List Int) : total (x :: xs) = x + total xs := by
  unfold total
  simp only [List.foldl_cons]
  rw [total_cons_aux]
  omega
theorem total_perm {xs ys : List Int} (h : xs.Perm ys) : total xs = total ys := by
  induction h with
  | nil => rfl
  | cons x _ ih => rw [total_cons, total_cons, ih]
  | swap x y l => simp only [total_cons]; omega
  | trans _ _ ih1 ih2 => rw [ih1, ih2]
theorem total_zip : ∀ (ys xs : List Int), ys.length = xs.length → total (ys.zipWith (fun y x => y - x) xs) = total ys - total xs
  | [], [], _ => rfl
  | y :: ys, x :: xs, h => by
    simp only [List.zipWith_cons_cons, total_cons]
    rw [total_zip ys xs (by simpa using h)]
    omega
theorem total_dists (p : Int) (xs : List Int) : total (dists p xs) = total (drive p xs) - total xs := total_zip _ _ (length_drive p xs)

theorem good_perm {xs ys : List Int} {p : Int} (h : xs.Perm ys) : good xs p = good ys p := by
  rw [Bool.eq_iff_iff, good_iff, good_iff, h.length_eq]
  simp only [h.mem_iff]
theorem allPark_perm {p : Int} {xs ys : List Int} (h : (drive p xs).Perm (drive p ys)) : allPark p xs = allPark p ys := by
  rw [Bool.eq_iff_iff, allPark_iff, allPark_iff, h.mem_iff]
theorem insSort_of_perm {xs ys : List Int} (h : xs.Perm ys) : insSort xs = insSort ys :=
  sorted_unique (insSort_sorted xs) (insSort_sorted ys) ((insSort_perm xs).trans (h.trans (insSort_perm ys).symm))

theorem taken_swapped {xs : List Int} {p : Int} {i : Nat} (h : i + 1 < xs.length) : takenOf (swapped xs i) p = takenOf xs p := by
  unfold takenOf
  rw [good_perm (swapped_perm h)]
  by_cases hg : good xs p = true
  · have hd := drive_swapped (p := p) h fun x hx => by have := (good_iff.1 hg).2.2 x hx; omega
    rw [allPark_perm hd, insSort_of_perm hd]
  · simp [hg]
theorem total_swapped {xs : List Int} {p : Int} {i : Nat} (h : i + 1 < xs.length) : totalOf (swapped xs i) p = totalOf xs p := by
  unfold totalOf
  rw [good_perm (swapped_perm h)]
  by_cases hg : good xs p = true
  · have hd := drive_swapped (p := p) h fun x hx => by have := (good_iff.1 hg).2.2 x hx; omega
    rw [allPark_perm hd, total_dists, total_dists, total_perm hd, total_perm (swapped_perm h)]
  · simp [hg]

/-! What the law asks of each car. -/
theorem take_drive {p : Int} {xs : List Int} {k : Nat} (h : k ≤ xs.length) : (drive p xs).take k = drive p (xs.take k) := by
  have e : drive p xs = (xs.drop k).foldl (fun out x => out ++ [place p out x]) (drive p (xs.take k)) := by
    rw [← drive_append, List.take_append_drop]
  have pre : ∀ (ys out : List Int), ∃ r, ys.foldl (fun out x => out ++ [place p out x]) out = out ++ r := by
    intro ys
    induction ys with
    | nil => intro out; exact ⟨[], by simp⟩
    | cons y ys ih => intro out; obtain ⟨r, hr⟩ := ih (out ++ [place p out y]); exact ⟨_, by rw [List.foldl_cons, hr, List.append_assoc]⟩
  obtain ⟨r, hr⟩ := pre (xs.drop k) (drive p (xs.take k))
  rw [e, hr, List.take_append_of_le_length (by rw [length_drive]; simp; omega), List.take_of_length_le (by rw [length_drive]; simp; omega)]

/-- Where a car that parks stands: from its favourite on, not taken, all before it taken. -/
theorem car_at {p : Int} {xs : List Int} {k : Nat} (hk : k < xs.length) (hb : ∀ x ∈ xs, 0 ≤ x ∧ x ≤ p - 1) (ha : allPark p xs = true) :
    nth xs k ≤ nth (drive p xs) k ∧ nth (drive p xs) k < p ∧ nth (drive p xs) k ∉ (drive p xs).take k ∧ ∀ z, nth xs k ≤ z → z < nth (drive p xs) k → z ∈ (drive p xs).take k := by
  have hx := hb _ (nth_mem hk)
  have hn : nth (drive p xs) k ≠ -1 := fun e => allPark_iff.1 ha (by rw [← e]; exact nth_mem (by rw [length_drive]; exact hk))
  rw [take_drive (by omega), drive_get hk] at *
  rcases place_spec (p := p) (out := drive p (xs.take k)) _ (nth xs k) (by omega) rfl with ⟨e, _⟩ | h
  · exact absurd e hn
  · exact h

theorem mem_idxs {f : Nat → Bool} {n k : Nat} : ((k : Nat) : Int) ∈ idxs f n ↔ k < n ∧ f k = true := by
  unfold idxs
  simp only [List.mem_map, List.mem_filter, List.mem_range]
  constructor
  · rintro ⟨a, h, e⟩
    have : a = k := by omega
    subst this
    exact h
  · exact fun h => ⟨k, h, rfl⟩
end Go.Proofs.Ytakadjhbomggbab
