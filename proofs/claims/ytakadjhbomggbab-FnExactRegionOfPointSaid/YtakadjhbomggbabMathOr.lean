/- Orders of a point's numbers, and how far each place reaches. -/
import Derived.Test.YtakadjhbomggbabMathSt
import Derived.Test.YtakadjhbomggbabMathPl
namespace Go.Proofs.Ytakadjhbomggbab
open Go.RowKit Go.Sort

/-- How many of the first ones have greater numbers. -/
def ahead (xs out : List Int) (v : Int) : Nat := (out.takeWhile fun j => decide (v < nth xs j.toNat)).length
def insX (xs out : List Int) (i : Nat) : List Int := out.take (ahead xs out (nth xs i)) ++ [(i : Int)] ++ out.drop (ahead xs out (nth xs i))
def ordXTo (xs : List Int) : Nat → List Int
  | 0 => []
  | i + 1 => insX xs (ordXTo xs i) i
/-- All indices, those with greater numbers first. -/
def ordX (xs : List Int) : List Int := ordXTo xs xs.length
theorem ahead_le (xs out : List Int) (v : Int) : ahead xs out v ≤ out.length := (List.takeWhile_sublist _).length_le
theorem length_insX (xs out : List Int) (i : Nat) : (insX xs out i).length = out.length + 1 := by
  have := ahead_le xs out (nth xs i)
  simp [insX]
  omega
theorem length_ordXTo (xs : List Int) : ∀ k, (ordXTo xs k).length = k
  | 0 => rfl
  | k + 1 => by rw [ordXTo, length_insX, length_ordXTo xs k]
theorem insX_perm (xs out : List Int) (i : Nat) : (insX xs out i).Perm (out ++ [(i : Int)]) := by
  unfold insX
  generalize ahead xs out (nth xs i) = k
  have h : (out.take k ++ [(i : Int)] ++ out.drop k).Perm (out.take k ++ out.drop k ++ [(i : Int)]) := by
    rw [List.append_assoc, List.append_assoc]
    exact List.Perm.append_left _ List.perm_append_comm
  rwa [List.take_append_drop] at h
theorem ordXTo_perm (xs : List Int) : ∀ k, (ordXTo xs k).Perm (upto k)
  | 0 => List.Perm.refl _
  | k + 1 => by
    rw [ordXTo, upto_succ]
    exact (insX_perm xs _ k).trans ((ordXTo_perm xs k).append_right _)
/-- Where the search for a place stands. -/
theorem ahead_go {xs out : List Int} {v : Int} {k : Nat} (hk : ∀ j, j < k → v < nth xs (nth out j).toNat) (hkl : k < out.length) (h : ¬ v < nth xs (nth out k).toNat) : ahead xs out v = k := by
  unfold ahead
  induction out generalizing k with
  | nil => simp at hkl
  | cons a out ih =>
    cases k with
    | zero =>
      have h' : ¬ v < nth xs a.toNat := by simpa [nth] using h
      simp [h']
    | succ k =>
      have h0 : v < nth xs a.toNat := by simpa [nth] using hk 0 (by omega)
      rw [List.takeWhile_cons_of_pos (by simpa using h0), List.length_cons, ih (k := k) (fun j hj => by simpa [nth] using hk (j + 1) (by omega)) (by simpa using hkl) (by simpa [nth] using h)]
theorem ahead_all {xs out : List Int} {v : Int} (hk : ∀ j, j < out.length → v < nth xs (nth out j).toNat) : ahead xs out v = out.length := by
  unfold ahead
  induction out with
  | nil => rfl
  | cons a out ih =>
    have h0 : v < nth xs a.toNat := by simpa [nth] using hk 0 (by simp)
    rw [List.takeWhile_cons_of_pos (by simpa using h0), List.length_cons, ih (fun j hj => by simpa [nth] using hk (j + 1) (by simpa using hj)), List.length_cons]
theorem insX_rec (xs : List Int) (a : Int) (out : List Int) (i : Nat) : insX xs (a :: out) i = if nth xs i < nth xs a.toNat then a :: insX xs out i else (i : Int) :: a :: out := by
  unfold insX ahead
  by_cases h : nth xs i < nth xs a.toNat
  · rw [List.takeWhile_cons_of_pos (by simpa using h), if_pos h]
    simp
  · rw [List.takeWhile_cons_of_neg (by simpa using h), if_neg h]
    simp
/-- Greater numbers come first. -/
def Falls (xs l : List Int) : Prop := l.Pairwise fun a b => nth xs b.toNat < nth xs a.toNat
theorem insX_falls {xs : List Int} {i : Nat} : ∀ {out : List Int}, Falls xs out → (∀ a ∈ out, nth xs a.toNat ≠ nth xs i) → Falls xs (insX xs out i)
  | [], _, _ => by simp [insX, ahead, Falls]
  | a :: out, h, hd => by
    unfold Falls at h
    rw [List.pairwise_cons] at h
    have h1 := hd a (by simp)
    rw [insX_rec]
    split
    · rename_i hlt
      unfold Falls
      rw [List.pairwise_cons]
      refine ⟨fun b hb => ?_, insX_falls h.2 fun b hb => hd b (by simp [hb])⟩
      have hm := (insX_perm xs out i).subset hb
      rw [List.mem_append, List.mem_singleton] at hm
      rcases hm with hm | rfl
      · exact h.1 b hm
      · simpa using hlt
    · rename_i hge
      unfold Falls
      rw [List.pairwise_cons, List.pairwise_cons]
      refine ⟨fun b hb => ?_, h⟩
      rw [Int.toNat_natCast]
      rcases List.mem_cons.1 hb with rfl | hb
      · omega
      · have := h.1 b hb
        omega
theorem ordXTo_falls {xs : List Int} {n : Nat} (hd : ∀ i j, i < j → j < n → nth xs i ≠ nth xs j) : ∀ k, k ≤ n → Falls xs (ordXTo xs k)
  | 0, _ => List.Pairwise.nil
  | k + 1, hk => insX_falls (ordXTo_falls hd k (by omega)) fun a ha => by
    obtain ⟨c, hc, rfl⟩ : ∃ c : Nat, c < k ∧ a = (c : Int) := by
      have := (ordXTo_perm xs k).subset ha
      unfold upto at this
      obtain ⟨c, hc, e⟩ := List.mem_map.1 this
      exact ⟨c, List.mem_range.1 hc, e.symm⟩
    rw [Int.toNat_natCast]
    exact hd c k hc (by omega)
theorem ordX_nth {xs : List Int} {k : Nat} (hk : k < xs.length) : ∃ c : Nat, nth (ordX xs) k = (c : Int) ∧ c < xs.length := by
  have hm : nth (ordX xs) k ∈ ordX xs := nth_mem (by unfold ordX; rw [length_ordXTo]; exact hk)
  have := (ordXTo_perm xs xs.length).subset hm
  unfold upto at this
  obtain ⟨c, hc, e⟩ := List.mem_map.1 this
  exact ⟨c, e.symm, List.mem_range.1 hc⟩
theorem sort_ordX {m : Nat} {xs : List Int} {d' : Array (Fin (m + 1))} (hl : xs.length = m + 1) (hd : ∀ i j, i < j → j < m + 1 → nth xs i ≠ nth xs j) {lt : Fin (m + 1) → Fin (m + 1) → Bool}
    (hlt : ∀ x y : Fin (m + 1), lt x y = decide (nth xs y.val < nth xs x.val)) (hp : PermIn 0 (m + 1) (allFin m).toArray d') (hs' : SortedIn lt 0 (m + 1) d') : d'.toList.map (fun i => ((i.val : Nat) : Int)) = ordX xs := by
  obtain ⟨q1, q2⟩ := sorted_cars_list (n := m + 1) (ds := allFin m) (by simp [allFin]) hp hs'
  have hsorted := ordXTo_falls hd (m + 1) (Nat.le_refl _)
  have hsorted' : Falls xs (ordX xs) := by unfold ordX; rw [hl]; exact hsorted
  have hperm : (ordX xs).Perm (upto (m + 1)) := by unfold ordX; rw [hl]; exact ordXTo_perm xs (m + 1)
  have hfin : (allFin m).map (fun i => ((i.val : Nat) : Int)) = upto (m + 1) := by
    unfold allFin upto
    apply List.ext_getElem
    · simp
    · intro i h1 h2
      simp
  have hdp : (d'.toList.map (fun i => ((i.val : Nat) : Int))).Perm (ordX xs) := (q1.map _).trans (by rw [hfin]; exact hperm.symm)
  refine List.Perm.eq_of_pairwise (le := fun v w => nth xs w.toNat ≤ nth xs v.toNat) (fun a b ha hb' h1 h2 => ?_) ?_ (hsorted'.imp fun {a b} hab => by omega) hdp
  · have hmem : ∀ v : Int, v ∈ ordX xs → ∃ i : Nat, i < m + 1 ∧ v = (i : Int) := fun v hv => by
      have := hperm.subset hv
      unfold upto at this
      obtain ⟨i, hi, rfl⟩ := List.mem_map.1 this
      exact ⟨i, List.mem_range.1 hi, rfl⟩
    obtain ⟨i, hi, rfl⟩ := hmem a (hdp.subset ha)
    obtain ⟨j, hj, rfl⟩ := hmem b hb'
    rw [Int.toNat_natCast, Int.toNat_natCast] at h1 h2
    rcases Nat.lt_trichotomy i j with h | h | h
    · exact absurd (by omega) (hd i j h hj)
    · rw [h]
    · exact absurd (by omega) (hd j i h hi)
  · rw [List.pairwise_map]
    exact q2.imp fun {a b} hab => by rw [hlt] at hab; simp at hab; simpa using hab
/-- How far a place reaches, from what the one before does: after the first q places before it. -/
def fxIn (xs os : List Int) (i : Int) (f : Nat) : Nat → Nat
  | 0 => f
  | q + 1 => if nth os q < i ∧ 100 < nth xs (nth os q).toNat - nth xs i.toNat then max (fxIn xs os i f q) (q + 1) else fxIn xs os i f q
def fxAt (xs os : List Int) : Nat → Nat
  | 0 => 0
  | p + 1 => fxIn xs os (nth os p) (fxAt xs os p) p
def farXTo (xs os : List Int) (k : Nat) : List Int := (List.range k).map fun p => (fxAt xs os (p + 1) : Int)
def farX (xs os : List Int) : List Int := farXTo xs os os.length
theorem farXTo_succ (xs os : List Int) (k : Nat) : farXTo xs os (k + 1) = farXTo xs os k ++ [(fxAt xs os (k + 1) : Int)] := by simp [farXTo, List.range_succ]
theorem length_farXTo (xs os : List Int) (k : Nat) : (farXTo xs os k).length = k := by simp [farXTo]
theorem nth_farXTo {xs os : List Int} {k i : Nat} (h : i < k) : nth (farXTo xs os k) i = (fxAt xs os (i + 1) : Int) := by simp [nth, farXTo, h]
theorem fxIn_yes {xs os : List Int} {i : Int} {f q : Nat} (h1 : nth os q < i) (h2 : 100 < nth xs (nth os q).toNat - nth xs i.toNat) : fxIn xs os i f (q + 1) = max (fxIn xs os i f q) (q + 1) := by rw [fxIn, if_pos ⟨h1, h2⟩]
theorem fxIn_no1 {xs os : List Int} {i : Int} {f q : Nat} (h1 : ¬ nth os q < i) : fxIn xs os i f (q + 1) = fxIn xs os i f q := by rw [fxIn, if_neg fun h => h1 h.1]
theorem fxIn_no2 {xs os : List Int} {i : Int} {f q : Nat} (h2 : ¬ 100 < nth xs (nth os q).toNat - nth xs i.toNat) : fxIn xs os i f (q + 1) = fxIn xs os i f q := by rw [fxIn, if_neg fun h => h2 h.2]
theorem fxIn_le (xs os : List Int) (i : Int) (f : Nat) : ∀ q, fxIn xs os i f q ≤ max f q
  | 0 => by simp [fxIn]
  | q + 1 => by
    have := fxIn_le xs os i f q
    rw [fxIn]
    split <;> omega
theorem fxAt_le (xs os : List Int) : ∀ p, fxAt xs os p ≤ p
  | 0 => Nat.le_refl _
  | p + 1 => by
    have h1 := fxIn_le xs os (nth os p) (fxAt xs os p) p
    have h2 := fxAt_le xs os p
    rw [fxAt]
    omega
/-- The region of a point. -/
def regX (xs : List Int) : (List Int × List Int) × Bool := if pointB xs then ((ordX xs, farX xs (ordX xs)), true) else (([], []), false)
end Go.Proofs.Ytakadjhbomggbab
