/- Chapter 9: valets: no order has a less greatest distance than that by favourites; each has the same waits; lucky cars have different favourites. -/
import Derived.Test.YtehdccfkkfkciacMathVv
import Derived.Test.YtehdccfkkfkciacMathVg
import Derived.Test.YtehdccfkkfkciacMathT
import Derived.Test.YtehdccfkkfkciacMathP
import Derived.Test.YtehdccfkkfkciacWa
import Derived.Test.YtehdccfkkfkciacMlu
namespace Go.Proofs.Ytehdccfkkfkciac
open Go.RowKit

theorem drive_take {p : Int} {xs : List Int} : ∀ k, k ≤ xs.length → drive p (xs.take k) = (drive p xs).take k
  | 0, _ => by simp [drive]
  | k + 1, h => by
    rw [drive_succ (by omega), drive_take k (by omega), take_succ_nth (by rw [length_drive]; omega), drive_get (by omega), drive_take k (by omega)]
/-- In increasing order of favourites places increase. -/
theorem drive_step {p : Int} {ys : List Int} (hb : ∀ x ∈ ys, 0 ≤ x ∧ x ≤ p - 1) (ha : allPark p ys = true) {k : Nat} (hk : k + 1 < ys.length) (hs : nth ys k ≤ nth ys (k + 1)) : nth (drive p ys) k < nth (drive p ys) (k + 1) := by
  have b1 := hb _ (nth_mem (xs := ys) (i := k) (by omega))
  have b2 := hb _ (nth_mem (xs := ys) (i := k + 1) hk)
  have n1 : nth (drive p ys) k ≠ -1 := fun e => allPark_iff.1 ha (by rw [← e]; exact nth_mem (by rw [length_drive]; omega))
  have n2 : nth (drive p ys) (k + 1) ≠ -1 := fun e => allPark_iff.1 ha (by rw [← e]; exact nth_mem (by rw [length_drive]; omega))
  rw [drive_get (by omega)] at n1
  have e2 := drive_get (p := p) hk
  rw [e2] at n2
  rw [e2, drive_get (by omega)]
  rw [drive_succ (by omega)] at n2 ⊢
  rcases place_spec (p := p) (out := drive p (ys.take k)) _ (nth ys k) (by omega) rfl with ⟨e, _⟩ | ⟨c1, c2, c3, c4⟩
  · exact absurd e n1
  · rcases place_spec (p := p) (out := drive p (ys.take k) ++ [place p (drive p (ys.take k)) (nth ys k)]) _ (nth ys (k + 1)) (by omega) rfl with ⟨e, _⟩ | ⟨d1, d2, d3, d4⟩
    · exact absurd e n2
    · rw [List.mem_append, List.mem_singleton, not_or] at d3
      obtain ⟨d5, d6⟩ := d3
      rcases Int.lt_trichotomy (place p (drive p (ys.take k)) (nth ys k)) (place p (drive p (ys.take k) ++ [place p (drive p (ys.take k)) (nth ys k)]) (nth ys (k + 1))) with h | h | h
      · exact h
      · exact absurd h.symm d6
      · exact absurd (c4 _ (by omega) h) d5
theorem incr_of {l : List Int} {n : Nat} (h : ∀ k, k + 1 < n → nth l k < nth l (k + 1)) : ∀ i j, i < j → j < n → nth l i < nth l j
  | _, 0, h1, _ => by omega
  | i, j + 1, h1, h2 => by
    have h3 := h j h2
    by_cases e : i = j
    · rw [e]; exact h3
    · have := incr_of h i j (by omega) (by omega)
      omega
/-- How many at most v. -/
def upTo (l : List Int) (v : Int) : Nat := l.countP fun x => decide (x ≤ v)
theorem upTo_take {l : List Int} {v : Int} {k : Nat} (h : k < l.length) : upTo (l.take (k + 1)) v = upTo (l.take k) v + if nth l k ≤ v then 1 else 0 := by
  unfold upTo
  rw [take_succ_nth h, List.countP_append]
  by_cases e : nth l k ≤ v <;> simp [e]
theorem upTo_le {a b : List Int} {v u : Int} : ∀ k, k ≤ a.length → k ≤ b.length → (∀ i, i < k → nth a i ≤ v → nth b i ≤ u) → upTo (a.take k) v ≤ upTo (b.take k) u
  | 0, _, _, _ => by simp [upTo]
  | k + 1, h1, h2, h => by
    rw [upTo_take (by omega), upTo_take (by omega)]
    have := upTo_le k (by omega) (by omega) fun i hi => h i (by omega)
    by_cases e : nth a k ≤ v
    · rw [if_pos e, if_pos (h k (by omega) e)]
      omega
    · rw [if_neg e]
      omega
theorem upTo_perm {a b : List Int} (h : a.Perm b) (v : Int) : upTo a v = upTo b v := h.countP_eq _
theorem upTo_less {l : List Int} {v : Int} {i : Nat} : ∀ k, k ≤ l.length → (∀ j, i ≤ j → j < l.length → v < nth l j) → upTo (l.take k) v ≤ i
  | 0, _, _ => by simp [upTo]
  | k + 1, h1, h => by
    rw [upTo_take (by omega)]
    have := upTo_less k (by omega) h
    by_cases e : i ≤ k
    · rw [if_neg (by have := h k e (by omega); omega)]
      omega
    · have h5 : ∀ m, upTo (l.take m) v ≤ m := fun m => by
        unfold upTo
        exact Nat.le_trans List.countP_le_length (by rw [List.length_take]; omega)
      have := h5 k
      split <;> omega
theorem upTo_more {l : List Int} {v : Int} {i : Nat} (h : ∀ j, j ≤ i → nth l j ≤ v) : ∀ k, k ≤ l.length → k ≤ i + 1 → k ≤ upTo (l.take k) v
  | 0, _, _ => Nat.zero_le _
  | k + 1, h1, h2 => by
    rw [upTo_take (by omega), if_pos (h k (by omega))]
    have := upTo_more h k (by omega) (by omega)
    omega
theorem upTo_mono {l : List Int} {v : Int} {k : Nat} : upTo (l.take k) v ≤ upTo l v := List.Sublist.countP_le (List.take_sublist k l)
/-- No order has a less greatest distance than an increasing one. -/
theorem sorted_least {p : Int} {ys zs : List Int} (hp : zs.Perm ys) (hg : good ys p = true) (ha : allPark p ys = true) (hs : ∀ i, i + 1 < ys.length → nth ys i ≤ nth ys (i + 1)) : greatL (dists p ys) ≤ greatL (dists p zs) := by
  have hb := (good_iff.1 hg).2.2
  have hz : good zs p = true := by rw [good_order hp]; exact hg
  have hbz := (good_iff.1 hz).2.2
  have hd := drive_order (p := p) hp fun x hx => by have := hbz x hx; omega
  have hl := hp.length_eq
  have hsl : ∀ i j, i ≤ j → j < ys.length → nth ys i ≤ nth ys j := by
    intro i j
    induction j with
    | zero => intro h1 _; rw [show i = 0 by omega]; exact Int.le_refl _
    | succ j ih =>
      intro h1 h2
      by_cases e : i = j + 1
      · rw [e]; exact Int.le_refl _
      · have := ih (by omega) (by omega); have := hs j h2; omega
  have hinc := incr_of (l := drive p ys) (n := ys.length) fun k hk => drive_step hb ha hk (hs k hk)
  refine (great_iff (great_nonneg _)).2 fun d hdm => ?_
  obtain ⟨i, hi, rfl⟩ := mem_nth hdm
  rw [length_dists] at hi
  rw [nth_dists hi]
  apply Classical.byContradiction
  intro hno
  -- too few places up to where car i would have to be
  have h1 : i + 1 ≤ upTo ys (nth ys i) := Nat.le_trans (upTo_more (i := i) (fun j hj => hsl j i hj hi) (i + 1) (by omega) (Nat.le_refl _)) upTo_mono
  have h2 : upTo zs (nth ys i) ≤ upTo (drive p zs) (nth ys i + greatL (dists p zs)) := by
    have := upTo_le (a := zs) (b := drive p zs) (v := nth ys i) (u := nth ys i + greatL (dists p zs)) zs.length (Nat.le_refl _) (by rw [length_drive]; exact Nat.le_refl _) fun k hk hv => by
      have h3 := (great_iff (great_nonneg (dists p zs))).1 (Int.le_refl _) (nth (dists p zs) k) (nth_mem (by rw [length_dists]; exact hk))
      rw [nth_dists hk] at h3
      omega
    rwa [List.take_length, List.take_of_length_le (by rw [length_drive]; exact Nat.le_refl _)] at this
  have h3 := upTo_less (l := drive p ys) (v := nth ys i + greatL (dists p zs)) (i := i) ys.length (by rw [length_drive]; exact Nat.le_refl _) fun j hj hjl => by
    rw [length_drive] at hjl
    by_cases e : i = j
    · rw [← e]; omega
    · have := hinc i j (by omega) hjl; omega
  rw [List.take_of_length_le (by rw [length_drive]; exact Nat.le_refl _)] at h3
  rw [upTo_perm hp, upTo_perm hd] at h2
  omega
/-! ### Waits -/
theorem waits_count {xs : List Int} {P : Nat} (h : (good xs (P : Int) && allPark (P : Int) xs) = true) (j : Nat) (hj : j < P) : ∀ k, k ≤ xs.length → nth (wTo P xs (drive (P : Int) xs) k) j = (upTo (xs.take k) (j : Int) : Int) - (upTo ((drive (P : Int) xs).take k) (j : Int) : Int)
  | 0, _ => by simp [wTo, upTo, nth, hj]
  | k + 1, hk => by
    obtain ⟨c, d, h1, h2, h3⟩ := waits_car h (k := k) (by omega)
    have ih := waits_count h j hj k (by omega)
    rw [wTo, upTo_take (by omega), upTo_take (by rw [length_drive]; omega), h1, h2, Int.toNat_natCast, show (((c + d : Nat) : Int) - (c : Int)).toNat = d by omega, nth_bumpTo d (by rw [length_wTo]; omega) j, ih]
    by_cases e1 : c ≤ j
    · by_cases e2 : j < c + d
      · rw [if_pos ⟨e1, e2⟩, if_pos (by omega), if_neg (by omega)]; omega
      · rw [if_neg (by omega), if_pos (by omega), if_pos (by omega)]; omega
    · rw [if_neg (by omega), if_neg (by omega), if_neg (by omega)]; omega
theorem waits_same {xs zs : List Int} {p : Int} (hp : zs.Perm xs) (h : (good xs p && allPark p xs) = true) (h' : (good zs p && allPark p zs) = true) : waitsOf zs p = waitsOf xs p := by
  obtain ⟨h1, h2⟩ := Bool.and_eq_true_iff.1 h
  obtain ⟨P, rfl⟩ : ∃ P : Nat, p = (P : Int) := ⟨p.toNat, by have := (good_iff.1 h1).1; omega⟩
  rw [waits_yes h rfl, waits_yes h' rfl]
  congr 1
  refine ext_nth (by rw [length_wTo, length_wTo]) fun j hj => ?_
  rw [length_wTo] at hj
  have hb := (good_iff.1 h1).2.2
  have hd := drive_order (p := (P : Int)) hp fun x hx => by have := hb x (hp.subset hx); omega
  rw [waits_count h j hj _ (Nat.le_refl _), waits_count h' j hj _ (Nat.le_refl _), List.take_length, List.take_length, List.take_of_length_le (by rw [length_drive]; exact Nat.le_refl _), List.take_of_length_le (by rw [length_drive]; exact Nat.le_refl _), upTo_perm hp, upTo_perm hd]
theorem total_set9 : ∀ (l : List Int) (i : Nat) (y : Int), i < l.length → total (l.set i y) = total l - nth l i + y
  | [], _, _, h => by simp at h
  | x :: l, 0, y, _ => by rw [List.set_cons_zero, total_cons, total_cons, nth_cons_zero]; omega
  | x :: l, i + 1, y, h => by rw [List.set_cons_succ, total_cons, total_cons, nth_cons_succ, total_set9 l i y (by simpa using h)]; omega
theorem total_bump (ys : List Int) (c : Nat) : ∀ d, c + d ≤ ys.length → total (bumpTo ys c d) = total ys + (d : Int)
  | 0, _ => by simp [bumpTo]
  | d + 1, h => by
    rw [bumpTo, total_set9 _ _ _ (by rw [length_bumpTo]; omega), total_bump ys c d (by omega)]
    omega
theorem total_zeros : ∀ P : Nat, total (List.replicate P (0 : Int)) = 0
  | 0 => rfl
  | P + 1 => by rw [List.replicate_succ, total_cons, total_zeros P]; rfl
theorem total_waits {xs : List Int} {P : Nat} (h : (good xs (P : Int) && allPark (P : Int) xs) = true) : ∀ k, k ≤ xs.length → total (wTo P xs (drive (P : Int) xs) k) = total ((drive (P : Int) xs).take k) - total (xs.take k)
  | 0, _ => by simp only [wTo, total_zeros, List.take_zero]; rfl
  | k + 1, hk => by
    obtain ⟨c, d, h1, h2, h3⟩ := waits_car h (k := k) (by omega)
    have ih := total_waits h k (by omega)
    rw [wTo, total_succ (xs := drive (P : Int) xs) (by rw [length_drive]; omega), total_succ (xs := xs) (by omega), h1, h2, Int.toNat_natCast, show (((c + d : Nat) : Int) - (c : Int)).toNat = d by omega, total_bump _ _ _ (by rw [length_wTo]; omega), ih]
    omega
/-! ### Lucky cars -/
theorem nodup_sub9 : ∀ (a b : List Int), a.Nodup → (∀ x ∈ a, x ∈ b) → a.length ≤ b.length
  | [], _, _, _ => by simp
  | x :: a, b, h, hs => by
    rw [List.nodup_cons] at h
    have h1 := nodup_sub9 a (b.erase x) h.2 (fun y hy => (List.mem_erase_of_ne (by rintro rfl; exact h.1 hy)).2 (hs y (by simp [hy])))
    have hx := hs x (by simp)
    have h2 := List.length_erase_of_mem hx
    have h3 := List.length_pos_of_mem hx
    simp only [List.length_cons]
    omega
theorem nodup_nth {l : List Int} (h : l.Nodup) {i j : Nat} (hi : i < l.length) (hj : j < l.length) (e : nth l i = nth l j) : i = j := by
  simp only [nth, List.getD_eq_getElem?_getD, List.getElem?_eq_getElem hi, List.getElem?_eq_getElem hj, Option.getD_some] at e
  exact (List.getElem_inj h).1 e
theorem lucky_few {xs zs : List Int} {p : Int} (hp : zs.Perm xs) (h' : (good zs p && allPark p zs) = true) : (idxs (fun i => nth (dists p zs) i == 0) zs.length).length ≤ (putAllL xs).length := by
  obtain ⟨h1, h2⟩ := Bool.and_eq_true_iff.1 h'
  have hnd := drive_nodup (good_iff.1 h1).2.2 h2
  have e : (idxs (fun i => nth (dists p zs) i == 0) zs.length).length = (((List.range zs.length).filter fun i => nth (dists p zs) i == 0).map fun i => nth (drive p zs) i).length := by simp [idxs]
  rw [e]
  refine nodup_sub9 _ _ ?_ fun x hx => ?_
  · rw [List.Nodup, List.pairwise_map]
    refine (List.Pairwise.filter _ List.nodup_range).imp_of_mem fun {i j} hi hj hij => ?_
    have hi2 := List.mem_range.1 (List.mem_filter.1 hi).1
    have hj2 := List.mem_range.1 (List.mem_filter.1 hj).1
    intro heq
    refine hij (nodup_nth hnd (by rw [length_drive]; exact hi2) (by rw [length_drive]; exact hj2) heq)
  · obtain ⟨i, hi, rfl⟩ := List.mem_map.1 hx
    obtain ⟨hi1, hi2⟩ := List.mem_filter.1 hi
    have hi3 := List.mem_range.1 hi1
    have hi4 : nth (dists p zs) i = 0 := by simpa using hi2
    rw [nth_dists hi3] at hi4
    have : nth (drive p zs) i = nth zs i := by omega
    unfold putAllL
    rw [this, (putAll_facts xs [] List.Pairwise.nil).2]
    exact .inl (hp.subset (nth_mem hi3))
/-! ### What the law comes to -/
theorem upto_order : ∀ n, n < 7 → (ordersL n n []).contains (upto n) = true := by decide +kernel
theorem swap_order : ∀ n, n < 7 → ∀ i, i < n → i + 1 < n → (ordersL n n []).contains (swapped (upto n) i) = true := by decide +kernel
theorem reord_swap {xs : List Int} {n i : Nat} (hl : xs.length = n) (hi : i + 1 < n) : reordL xs (swapped (upto n) i) = swapped xs i := by
  have h1 : ∀ k, k < n → nth (upto n) k = (k : Int) := fun k hk => by simp [nth, upto, hk]
  unfold swapped reordL
  rw [h1 i (by omega), h1 (i + 1) hi, List.map_set, List.map_set]
  subst hl
  rw [self_upto9, Int.toNat_natCast, Int.toNat_natCast]
theorem order_most {xs os : List Int} {p : Int} {n : Nat} (h : os ∈ ordersL n n []) : greatL (dists p (reordL xs os)) ≤ greatAll xs p n := by
  unfold greatAll
  exact (great_iff (great_nonneg _)).1 (Int.le_refl _) _ (List.mem_map.2 ⟨os, h, rfl⟩)
theorem out_of_perm {os : List Int} {n : Nat} (h8 : n ≤ 8) (h : os.Perm (upto n)) : outB os = true := by
  have hl : os.length = n := by rw [h.length_eq]; simp [upto]
  have hnd : os.Nodup := h.nodup_iff.2 (by unfold upto; rw [List.Nodup, List.pairwise_map]; exact List.nodup_range.imp fun h e => h (by omega))
  unfold outB
  rw [Bool.and_eq_true]
  refine ⟨?_, ?_⟩
  · unfold carsB
    rw [Bool.and_eq_true, decide_eq_true_eq, allB_iff]
    refine ⟨by omega, fun x hx => ?_⟩
    obtain ⟨c, hc, rfl⟩ := mem_upto.1 (h.subset hx)
    omega
  · unfold distB
    rw [List.all_eq_true]
    intro i hi
    rw [List.mem_range] at hi
    rw [Bool.not_eq_true', Bool.eq_false_iff]
    intro hh
    have hm : nth os i ∈ os.take i := by simpa [hasB] using hh
    obtain ⟨j, hj, e⟩ := mem_nth hm
    rw [List.length_take] at hj
    have e2 : nth (os.take i) j = nth os j := by simp [nth, show j < i by omega]
    rw [e2] at e
    have := nodup_nth hnd (i := j) (j := i) (by omega) hi e
    omega
/-- What is told of one order of the cars. -/
def OneOrder (p : Int) (n : Nat) (L K M : Int) (ws zs : List Int) : Prop :=
  ∃ far luck, distsOf zs p = (far, true) ∧ luckyOf zs p = (luck, true) ∧ (luck.length : Int) ≤ K ∧ waitsOf zs p = (ws, true) ∧ L ≤ greatL far ∧ (n ≤ 6 → greatL far ≤ M) ∧ (∀ k, k < n → 0 ≤ nth far k ∧ nth far k ≤ 12) ∧ far.length = n
theorem one_order {xs zs : List Int} {p : Int} {n : Nat} {L : Int} {ws : List Int} (hp : zs.Perm xs) (h : (good xs p && allPark p xs) = true) (hl : xs.length = n) (hL : L ≤ greatL (dists p zs)) (hM : n ≤ 6 → greatL (dists p zs) ≤ greatAll xs p n) (hw : waitsOf xs p = (ws, true)) :
    OneOrder p n L ((putAllL xs).length : Int) (greatAll xs p n) ws zs := by
  obtain ⟨h1, h2⟩ := Bool.and_eq_true_iff.1 h
  have hb := (good_iff.1 h1).2.2
  have h' : (good zs p && allPark p zs) = true := by
    rw [Bool.and_eq_true, good_order hp, allPark_order hp fun x hx => by have := hb x (hp.subset hx); omega]
    exact ⟨h1, h2⟩
  obtain ⟨z1, z2⟩ := Bool.and_eq_true_iff.1 h'
  have hbz := (good_iff.1 z1).2.2
  have hzl : zs.length = n := by rw [hp.length_eq]; exact hl
  have hf := lucky_few hp h'
  refine ⟨dists p zs, _, by simp only [distsOf, if_pos h'], by simp only [luckyOf, if_pos h']; rfl, by omega, by rw [waits_same hp h h']; exact hw, hL, hM, fun k hk => ?_, by rw [length_dists]; exact hzl⟩
  have c := car_at (xs := zs) (p := p) (k := k) (by omega) hbz z2
  have p1 := (good_iff.1 z1).1
  have b := hbz _ (nth_mem (xs := zs) (i := k) (by omega))
  rw [nth_dists (by omega)]
  omega
theorem valet_facts {xs : List Int} {p : Int} {n : Nat} (h : (good xs p && allPark p xs) = true) (hl : xs.length = n) :
    ∃ (L K M t : Int) (os ys ws : List Int), leastGr xs p = (L, true) ∧ luckyMost xs p = (K, true) ∧ mostGr xs p = (if n ≤ 6 then (M, true) else (0, false)) ∧ fairOf xs p = (os, true) ∧ waitsOf xs p = (ws, true) ∧ totalOf xs p = (t, true) ∧ total ws = t ∧ Small ws ∧
      (n ≤ 6 → L ≤ M) ∧ n ≤ 8 ∧ reorderOf xs os = (ys, true) ∧ ys.length = n ∧ (∀ i, i + 1 < n → nth ys i ≤ nth ys (i + 1)) ∧ OneOrder p n L K M ws xs ∧ (∀ i, i + 1 < n → OneOrder p n L K M ws (swapped xs i)) := by
  obtain ⟨h1, h2⟩ := Bool.and_eq_true_iff.1 h
  obtain ⟨g1, g12⟩ := good12 h1 hl
  obtain ⟨gp, g8, hb⟩ := good_iff.1 h1
  have hfp : (fairL xs).Perm (upto xs.length) := by rw [hl]; exact carsP_perm hl (by omega) g12
  have hyp := reord_perm hfp
  have hys := reord_park h hfp
  obtain ⟨y1, y2⟩ := Bool.and_eq_true_iff.1 hys
  have hfl : (fairL xs).length = n := length_carsP hl (by omega) g12
  have hyl : (reordL xs (fairL xs)).length = n := by rw [length_reord, hfl]
  have hsort : ∀ i, i + 1 < n → nth (reordL xs (fairL xs)) i ≤ nth (reordL xs (fairL xs)) (i + 1) := fun i hi => by
    have e := fairTo_sorted (xs := xs) n (by omega)
    rw [fairTo_cars hl (by omega) g12] at e
    have e1 := List.pairwise_iff_getElem.1 e i (i + 1) (by show i < (fairL xs).length; omega) (by show i + 1 < (fairL xs).length; omega) (by omega)
    obtain ⟨c, c1, c2⟩ := carsP_nth hl (by omega) g12 (k := i) (by omega)
    obtain ⟨d, d1, d2⟩ := carsP_nth hl (by omega) g12 (k := i + 1) (by omega)
    have c3 : (carsTo xs 12)[i]'(by show i < (fairL xs).length; omega) = (c : Int) := by rw [← c1]; simp [nth, show i < (carsTo xs 12).length from by show i < (fairL xs).length; omega]
    have d3 : (carsTo xs 12)[i + 1]'(by show i + 1 < (fairL xs).length; omega) = (d : Int) := by rw [← d1]; simp [nth, show i + 1 < (carsTo xs 12).length from by show i + 1 < (fairL xs).length; omega]
    rw [c3, d3] at e1
    unfold keyC at e1
    rw [nth_reord (by omega), nth_reord (by omega)]
    have c4 : nth (fairL xs) i = (c : Int) := c1
    have d4 : nth (fairL xs) (i + 1) = (d : Int) := d1
    rw [c4, d4]
    rw [Int.toNat_natCast, Int.toNat_natCast] at *
    omega
  have hleast : ∀ zs : List Int, zs.Perm xs → greatL (dists p (reordL xs (fairL xs))) ≤ greatL (dists p zs) := fun zs hz =>
    sorted_least (hz.trans hyp.symm) y1 y2 fun i hi => hsort i (by omega)
  have hself : n ≤ 6 → greatL (dists p xs) ≤ greatAll xs p n := fun h6 => by
    have := order_most (xs := xs) (p := p) (n := n) (os := upto n) (by simpa using upto_order n (by omega))
    subst hl
    rw [show reordL xs (upto xs.length) = xs from self_upto9 xs] at this
    exact this
  obtain ⟨P, hP⟩ : ∃ P : Nat, p = (P : Int) := ⟨p.toNat, by omega⟩
  have hw : ∃ ws, waitsOf xs p = (ws, true) ∧ total ws = total (dists p xs) ∧ Small ws := by
    subst hP
    refine ⟨_, waits_yes h rfl, ?_, fun i hi => ?_⟩
    · rw [total_waits h _ (Nat.le_refl _), List.take_length, List.take_of_length_le (by rw [length_drive]; exact Nat.le_refl _), total_dists]
    · have := wTo_bounds h xs.length (Nat.le_refl _) i
      omega
  obtain ⟨ws, w1, w2, w3⟩ := hw
  refine ⟨_, _, greatAll xs p n, total (dists p xs), fairL xs, reordL xs (fairL xs), ws, by simp only [leastGr, if_pos h], lucky_yes h, ?_, by simp only [fairOf, if_pos h], w1, by simp only [totalOf, if_pos h], w2, w3, fun h6 => Int.le_trans (hleast xs (List.Perm.refl _)) (hself h6), g1, ?_, hyl, hsort, one_order (List.Perm.refl _) h hl (hleast xs (List.Perm.refl _)) hself w1, fun i hi => ?_⟩
  · unfold mostGr
    rw [h, hl, Bool.true_and]
    by_cases e : n ≤ 6
    · rw [if_pos e, if_pos (decide_eq_true e)]
    · rw [if_neg e, if_neg (by simpa using e)]
  · unfold reorderOf
    have g : good xs 12 = true := good_iff.2 ⟨by omega, g8, fun x hx => by have := hb x hx; omega⟩
    rw [g, out_of_perm (n := n) g1 (by rw [← hl]; exact hfp), decide_eq_true (by omega)]
    rfl
  · have hsp := swapped_perm (xs := xs) (i := i) (by omega)
    refine one_order hsp h hl (hleast _ hsp) (fun h6 => ?_) w1
    have := order_most (xs := xs) (p := p) (n := n) (os := swapped (upto n) i) (by simpa using swap_order n (by omega) i (by omega) hi)
    rw [reord_swap hl hi] at this
    exact this
end Go.Proofs.Ytehdccfkkfkciac
