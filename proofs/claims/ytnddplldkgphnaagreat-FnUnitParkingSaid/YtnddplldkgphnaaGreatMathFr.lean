/- Cars sorted by their favourites on a street of any length: what an insertion sort leaves of the cars in order. -/
import Derived.Test.YtnddplldkgphnaaGreatMathSt
namespace Go.Proofs.YtnddplldkgphnaaGreat
open Go.RowKit Go.Sort

/-- The cars in order, sorted by favourites, are those that are listed. -/
theorem sort_carsP {m P : Nat} {xs : List Int} (hl : xs.length = m + 1) (h8 : m + 1 ≤ 50) (hb : ∀ c, c < m + 1 → 0 ≤ nth xs c ∧ nth xs c < (P : Int)) :
    (insertionSort (fun x y : Fin (m + 1) => decide (nth xs x.val < nth xs y.val)) (allFin m).toArray 0 (m + 1)).toList.map (fun i => ((i.val : Nat) : Int)) = carsTo xs P := by
  have hsz : (allFin m).toArray.size = m + 1 := by simp [allFin]
  have hcong : insertionSort (fun x y : Fin (m + 1) => decide (nth xs x.val < nth xs y.val)) (allFin m).toArray 0 (m + 1) = insertionSort (fun x y : Fin (m + 1) => decide (keyC xs x.val < keyC xs y.val)) (allFin m).toArray 0 (m + 1) := by
    unfold insertionSort
    refine insOuter_congr (fun x y hxy => ?_) (m + 1) m 1 _ (by omega) (by rw [hsz]; omega) (by rw [hsz]; omega) (fun k hk hs => ?_) (fun k hk hs => ?_)
    · have hx := hb x.val x.isLt
      have hy := hb y.val y.isLt
      have h1 := x.isLt
      unfold keyC
      rw [Int.toNat_natCast, Int.toNat_natCast]
      rw [decide_eq_decide]
      omega
    · rw [allFin_get (by omega)]; exact hk
    · rw [allFin_get (by omega)]
  rw [hcong]
  have hswo : SWO (fun x y : Fin (m + 1) => decide (keyC xs x.val < keyC xs y.val)) := ⟨fun x => by simp, fun x y z h1 h2 => by simp at *; omega, fun x y z h1 h2 => by simp at *; omega⟩
  obtain ⟨hp, hs⟩ := insertionSort_holds hswo (allFin m).toArray 0 (m + 1) (by omega) (by rw [hsz]; omega)
  generalize insertionSort (fun x y : Fin (m + 1) => decide (keyC xs x.val < keyC xs y.val)) (allFin m).toArray 0 (m + 1) = d' at hp hs ⊢
  have hlen : (allFin m).length = m + 1 := by simp [allFin]
  obtain ⟨q1, q2⟩ := sorted_cars_list hlen hp hs
  have h0 : ∀ c, c < xs.length → 0 ≤ nth xs c := fun c hc => (hb c (by omega)).1
  have hsorted := carsTo_sorted (by omega) h0 P
  have hmem : ∀ v : Int, v ∈ carsTo xs P ↔ v ∈ (allFin m).map (fun i => ((i.val : Nat) : Int)) := fun v => by
    rw [mem_carsTo h0, List.mem_map]
    constructor
    · rintro ⟨c, h1, h2, rfl⟩
      exact ⟨⟨c, by omega⟩, by simp [allFin], rfl⟩
    · rintro ⟨c, _, rfl⟩
      have h1 := c.isLt
      exact ⟨c.val, by omega, by have := hb c.val h1; omega, rfl⟩
  have hnd : (carsTo xs P).Nodup := hsorted.imp fun {a b} hab => by rintro rfl; omega
  have hnd2 : ((allFin m).map (fun i => ((i.val : Nat) : Int))).Nodup := by
    unfold allFin
    refine List.Pairwise.map _ (fun a b hab => ?_) (List.nodup_finRange (m + 1))
    intro e
    exact hab (Fin.ext (by omega))
  have hperm : (carsTo xs P).Perm ((allFin m).map (fun i => ((i.val : Nat) : Int))) := (List.perm_ext_iff_of_nodup hnd hnd2).2 hmem
  have hd : (d'.toList.map (fun i => ((i.val : Nat) : Int))).Perm (carsTo xs P) := (q1.map _).trans hperm.symm
  refine List.Perm.eq_of_pairwise (le := fun v w => keyC xs v ≤ keyC xs w) (fun a b ha hb' h1 h2 => ?_) ?_ (hsorted.imp fun {a b} hab => by omega) hd
  · have ha' := (hmem a).1 (hd.subset ha)
    have hb'' := (hmem b).1 hb'
    simp only [List.mem_map] at ha' hb''
    obtain ⟨i, _, rfl⟩ := ha'
    obtain ⟨j, _, rfl⟩ := hb''
    have hi := hb i.val i.isLt
    have hj := hb j.val j.isLt
    have h3 := i.isLt
    have h4 := j.isLt
    unfold keyC at h1 h2
    rw [Int.toNat_natCast, Int.toNat_natCast] at h1 h2
    omega
  · rw [List.pairwise_map]
    exact q2.imp fun {a b} hab => by simp at hab; omega
theorem carsP_perm {xs : List Int} {n P : Nat} (hl : xs.length = n) (h8 : n ≤ 50) (hb : ∀ c, c < n → 0 ≤ nth xs c ∧ nth xs c < (P : Int)) : (carsTo xs P).Perm (upto n) := by
  subst hl
  have h0 : ∀ c, c < xs.length → 0 ≤ nth xs c := fun c hc => (hb c hc).1
  have hsorted := carsTo_sorted h8 h0 P
  have hnd : (carsTo xs P).Nodup := hsorted.imp fun {a b} hab => by rintro rfl; omega
  have hnd2 : (upto xs.length).Nodup := by
    unfold upto
    refine List.Pairwise.map _ (fun a b hab => ?_) (List.nodup_range)
    intro e
    exact hab (by omega)
  refine (List.perm_ext_iff_of_nodup hnd hnd2).2 fun v => ?_
  rw [mem_carsTo h0]
  unfold upto
  rw [List.mem_map]
  simp only [List.mem_range]
  constructor
  · rintro ⟨c, h1, _, rfl⟩; exact ⟨c, h1, rfl⟩
  · rintro ⟨c, h1, rfl⟩; exact ⟨c, h1, (hb c h1).2, rfl⟩
theorem length_carsP {xs : List Int} {n P : Nat} (hl : xs.length = n) (h8 : n ≤ 50) (hb : ∀ c, c < n → 0 ≤ nth xs c ∧ nth xs c < (P : Int)) : (carsTo xs P).length = n := by
  rw [(carsP_perm hl h8 hb).length_eq, length_upto]
/-- A car behind all that are not farther, in a list of cars. -/
def insC (xs : List Int) (v : Int) : List Int → List Int
  | [] => [v]
  | u :: r => if nth xs u.toNat ≤ nth xs v.toNat then u :: insC xs v r else v :: u :: r
def fairTo (xs : List Int) : Nat → List Int
  | 0 => []
  | k + 1 => insC xs (k : Int) (fairTo xs k)
theorem insC_at {xs : List Int} {v : Int} : ∀ (k : Nat) (out : List Int), k ≤ out.length → (∀ j, j < k → nth xs (nth out j).toNat ≤ nth xs v.toNat) → (k = out.length ∨ nth xs v.toNat < nth xs (nth out k).toNat) → insC xs v out = out.take k ++ [v] ++ out.drop k
  | 0, [], _, _, _ => rfl
  | 0, y :: ys, _, _, h => by
    rcases h with h | h
    · simp at h
    · rw [nth_cons_zero] at h
      simp only [insC, if_neg (by omega : ¬ nth xs y.toNat ≤ nth xs v.toNat)]
      rfl
  | k + 1, [], h, _, _ => by simp at h
  | k + 1, y :: ys, hk, h, he => by
    have h0 := h 0 (by omega)
    rw [nth_cons_zero] at h0
    simp only [insC, if_pos h0]
    rw [insC_at k ys (by simp at hk; omega) (fun j hj => by have := h (j + 1) (by omega); rwa [nth_cons_succ] at this) (by rw [nth_cons_succ] at he; simpa using he)]
    simp
theorem insC_perm (xs : List Int) (v : Int) : ∀ out, (insC xs v out).Perm (v :: out)
  | [] => List.Perm.refl _
  | u :: r => by
    simp only [insC]
    split
    · exact ((insC_perm xs v r).cons u).trans (List.Perm.swap v u r)
    · exact List.Perm.refl _
theorem fairTo_perm (xs : List Int) : ∀ k, (fairTo xs k).Perm (upto k)
  | 0 => List.Perm.refl _
  | k + 1 => by
    have e : upto (k + 1) = upto k ++ [(k : Int)] := by simp [upto, List.range_succ]
    rw [e]
    exact ((insC_perm xs k _).trans ((fairTo_perm xs k).cons _)).trans (List.perm_append_comm (l₁ := [(k : Int)]))
theorem mem_upto {k : Nat} {v : Int} : v ∈ upto k ↔ ∃ c : Nat, c < k ∧ v = (c : Int) := by
  unfold upto
  simp only [List.mem_map, List.mem_range]
  constructor
  · rintro ⟨c, h, rfl⟩; exact ⟨c, h, rfl⟩
  · rintro ⟨c, h, rfl⟩; exact ⟨c, h, rfl⟩
theorem insC_sorted {xs : List Int} {v : Nat} (hv : v < 50) : ∀ out : List Int, (∀ u ∈ out, ∃ c : Nat, c < v ∧ u = (c : Int)) → out.Pairwise (fun a b => keyC xs a ≤ keyC xs b) → (insC xs v out).Pairwise fun a b => keyC xs a ≤ keyC xs b
  | [], _, _ => by simp [insC]
  | u :: r, hm, h => by
    obtain ⟨hu, hr⟩ := List.pairwise_cons.1 h
    simp only [insC]
    split
    · rename_i hle
      refine List.pairwise_cons.2 ⟨fun z hz => ?_, insC_sorted hv r (fun x hx => hm x (List.mem_cons_of_mem _ hx)) hr⟩
      rcases List.mem_cons.1 ((insC_perm xs v r).subset hz) with rfl | hz
      · obtain ⟨c, hc, rfl⟩ := hm u (List.mem_cons_self ..)
        unfold keyC
        simp only [Int.toNat_natCast] at *
        omega
      · exact hu z hz
    · rename_i hle
      refine List.pairwise_cons.2 ⟨fun z hz => ?_, h⟩
      have key : ∀ z ∈ u :: r, keyC xs u ≤ keyC xs z := fun z hz => by
        rcases List.mem_cons.1 hz with rfl | hz
        · exact Int.le_refl _
        · exact hu z hz
      have := key z hz
      obtain ⟨c, hc, rfl⟩ := hm u (List.mem_cons_self ..)
      unfold keyC at this ⊢
      simp only [Int.toNat_natCast] at *
      omega
theorem fairTo_sorted {xs : List Int} : ∀ k, k ≤ 50 → (fairTo xs k).Pairwise fun a b => keyC xs a ≤ keyC xs b
  | 0, _ => List.Pairwise.nil
  | k + 1, hk => insC_sorted (by omega) _ (fun u hu => mem_upto.1 ((fairTo_perm xs k).subset hu)) (fairTo_sorted k (by omega))
/-- Two lists of cars by favourites, equal ones by their numbers, are one. -/
theorem keyC_unique {xs ys zs : List Int} {n : Nat} (hn : n ≤ 50) (hy : ys.Perm (upto n)) (h : zs.Perm ys) (sy : ys.Pairwise fun a b => keyC xs a ≤ keyC xs b) (sz : zs.Pairwise fun a b => keyC xs a ≤ keyC xs b) : zs = ys := by
  refine List.Perm.eq_of_pairwise (le := fun v w => keyC xs v ≤ keyC xs w) (fun a b ha hb' h1 h2 => ?_) sz sy h
  obtain ⟨i, hi, rfl⟩ := mem_upto.1 ((h.trans hy).subset ha)
  obtain ⟨j, hj, rfl⟩ := mem_upto.1 (hy.subset hb')
  unfold keyC at h1 h2
  rw [Int.toNat_natCast, Int.toNat_natCast] at h1 h2
  omega
/-- The order by favourites: of 12 places at most. -/
def fairL (xs : List Int) : List Int := carsTo xs 12
theorem fairTo_cars {xs : List Int} {n P : Nat} (hl : xs.length = n) (h8 : n ≤ 50) (hb : ∀ c, c < n → 0 ≤ nth xs c ∧ nth xs c < (P : Int)) : fairTo xs n = carsTo xs P :=
  keyC_unique h8 (carsP_perm hl h8 hb) ((fairTo_perm xs n).trans (carsP_perm hl h8 hb).symm) ((carsTo_sorted (by omega) (fun c hc => (hb c (by omega)).1) P).imp fun h => by omega) (fairTo_sorted n h8)
theorem carsP_nth {xs : List Int} {n P : Nat} (hl : xs.length = n) (h8 : n ≤ 50) (hb : ∀ c, c < n → 0 ≤ nth xs c ∧ nth xs c < (P : Int)) {k : Nat} (hk : k < n) : ∃ c : Nat, nth (carsTo xs P) k = (c : Int) ∧ c < n := by
  have hp := carsP_perm hl h8 hb
  have hm : nth (carsTo xs P) k ∈ carsTo xs P := nth_mem (by rw [length_carsP hl h8 hb]; exact hk)
  obtain ⟨c, hc, e⟩ := mem_upto.1 (hp.subset hm)
  exact ⟨c, e, hc⟩
/-- On a street that is longer the order is the same. -/
theorem carsTo_same {xs : List Int} {n P Q : Nat} (hl : xs.length = n) (h8 : n ≤ 50) (hb : ∀ c, c < n → 0 ≤ nth xs c ∧ nth xs c < (P : Int)) (hPQ : P ≤ Q) : carsTo xs P = carsTo xs Q := by
  rw [← fairTo_cars hl h8 hb, ← fairTo_cars hl h8 (P := Q) (fun c hc => by have := hb c hc; omega)]
end Go.Proofs.YtnddplldkgphnaaGreat
