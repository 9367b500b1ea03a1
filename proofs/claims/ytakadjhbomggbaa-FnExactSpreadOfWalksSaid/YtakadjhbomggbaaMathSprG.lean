/- Walks counted by area and pairs. -/
import Derived.Test.YtakadjhbomggbaaMathH
import Derived.Test.YtakadjhbomggbaaMathS
import Derived.Sort.LotA
import Derived.Test.YtakadjhbomggbaaMath1
import Derived.Test.YtakadjhbomggbaaMathX
import Derived.Test.YtakadjhbomggbaaMathL
import Derived.Test.YtakadjhbomggbaaMathP
import Derived.Test.YtakadjhbomggbaaMathSl
import Derived.Test.YtakadjhbomggbaaMathUp
import Derived.Test.YtakadjhbomggbaaMathN
import Derived.Test.YtakadjhbomggbaaHelp2
import Derived.Test.YtakadjhbomggbaaRows2
import Derived.Test.YtakadjhbomggbaaLawKit
import Derived.Maps.AppendAt
import Derived.Test.YtakadjhbomggbaaMathO
import Derived.Maps.OwnSet
import Derived.Maps.RangeWalk
import Derived.StillTailTactics
import Derived.Test.YtakadjhbomggbaaSpecS
import Derived.Test.YtakadjhbomggbaaImplC
import Derived.Test.YtakadjhbomggbaaHelp
import Derived.Test.YtakadjhbomggbaaShelfW
import Derived.Sort.OwnSortedInts
import Derived.Test.YtakadjhbomggbaaBase
import Derived.BigQuiet
import Derived.Test.YtakadjhbomggbaaSpecD
namespace Go.Proofs.Ytakadjhbomggbaa
open Go.RowKit Go.Sort

/-- The cars with favourites below x, by their favourites. -/
def carsTo (xs : List Int) : Nat → List Int
  | 0 => []
  | x + 1 => carsTo xs x ++ idxs (fun c => decide (nth xs c = (x : Int))) xs.length
def carsL (xs : List Int) : List Int := carsTo xs xs.length
theorem mem_idxsZ {f : Nat → Bool} {n : Nat} {v : Int} : v ∈ idxs f n ↔ ∃ c : Nat, c < n ∧ f c = true ∧ v = (c : Int) := by
  unfold idxs
  simp only [List.mem_map, List.mem_filter, List.mem_range]
  constructor
  · rintro ⟨c, ⟨h1, h2⟩, h3⟩; exact ⟨c, h1, h2, h3.symm⟩
  · rintro ⟨c, h1, h2, h3⟩; exact ⟨c, ⟨h1, h2⟩, h3.symm⟩
theorem mem_carsTo {xs : List Int} (h0 : ∀ c, c < xs.length → 0 ≤ nth xs c) : ∀ {x : Nat} {v : Int}, v ∈ carsTo xs x ↔ ∃ c : Nat, c < xs.length ∧ nth xs c < (x : Int) ∧ v = (c : Int)
  | 0, v => by
    simp only [carsTo, List.not_mem_nil, false_iff]
    rintro ⟨c, h1, h2, _⟩
    have := h0 c h1
    omega
  | x + 1, v => by
    simp only [carsTo, List.mem_append, mem_carsTo h0, mem_idxsZ, decide_eq_true_eq]
    constructor
    · rintro (⟨c, h1, h2, h3⟩ | ⟨c, h1, h2, h3⟩)
      · exact ⟨c, h1, by omega, h3⟩
      · exact ⟨c, h1, by omega, h3⟩
    · rintro ⟨c, h1, h2, h3⟩
      by_cases e : nth xs c = (x : Int)
      · exact .inr ⟨c, h1, e, h3⟩
      · exact .inl ⟨c, h1, by omega, h3⟩
/-- A car's place in the order. -/
def keyC (xs : List Int) (v : Int) : Int := nth xs v.toNat * 100 + v
theorem carsTo_sorted {xs : List Int} (h8 : xs.length ≤ 50) (h0 : ∀ c, c < xs.length → 0 ≤ nth xs c) : ∀ x : Nat, (carsTo xs x).Pairwise fun v w => keyC xs v < keyC xs w
  | 0 => List.Pairwise.nil
  | x + 1 => by
    simp only [carsTo]
    rw [List.pairwise_append]
    refine ⟨carsTo_sorted h8 h0 x, ?_, fun v hv w hw => ?_⟩
    · unfold idxs
      rw [List.pairwise_map]
      have hp : ((List.range xs.length).filter fun c => decide (nth xs c = (x : Int))).Pairwise (· < ·) := List.Pairwise.filter _ (List.pairwise_lt_range)
      refine hp.imp_of_mem fun {a b} ha hb hab => ?_
      simp only [List.mem_filter, decide_eq_true_eq] at ha hb
      simp only [keyC, Int.toNat_natCast]
      omega
    · obtain ⟨c, h1, h2, rfl⟩ := (mem_carsTo h0).1 hv
      obtain ⟨d, h3, h4, rfl⟩ := mem_idxsZ.1 hw
      simp only [decide_eq_true_eq] at h4
      simp only [keyC, Int.toNat_natCast]
      omega

/-! ### An insertion sort asks only of the number that it inserts -/
theorem insInner_congr {α : Type} [Inhabited α] {lt lt' : α → α → Bool} (a : Nat) : ∀ (j : Nat) (d : Array α), j < d.size → (∀ k, k < j → lt d[j]! d[k]! = lt' d[j]! d[k]!) → insInner lt a j d = insInner lt' a j d
  | 0, d, _, _ => rfl
  | j + 1, d, hj, h => by
    unfold insInner
    rw [h j (by omega)]
    split
    · refine insInner_congr a j _ (by rw [size_swp]; omega) fun k hk => ?_
      rw [swp_right d (j + 1) j (by omega), swp_other d (j + 1) j k (by omega) (by omega)]
      exact h k (by omega)
    · rfl
theorem insInner_get {α : Type} [Inhabited α] {lt : α → α → Bool} (a : Nat) : ∀ (j : Nat) (d : Array α), j < d.size → (insInner lt a j d).size = d.size ∧ (∀ k, j < k → (insInner lt a j d)[k]! = d[k]!) ∧ ∀ k, k ≤ j → ∃ k', k' ≤ j ∧ (insInner lt a j d)[k]! = d[k']!
  | 0, d, _ => ⟨rfl, fun _ _ => rfl, fun k hk => ⟨k, hk, rfl⟩⟩
  | j + 1, d, hj => by
    unfold insInner
    split
    · obtain ⟨h1, h2, h3⟩ := insInner_get (lt := lt) a j (swp d (j + 1) j) (by rw [size_swp]; omega)
      refine ⟨by rw [h1, size_swp], fun k hk => by rw [h2 k (by omega), swp_other d (j + 1) j k (by omega) (by omega)], fun k hk => ?_⟩
      by_cases e : k = j + 1
      · subst e
        rw [h2 (j + 1) (by omega), swp_left d (j + 1) j hj (by omega)]
        exact ⟨j, by omega, rfl⟩
      · obtain ⟨k', hk', e'⟩ := h3 k (by omega)
        rw [e']
        by_cases e2 : k' = j
        · subst e2
          rw [swp_right d (k' + 1) k' (by omega)]
          exact ⟨k' + 1, by omega, rfl⟩
        · rw [swp_other d (j + 1) j k' (by omega) e2]
          exact ⟨k', by omega, rfl⟩
    · exact ⟨rfl, fun _ _ => rfl, fun k hk => ⟨k, hk, rfl⟩⟩
/-- Two orders that agree where the later number is asked for first. -/
theorem insOuter_congr {m : Nat} {lt lt' : Fin (m + 1) → Fin (m + 1) → Bool} (h : ∀ x y : Fin (m + 1), y.val < x.val → lt x y = lt' x y) (b : Nat) : ∀ (f i : Nat) (d : Array (Fin (m + 1))), b - i = f → b ≤ d.size → d.size ≤ m + 1 →
    (∀ k, k < i → k < d.size → (d[k]!).val < i) → (∀ k, i ≤ k → k < d.size → (d[k]!).val = k) → insOuter lt 0 b i d = insOuter lt' 0 b i d
  | 0, i, d, hf, hb, hm, h1, h2 => by
    unfold insOuter
    rw [if_neg (by omega), if_neg (by omega)]
  | f + 1, i, d, hf, hb, hm, h1, h2 => by
    unfold insOuter
    rw [if_pos (by omega), if_pos (by omega)]
    have e : insInner lt 0 i d = insInner lt' 0 i d := insInner_congr 0 i d (by omega) fun k hk => h _ _ (by rw [h2 i (Nat.le_refl _) (by omega)]; exact h1 k hk (by omega))
    rw [e]
    obtain ⟨g1, g2, g3⟩ := insInner_get (lt := lt') 0 i d (by omega)
    refine insOuter_congr h b f (i + 1) _ (by omega) (by rw [g1]; exact hb) (by rw [g1]; exact hm) (fun k hk hs => ?_) (fun k hk hs => ?_)
    · obtain ⟨k', hk', e'⟩ := g3 k (by omega)
      rw [e']
      by_cases e2 : k' = i
      · subst e2
        rw [h2 k' (Nat.le_refl _) (by omega)]
        omega
      · have := h1 k' (by omega) (by omega)
        omega
    · rw [g2 k (by omega)]
      exact h2 k (by omega) (by rw [g1] at hs; exact hs)

/-- A permutation, in order: what a sort leaves. -/
theorem sorted_cars_list {α : Type} [Inhabited α] {lt : α → α → Bool} {ds : List α} {d' : Array α} {n : Nat} (hn : ds.length = n) (hp : PermIn 0 n ds.toArray d') (hs : SortedIn lt 0 n d') : d'.toList.Perm ds ∧ d'.toList.Pairwise (fun x y => lt y x = false) := by
  subst hn
  obtain ⟨h1, _, h3⟩ := hp
  have hsz : d'.size = ds.length := by simpa using h1
  constructor
  · have e1 : d'.extract 0 ds.length = d' := by rw [← hsz]; simp
    have e2 : ds.toArray.extract 0 ds.length = ds.toArray := by simp
    rw [e1, e2] at h3
    simpa using h3
  · rw [List.pairwise_iff_getElem]
    intro i j hi hj hij
    have := hs i j (Nat.zero_le _) hij (by simpa [hsz] using hj)
    have hi' : i < d'.size := by simpa using hi
    have hj' : j < d'.size := by simpa using hj
    rw [getElem!_pos d' j hj', getElem!_pos d' i hi'] at this
    simpa using this

def allFin (m : Nat) : List (Fin (m + 1)) := List.finRange (m + 1)
theorem allFin_get {m k : Nat} (hk : k < m + 1) : ((allFin m).toArray[k]!).val = k := by
  rw [getElem!_pos _ k (by simp [allFin]; exact hk)]
  simp [allFin]
/-- The cars in order, sorted by favourites, are those that are listed. -/
theorem sort_cars {m : Nat} {xs : List Int} (hl : xs.length = m + 1) (h8 : m + 1 ≤ 50) (hb : ∀ c, c < m + 1 → 0 ≤ nth xs c ∧ nth xs c < (m : Int) + 1) :
    (insertionSort (fun x y : Fin (m + 1) => decide (nth xs x.val < nth xs y.val)) (allFin m).toArray 0 (m + 1)).toList.map (fun i => ((i.val : Nat) : Int)) = carsL xs := by
  have hsz : (allFin m).toArray.size = m + 1 := by simp [allFin]
  have hcong : insertionSort (fun x y : Fin (m + 1) => decide (nth xs x.val < nth xs y.val)) (allFin m).toArray 0 (m + 1) = insertionSort (fun x y : Fin (m + 1) => decide (keyC xs x.val < keyC xs y.val)) (allFin m).toArray 0 (m + 1) := by
    unfold insertionSort
    refine insOuter_congr (fun x y hxy => ?_) (m + 1) m 1 _ (by omega) (by rw [hsz]; omega) (by rw [hsz]; omega) (fun k hk hs => ?_) (fun k hk hs => ?_)
    · have hx := hb x.val x.isLt
      have hy := hb y.val y.isLt
      have h1 := x.isLt
      unfold keyC
      rw [Int.toNat_natCast, Int.toNat_natCast]
      rw [decide_eq_decide]
      omega
    · rw [allFin_get (by omega)]; exact hk
    · rw [allFin_get (by omega)]
  rw [hcong]
  have hswo : SWO (fun x y : Fin (m + 1) => decide (keyC xs x.val < keyC xs y.val)) := ⟨fun x => by simp, fun x y z h1 h2 => by simp at *; omega, fun x y z h1 h2 => by simp at *; omega⟩
  obtain ⟨hp, hs⟩ := insertionSort_holds hswo (allFin m).toArray 0 (m + 1) (by omega) (by rw [hsz]; omega)
  generalize insertionSort (fun x y : Fin (m + 1) => decide (keyC xs x.val < keyC xs y.val)) (allFin m).toArray 0 (m + 1) = d' at hp hs ⊢
  have hlen : (allFin m).length = m + 1 := by simp [allFin]
  obtain ⟨q1, q2⟩ := sorted_cars_list hlen hp hs
  have h0 : ∀ c, c < xs.length → 0 ≤ nth xs c := fun c hc => (hb c (by omega)).1
  have hsorted := carsTo_sorted (by omega) h0 xs.length
  have hmem : ∀ v : Int, v ∈ carsL xs ↔ v ∈ (allFin m).map (fun i => ((i.val : Nat) : Int)) := fun v => by
    unfold carsL
    rw [mem_carsTo h0, List.mem_map]
    constructor
    · rintro ⟨c, h1, h2, rfl⟩
      exact ⟨⟨c, by omega⟩, by simp [allFin], rfl⟩
    · rintro ⟨c, _, rfl⟩
      have h1 := c.isLt
      exact ⟨c.val, by omega, by have := hb c.val h1; omega, rfl⟩
  have hnd : (carsL xs).Nodup := hsorted.imp fun {a b} hab => by rintro rfl; omega
  have hnd2 : ((allFin m).map (fun i => ((i.val : Nat) : Int))).Nodup := by
    unfold allFin
    refine List.Pairwise.map _ (fun a b hab => ?_) (List.nodup_finRange (m + 1))
    intro e
    exact hab (Fin.ext (by omega))
  have hperm : (carsL xs).Perm ((allFin m).map (fun i => ((i.val : Nat) : Int))) := (List.perm_ext_iff_of_nodup hnd hnd2).2 hmem
  have hd : (d'.toList.map (fun i => ((i.val : Nat) : Int))).Perm (carsL xs) := (q1.map _).trans hperm.symm
  refine List.Perm.eq_of_pairwise (le := fun v w => keyC xs v ≤ keyC xs w) (fun a b ha hb' h1 h2 => ?_) ?_ (hsorted.imp fun {a b} hab => by omega) hd
  · have ha' := (hmem a).1 (hd.subset ha)
    have hb'' := (hmem b).1 hb'
    simp only [List.mem_map] at ha' hb''
    obtain ⟨i, _, rfl⟩ := ha'
    obtain ⟨j, _, rfl⟩ := hb''
    have hi := hb i.val i.isLt
    have hj := hb j.val j.isLt
    have h3 := i.isLt
    have h4 := j.isLt
    unfold keyC at h1 h2
    rw [Int.toNat_natCast, Int.toNat_natCast] at h1 h2
    omega
  · rw [List.pairwise_map]
    exact q2.imp fun {a b} hab => by simp at hab; omega
theorem carsL_perm {xs : List Int} {n : Nat} (hl : xs.length = n) (h8 : n ≤ 50) (hb : ∀ c, c < n → 0 ≤ nth xs c ∧ nth xs c < (n : Int)) : (carsL xs).Perm (upto n) := by
  subst hl
  have h0 : ∀ c, c < xs.length → 0 ≤ nth xs c := fun c hc => (hb c hc).1
  have hsorted := carsTo_sorted h8 h0 xs.length
  have hnd : (carsL xs).Nodup := hsorted.imp fun {a b} hab => by rintro rfl; omega
  have hnd2 : (upto xs.length).Nodup := by
    unfold upto
    refine List.Pairwise.map _ (fun a b hab => ?_) (List.nodup_range)
    intro e
    exact hab (by omega)
  refine (List.perm_ext_iff_of_nodup hnd hnd2).2 fun v => ?_
  unfold carsL
  rw [mem_carsTo h0]
  unfold upto
  rw [List.mem_map]
  simp only [List.mem_range]
  constructor
  · rintro ⟨c, h1, _, rfl⟩; exact ⟨c, h1, rfl⟩
  · rintro ⟨c, h1, rfl⟩; exact ⟨c, h1, (hb c h1).2, rfl⟩
theorem length_carsL {xs : List Int} {n : Nat} (hl : xs.length = n) (h8 : n ≤ 50) (hb : ∀ c, c < n → 0 ≤ nth xs c ∧ nth xs c < (n : Int)) : (carsL xs).length = n := by
  rw [(carsL_perm hl h8 hb).length_eq, length_upto]
/-- The heights of cars in a row. -/
def hgtOf (xs ls : List Int) : List Int := (List.range ls.length).map fun (i : Nat) => (i : Int) - nth xs (nth ls i).toNat
theorem length_hgtOf (xs ls : List Int) : (hgtOf xs ls).length = ls.length := by simp [hgtOf]
theorem nth_hgtOf {xs ls : List Int} {i : Nat} (h : i < ls.length) : nth (hgtOf xs ls) i = (i : Int) - nth xs (nth ls i).toNat := by simp [nth, hgtOf, h]
def walkOf (xs : List Int) : (List Int × List Int) × Bool := if isPark xs then ((hgtOf xs (carsL xs), carsL xs), true) else (([], []), false)
end Go.Proofs.Ytakadjhbomggbaa

namespace Go.Proofs.Ytakadjhbomggbaa
open Go.RowKit Go.Sort

/-- The cars in order, sorted by favourites, are those that are listed. -/
theorem sort_carsP {m P : Nat} {xs : List Int} (hl : xs.length = m + 1) (h8 : m + 1 ≤ 50) (hb : ∀ c, c < m + 1 → 0 ≤ nth xs c ∧ nth xs c < (P : Int)) :
    (insertionSort (fun x y : Fin (m + 1) => decide (nth xs x.val < nth xs y.val)) (allFin m).toArray 0 (m + 1)).toList.map (fun i => ((i.val : Nat) : Int)) = carsTo xs P := by
  have hsz : (allFin m).toArray.size = m + 1 := by simp [allFin]
  have hcong : insertionSort (fun x y : Fin (m + 1) => decide (nth xs x.val < nth xs y.val)) (allFin m).toArray 0 (m + 1) = insertionSort (fun x y : Fin (m + 1) => decide (keyC xs x.val < keyC xs y.val)) (allFin m).toArray 0 (m + 1) := by
    unfold insertionSort
    refine insOuter_congr (fun x y hxy => ?_) (m + 1) m 1 _ (by omega) (by rw [hsz]; omega) (by rw [hsz]; omega) (fun k hk hs => ?_) (fun k hk hs => ?_)
    · have hx := hb x.val x.isLt
      have hy := hb y.val y.isLt
      have h1 := x.isLt
      unfold keyC
      rw [Int.toNat_natCast, Int.toNat_natCast]
      rw [decide_eq_decide]
      omega
    · rw [allFin_get (by omega)]; exact hk
    · rw [allFin_get (by omega)]
  rw [hcong]
  have hswo : SWO (fun x y : Fin (m + 1) => decide (keyC xs x.val < keyC xs y.val)) := ⟨fun x => by simp, fun x y z h1 h2 => by simp at *; omega, fun x y z h1 h2 => by simp at *; omega⟩
  obtain ⟨hp, hs⟩ := insertionSort_holds hswo (allFin m).toArray 0 (m + 1) (by omega) (by rw [hsz]; omega)
  generalize insertionSort (fun x y : Fin (m + 1) => decide (keyC xs x.val < keyC xs y.val)) (allFin m).toArray 0 (m + 1) = d' at hp hs ⊢
  have hlen : (allFin m).length = m + 1 := by simp [allFin]
  obtain ⟨q1, q2⟩ := sorted_cars_list hlen hp hs
  have h0 : ∀ c, c < xs.length → 0 ≤ nth xs c := fun c hc => (hb c (by omega)).1
  have hsorted := carsTo_sorted (by omega) h0 P
  have hmem : ∀ v : Int, v ∈ carsTo xs P ↔ v ∈ (allFin m).map (fun i => ((i.val : Nat) : Int)) := fun v => by
    rw [mem_carsTo h0, List.mem_map]
    constructor
    · rintro ⟨c, h1, h2, rfl⟩
      exact ⟨⟨c, by omega⟩, by simp [allFin], rfl⟩
    · rintro ⟨c, _, rfl⟩
      have h1 := c.isLt
      exact ⟨c.val, by omega, by have := hb c.val h1; omega, rfl⟩
  have hnd : (carsTo xs P).Nodup := hsorted.imp fun {a b} hab => by rintro rfl; omega
  have hnd2 : ((allFin m).map (fun i => ((i.val : Nat) : Int))).Nodup := by
    unfold allFin
    refine List.Pairwise.map _ (fun a b hab => ?_) (List.nodup_finRange (m + 1))
    intro e
    exact hab (Fin.ext (by omega))
  have hperm : (carsTo xs P).Perm ((allFin m).map (fun i => ((i.val : Nat) : Int))) := (List.perm_ext_iff_of_nodup hnd hnd2).2 hmem
  have hd : (d'.toList.map (fun i => ((i.val : Nat) : Int))).Perm (carsTo xs P) := (q1.map _).trans hperm.symm
  refine List.Perm.eq_of_pairwise (le := fun v w => keyC xs v ≤ keyC xs w) (fun a b ha hb' h1 h2 => ?_) ?_ (hsorted.imp fun {a b} hab => by omega) hd
  · have ha' := (hmem a).1 (hd.subset ha)
    have hb'' := (hmem b).1 hb'
    simp only [List.mem_map] at ha' hb''
    obtain ⟨i, _, rfl⟩ := ha'
    obtain ⟨j, _, rfl⟩ := hb''
    have hi := hb i.val i.isLt
    have hj := hb j.val j.isLt
    have h3 := i.isLt
    have h4 := j.isLt
    unfold keyC at h1 h2
    rw [Int.toNat_natCast, Int.toNat_natCast] at h1 h2
    omega
  · rw [List.pairwise_map]
    exact q2.imp fun {a b} hab => by simp at hab; omega
theorem carsP_perm {xs : List Int} {n P : Nat} (hl : xs.length = n) (h8 : n ≤ 50) (hb : ∀ c, c < n → 0 ≤ nth xs c ∧ nth xs c < (P : Int)) : (carsTo xs P).Perm (upto n) := by
  subst hl
  have h0 : ∀ c, c < xs.length → 0 ≤ nth xs c := fun c hc => (hb c hc).1
  have hsorted := carsTo_sorted h8 h0 P
  have hnd : (carsTo xs P).Nodup := hsorted.imp fun {a b} hab => by rintro rfl; omega
  have hnd2 : (upto xs.length).Nodup := by
    unfold upto
    refine List.Pairwise.map _ (fun a b hab => ?_) (List.nodup_range)
    intro e
    exact hab (by omega)
  refine (List.perm_ext_iff_of_nodup hnd hnd2).2 fun v => ?_
  rw [mem_carsTo h0]
  unfold upto
  rw [List.mem_map]
  simp only [List.mem_range]
  constructor
  · rintro ⟨c, h1, _, rfl⟩; exact ⟨c, h1, rfl⟩
  · rintro ⟨c, h1, rfl⟩; exact ⟨c, h1, (hb c h1).2, rfl⟩
theorem length_carsP {xs : List Int} {n P : Nat} (hl : xs.length = n) (h8 : n ≤ 50) (hb : ∀ c, c < n → 0 ≤ nth xs c ∧ nth xs c < (P : Int)) : (carsTo xs P).length = n := by
  rw [(carsP_perm hl h8 hb).length_eq, length_upto]
/-- A car behind all that are not farther, in a list of cars. -/
def insC (xs : List Int) (v : Int) : List Int → List Int
  | [] => [v]
  | u :: r => if nth xs u.toNat ≤ nth xs v.toNat then u :: insC xs v r else v :: u :: r
def fairTo (xs : List Int) : Nat → List Int
  | 0 => []
  | k + 1 => insC xs (k : Int) (fairTo xs k)
theorem insC_at {xs : List Int} {v : Int} : ∀ (k : Nat) (out : List Int), k ≤ out.length → (∀ j, j < k → nth xs (nth out j).toNat ≤ nth xs v.toNat) → (k = out.length ∨ nth xs v.toNat < nth xs (nth out k).toNat) → insC xs v out = out.take k ++ [v] ++ out.drop k
  | 0, [], _, _, _ => rfl
  | 0, y :: ys, _, _, h => by
    rcases h with h | h
    · simp at h
    · rw [nth_cons_zero] at h
      simp only [insC, if_neg (by omega : ¬ nth xs y.toNat ≤ nth xs v.toNat)]
      rfl
  | k + 1, [], h, _, _ => by simp at h
  | k + 1, y :: ys, hk, h, he => by
    have h0 := h 0 (by omega)
    rw [nth_cons_zero] at h0
    simp only [insC, if_pos h0]
    rw [insC_at k ys (by simp at hk; omega) (fun j hj => by have := h (j + 1) (by omega); rwa [nth_cons_succ] at this) (by rw [nth_cons_succ] at he; simpa using he)]
    simp
theorem insC_perm (xs : List Int) (v : Int) : ∀ out, (insC xs v out).Perm (v :: out)
  | [] => List.Perm.refl _
  | u :: r => by
    simp only [insC]
    split
    · exact ((insC_perm xs v r).cons u).trans (List.Perm.swap v u r)
    · exact List.Perm.refl _
theorem fairTo_perm (xs : List Int) : ∀ k, (fairTo xs k).Perm (upto k)
  | 0 => List.Perm.refl _
  | k + 1 => by
    have e : upto (k + 1) = upto k ++ [(k : Int)] := by simp [upto, List.range_succ]
    rw [e]
    exact ((insC_perm xs k _).trans ((fairTo_perm xs k).cons _)).trans (List.perm_append_comm (l₁ := [(k : Int)]))
theorem mem_upto {k : Nat} {v : Int} : v ∈ upto k ↔ ∃ c : Nat, c < k ∧ v = (c : Int) := by
  unfold upto
  simp only [List.mem_map, List.mem_range]
  constructor
  · rintro ⟨c, h, rfl⟩; exact ⟨c, h, rfl⟩
  · rintro ⟨c, h, rfl⟩; exact ⟨c, h, rfl⟩
theorem insC_sorted {xs : List Int} {v : Nat} (hv : v < 50) : ∀ out : List Int, (∀ u ∈ out, ∃ c : Nat, c < v ∧ u = (c : Int)) → out.Pairwise (fun a b => keyC xs a ≤ keyC xs b) → (insC xs v out).Pairwise fun a b => keyC xs a ≤ keyC xs b
  | [], _, _ => by simp [insC]
  | u :: r, hm, h => by
    obtain ⟨hu, hr⟩ := List.pairwise_cons.1 h
    simp only [insC]
    split
    · rename_i hle
      refine List.pairwise_cons.2 ⟨fun z hz => ?_, insC_sorted hv r (fun x hx => hm x (List.mem_cons_of_mem _ hx)) hr⟩
      rcases List.mem_cons.1 ((insC_perm xs v r).subset hz) with rfl | hz
      · obtain ⟨c, hc, rfl⟩ := hm u (List.mem_cons_self ..)
        unfold keyC
        simp only [Int.toNat_natCast] at *
        omega
      · exact hu z hz
    · rename_i hle
      refine List.pairwise_cons.2 ⟨fun z hz => ?_, h⟩
      have key : ∀ z ∈ u :: r, keyC xs u ≤ keyC xs z := fun z hz => by
        rcases List.mem_cons.1 hz with rfl | hz
        · exact Int.le_refl _
        · exact hu z hz
      have := key z hz
      obtain ⟨c, hc, rfl⟩ := hm u (List.mem_cons_self ..)
      unfold keyC at this ⊢
      simp only [Int.toNat_natCast] at *
      omega
theorem fairTo_sorted {xs : List Int} : ∀ k, k ≤ 50 → (fairTo xs k).Pairwise fun a b => keyC xs a ≤ keyC xs b
  | 0, _ => List.Pairwise.nil
  | k + 1, hk => insC_sorted (by omega) _ (fun u hu => mem_upto.1 ((fairTo_perm xs k).subset hu)) (fairTo_sorted k (by omega))
/-- Two lists of cars by favourites, equal ones by their numbers, are one. -/
theorem keyC_unique {xs ys zs : List Int} {n : Nat} (hn : n ≤ 50) (hy : ys.Perm (upto n)) (h : zs.Perm ys) (sy : ys.Pairwise fun a b => keyC xs a ≤ keyC xs b) (sz : zs.Pairwise fun a b => keyC xs a ≤ keyC xs b) : zs = ys := by
  refine List.Perm.eq_of_pairwise (le := fun v w => keyC xs v ≤ keyC xs w) (fun a b ha hb' h1 h2 => ?_) sz sy h
  obtain ⟨i, hi, rfl⟩ := mem_upto.1 ((h.trans hy).subset ha)
  obtain ⟨j, hj, rfl⟩ := mem_upto.1 (hy.subset hb')
  unfold keyC at h1 h2
  rw [Int.toNat_natCast, Int.toNat_natCast] at h1 h2
  omega
/-- The order by favourites: of 12 places at most. -/
def fairL (xs : List Int) : List Int := carsTo xs 12
theorem fairTo_cars {xs : List Int} {n P : Nat} (hl : xs.length = n) (h8 : n ≤ 50) (hb : ∀ c, c < n → 0 ≤ nth xs c ∧ nth xs c < (P : Int)) : fairTo xs n = carsTo xs P :=
  keyC_unique h8 (carsP_perm hl h8 hb) ((fairTo_perm xs n).trans (carsP_perm hl h8 hb).symm) ((carsTo_sorted (by omega) (fun c hc => (hb c (by omega)).1) P).imp fun h => by omega) (fairTo_sorted n h8)
theorem carsP_nth {xs : List Int} {n P : Nat} (hl : xs.length = n) (h8 : n ≤ 50) (hb : ∀ c, c < n → 0 ≤ nth xs c ∧ nth xs c < (P : Int)) {k : Nat} (hk : k < n) : ∃ c : Nat, nth (carsTo xs P) k = (c : Int) ∧ c < n := by
  have hp := carsP_perm hl h8 hb
  have hm : nth (carsTo xs P) k ∈ carsTo xs P := nth_mem (by rw [length_carsP hl h8 hb]; exact hk)
  obtain ⟨c, hc, e⟩ := mem_upto.1 (hp.subset hm)
  exact ⟨c, e, hc⟩
/-- On a street that is longer the order is the same. -/
theorem carsTo_same {xs : List Int} {n P Q : Nat} (hl : xs.length = n) (h8 : n ≤ 50) (hb : ∀ c, c < n → 0 ≤ nth xs c ∧ nth xs c < (P : Int)) (hPQ : P ≤ Q) : carsTo xs P = carsTo xs Q := by
  rw [← fairTo_cars hl h8 hb, ← fairTo_cars hl h8 (P := Q) (fun c hc => by have := hb c hc; omega)]
end Go.Proofs.Ytakadjhbomggbaa

namespace Go.Proofs.Ytakadjhbomggbaa
open Go.RowKit

def primeB (xs : List Int) : Bool := decide (0 < xs.length) && decide (idxs (isCut xs) xs.length = [])
def primeOf (xs : List Int) : Bool × Bool := if isPark xs then (primeB xs, true) else (false, false)
def cntPrimeOf (n : Int) : Int × Bool := if inB n 1 8 then ((((n.toNat - 1) ^ (n.toNat - 1) : Nat) : Int), true) else (0, false)
end Go.Proofs.Ytakadjhbomggbaa

namespace Go.Proofs.Ytakadjhbomggbaa
open Go.RowKit

/-- The lists that do not fall and go on a beginning, each number at most its index. -/
def sortL : Nat → List Int → List (List Int)
  | 0, p => [p]
  | k + 1, p => (upFrom (nth p (p.length - 1)) ((p.length : Int) + 1 - nth p (p.length - 1)).toNat).flatMap fun x => sortL k (p ++ [x])
/-- The next one, looked for from a car down. -/
def nextS (xs : List Int) : Nat → List Int × Bool
  | 0 => ([], false)
  | c + 1 => if nth xs c = (c : Int) then nextS xs c else (xs.take c ++ List.replicate (xs.length - c) (nth xs c + 1), true)
def chainB (f : List Int → List Int × Bool) : List (List Int) → Bool
  | [] => false
  | [x] => decide (f x = ([], false))
  | x :: y :: r => decide (f x = (y, true)) && chainB f (y :: r)
theorem chain_of {f : List Int → List Int × Bool} : ∀ {L : List (List Int)}, chainB f L = true → Chain f L
  | [], h => by simp [chainB] at h
  | [x], h => by
    simp [chainB] at h
    exact ⟨by simp, fun k hk => by simp at hk, by simpa using h⟩
  | x :: y :: r, h => by
    simp only [chainB, Bool.and_eq_true, decide_eq_true_eq] at h
    obtain ⟨_, h2, h3⟩ := chain_of h.2
    refine ⟨by simp, fun k hk => ?_, by simpa using h3⟩
    match k, hk with
    | 0, _ => simpa using h.1
    | k + 1, hk => simpa using h2 k (by simpa using hk)
theorem sorted_chain : ∀ n, n < 7 → chainB (fun xs => nextS xs xs.length) (sortL n []) = true ∧ (sortL n []).getD 0 [] = List.replicate n 0 ∧ (sortL n []).length ≤ 132 ∧ (sortL n []).all (fun xs => decide (xs.length = n) && allB xs 0 n) = true := by decide +kernel
def allSortedOf (n : Int) : List (List Int) × Bool := if inB n 0 6 then (sortL n.toNat [], true) else ([], false)
def countSortedOf (n : Int) : Int × Bool := if inB n 0 8 then ((chs (2 * n.toNat) n.toNat / (n.toNat + 1) : Nat), true) else (0, false)
/-- The coefficients behind i factors. -/
def lucky (n : Nat) : Nat → Nat → Nat
  | 0, l => if l = 1 then 1 else 0
  | _ + 1, 0 => 0
  | i + 1, l + 1 => (i + 1) * lucky n i (l + 1) + (n - i) * lucky n i l
theorem lucky_zero (n : Nat) : ∀ i, lucky n i 0 = 0
  | 0 => rfl
  | _ + 1 => rfl
theorem lucky_le : ∀ n, n < 9 → ∀ i, i < n → ∀ l, l < 9 → lucky n i l ≤ 4782969 := by decide +kernel
def luckyOfN (n : Int) : List Int × Bool := if inB n 1 8 then ((List.range (n.toNat + 1)).map fun (l : Nat) => (lucky n.toNat (n.toNat - 1) l : Int), true) else ([], false)
end Go.Proofs.Ytakadjhbomggbaa

namespace Go.Proofs.Ytakadjhbomggbaa
open Go.RowKit

/-- The first difference decides. -/
def lexLess : List Int → List Int → Bool
  | x :: xs, y :: ys => if x = y then lexLess xs ys else decide (x < y)
  | _, _ => false

theorem mem_upFrom : ∀ (k : Nat) (l x : Int), x ∈ upFrom l k ↔ l ≤ x ∧ x < l + k
  | 0, l, x => by simp only [upFrom, List.not_mem_nil, false_iff]; omega
  | k + 1, l, x => by simp only [upFrom, List.mem_cons, mem_upFrom k]; omega

theorem lex_mem : ∀ (ls hs L : List Int), ls.length = hs.length → L ∈ lex ls hs → L.length = ls.length ∧ ∀ i, i < ls.length → nth ls i ≤ nth L i ∧ nth L i ≤ nth hs i
  | [], [], L, _, h => by
    simp [lex] at h
    subst h
    exact ⟨rfl, fun i hi => by simp at hi⟩
  | l :: ls, h :: hs, L, hl, hm => by
    rw [lex] at hm
    obtain ⟨x, hx, hL⟩ := List.mem_flatMap.1 hm
    obtain ⟨M, hM, rfl⟩ := List.mem_map.1 hL
    obtain ⟨h1, h2⟩ := lex_mem ls hs M (by simpa using hl) hM
    rw [mem_upFrom] at hx
    unfold span at hx
    refine ⟨by simp [h1], fun i hi => ?_⟩
    cases i with
    | zero => simp only [nth_cons_zero]; omega
    | succ i => simp only [nth_cons_succ]; exact h2 i (by simpa using hi)

theorem lex_pairwise : ∀ (ls hs : List Int), (lex ls hs).Pairwise (fun a b => lexLess a b = true)
  | l :: ls, h :: hs => by
    have ih := lex_pairwise ls hs
    have key : ∀ (k : Nat) (x : Int), ((upFrom x k).flatMap fun x => (lex ls hs).map (x :: ·)).Pairwise (fun a b => lexLess a b = true) := by
      intro k
      induction k with
      | zero => intro x; simp [upFrom]
      | succ k ihk =>
        intro x
        simp only [upFrom, List.flatMap_cons]
        rw [List.pairwise_append]
        refine ⟨?_, ihk _, fun a ha b hb => ?_⟩
        · rw [List.pairwise_map]
          exact ih.imp fun h => by simp [lexLess, h]
        · obtain ⟨M, _, rfl⟩ := List.mem_map.1 ha
          obtain ⟨y, hy, hb⟩ := List.mem_flatMap.1 hb
          obtain ⟨M', _, rfl⟩ := List.mem_map.1 hb
          rw [mem_upFrom] at hy
          simp only [lexLess]
          rw [if_neg (by omega)]
          simp
          omega
    rw [lex]
    exact key _ _
  | [], _ => by simp [lex]
  | _ :: _, [] => by simp [lex]

theorem lex_last : ∀ (ls hs : List Int), ls.length = hs.length → (∀ i, i < ls.length → nth ls i ≤ nth hs i) → ∃ M, lex ls hs = M ++ [hs]
  | [], [], _, _ => ⟨[], by simp [lex]⟩
  | l :: ls, h :: hs, hl, hle => by
    obtain ⟨M, hM⟩ := lex_last ls hs (by simpa using hl) (fun i hi => by have := hle (i + 1) (by simpa using hi); simpa only [nth_cons_succ] using this)
    have h0 := hle 0 (by simp)
    simp only [nth_cons_zero] at h0
    have e : span l h = (h - l).toNat + 1 := by unfold span; omega
    have e2 : l + ((h - l).toNat : Int) = h := by omega
    rw [lex, e, upFrom_snoc, e2, List.flatMap_append, hM]
    exact ⟨((upFrom l (h - l).toNat).flatMap fun x => (M ++ [hs]).map (x :: ·)) ++ M.map (h :: ·), by simp⟩

theorem down_mem (t : List Int) : ∀ (x z : Nat), down t x ≤ z → z < x → (z : Int) ∈ t
  | 0, _, _, h => absurd h (by omega)
  | x + 1, z, h1, h2 => by
    by_cases hm : (x : Int) ∈ t
    · rw [down_step hm] at h1
      by_cases e : z = x
      · subst e; exact hm
      · exact down_mem t x z h1 (by omega)
    · rw [down_stop hm] at h1
      omega

/-- A list between the least favourites and the outcome drives to it. -/
theorem drive_out {xs L : List Int} (ho : outB xs = true) (hl : L.length = xs.length) (h : ∀ i, i < xs.length → leastOf xs i ≤ nth L i ∧ nth L i ≤ nth xs i) : ∀ k, k ≤ xs.length → drive xs.length (L.take k) = xs.take k
  | 0, _ => rfl
  | k + 1, hk => by
    have ih := drive_out ho hl h k (by omega)
    have hb := out_nth ho (i := k) (by omega)
    have h2 := h k (by omega)
    have h3 := leastOf_bounds hb.1
    rw [drive_succ (by omega), ih, take_succ_nth (by omega)]
    congr 2
    refine place_is h2.2 hb.2 (fun hm => by have := (out_before ho (i := k) (j := k) (by omega) (by omega)).1 hm; omega) (fun z h4 h5 => ?_)
    have := down_mem (xs.take k) (nth xs k).toNat z.toNat (by unfold leastOf at h2; omega) (by omega)
    rwa [Int.toNat_of_nonneg (by omega)] at this

/-- What each of all lists with an outcome is. -/
theorem outcome_list {xs L : List Int} (ho : outB xs = true) (h : L ∈ lex (leasts xs) xs) : L.length = xs.length ∧ drive xs.length L = xs ∧ ∀ x ∈ L, 0 ≤ x ∧ x ≤ (xs.length : Int) - 1 := by
  obtain ⟨h1, h2⟩ := lex_mem _ _ _ (length_leasts xs) h
  rw [length_leasts] at h1 h2
  have hb : ∀ i, i < xs.length → leastOf xs i ≤ nth L i ∧ nth L i ≤ nth xs i := fun i hi => by have := h2 i hi; rwa [nth_leasts hi] at this
  have hd := drive_out ho h1 hb xs.length (Nat.le_refl _)
  rw [List.take_length, List.take_of_length_le (by omega)] at hd
  refine ⟨h1, hd, fun x hx => ?_⟩
  obtain ⟨i, hi, rfl⟩ := mem_nth hx
  have h3 := hb i (by omega)
  have h4 := out_nth ho (i := i) (by omega)
  have h5 := leastOf_bounds h4.1
  omega
theorem outcome_drives {xs L : List Int} (ho : outB xs = true) (hn : 0 < xs.length) (h : L ∈ lex (leasts xs) xs) : driveCars L (L.length : Int) = (xs, true) := by
  obtain ⟨h1, h2, h3⟩ := outcome_list ho h
  have h8 := out_le ho
  have hg : good L (L.length : Int) = true := good_iff.2 ⟨by omega, by omega, fun x hx => by have := h3 x hx; omega⟩
  have ha : allPark (L.length : Int) L = true := allPark_iff.2 (by
    rw [h1, h2]
    intro hm
    obtain ⟨i, hi, e⟩ := mem_nth hm
    have := out_nth ho hi
    omega)
  unfold driveCars
  rw [if_pos (by rw [hg, ha]; rfl), h1, h2]

theorem leasts_le {xs : List Int} (ho : outB xs = true) : ∀ i, i < (leasts xs).length → nth (leasts xs) i ≤ nth xs i := fun i hi => by
  rw [length_leasts] at hi
  rw [nth_leasts hi]
  exact (leastOf_bounds (out_nth ho hi).1).2
theorem outcomes_last {xs : List Int} (ho : outB xs = true) : ∃ M, lex (leasts xs) xs = M ++ [xs] := lex_last _ _ (length_leasts xs) (leasts_le ho)
theorem outcomes_count {xs : List Int} (ho : outB xs = true) : (((lex (leasts xs) xs).length : Nat) : Int) = prodTo xs xs.length := by
  have := length_lex xs ho xs.length (Nat.le_refl _)
  simpa [prodTo] using this

theorem lexLess_at : ∀ (k : Nat) (xs ys : List Int), k < xs.length → xs.length = ys.length → (∀ i, i < k → nth xs i = nth ys i) → nth xs k ≠ nth ys k → lexLess xs ys = decide (nth xs k < nth ys k)
  | 0, x :: xs, y :: ys, _, _, _, h => by
    simp only [nth_cons_zero] at h ⊢
    simp [lexLess, h]
  | k + 1, x :: xs, y :: ys, hk, hl, hh, h => by
    have h0 := hh 0 (by omega)
    simp only [nth_cons_zero, nth_cons_succ] at h h0 ⊢
    simp only [lexLess, if_pos h0]
    exact lexLess_at k xs ys (by simpa using hk) (by simpa using hl) (fun i hi => by have := hh (i + 1) (by omega); simpa only [nth_cons_succ] using this) h
  | _, [], _, hk, _, _, _ => by simp at hk
  | _, _ :: _, [], _, hl, _, _ => by simp at hl
theorem lexLess_same : ∀ (xs : List Int), lexLess xs xs = false
  | [] => rfl
  | x :: xs => by simp [lexLess, lexLess_same xs]
end Go.Proofs.Ytakadjhbomggbaa

namespace Go.Proofs.Ytakadjhbomggbaa
open Go.RowKit

/-! ### Walks: lists that do not fall -/
def RunTo {α : Type} (f : α → Option α) : List α → Option α → Prop
  | [], _ => False
  | [x], t => f x = t
  | x :: y :: r, t => f x = some y ∧ RunTo f (y :: r) t
theorem RunTo.append {α : Type} {f : α → Option α} {m : α} {t : Option α} {L2 : List α} (h2 : RunTo f (m :: L2) t) : ∀ {L1 : List α}, RunTo f L1 (some m) → RunTo f (L1 ++ m :: L2) t
  | [], h => h.elim
  | [_], h => ⟨h, h2⟩
  | _ :: y :: r, h => ⟨h.1, RunTo.append h2 (L1 := y :: r) h.2⟩
theorem RunTo.map {α β : Type} {g : α → Option α} {f : β → Option β} {h : α → β} {t : Option β} (h1 : ∀ y z, g y = some z → f (h y) = some (h z)) (h2 : ∀ y, g y = none → f (h y) = t) : ∀ {L : List α}, RunTo g L none → RunTo f (L.map h) t
  | [], hh => hh.elim
  | [x], hh => h2 x hh
  | x :: y :: r, hh => ⟨h1 x y hh.1, RunTo.map h1 h2 (L := y :: r) hh.2⟩
/-- All walks under bounds from a number on. -/
def wlk : List Int → Int → List (List Int)
  | [], _ => [[]]
  | b :: bs, lo => (upFrom lo (b + 1 - lo).toNat).flatMap fun x => (wlk bs x).map (x :: ·)
/-- The next one. -/
def nx : List Int → List Int → Option (List Int)
  | b :: bs, x :: xs => match nx bs xs with
    | some ys => some (x :: ys)
    | none => if x = b then none else some (List.replicate (bs.length + 1) (x + 1))
  | _, _ => none
theorem upFrom_cons (x : Int) (k : Nat) : upFrom x (k + 1) = x :: upFrom (x + 1) k := rfl
theorem wlk_head : ∀ (bs : List Int) (lo : Int), bs.Pairwise (· ≤ ·) → (∀ b ∈ bs, lo ≤ b) → ∃ L, wlk bs lo = List.replicate bs.length lo :: L
  | [], lo, _, _ => ⟨[], rfl⟩
  | b :: bs, lo, hp, hb => by
    have h1 := hb b (by simp)
    obtain ⟨k, hk⟩ : ∃ k, (b + 1 - lo).toNat = k + 1 := ⟨(b - lo).toNat, by omega⟩
    obtain ⟨L, hL⟩ := wlk_head bs lo (List.pairwise_cons.1 hp).2 (fun c hc => hb c (by simp [hc]))
    simp only [wlk, hk, upFrom_cons, List.flatMap_cons, hL, List.map_cons, List.length_cons, List.replicate_succ, List.cons_append]
    exact ⟨_, rfl⟩
theorem wlk_run : ∀ (bs : List Int) (lo : Int), bs.Pairwise (· ≤ ·) → (∀ b ∈ bs, lo ≤ b) → RunTo (nx bs) (wlk bs lo) none
  | [], lo, _, _ => rfl
  | b :: bs, lo, hp, hb => by
    have hp2 := (List.pairwise_cons.1 hp)
    have key : ∀ (k : Nat) (x : Int), x + k = b → RunTo (nx (b :: bs)) ((upFrom x (k + 1)).flatMap fun x => (wlk bs x).map (x :: ·)) none := by
      intro k
      induction k with
      | zero =>
        intro x hx
        have hxb : x = b := by omega
        subst hxb
        simp only [upFrom, List.flatMap_cons, List.flatMap_nil, List.append_nil]
        refine RunTo.map (g := nx bs) ?_ ?_ (wlk_run bs x hp2.2 (fun c hc => hp2.1 c hc))
        · intro y z h
          simp only [nx, h]
        · intro y h
          simp [nx, h]
      | succ k ih =>
        intro x hx
        have h1 := ih (x + 1) (by omega)
        rw [upFrom_cons, List.flatMap_cons]
        have hblk : ∀ c ∈ bs, x + 1 ≤ c := fun c hc => by have := hp2.1 c hc; omega
        obtain ⟨L, hL⟩ := wlk_head (b :: bs) (x + 1) hp (fun c hc => by
          rcases List.mem_cons.1 hc with rfl | hc
          · omega
          · exact hblk c hc)
        have e : wlk (b :: bs) (x + 1) = (upFrom (x + 1) (k + 1)).flatMap fun x => (wlk bs x).map (x :: ·) := by
          simp only [wlk]
          rw [show (b + 1 - (x + 1)).toNat = k + 1 by omega]
        rw [← e, hL] at h1 ⊢
        refine RunTo.append h1 (RunTo.map (g := nx bs) ?_ ?_ (wlk_run bs x hp2.2 (fun c hc => by have := hblk c hc; omega)))
        · intro y z h
          simp only [nx, h]
        · intro y h
          simp only [nx, h]
          rw [if_neg (by omega)]
          simp
    simp only [wlk]
    have := hb b (by simp)
    have := key (b - lo).toNat lo (by omega)
    rw [show (b + 1 - lo).toNat = (b - lo).toNat + 1 by omega]
    exact this
/-- The next one, looked for from the last number down. -/
def nextW (bs xs : List Int) : Nat → List Int × Bool
  | 0 => ([], false)
  | c + 1 => if nth xs c = nth bs c then nextW bs xs c else (xs.take c ++ List.replicate (xs.length - c) (nth xs c + 1), true)
def optL : Option (List Int) → List Int × Bool
  | some ys => (ys, true)
  | none => ([], false)
theorem nextW_cons (b : Int) (bs : List Int) (x : Int) (xs : List Int) : ∀ c, nextW (b :: bs) (x :: xs) (c + 1) = if (nextW bs xs c).2 = true then (x :: (nextW bs xs c).1, true) else if x = b then ([], false) else (List.replicate (xs.length + 1) (x + 1), true)
  | 0 => by simp [nextW, nth]
  | c + 1 => by
    have ih := nextW_cons b bs x xs c
    rw [nextW, nth_cons_succ, nth_cons_succ]
    by_cases e : nth xs c = nth bs c
    · rw [if_pos e, ih, nextW, if_pos e]
    · rw [if_neg e, nextW, if_neg e]
      simp
theorem nextW_nx : ∀ (bs xs : List Int), xs.length = bs.length → nextW bs xs xs.length = optL (nx bs xs)
  | [], [], _ => rfl
  | b :: bs, x :: xs, h => by
    have ih := nextW_nx bs xs (by simpa using h)
    rw [List.length_cons, nextW_cons, ih]
    simp only [nx]
    cases hn : nx bs xs with
    | some ys => simp [optL]
    | none =>
      have : xs.length = bs.length := by simpa using h
      simp only [optL, this]
      by_cases e : x = b
      · simp [e]
      · simp [e]
theorem run_chain {f : List Int → Option (List Int)} {g : List Int → List Int × Bool} : ∀ {L : List (List Int)}, (∀ x ∈ L, g x = optL (f x)) → RunTo f L none → Chain g L
  | [], _, h => h.elim
  | [x], hg, h => by
    refine ⟨by simp, fun k hk => by simp at hk, ?_⟩
    have := hg x (by simp)
    have h' : f x = none := h
    simp [this, h', optL]
  | x :: y :: r, hg, h => by
    obtain ⟨_, h2, h3⟩ := run_chain (L := y :: r) (fun z hz => hg z (by simp [hz])) h.2
    refine ⟨by simp, fun k hk => ?_, by simpa using h3⟩
    match k, hk with
    | 0, _ =>
      have := hg x (by simp)
      have h' : f x = some y := h.1
      simp [this, h', optL]
    | k + 1, hk => simpa using h2 k (by simpa using hk)
/-- What walks are. -/
theorem wlk_mem : ∀ {bs : List Int} {lo : Int} {xs : List Int}, xs ∈ wlk bs lo ↔ xs.length = bs.length ∧ (lo :: xs).Pairwise (· ≤ ·) ∧ ∀ i, i < bs.length → nth xs i ≤ nth bs i
  | [], lo, xs => by
    simp only [wlk, List.mem_singleton]
    constructor
    · rintro rfl; simp
    · rintro ⟨h, _⟩; exact List.eq_nil_of_length_eq_zero h
  | b :: bs, lo, xs => by
    simp only [wlk, List.mem_flatMap, List.mem_map]
    constructor
    · rintro ⟨x, hx, ys, hys, rfl⟩
      obtain ⟨h1, h2, h3⟩ := wlk_mem.1 hys
      have hx' := (mem_upFrom _ _ _).1 hx
      refine ⟨by simp [h1], ?_, ?_⟩
      · rw [List.pairwise_cons]
        refine ⟨fun z hz => ?_, h2⟩
        rcases List.mem_cons.1 hz with rfl | hz
        · omega
        · have := (List.pairwise_cons.1 h2).1 z hz; omega
      · intro i hi
        match i, hi with
        | 0, _ => simp only [nth_cons_zero]; omega
        | i + 1, hi => rw [nth_cons_succ, nth_cons_succ]; exact h3 i (by simpa using hi)
    · rintro ⟨h1, h2, h3⟩
      match xs, h1 with
      | x :: ys, h1 =>
        have hp := List.pairwise_cons.1 h2
        have h0 := h3 0 (by simp)
        simp only [nth_cons_zero] at h0
        have hlx := hp.1 x (by simp)
        refine ⟨x, (mem_upFrom _ _ _).2 ⟨hlx, by omega⟩, ys, wlk_mem.2 ⟨by simpa using h1, hp.2, fun i hi => ?_⟩, rfl⟩
        have := h3 (i + 1) (by simpa using hi)
        rwa [nth_cons_succ, nth_cons_succ] at this
def allW (bs : List Int) : List (List Int) := wlk bs 0
theorem allW_chain {bs : List Int} (hb : Bnd bs) : Chain (fun xs => nextW bs xs xs.length) (allW bs) ∧ (allW bs).getD 0 [] = List.replicate bs.length 0 ∧
    ∀ k, k < (allW bs).length → ((allW bs).getD k []).length = bs.length ∧ ((allW bs).getD k []).Pairwise (· ≤ ·) ∧ ∀ i, i < bs.length → 0 ≤ nth ((allW bs).getD k []) i ∧ nth ((allW bs).getD k []) i ≤ nth bs i := by
  refine ⟨run_chain (fun x hx => nextW_nx bs x (wlk_mem.1 hx).1) (wlk_run bs 0 hb.1 hb.2), ?_, fun k hk => ?_⟩
  · obtain ⟨L, hL⟩ := wlk_head bs 0 hb.1 hb.2
    unfold allW
    rw [hL]
    rfl
  · have hm : (allW bs).getD k [] ∈ wlk bs 0 := by
      simp only [List.getD_eq_getElem?_getD, List.getElem?_eq_getElem hk, Option.getD_some]
      exact List.getElem_mem hk
    obtain ⟨h1, h2, h3⟩ := wlk_mem.1 hm
    have hp := List.pairwise_cons.1 h2
    exact ⟨h1, hp.2, fun i hi => ⟨hp.1 _ (nth_mem (by omega)), h3 i hi⟩⟩
/-! ### Slopes -/
def bnds (n a : Nat) : List Int := (List.range n).map fun (i : Nat) => ((i * a / n : Nat) : Int)
def slN (n a : Nat) : Bool := decide (1 ≤ n) && decide (n ≤ 6) && decide (1 ≤ a) && decide (a ≤ 13) && decide (Nat.gcd n a = 1)
def slB (n a : Int) : Bool := inB n 1 6 && inB a 1 13 && decide (Nat.gcd n.toNat a.toNat = 1)
theorem slB_iff {n a : Int} : slB n a = true ↔ ∃ m q : Nat, n = m ∧ a = q ∧ slN m q = true := by
  simp only [slB, slN, Bool.and_eq_true, decide_eq_true_eq, inB_iff]
  constructor
  · rintro ⟨⟨⟨h1, h2⟩, h3, h4⟩, h5⟩
    exact ⟨n.toNat, a.toNat, by omega, by omega, ⟨⟨⟨⟨by omega, by omega⟩, by omega⟩, by omega⟩, h5⟩⟩
  · rintro ⟨m, q, rfl, rfl, ⟨⟨⟨⟨h1, h2⟩, h3⟩, h4⟩, h5⟩⟩
    exact ⟨⟨⟨by omega, by omega⟩, by omega, by omega⟩, by simpa using h5⟩
theorem slN_iff {n a : Nat} : slN n a = true ↔ (1 ≤ n ∧ n ≤ 6) ∧ (1 ≤ a ∧ a ≤ 13) ∧ Nat.gcd n a = 1 := by
  simp only [slN, Bool.and_eq_true, decide_eq_true_eq]
  constructor
  · rintro ⟨⟨⟨⟨h1, h2⟩, h3⟩, h4⟩, h5⟩; exact ⟨⟨h1, h2⟩, ⟨h3, h4⟩, h5⟩
  · rintro ⟨⟨h1, h2⟩, ⟨h3, h4⟩, h5⟩; exact ⟨⟨⟨⟨h1, h2⟩, h3⟩, h4⟩, h5⟩
theorem slB_nat (n a : Nat) : slB (n : Int) (a : Int) = slN n a := by
  rw [Bool.eq_iff_iff, slB_iff]
  constructor
  · rintro ⟨m, q, h1, h2, h3⟩
    have : n = m := by omega
    have : a = q := by omega
    subst n a; exact h3
  · intro h; exact ⟨n, a, rfl, rfl, h⟩
theorem length_bnds (n a : Nat) : (bnds n a).length = n := by simp [bnds]
theorem nth_bnds {n a i : Nat} (h : i < n) : nth (bnds n a) i = ((i * a / n : Nat) : Int) := by simp [nth, bnds, h]
theorem bnds_bnd (n a : Nat) : Bnd (bnds n a) := by
  refine ⟨?_, fun b hb => ?_⟩
  · unfold bnds
    rw [List.pairwise_map]
    refine List.Pairwise.imp ?_ (List.pairwise_lt_range (n := n))
    intro i j hij
    exact Int.ofNat_le.2 (Nat.div_le_div_right (Nat.mul_le_mul_right _ (Nat.le_of_lt hij)))
  · obtain ⟨i, _, rfl⟩ := List.mem_map.1 hb
    exact Int.natCast_nonneg _
theorem bnds_lt {n a : Nat} (ha : 1 ≤ a) : ∀ b ∈ bnds n a, b < (a : Int) := by
  intro b hb
  obtain ⟨i, hi, rfl⟩ := List.mem_map.1 hb
  rw [List.mem_range] at hi
  have : i * a / n < a := by
    rw [Nat.div_lt_iff_lt_mul (by omega), Nat.mul_comm a n]
    exact Nat.mul_lt_mul_of_pos_right hi ha
  omega
theorem numB_slope {n a : Nat} (ha : 1 ≤ a) : numB (bnds n a) ≤ a := by
  unfold numB
  rcases foldl_max_mem (bnds n a) (-1) with h | h
  · omega
  · have := bnds_lt ha _ h
    omega
theorem cnt_slope : ∀ n, n < 7 → ∀ a, a < 14 → slN n a = true → cntB (bnds n a) = a ^ (n - 1) := by decide +kernel
/-- What is small enough to be counted. -/
def Sml (bs : List Int) : Prop := Bnd bs ∧ bs.length ≤ 8 ∧ numB bs ≤ 13 ∧ numB bs ^ bs.length ≤ 16777216
theorem pow_slope : ∀ n, n < 7 → ∀ a, a < 14 → a ^ n ≤ 4826809 := by decide +kernel
theorem sml_bnds {n a : Nat} (h : slN n a = true) : Sml (bnds n a) := by
  obtain ⟨⟨h1, h2⟩, ⟨h3, h4⟩, _⟩ := slN_iff.1 h
  have := numB_slope (n := n) h3
  refine ⟨bnds_bnd n a, by rw [length_bnds]; omega, by omega, ?_⟩
  rw [length_bnds]
  have := pow_slope n (by omega) (numB (bnds n a)) (by omega)
  omega
theorem NU_le {bs p : List Int} (h : Sml bs) : NU (shp bs) p ≤ 16777216 := by
  obtain ⟨_, h1, h2, h3⟩ := h
  unfold NU
  refine Nat.le_trans (U_le _ _ _ (by simp only [shp]; omega) _ (by simp only [shp]; omega)) ?_
  simp only [shp]
  by_cases h0 : numB bs = 0
  · rw [h0]
    cases bs.length - p.length with
    | zero => simp
    | succ k => simp
  · exact Nat.le_trans (Nat.pow_le_pow_right (by omega) (by omega)) h3
theorem U_small {bs : List Int} (h : Sml bs) (b : Nat → Nat) {P L : Nat} (hP : P ≤ numB bs) (hL : L ≤ bs.length) : ∀ s, s ≤ L → U (shp bs).need b P s ≤ 16777216 := fun s hs => by
  obtain ⟨_, h1, h2, h3⟩ := h
  refine Nat.le_trans (U_le _ _ _ (by omega) _ (by omega)) ?_
  by_cases h0 : numB bs = 0
  · obtain rfl : P = 0 := by omega
    cases s with
    | zero => simp
    | succ k => simp
  · refine Nat.le_trans (Nat.pow_le_pow_left hP _) ?_
    exact Nat.le_trans (Nat.pow_le_pow_right (by omega) (by omega)) h3
/-- Behind the greatest bound nothing more is chosen. -/
theorem U_past {d b : Nat → Nat} {n m P s : Nat} (hs : s = n - m) (hm : m ≤ n) (hb : ∀ i, b i ≤ m) (hmono : ∀ i, b i ≤ b (i + 1)) (hP : d P = n) (hQ : d (P + 1) = n) : U d b (P + 1 + 1) s = U d b (P + 1) s := by
  have hz : ∀ k, k < s → U d b (P + 1) k = 0 := by
    intro k hk
    simp only [U]
    rw [if_neg]
    have := hb P
    omega
  have key : sumTo (fun k => chs s k * U d b (P + 1) k) (s + 1) = U d b (P + 1) s := by
    rw [sumTo, sumTo_zero fun k hk => by rw [hz k hk, Nat.mul_zero], chs_self]
    omega
  rw [U, key]
  by_cases h : d (P + 1) ≤ b (P + 1) + s
  · rw [if_pos h]
  · rw [if_neg h]
    simp only [U]
    rw [if_neg]
    have := hmono P
    omega
theorem U_across {bs p : List Int} (hb : Bnd bs) (hl : 0 < bs.length) (hp : p.length ≤ bs.length) : ∀ k, U (shp bs).need (fun P => below p ((P : Int) + 1)) (numB bs + k) (bs.length - p.length) = NU (shp bs) p
  | 0 => rfl
  | k + 1 => by
    obtain ⟨q, hq⟩ : ∃ q, numB bs + k = q + 1 := ⟨numB bs + k - 1, by have := (numB_top hb hl).1; omega⟩
    have hn : ∀ j : Nat, numB bs ≤ j + 1 → (shp bs).need j = bs.length := by
      intro j hj
      refine below_full fun x hx => ?_
      have := (numB_top hb hl).2 x hx
      omega
    have ih := U_across (p := p) hb hl hp k
    rw [show numB bs + (k + 1) = q + 1 + 1 by omega, U_past (n := bs.length) (m := p.length) rfl hp (fun i => below_le _ _) (fun i => ?_) (hn q (by omega)) (hn (q + 1) (by omega)), ← hq, ih]
    unfold below
    exact List.countP_mono_left fun x _ h => by simp at *; omega
/-! ### Streets as bounds -/
def idx (n : Nat) : List Int := (List.range n).map fun (i : Nat) => (i : Int)
theorem length_idx (n : Nat) : (idx n).length = n := by simp [idx]
theorem nth_idx {n i : Nat} (h : i < n) : nth (idx n) i = (i : Int) := by simp [nth, idx, h]
theorem idx_bnd (n : Nat) : Bnd (idx n) := by
  refine ⟨?_, fun b hb => ?_⟩
  · unfold idx
    rw [List.pairwise_map]
    exact List.Pairwise.imp (fun h => by omega) (List.pairwise_lt_range (n := n))
  · obtain ⟨i, _, rfl⟩ := List.mem_map.1 hb
    omega
theorem numB_idx (n : Nat) : numB (idx n) = n := by
  cases n with
  | zero => rfl
  | succ k =>
    have h1 := lt_numB (bs := idx (k + 1)) (b := (k : Int)) (List.mem_map.2 ⟨k, by simp, rfl⟩) (by omega)
    have h2 : numB (idx (k + 1)) ≤ k + 1 := by
      unfold numB
      rcases foldl_max_mem (idx (k + 1)) (-1) with h | h
      · omega
      · obtain ⟨i, hi, e⟩ := List.mem_map.1 h
        rw [List.mem_range] at hi
        omega
    omega
theorem below_idx {n j : Nat} (h : j < n) : below (idx n) ((j : Int) + 1) = j + 1 := by
  have h1 := below_cut (idx n) (j + 1) ((j : Int) + 1)
  have h2 : below ((idx n).take (j + 1)) ((j : Int) + 1) = ((idx n).take (j + 1)).length := by
    refine below_full fun x hx => ?_
    obtain ⟨i, hi, rfl⟩ := mem_nth hx
    rw [List.length_take] at hi
    rw [nth_take (by omega), nth_idx (by omega)]
    omega
  have h3 : below ((idx n).drop (j + 1)) ((j : Int) + 1) = 0 := by
    unfold below
    rw [List.countP_eq_zero]
    intro x hx
    obtain ⟨i, hi, rfl⟩ := mem_nth hx
    rw [List.length_drop, length_idx] at hi
    rw [nth_dropP, nth_idx (by omega)]
    simp
    omega
  rw [h1, h2, h3, List.length_take, length_idx]
  omega
theorem N_idx (n : Nat) (p : List Int) : NU (shp (idx n)) p = N p n := by
  unfold NU N
  rw [V_U]
  simp only [shp, numB_idx, length_idx]
  exact U_congr n (fun _ _ => rfl) (fun i hi => below_idx hi) _
theorem zf_idx (n : Nat) (p : List Int) : zf (shp (idx n)) p ↔ zpark p n := by
  unfold zf zpark
  simp only [shp, numB_idx, length_idx]
  constructor
  · intro h i hi
    have := h i hi
    rw [below_idx hi] at this
    omega
  · intro h i hi
    have := h i hi
    rw [below_idx hi]
    omega
theorem sml_idx {n : Nat} (h : n ≤ 8) : Sml (idx n) := by
  have : ∀ n, n < 9 → n ^ n ≤ 16777216 := by decide +kernel
  exact ⟨idx_bnd n, by rw [length_idx]; exact h, by rw [numB_idx]; omega, by rw [numB_idx, length_idx]; exact this n (by omega)⟩
theorem und_idx {xs : List Int} {n : Nat} (hl : xs.length = n) (h8 : n ≤ 8) : und (idx n) xs = isPark xs := by
  rw [Bool.eq_iff_iff, und_iff (idx_bnd n) (by rw [length_idx]; exact hl), zf_idx]
  subst hl
  constructor
  · rintro ⟨h0, hz⟩
    exact (isPark_zpark h8 h0).2 hz
  · intro h
    have h0 : ∀ x ∈ xs, 0 ≤ x := fun x hx => ((isPark_bounds h).2 x hx).1
    exact ⟨h0, (isPark_zpark h8 h0).1 h⟩
theorem rk_idx (n : Nat) : ∀ (r : List Nat) (p : List Int), rkU (shp (idx n)) p r = rk n p r
  | [], _ => rfl
  | x :: r, p => by
    simp only [rkU, rk]
    rw [rk_idx n r, sumTo_congr (f := fun y : Nat => NU (shp (idx n)) (p ++ [(y : Int)])) (g := fun y : Nat => N (p ++ [(y : Int)]) n) fun y _ => N_idx n _]
theorem nextU_idx {xs : List Int} {n : Nat} (hl : xs.length = n) (h8 : n ≤ 8) : ∀ c, c ≤ n → nextU (idx n) xs c = nextP xs c
  | 0, _ => rfl
  | c + 1, h => by
    simp only [nextU, nextP]
    rw [und_idx (by rw [length_cand (by omega)]; exact hl) h8, nextU_idx hl h8 c (by omega)]
theorem nextW_idx {xs : List Int} {n : Nat} : ∀ c, c ≤ n → nextW (idx n) xs c = nextS xs c
  | 0, _ => rfl
  | c + 1, h => by
    simp only [nextW, nextS]
    rw [nth_idx (by omega), nextW_idx c (by omega)]
theorem pick_congr {f g : Nat → Nat} (h : ∀ y, f y = g y) (k y r : Nat) : pick f k y r = pick g k y r := by rw [funext h]
theorem at_idx (n : Nat) : ∀ (k : Nat) (p : List Int) (R : Nat), atU (shp (idx n)) k p R = atL n k p R
  | 0, _, _ => rfl
  | k + 1, p, R => by
    simp only [atU, atL]
    have e : (fun y : Nat => NU (shp (idx n)) (p ++ [(y : Int)])) = fun y : Nat => N (p ++ [(y : Int)]) n := funext fun y => N_idx n _
    rw [e, show (shp (idx n)).A = n from numB_idx n, at_idx n k]
theorem list_idx (n : Nat) : ∀ (k : Nat) (p : List Int), liU (shp (idx n)) k p = listL n k p
  | 0, p => by
    simp only [liU, listL]
    by_cases h : zpark p n
    · rw [if_pos h, if_pos ((zf_idx n p).2 h)]
    · rw [if_neg h, if_neg fun hh => h ((zf_idx n p).1 hh)]
  | k + 1, p => by
    simp only [liU, listL]
    rw [show (shp (idx n)).A = n from numB_idx n]
    congr 1
    funext x
    exact list_idx n k _
theorem cnt_idx {n : Nat} (h : n ≤ 8) : cntB (idx n) = cnt n := by unfold cntB; rw [N_idx, N_nil h]
end Go.Proofs.Ytakadjhbomggbaa

namespace Go.Proofs.Ytakadjhbomggbaa
open Go.RowKit

def allPrimeOf (n : Int) : List (List Int) × Bool := if inB n 1 5 then ((listL n.toNat n.toNat []).filter primeB, true) else ([], false)
/-- The bounds of prime lists. -/
def pbs (n : Nat) : List Int := (List.range n).map fun (i : Nat) => ((i - 1 : Nat) : Int)
theorem length_pbs (n : Nat) : (pbs n).length = n := by simp [pbs]
theorem nth_pbs {n i : Nat} (h : i < n) : nth (pbs n) i = ((i - 1 : Nat) : Int) := by simp [nth, pbs, h]
theorem pbs_bnd (n : Nat) : Bnd (pbs n) := by
  refine ⟨?_, fun b hb => ?_⟩
  · unfold pbs
    rw [List.pairwise_map]
    exact (List.pairwise_lt_range).imp fun h => by omega
  · unfold pbs at hb
    obtain ⟨i, _, rfl⟩ := List.mem_map.1 hb
    omega
theorem prime_list : ∀ n, n < 6 → 0 < n → allB' (pbs n) = (listL n n []).filter primeB := by decide +kernel
theorem cnt_prime : ∀ n, n < 6 → 0 < n → cntB (pbs n) = (n - 1) ^ (n - 1) := by decide +kernel

/-! ### The first place of a part -/
/-- A cut, or 0. -/
def st (xs : List Int) (b : Nat) : Bool := decide (below xs (b : Int) = b)
def begF (xs : List Int) : Nat → Nat
  | 0 => 0
  | b + 1 => if b + 1 < below xs ((b + 1 : Nat) : Int) then begF xs b else b + 1
theorem begF_le (xs : List Int) : ∀ b, begF xs b ≤ b
  | 0 => Nat.le_refl _
  | b + 1 => by
    unfold begF
    split
    · exact Nat.le_succ_of_le (begF_le xs b)
    · exact Nat.le_refl _
theorem below_zero {xs : List Int} (h : ∀ x ∈ xs, 0 ≤ x) : below xs 0 = 0 := by
  unfold below
  rw [List.countP_eq_zero]
  intro x hx
  have := h x hx
  simp
  omega
theorem begF_go {xs : List Int} {b : Nat} (h : b < below xs (b : Int)) (h0 : ∀ x ∈ xs, 0 ≤ x) : 0 < b ∧ begF xs b = begF xs (b - 1) := by
  cases b with
  | zero => rw [show ((0 : Nat) : Int) = 0 from rfl, below_zero h0] at h; omega
  | succ b => exact ⟨by omega, by rw [begF, if_pos h, Nat.add_sub_cancel]⟩
theorem begF_stop {xs : List Int} {b : Nat} (h : ¬ b < below xs (b : Int)) : begF xs b = b := by
  cases b with
  | zero => rfl
  | succ b => rw [begF, if_neg h]
/-- In increasing order. -/
theorem park_sorted {xs : List Int} (h : isPark xs = true) : ∀ i, i < xs.length → 0 ≤ nth (insSort xs) i ∧ nth (insSort xs) i ≤ (i : Int) := by
  have hb := isPark_bounds h
  have h1 : ∀ x ∈ xs, 0 ≤ x := fun x hx => (hb.2 x hx).1
  have h2 := (isPark_zpark hb.1 h1).1 h
  intro i hi
  have hl := length_insSort xs
  refine ⟨h1 _ ((insSort_perm xs).subset (nth_mem (by rw [hl]; exact hi))), ?_⟩
  have := h2 i hi
  rw [Nat.sub_self, Nat.add_zero, ← below_perm (insSort_perm xs)] at this
  have h3 := (below_sorted (insSort_sorted xs) (k := i) (by rw [hl]; exact hi) ((i : Int) + 1)).1 this
  omega
theorem below_ge {xs : List Int} (h : isPark xs = true) {b : Nat} (hb : b ≤ xs.length) : b ≤ below xs (b : Int) := by
  cases b with
  | zero => exact Nat.zero_le _
  | succ b =>
    have hl := length_insSort xs
    have h1 := park_sorted h b (by omega)
    have h2 := (below_sorted (insSort_sorted xs) (k := b) (by omega) ((b : Int) + 1)).2 (by omega)
    rw [below_perm (insSort_perm xs)] at h2
    have : ((b + 1 : Nat) : Int) = (b : Int) + 1 := by omega
    rw [this]
    omega
theorem st_iff {xs : List Int} (h : isPark xs = true) {b : Nat} (hb : b ≤ xs.length) : st xs b = true ↔ ¬ b < below xs (b : Int) := by
  have := below_ge h hb
  simp only [st, decide_eq_true_eq]
  omega
theorem st_at {xs : List Int} (h : isPark xs = true) {b : Nat} (hb : b < xs.length) : st xs b = true ↔ nth (insSort xs) b = (b : Int) := by
  rw [st_iff h (by omega), ← below_perm (insSort_perm xs), below_sorted (insSort_sorted xs) (by rw [length_insSort]; exact hb)]
  have := park_sorted h b hb
  omega
theorem begF_st {xs : List Int} (h : isPark xs = true) : ∀ b, b ≤ xs.length → st xs (begF xs b) = true ∧ ∀ c, begF xs b < c → c ≤ b → st xs c = false
  | 0, _ => ⟨by
      show st xs 0 = true
      rw [st_iff h (Nat.zero_le _), show ((0 : Nat) : Int) = 0 from rfl, below_zero (fun x hx => ((isPark_bounds h).2 x hx).1)]
      omega, fun c h1 h2 => by simp [begF] at h1; omega⟩
  | b + 1, hb => by
    obtain ⟨g1, g2⟩ := begF_st h b (by omega)
    by_cases hc : b + 1 < below xs ((b + 1 : Nat) : Int)
    · rw [begF, if_pos hc]
      refine ⟨g1, fun c h1 h2 => ?_⟩
      by_cases e : c = b + 1
      · subst e
        rw [Bool.eq_false_iff]
        intro hh
        exact ((st_iff h hb).1 hh) hc
      · exact g2 c h1 (by omega)
    · rw [begF, if_neg hc]
      exact ⟨(st_iff h hb).2 hc, fun c h1 h2 => by omega⟩
theorem begF_eq {xs : List Int} (h : isPark xs = true) {a b : Nat} (hb : b ≤ xs.length) (ha : a ≤ b) (h1 : st xs a = true) (h2 : ∀ c, a < c → c ≤ b → st xs c = false) : begF xs b = a := by
  obtain ⟨g1, g2⟩ := begF_st h b hb
  have := begF_le xs b
  rcases Nat.lt_trichotomy (begF xs b) a with h3 | h3 | h3
  · rw [g2 a h3 ha] at h1; cases h1
  · exact h3
  · rw [h2 _ h3 this] at g1; cases g1

/-! ### Cars by the parts in which they are -/
def begC (xs : List Int) (c : Int) : Nat := begF xs (nth xs c.toNat).toNat
def grp (xs cars : List Int) (b : Nat) : List Int := cars.filter fun c => decide (begC xs c = b)
def partRows (xs cars : List Int) : List (List Int) := ((List.range 8).map (grp xs cars)).filter fun r => !r.isEmpty
theorem grp_snoc (xs cars : List Int) (c : Int) (b : Nat) : grp xs (cars ++ [c]) b = if begC xs c = b then grp xs cars b ++ [c] else grp xs cars b := by
  unfold grp
  rw [List.filter_append]
  by_cases h : begC xs c = b <;> simp [h]

/-! ### Parts between neighbouring cuts -/
def cutList (xs : List Int) : List Int := 0 :: (idxs (isCut xs) xs.length ++ [(xs.length : Int)])
def partAt (xs : List Int) (a b : Int) : List Int := (xs.filter fun x => decide (a ≤ x) && decide (x < b)).map (· - a)
def primeParts (xs : List Int) : List (List Int) := (List.range ((cutList xs).length - 1)).map fun k => partAt xs (nth (cutList xs) k) (nth (cutList xs) (k + 1))
def primePartsOf (xs : List Int) : List (List Int) × Bool := if isPark xs then (if xs = [] then [] else primeParts xs, true) else ([], false)
end Go.Proofs.Ytakadjhbomggbaa

namespace Go.Proofs.Ytakadjhbomggbaa
open Go.RowKit

theorem filter_lt_range (q : Nat → Bool) (n : Nat) : ∀ m, (List.range m).filter (fun b => decide (b < n) && q b) = (List.range (min m n)).filter q
  | 0 => by simp
  | m + 1 => by
    rw [List.range_succ, List.filter_append, filter_lt_range q n m]
    by_cases h : m < n
    · rw [show min (m + 1) n = m + 1 by omega, show min m n = m by omega, List.range_succ, List.filter_append]
      simp [h, List.filter_cons]
    · rw [show min (m + 1) n = min m n by omega]
      simp [h]
/-- The starts of parts. -/
def starts (xs : List Int) : List Nat := (List.range xs.length).filter (st xs)
theorem mem_starts {xs : List Int} {b : Nat} : b ∈ starts xs ↔ b < xs.length ∧ st xs b = true := by simp [starts]
theorem starts_lt (xs : List Int) : (starts xs).Pairwise (· < ·) := List.Pairwise.filter _ List.pairwise_lt_range
theorem begC_facts {xs : List Int} (h : isPark xs = true) {c : Nat} (hc : c < xs.length) : begC xs (c : Int) < xs.length ∧ st xs (begC xs (c : Int)) = true := by
  have hb := (isPark_bounds h).2 _ (nth_mem hc)
  unfold begC
  rw [Int.toNat_natCast]
  have h1 := begF_le xs (nth xs c).toNat
  exact ⟨by omega, (begF_st h _ (by omega)).1⟩
theorem start_car {xs : List Int} (h : isPark xs = true) {b : Nat} (hb : b < xs.length) (hs : st xs b = true) : ∃ c : Nat, c < xs.length ∧ nth xs c = (b : Int) ∧ begC xs (c : Int) = b := by
  have h1 := (st_at h hb).1 hs
  have h2 : (b : Int) ∈ xs := (insSort_perm xs).subset (by rw [← h1]; exact nth_mem (by rw [length_insSort]; exact hb))
  obtain ⟨c, hc, e⟩ := mem_nth h2
  refine ⟨c, hc, e, ?_⟩
  unfold begC
  rw [Int.toNat_natCast, e, Int.toNat_natCast]
  exact begF_eq h (by omega) (Nat.le_refl _) hs (fun c h1 h2 => by omega)
theorem partRows_starts {xs cars : List Int} (h : isPark xs = true) (hp : cars.Perm (upto xs.length)) : partRows xs cars = (starts xs).map (grp xs cars) := by
  have h8 := (isPark_bounds h).1
  unfold partRows starts
  rw [List.filter_map]
  congr 1
  rw [← show min 8 xs.length = xs.length by omega, ← filter_lt_range]
  refine List.filter_congr fun b _ => ?_
  simp only [Function.comp]
  rw [Bool.eq_iff_iff, Bool.and_eq_true, decide_eq_true_eq, Bool.not_eq_true', List.isEmpty_eq_false_iff]
  constructor
  · intro hne
    obtain ⟨c, hc⟩ := List.exists_mem_of_ne_nil _ hne
    unfold grp at hc
    rw [List.mem_filter, decide_eq_true_eq] at hc
    obtain ⟨i, hi, rfl⟩ := mem_upto.1 (hp.subset hc.1)
    rw [← hc.2]
    have := begC_facts h hi
    exact ⟨by omega, this.2⟩
  · rintro ⟨hb, hs⟩
    obtain ⟨c, hc, _, e⟩ := start_car h hb hs
    refine List.ne_nil_of_mem (a := (c : Int)) ?_
    unfold grp
    rw [List.mem_filter, decide_eq_true_eq]
    exact ⟨hp.symm.subset (mem_upto.2 ⟨c, hc, rfl⟩), e⟩
theorem self_upto (xs : List Int) : xs = (upto xs.length).map fun c => nth xs c.toNat := ext_nth (by simp [length_upto]) fun i hi => by
  simp [nth, upto, hi]
theorem grp_values {xs : List Int} (a : Nat) : (grp xs (upto xs.length) a).map (fun c => nth xs c.toNat) = xs.filter fun x => decide (begF xs x.toNat = a) := by
  conv => rhs; rw [self_upto xs]
  rw [List.filter_map, ← self_upto xs]
  rfl

/-! ### The cuts with both ends -/
theorem idxs_starts {xs : List Int} (h : isPark xs = true) (hn : 0 < xs.length) : (starts xs).map (fun (b : Nat) => (b : Int)) = 0 :: idxs (isCut xs) xs.length := by
  unfold starts idxs
  obtain ⟨m, hm⟩ : ∃ m, xs.length = m + 1 := ⟨xs.length - 1, by omega⟩
  have h0 : st xs 0 = true := (st_iff h (Nat.zero_le _)).2 (by rw [show ((0 : Nat) : Int) = 0 from rfl, below_zero (fun x hx => ((isPark_bounds h).2 x hx).1)]; omega)
  have h1 : isCut xs 0 = false := by simp [isCut]
  rw [hm, List.range_succ_eq_map, List.filter_cons, List.filter_cons, if_pos h0, h1, if_neg (by simp)]
  rw [List.map_cons]
  congr 2
  refine List.filter_congr fun b hb => ?_
  obtain ⟨c, _, rfl⟩ := List.mem_map.1 hb
  simp [isCut, st]
  omega
theorem cutList_starts {xs : List Int} (h : isPark xs = true) (hn : 0 < xs.length) : cutList xs = (starts xs ++ [xs.length]).map fun (b : Nat) => (b : Int) := by
  unfold cutList
  rw [List.map_append, idxs_starts h hn]
  rfl
def nthN (l : List Nat) (i : Nat) : Nat := l.getD i 0
theorem nth_cast (l : List Nat) (i : Nat) : nth (l.map fun (b : Nat) => (b : Int)) i = (nthN l i : Int) := by
  unfold nth nthN
  by_cases h : i < l.length
  · simp [h]
  · simp [h]
/-- A start and what comes behind it. -/
def ends (xs : List Int) : List Nat := starts xs ++ [xs.length]
theorem ends_lt (xs : List Int) : (ends xs).Pairwise (· < ·) := by
  unfold ends
  rw [List.pairwise_append]
  refine ⟨starts_lt xs, List.pairwise_singleton _ _, fun a ha b hb => ?_⟩
  rw [List.mem_singleton] at hb
  subst hb
  exact (mem_starts.1 ha).1
theorem nthN_lt {l : List Nat} (h : l.Pairwise (· < ·)) {i j : Nat} (hij : i < j) (hj : j < l.length) : nthN l i < nthN l j := by
  have := List.pairwise_iff_getElem.1 h i j (by omega) hj hij
  simpa [nthN, hj, show i < l.length by omega] using this
theorem ends_left {xs : List Int} {k : Nat} (hk : k < (starts xs).length) : nthN (ends xs) k = (starts xs)[k] := by
  unfold ends nthN
  simp [List.getElem?_append, hk]
/-- A number lies in a part. -/
theorem part_iff {xs : List Int} (h : isPark xs = true) {k x : Nat} (hk : k < (starts xs).length) (hx : x < xs.length) : (nthN (ends xs) k ≤ x ∧ x < nthN (ends xs) (k + 1)) ↔ begF xs x = nthN (ends xs) k := by
  have hl : (ends xs).length = (starts xs).length + 1 := by simp [ends]
  have hm : nthN (ends xs) k ∈ starts xs := by rw [ends_left hk]; exact List.getElem_mem hk
  obtain ⟨m1, m2⟩ := mem_starts.1 hm
  constructor
  · rintro ⟨h1, h2⟩
    refine begF_eq h (by omega) h1 m2 fun c hc1 hc2 => ?_
    rw [Bool.eq_false_iff]
    intro hs
    have hc : c ∈ starts xs := mem_starts.2 ⟨by omega, hs⟩
    obtain ⟨j, hj, rfl⟩ := List.getElem_of_mem hc
    rw [← ends_left hj] at hc1 hc2
    have hkj : k < j := by
      rcases Nat.lt_trichotomy k j with h3 | h3 | h3
      · exact h3
      · subst h3; omega
      · have := nthN_lt (ends_lt xs) h3 (by omega); omega
    rcases Nat.lt_or_eq_of_le (show k + 1 ≤ j from hkj) with h3 | h3
    · have := nthN_lt (ends_lt xs) h3 (by omega); omega
    · subst h3; omega
  · intro e
    have h1 := begF_le xs x
    refine ⟨by omega, ?_⟩
    obtain ⟨g1, g2⟩ := begF_st h x (by omega)
    refine Classical.byContradiction fun hge => ?_
    by_cases hk1 : k + 1 < (starts xs).length
    · have : nthN (ends xs) k < nthN (ends xs) (k + 1) := nthN_lt (ends_lt xs) (Nat.lt_succ_self k) (by omega)
      have hm' : nthN (ends xs) (k + 1) ∈ starts xs := by rw [ends_left hk1]; exact List.getElem_mem hk1
      have := g2 (nthN (ends xs) (k + 1)) (by omega) (by omega)
      rw [(mem_starts.1 hm').2] at this
      cases this
    · have : nthN (ends xs) (k + 1) = xs.length := by
        unfold ends nthN
        simp [show k + 1 = (starts xs).length by omega]
      omega
theorem primeParts_rows {xs : List Int} (h : isPark xs = true) (hn : 0 < xs.length) : primeParts xs = (starts xs).map fun a => (xs.filter fun x => decide (begF xs x.toNat = a)).map (· - (a : Int)) := by
  have hcl := cutList_starts h hn
  unfold primeParts
  apply List.ext_getElem
  · rw [hcl]; simp
  · intro i h1 h2
    have hi : i < (starts xs).length := by simpa using h2
    simp only [List.getElem_map, List.getElem_range]
    rw [hcl, nth_cast, nth_cast]
    have e1 : nthN (starts xs ++ [xs.length]) i = (starts xs)[i] := ends_left hi
    unfold partAt
    rw [← e1]
    congr 1
    refine List.filter_congr fun x hx => ?_
    have hb := (isPark_bounds h).2 x hx
    have := part_iff h hi (x := x.toNat) (by omega)
    unfold ends at this
    rw [Bool.eq_iff_iff, Bool.and_eq_true, decide_eq_true_eq, decide_eq_true_eq, decide_eq_true_eq, ← this]
    omega
/-- How many are before a part. -/
theorem grp_length {xs cars : List Int} (h : isPark xs = true) (hp : cars.Perm (upto xs.length)) {k : Nat} (hk : k < (starts xs).length) : nthN (ends xs) k + (grp xs cars (nthN (ends xs) k)).length = nthN (ends xs) (k + 1) := by
  have e1 : (grp xs cars (nthN (ends xs) k)).length = (xs.filter fun x => decide (begF xs x.toNat = nthN (ends xs) k)).length := by
    rw [← grp_values, List.length_map]
    unfold grp
    rw [← List.countP_eq_length_filter, ← List.countP_eq_length_filter]
    exact hp.countP_eq _
  have hl : (ends xs).length = (starts xs).length + 1 := by simp [ends]
  have hlt : nthN (ends xs) k < nthN (ends xs) (k + 1) := nthN_lt (ends_lt xs) (Nat.lt_succ_self k) (by omega)
  have hend : ∀ j, j < (ends xs).length → below xs ((nthN (ends xs) j : Nat) : Int) = nthN (ends xs) j := fun j hj => by
    by_cases hj1 : j < (starts xs).length
    · have hm : nthN (ends xs) j ∈ starts xs := by rw [ends_left hj1]; exact List.getElem_mem hj1
      have := (mem_starts.1 hm).2
      simp only [st, decide_eq_true_eq] at this
      omega
    · have e2 : nthN (ends xs) j = xs.length := by
        unfold ends nthN
        simp [show j = (starts xs).length by omega]
      rw [e2]
      exact below_full (fun x hx => by have := (isPark_bounds h).2 x hx; omega)
  have b1 := hend k (by omega)
  have b2 := hend (k + 1) (by omega)
  rw [e1]
  have e3 : below xs ((nthN (ends xs) (k + 1) : Nat) : Int) = below xs ((nthN (ends xs) k : Nat) : Int) + (xs.filter fun x => decide (begF xs x.toNat = nthN (ends xs) k)).length := by
    rw [← List.countP_eq_length_filter]
    unfold below
    have key : ∀ ys : List Int, (∀ x ∈ ys, x ∈ xs) → ys.countP (fun x => decide (x < ((nthN (ends xs) (k + 1) : Nat) : Int))) = ys.countP (fun x => decide (x < ((nthN (ends xs) k : Nat) : Int))) + ys.countP (fun x => decide (begF xs x.toNat = nthN (ends xs) k)) := by
      intro ys
      induction ys with
      | nil => intro _; rfl
      | cons y ys ih =>
        intro hy
        have ih := ih fun x hx => hy x (List.mem_cons_of_mem _ hx)
        have hb := (isPark_bounds h).2 y (hy y (List.mem_cons_self ..))
        have hpi := part_iff h hk (x := y.toNat) (by omega)
        rw [List.countP_cons, List.countP_cons, List.countP_cons, ih]
        by_cases q1 : y < ((nthN (ends xs) k : Nat) : Int)
        · have q2 : y < ((nthN (ends xs) (k + 1) : Nat) : Int) := by omega
          have q3 : ¬ begF xs y.toNat = nthN (ends xs) k := fun e => by have := hpi.2 e; omega
          simp [q1, q2, q3]
          omega
        · by_cases q2 : y < ((nthN (ends xs) (k + 1) : Nat) : Int)
          · have q3 : begF xs y.toNat = nthN (ends xs) k := hpi.1 (by omega)
            simp [q1, q2, q3]
            omega
          · have q3 : ¬ begF xs y.toNat = nthN (ends xs) k := fun e => by have := hpi.2 e; omega
            simp [q1, q2, q3]
    exact key xs fun x hx => hx
  omega
end Go.Proofs.Ytakadjhbomggbaa

namespace Go.Proofs.Ytakadjhbomggbaa
open Go.RowKit

/-! ### Distances on a longer street -/
theorem place_longer {p q : Int} {out : List Int} {x : Int} (hx : x ≤ p) (hpq : p ≤ q) (h : place p out x ≠ -1) : place q out x = place p out x := by
  rcases place_spec (out := out) (p := p) _ x hx rfl with ⟨e, _⟩ | ⟨a1, a2, a3, a4⟩
  · exact absurd e h
  · exact place_is a1 (by omega) a3 a4
theorem drive_longer {p q : Int} {xs : List Int} (hb : ∀ x ∈ xs, 0 ≤ x ∧ x ≤ p - 1) (hq : p ≤ q) (ha : allPark p xs = true) : ∀ k, k ≤ xs.length → drive q (xs.take k) = drive p (xs.take k)
  | 0, _ => by simp [drive]
  | k + 1, hk => by
    have h1 := drive_longer hb hq ha k (by omega)
    rw [drive_succ (by omega), drive_succ (by omega), h1]
    have hbk := hb _ (nth_mem (show k < xs.length by omega))
    have hne : place p (drive p (xs.take k)) (nth xs k) ≠ -1 := by
      intro e
      refine allPark_iff.1 ha ?_
      rw [← e]
      refine drive_take_mem (k + 1) ?_
      rw [drive_succ (by omega)]
      simp
    rw [place_longer (by omega) hq hne]
theorem dists_longer {p q : Int} {xs : List Int} (hb : ∀ x ∈ xs, 0 ≤ x ∧ x ≤ p - 1) (hq : p ≤ q) (ha : allPark p xs = true) : dists q xs = dists p xs := by
  have := drive_longer hb hq ha xs.length (Nat.le_refl _)
  rw [List.take_length] at this
  unfold dists
  rw [this]
theorem park_longer {p q : Int} {xs : List Int} (hb : ∀ x ∈ xs, 0 ≤ x ∧ x ≤ p - 1) (hq : p ≤ q) (ha : allPark p xs = true) : allPark q xs = true := by
  have := drive_longer hb hq ha xs.length (Nat.le_refl _)
  rw [List.take_length] at this
  rw [allPark_iff] at ha ⊢
  rw [this]
  exact ha
theorem dists_ge {p : Int} {xs : List Int} (hb : ∀ x ∈ xs, 0 ≤ x ∧ x ≤ p - 1) (ha : allPark p xs = true) : ∀ y ∈ dists p xs, 0 ≤ y ∧ y < p := by
  intro y hy
  obtain ⟨k, hk, rfl⟩ := mem_nth hy
  rw [length_dists] at hk
  rw [nth_dists hk]
  have hbk := hb _ (nth_mem hk)
  have h1 := drive_get (p := p) hk
  have hm : nth (drive p xs) k ∈ drive p xs := nth_mem (by rw [length_drive]; exact hk)
  have h2 := drive_bounds hb ha _ hm
  have h3 := (place_bounds (p := p) (out := drive p (xs.take k)) hbk.1).2.2
  omega
def greatL (ys : List Int) : Int := ys.foldl max 0
theorem fmax_ge : ∀ (bs : List Int) (m : Int), m ≤ bs.foldl max m ∧ ∀ b ∈ bs, b ≤ bs.foldl max m
  | [], m => by simp
  | c :: bs, m => by
    obtain ⟨h1, h2⟩ := fmax_ge bs (max m c)
    refine ⟨by simp only [List.foldl_cons]; omega, fun b hb => ?_⟩
    simp only [List.foldl_cons]
    rcases List.mem_cons.1 hb with rfl | hb
    · omega
    · exact h2 b hb
theorem fmax_mem : ∀ (bs : List Int) (m : Int), bs.foldl max m = m ∨ bs.foldl max m ∈ bs
  | [], m => by simp
  | c :: bs, m => by
    simp only [List.foldl_cons]
    rcases fmax_mem bs (max m c) with h | h
    · rw [h]
      rcases Int.le_total m c with h1 | h1
      · right; rw [Int.max_eq_right h1]; exact List.mem_cons_self ..
      · left; exact Int.max_eq_left h1
    · exact .inr (List.mem_cons_of_mem _ h)
theorem great_le {ys : List Int} {m : Int} (h0 : ∀ y ∈ ys, 0 ≤ y) (hm : 0 ≤ m) : decide (greatL ys ≤ m) = allB ys 0 m := by
  rw [Bool.eq_iff_iff, decide_eq_true_eq, allB_iff]
  constructor
  · intro h y hy
    exact ⟨h0 y hy, Int.le_trans ((fmax_ge ys 0).2 y hy) h⟩
  · intro h
    rcases fmax_mem ys 0 with e | e
    · unfold greatL; omega
    · exact (h _ e).2
theorem great_succ {ys : List Int} {k : Nat} (h : k < ys.length) : greatL (ys.take (k + 1)) = max (greatL (ys.take k)) (nth ys k) := by
  unfold greatL
  rw [take_succ_nth h, List.foldl_append]
  rfl
def unitB (xs : List Int) (m : Int) : Bool := allB (dists xs.length xs) 0 m
def isUnitOf (xs : List Int) (m : Int) : Bool × Bool := if isPark xs && inB m 0 8 then (unitB xs m, true) else (false, false)
theorem park_good {xs : List Int} (h : isPark xs = true) : good xs 12 = true ∧ allPark 12 xs = true ∧ dists 12 xs = dists xs.length xs := by
  obtain ⟨h1, h2, h3⟩ := isPark_iff.1 h
  exact ⟨good_iff.2 ⟨by omega, h1, fun x hx => by have := h2 x hx; omega⟩, park_longer h2 (by omega) h3, dists_longer h2 (by omega) h3⟩
theorem unit_great {xs : List Int} {m : Int} (h : isPark xs = true) (hm : 0 ≤ m) : decide (greatL (dists 12 xs) ≤ m) = unitB xs m := by
  obtain ⟨g1, g2, g3⟩ := park_good h
  obtain ⟨h1, h2, h3⟩ := isPark_iff.1 h
  rw [great_le (fun y hy => (dists_ge (fun x hx => by have := h2 x hx; omega) g2 y hy).1) hm, g3]
  rfl

end Go.Proofs.Ytakadjhbomggbaa

namespace Go.Proofs.Ytakadjhbomggbaa
open Go.RowKit

/-! ### Blocks -/
def addLast (L : List (List Int)) (v : Int) : List (List Int) := L.dropLast ++ [L.getLast?.getD [] ++ [v]]
def blk (xs ls : List Int) : Nat → List (List Int)
  | 0 => []
  | k + 1 => if nth xs (nth ls k).toNat = (k : Int) then blk xs ls k ++ [[nth ls k]] else addLast (blk xs ls k) (nth ls k)
theorem addLast_snoc (L : List (List Int)) (r : List Int) (v : Int) : addLast (L ++ [r]) v = L ++ [r ++ [v]] := by simp [addLast]
def unitBlocksOf (xs : List Int) : List (List Int) × Bool := if isPark xs && unitB xs 1 then (blk xs (fairL xs) xs.length, true) else ([], false)
theorem fair_bounds {xs : List Int} (h : isPark xs = true) : ∀ c, c < xs.length → 0 ≤ nth xs c ∧ nth xs c < ((12 : Nat) : Int) := fun c hc => by
  have h1 := isPark_bounds h
  have := h1.2 _ (nth_mem hc)
  omega
theorem fair_perm {xs : List Int} (h : isPark xs = true) : (fairL xs).Perm (upto xs.length) := carsP_perm rfl (by have := (isPark_bounds h).1; omega) (fair_bounds h)
theorem fair_length {xs : List Int} (h : isPark xs = true) : (fairL xs).length = xs.length := by rw [(fair_perm h).length_eq, length_upto]
theorem keyC_le {xs : List Int} {u v : Int} (hu : 0 ≤ u) (hu2 : u < 50) (hv : 0 ≤ v) (hv2 : v < 50) (h : keyC xs u ≤ keyC xs v) : nth xs u.toNat ≤ nth xs v.toNat := by
  unfold keyC at h
  omega
/-- In the order by favourites, favourites do not fall. -/
theorem fair_sorted {xs : List Int} {n P : Nat} (hl : xs.length = n) (h8 : n ≤ 50) (hb : ∀ c, c < n → 0 ≤ nth xs c ∧ nth xs c < (P : Int)) : ((carsTo xs P).map fun c => nth xs c.toNat) = insSort xs := by
  have hp := carsP_perm hl h8 hb
  refine sorted_unique ?_ (insSort_sorted xs) ?_
  · rw [List.pairwise_map]
    refine (carsTo_sorted (by omega) (fun c hc => (hb c (by omega)).1) P).imp_of_mem fun {a b} ha hb' h => ?_
    obtain ⟨i, hi, rfl⟩ := mem_upto.1 (hp.subset ha)
    obtain ⟨j, hj, rfl⟩ := mem_upto.1 (hp.subset hb')
    exact keyC_le (by omega) (by omega) (by omega) (by omega) (by omega)
  · refine (hp.map _).trans ?_
    rw [← hl, ← self_upto xs]
    exact (insSort_perm xs).symm
theorem fair_at {xs : List Int} (h : isPark xs = true) {k : Nat} (hk : k < xs.length) : nth xs (nth (fairL xs) k).toNat = nth (insSort xs) k := by
  have h8 := (isPark_bounds h).1
  rw [← fair_sorted rfl (by omega) (fair_bounds h)]
  have hl := fair_length h
  unfold fairL at hl ⊢
  generalize carsTo xs 12 = ls at *
  simp [nth, hl, hk]
theorem app_congr {α : Type} {A B C D : List α} (h1 : A = B) (h2 : C = D) : A ++ C = B ++ D := by rw [h1, h2]
set_option maxHeartbeats 1000000 in
theorem blk_step {xs : List Int} (h : isPark xs = true) : ∀ k, k ≤ xs.length → blk xs (fairL xs) k = ((List.range k).filter (st xs)).map (grp xs ((fairL xs).take k))
  | 0, _ => rfl
  | k + 1, hk => by
    have ih := blk_step h k (by omega)
    have hl := fair_length h
    have hv : (fairL xs).take (k + 1) = (fairL xs).take k ++ [nth (fairL xs) k] := take_succ_nth (by omega)
    have hs := fair_at h (k := k) (by omega)
    have hps := park_sorted h k (by omega)
    have hst := st_at h (b := k) (by omega)
    obtain ⟨c, hc, hcn⟩ := carsP_nth rfl (by have := (isPark_bounds h).1; omega) (fair_bounds h) (k := k) (by omega)
    have hc : nth (fairL xs) k = (c : Int) := hc
    rw [blk, hs, hv, List.range_succ, List.filter_append]
    have hbc : begC xs (nth (fairL xs) k) = begF xs (nth (insSort xs) k).toNat := by unfold begC; rw [hs]
    by_cases e : nth (insSort xs) k = (k : Int)
    · have hsk := hst.2 e
      rw [if_pos e, ih]
      have e1 : begC xs (nth (fairL xs) k) = k := by
        rw [hbc, e, Int.toNat_natCast]
        exact begF_stop ((st_iff h (by omega)).1 hsk)
      have e2 : ([k].filter (st xs)) = [k] := by simp [hsk]
      rw [e2, List.map_append, List.map_singleton]
      refine app_congr ?_ ?_
      · refine List.map_congr_left fun a ha => ?_
        have := List.mem_range.1 (List.mem_filter.1 ha).1
        rw [grp_snoc, if_neg (by omega)]
      · rw [grp_snoc, if_pos e1]
        have : grp xs ((fairL xs).take k) k = [] := by
          unfold grp
          rw [List.filter_eq_nil_iff]
          intro u hu
          obtain ⟨j, hj, rfl⟩ := mem_nth hu
          have hjk : j < k := by rw [List.length_take] at hj; omega
          rw [nth_take hjk]
          have h1 := fair_at h (k := j) (by omega)
          have h2 := park_sorted h j (by omega)
          have h3 := begF_le xs (nth xs (nth (fairL xs) j).toNat).toNat
          unfold begC
          simp only [decide_eq_true_eq]
          omega
        rw [this]
        rfl
    · have hsk : st xs k = false := by rw [Bool.eq_false_iff]; exact fun hh => e (hst.1 hh)
      have hk0 : 0 < k := by
        rcases Nat.eq_zero_or_pos k with rfl | h0
        · exfalso; apply e; omega
        · exact h0
      have e2 : ([k].filter (st xs)) = [] := by simp [hsk]
      rw [if_neg e, e2, List.append_nil, ih]
      have h0 : st xs 0 = true := (st_iff h (Nat.zero_le _)).2 (by rw [show ((0 : Nat) : Int) = 0 from rfl, below_zero (fun x hx => ((isPark_bounds h).2 x hx).1)]; omega)
      have hne : (List.range k).filter (st xs) ≠ [] := List.ne_nil_of_mem (a := 0) (List.mem_filter.2 ⟨List.mem_range.2 hk0, h0⟩)
      have hsp := List.dropLast_concat_getLast hne
      have hlt : ((List.range k).filter (st xs)).Pairwise (· < ·) := List.Pairwise.filter _ List.pairwise_lt_range
      have hma := List.getLast_mem hne
      have hmem : ∀ z, z < k → st xs z = true → z ∈ (List.range k).filter (st xs) := fun z h1 h2 => List.mem_filter.2 ⟨List.mem_range.2 h1, h2⟩
      have hall : ∀ z ∈ (List.range k).filter (st xs), z < k ∧ st xs z = true := fun z hz => ⟨List.mem_range.1 (List.mem_filter.1 hz).1, (List.mem_filter.1 hz).2⟩
      generalize (List.range k).filter (st xs) = F at *
      generalize F.getLast hne = a at *
      generalize F.dropLast = G at *
      subst hsp
      rw [List.pairwise_append] at hlt
      have hGa : ∀ g ∈ G, g < a := fun g hg => hlt.2.2 g hg a (by simp)
      obtain ⟨ha1, ha2⟩ := hall a hma
      have e1 : begC xs (nth (fairL xs) k) = a := by
        rw [hbc]
        have q1 := (st_at h (b := a) (by omega)).1 ha2
        have q2 := sorted_nth (insSort_sorted xs) (i := a) (j := k) (by omega) (by rw [length_insSort]; omega)
        refine begF_eq h (by omega) (by omega) ha2 fun z h1 h2 => ?_
        rw [Bool.eq_false_iff]
        intro hz
        rcases List.mem_append.1 (hmem z (by omega) hz) with h3 | h3
        · have := hGa z h3; omega
        · rw [List.mem_singleton] at h3; omega
      rw [List.map_append, List.map_singleton, addLast_snoc, List.map_append, List.map_singleton]
      refine app_congr ?_ ?_
      · refine List.map_congr_left fun g hg => ?_
        have := hGa g hg
        rw [grp_snoc, if_neg (by omega)]
      · rw [grp_snoc, if_pos e1]
theorem blk_rows {xs : List Int} (h : isPark xs = true) : blk xs (fairL xs) xs.length = partRows xs (fairL xs) := by
  rw [blk_step h _ (Nat.le_refl _), partRows_starts h (fair_perm h), List.take_of_length_le (by rw [fair_length h]; exact Nat.le_refl _)]
  rfl
end Go.Proofs.Ytakadjhbomggbaa

namespace Go.Proofs.Ytakadjhbomggbaa
open Go.RowKit

/-- The first place from x on, going round, that is not taken. -/
def cnext (out : List Int) (p : Int) : Nat → Int → Int
  | 0, x => x
  | f + 1, x => if x ∈ out then cnext out p f ((x + 1) % p) else x
/-- From x on k places are taken, going round. -/
def CRuns (out : List Int) (p x : Int) (k : Nat) : Prop := ∀ i : Nat, i < k → (x + i) % p ∈ out
theorem CRuns.zero (out : List Int) (p x : Int) : CRuns out p x 0 := fun i hi => by omega
theorem CRuns.step {out : List Int} {p x : Int} {k : Nat} (h : CRuns out p x k) (h2 : (x + k) % p ∈ out) : CRuns out p x (k + 1) := fun i hi => by
  rcases Nat.lt_succ_iff_lt_or_eq.1 hi with h3 | rfl
  · exact h i h3
  · exact h2
theorem round_next {p x : Int} {k : Nat} : ((x + k) % p + 1) % p = (x + ((k + 1 : Nat) : Int)) % p := by
  rw [Int.emod_add_emod]
  congr 1
  omega
theorem cnext_of {out : List Int} {p x : Int} {k : Nat} (h : CRuns out p x k) (hn : (x + k) % p ∉ out) : ∀ (f j : Nat), j ≤ k → k - j ≤ f → cnext out p f ((x + j) % p) = (x + k) % p
  | 0, j, hj, hf => by
    obtain rfl : j = k := by omega
    rfl
  | f + 1, j, hj, hf => by
    simp only [cnext]
    by_cases e : j = k
    · subst e
      rw [if_neg hn]
    · rw [if_pos (h j (by omega)), round_next]
      exact cnext_of h hn f (j + 1) (by omega) (by omega)
/-- Where a car comes to stand on the circle. -/
def cplace (p : Int) (out : List Int) (x : Int) : Int := cnext out p p.toNat x
theorem cplace_of {out : List Int} {p x : Int} {k : Nat} (h : CRuns out p x k) (hn : (x + k) % p ∉ out) (hk : k < p) (h0 : 0 ≤ x) (h1 : x < p) : cplace p out x = (x + k) % p := by
  have := cnext_of h hn p.toNat 0 (by omega) (by omega)
  rw [show (x + ((0 : Nat) : Int)) % p = x from by rw [show x + ((0 : Nat) : Int) = x by omega]; exact Int.emod_eq_of_lt h0 h1] at this
  exact this
/-- Fewer cars than places: some place is free. -/
theorem cruns_lt {out : List Int} {p x : Int} {k : Nat} (h : CRuns out p x k) (hl : (out.length : Int) < p) : (k : Int) < p := by
  apply Classical.byContradiction
  intro hn
  have hall : ∀ z, 0 ≤ z → z < p → z ∈ out := by
    intro z hz0 hz1
    have h1 := h ((z - x) % p).toNat (by have := Int.emod_lt_of_pos (z - x) (show 0 < p by omega); have := Int.emod_nonneg (z - x) (show p ≠ 0 by omega); omega)
    have h2 := Int.emod_nonneg (z - x) (show p ≠ 0 by omega)
    rw [show (((z - x) % p).toNat : Int) = (z - x) % p by omega, Int.add_emod_emod, show x + (z - x) = z by omega, Int.emod_eq_of_lt hz0 hz1] at h1
    exact h1
  have h3 := from_all (xs := out) (p := p) p.toNat 0 (by omega) hall
  have h4 := from_le out 0
  omega
/-- The places of cars on a circle. -/
def cdrive (p : Int) (xs : List Int) : List Int := xs.foldl (fun out x => out ++ [cplace p out x]) []
theorem cdrive_succ {p : Int} {xs : List Int} {k : Nat} (h : k < xs.length) : cdrive p (xs.take (k + 1)) = cdrive p (xs.take k) ++ [cplace p (cdrive p (xs.take k)) (nth xs k)] := by
  rw [take_succ_nth h]
  simp [cdrive]
theorem length_cfoldl {p : Int} : ∀ (xs out : List Int), (xs.foldl (fun out x => out ++ [cplace p out x]) out).length = out.length + xs.length
  | [], _ => by simp
  | x :: xs, out => by simp [length_cfoldl xs]; omega
theorem length_cdrive (p : Int) (xs : List Int) : (cdrive p xs).length = xs.length := by simp [cdrive, length_cfoldl]
/-- A free place is found. -/
theorem cplace_spec {out : List Int} {p x : Int} (hl : (out.length : Int) < p) (h0 : 0 ≤ x) (h1 : x < p) : ∃ k : Nat, CRuns out p x k ∧ (x + k) % p ∉ out ∧ (k : Int) < p ∧ cplace p out x = (x + k) % p := by
  have hex : ∀ n : Nat, CRuns out p x n ∨ ∃ k : Nat, k < n ∧ CRuns out p x k ∧ (x + k) % p ∉ out := by
    intro n
    induction n with
    | zero => exact .inl (CRuns.zero _ _ _)
    | succ n ih =>
      rcases ih with h | ⟨k, hk, h2, h3⟩
      · by_cases hm : (x + n) % p ∈ out
        · exact .inl (h.step hm)
        · exact .inr ⟨n, by omega, h, hm⟩
      · exact .inr ⟨k, by omega, h2, h3⟩
  rcases hex p.toNat with h | ⟨k, hk, h2, h3⟩
  · have := cruns_lt h hl
    omega
  · exact ⟨k, h2, h3, by omega, cplace_of h2 h3 (by omega) h0 h1⟩
theorem cdrive_ok {p : Int} {xs : List Int} (hb : ∀ x ∈ xs, 0 ≤ x ∧ x ≤ p - 1) : ∀ k, k ≤ xs.length → (k : Int) ≤ p → (cdrive p (xs.take k)).Nodup ∧ ∀ y ∈ cdrive p (xs.take k), 0 ≤ y ∧ y < p
  | 0, _, _ => by simp [cdrive]
  | k + 1, h, hp => by
    obtain ⟨i1, i2⟩ := cdrive_ok hb k (by omega) (by omega)
    have hx := hb _ (nth_mem (xs := xs) (i := k) (by omega))
    have hl : (cdrive p (xs.take k)).length = k := by rw [length_cdrive]; simp; omega
    obtain ⟨j, h1, h2, h3, h4⟩ := cplace_spec (out := cdrive p (xs.take k)) (p := p) (x := nth xs k) (by omega) hx.1 (by omega)
    rw [cdrive_succ (by omega), h4]
    constructor
    · rw [List.nodup_append]
      refine ⟨i1, by simp, ?_⟩
      intro a ha b hb e
      simp at hb
      subst hb
      subst e
      exact h2 ha
    · intro y hy
      rcases List.mem_append.1 hy with hy | hy
      · exact i2 y hy
      · simp at hy
        subst hy
        exact ⟨Int.emod_nonneg _ (by omega), Int.emod_lt_of_pos _ (by omega)⟩
/-- The first place from x on that is not taken. -/
def freeFrom (t : List Int) : Nat → Int → Int
  | 0, x => x
  | f + 1, x => if x ∈ t then freeFrom t f (x + 1) else x
theorem freeFrom_of {t : List Int} {y : Int} (hn : y ∉ t) : ∀ (f : Nat) (x : Int), (∀ z, x ≤ z → z < y → z ∈ t) → x ≤ y → y - x ≤ f → freeFrom t f x = y
  | 0, x, _, h1, h2 => by simp only [freeFrom]; omega
  | f + 1, x, h, h1, h2 => by
    simp only [freeFrom]
    by_cases e : x = y
    · subst e
      rw [if_neg hn]
    · rw [if_pos (h x (Int.le_refl _) (by omega))]
      exact freeFrom_of hn f (x + 1) (fun z a b => h z (by omega) b) (by omega) (by omega)
def cfree (xs : List Int) : Int := freeFrom (cdrive ((xs.length : Int) + 1) xs) (xs.length + 1) 0
/-- 0, 1, .., n - 1. -/
theorem total_upto : ∀ n : Nat, 2 * total (upto n) = (n : Int) * ((n : Int) - 1)
  | 0 => by simp [upto, total]
  | n + 1 => by
    have ih := total_upto n
    unfold upto at *
    rw [List.range_succ, List.map_append, List.map_cons, List.map_nil, total_snoc, Int.mul_add, ih]
    rw [show ((n + 1 : Nat) : Int) = (n : Int) + 1 by omega, Int.add_mul, Int.mul_sub, Int.mul_sub, Int.mul_add]
    omega
/-- n different places of n + 1: one stays free. -/
theorem one_free {t : List Int} {n : Nat} (hd : t.Nodup) (hl : t.length = n) (hb : ∀ y ∈ t, 0 ≤ y ∧ y < (n : Int) + 1) :
    ∃ m : Int, 0 ≤ m ∧ m ≤ n ∧ m ∉ t ∧ (∀ z : Int, 0 ≤ z → z ≤ n → z ≠ m → z ∈ t) ∧ m + total t = (n + 1 : Int) * n / 2 := by
  have hex : ∃ m : Int, 0 ≤ m ∧ m ≤ n ∧ m ∉ t := by
    apply Classical.byContradiction
    intro hno
    have h3 := from_all (xs := t) (p := (n : Int) + 1) (n + 1) 0 (by omega) (fun z h1 h2 => Classical.byContradiction fun hz => hno ⟨z, h1, by omega, hz⟩)
    have h4 := from_le t 0
    omega
  obtain ⟨m, h1, h2, h3⟩ := hex
  have hall : ∀ z : Int, 0 ≤ z → z ≤ n → z ≠ m → z ∈ t := by
    intro z hz0 hz1 hzm
    apply Classical.byContradiction
    intro hz
    have := nodup_le (n + 1) (z :: m :: t) (by
      rw [List.nodup_cons, List.nodup_cons]
      exact ⟨by simp [hzm, hz], h3, hd⟩) (fun x hx => by
      rcases List.mem_cons.1 hx with rfl | hx
      · omega
      · rcases List.mem_cons.1 hx with rfl | hx
        · omega
        · have := hb x hx; omega)
    simp at this
    omega
  refine ⟨m, h1, h2, h3, hall, ?_⟩
  have hperm : (m :: t).Perm (upto (n + 1)) := by
    have hd1 : (m :: t).Nodup := List.nodup_cons.2 ⟨h3, hd⟩
    have hd2 : (upto (n + 1)).Nodup := by
      unfold upto List.Nodup
      rw [List.pairwise_map]
      exact List.nodup_range.imp fun h e => h (by omega)
    rw [List.perm_ext_iff_of_nodup hd1 hd2]
    intro z
    unfold upto
    rw [List.mem_cons, List.mem_map]
    constructor
    · rintro (rfl | hz)
      · exact ⟨z.toNat, by rw [List.mem_range]; omega, by omega⟩
      · have := hb z hz
        exact ⟨z.toNat, by rw [List.mem_range]; omega, by omega⟩
    · rintro ⟨i, hi, rfl⟩
      rw [List.mem_range] at hi
      by_cases e : (i : Int) = m
      · exact .inl e
      · exact .inr (hall i (by omega) (by omega) e)
  have ht := total_perm hperm
  rw [total_cons] at ht
  have hu := total_upto (n + 1)
  rw [← ht] at hu
  rw [show ((n + 1 : Nat) : Int) = (n : Int) + 1 by omega, show (n : Int) + 1 - 1 = n by omega] at hu
  omega
/-- A circle list. -/
def circB (xs : List Int) : Bool := decide (xs.length ≤ 8) && allB xs 0 xs.length
theorem circ_good {xs : List Int} (h8 : xs.length ≤ 8) : circB xs = good xs ((xs.length : Int) + 1) := by
  have : inB ((xs.length : Int) + 1) 1 12 = true := inB_iff.2 ⟨by omega, by omega⟩
  simp [circB, good, this]
theorem circB_iff {xs : List Int} : circB xs = true ↔ xs.length ≤ 8 ∧ ∀ x ∈ xs, 0 ≤ x ∧ x ≤ (xs.length : Int) := by simp [circB, allB_iff]
theorem circ_bounds {xs : List Int} (h : circB xs = true) : ∀ x ∈ xs, 0 ≤ x ∧ x ≤ (xs.length : Int) + 1 - 1 := fun x hx => by
  have := (circB_iff.1 h).2 x hx
  omega
theorem cfree_spec {xs : List Int} (h : circB xs = true) : 0 ≤ cfree xs ∧ cfree xs ≤ xs.length ∧ cfree xs ∉ cdrive ((xs.length : Int) + 1) xs ∧ (∀ z, 0 ≤ z → z < cfree xs → z ∈ cdrive ((xs.length : Int) + 1) xs) ∧
    cfree xs + total (cdrive ((xs.length : Int) + 1) xs) = ((xs.length : Int) + 1) * xs.length / 2 := by
  have hb := circ_bounds h
  obtain ⟨d1, d2⟩ := cdrive_ok hb xs.length (Nat.le_refl _) (by omega)
  rw [List.take_length] at d1 d2
  obtain ⟨m, m1, m2, m3, m4, m5⟩ := one_free d1 (length_cdrive _ _) d2
  have e : cfree xs = m := freeFrom_of m3 _ 0 (fun z a b => m4 z a (by omega) (by omega)) m1 (by omega)
  rw [e]
  exact ⟨m1, m2, m3, fun z a b => m4 z a (by omega) (by omega), m5⟩
/-- Turned favourites. -/
def turn (xs : List Int) (p b : Int) : List Int := xs.map fun x => (x + b) % p
theorem turn_succ {xs : List Int} {p b : Int} {k : Nat} (h : k < xs.length) : turn (xs.take (k + 1)) p b = turn (xs.take k) p b ++ [(nth xs k + b) % p] := by
  rw [take_succ_nth h]
  simp [turn]
theorem turn_tmod (x b p : Int) (hp : 0 < p) : (((x + b).tmod p) + p).tmod p = (x + b) % p := by
  have h1 := Int.tmod_add_mul_tdiv (x + b) p
  have h2 := Int.lt_tmod_of_pos (x + b) hp
  rw [Int.tmod_eq_emod_of_nonneg (a := (x + b).tmod p + p) (by omega), Int.add_emod_right]
  conv => rhs; rw [← h1]
  rw [Int.add_mul_emod_self_left]
theorem turn_tmod2 (x b p : Int) (hp : 0 < p) (hx : 0 ≤ x) : (x + b.tmod p + p).tmod p = (x + b) % p := by
  have h1 := Int.tmod_add_mul_tdiv b p
  have h2 := Int.lt_tmod_of_pos b hp
  rw [Int.tmod_eq_emod_of_nonneg (a := x + b.tmod p + p) (by omega), Int.add_emod_right]
  conv => rhs; rw [← h1]
  rw [← Int.add_assoc, Int.add_mul_emod_self_left]
/-! ### What the functions come to -/
def circleOf (xs : List Int) (p : Int) : List Int × Bool := if good xs p && decide ((xs.length : Int) ≤ p) then (cdrive p xs, true) else ([], false)
def freeOf (xs : List Int) : Int × Bool := if circB xs then (cfree xs, true) else (0, false)
def turnOf (xs : List Int) (p b : Int) : List Int × Bool := if good xs p && inB b (-1000) 1000 then (turn xs p b, true) else ([], false)
def classOf (xs : List Int) : List Int × Int × Bool := if circB xs then (turn xs ((xs.length : Int) + 1) ((xs.length : Int) - cfree xs), (xs.length : Int) - cfree xs, true) else ([], 0, false)
end Go.Proofs.Ytakadjhbomggbaa

namespace Go.Proofs.Ytakadjhbomggbaa
open Go.RowKit

/-- How often numbers occur, one behind the other in a list. -/
def runsTo (s : List Int) : Nat → List Int
  | 0 => []
  | k + 1 => if k = 0 ∨ nth s (k - 1) ≠ nth s k then runsTo s k ++ [1] else (runsTo s k).set ((runsTo s k).length - 1) (nth (runsTo s k) ((runsTo s k).length - 1) + 1)
theorem length_runsTo (s : List Int) : ∀ k, (runsTo s k).length ≤ k ∧ (0 < k → 0 < (runsTo s k).length)
  | 0 => by simp [runsTo]
  | k + 1 => by
    have ih := length_runsTo s k
    simp only [runsTo]
    split
    · simp; omega
    · rename_i h
      rw [List.length_set]
      have : k ≠ 0 := fun e => h (.inl e)
      omega
/-- How often a number occurs. -/
def occ (s : List Int) (v : Int) : Int := (s.count v : Int)
theorem occ_succ {s : List Int} {k : Nat} (h : k < s.length) (v : Int) : occ (s.take (k + 1)) v = occ (s.take k) v + if nth s k = v then 1 else 0 := by
  unfold occ
  rw [take_succ_nth h, List.count_append, List.count_singleton]
  simp only [beq_iff_eq]
  split <;> omega
/-- The numbers that occur among those less than m: how often. -/
def occs (s : List Int) (m : Nat) : List Int := ((List.range m).map fun (v : Nat) => occ s v).filter fun c => c != 0
theorem occs_succ (s : List Int) (m : Nat) : occs s (m + 1) = occs s m ++ if occ s m = 0 then [] else [occ s m] := by
  unfold occs
  rw [List.range_succ, List.map_append, List.filter_append]
  congr 1
  by_cases h : occ s m = 0 <;> simp [h]
theorem occs_congr {s t : List Int} : ∀ {m : Nat}, (∀ v : Nat, v < m → occ s v = occ t v) → occs s m = occs t m
  | 0, _ => rfl
  | m + 1, h => by rw [occs_succ, occs_succ, occs_congr (m := m) (fun v hv => h v (by omega)), h m (by omega)]
theorem occs_more {s : List Int} {m : Nat} : ∀ k, (∀ v : Nat, m ≤ v → v < m + k → occ s v = 0) → occs s (m + k) = occs s m
  | 0, _ => rfl
  | k + 1, h => by
    rw [show m + (k + 1) = (m + k) + 1 from rfl, occs_succ, if_pos (h (m + k) (by omega) (by omega)), List.append_nil]
    exact occs_more k fun v a b => h v a (by omega)
theorem occ_none {s : List Int} {v : Int} (h : v ∉ s) : occ s v = 0 := by
  unfold occ
  rw [List.count_eq_zero.2 h]
  rfl
theorem occ_pos {s : List Int} {v : Int} (h : v ∈ s) : 0 < occ s v := by
  unfold occ
  have := List.count_pos_iff.2 h
  omega
/-- The runs of a sorted list: how often each number occurs. -/
theorem runs_occs {s : List Int} (hs : s.Pairwise (· ≤ ·)) (h0 : ∀ x ∈ s, 0 ≤ x) : ∀ k, k < s.length → ∀ m : Nat, nth s k = (m : Int) → runsTo s (k + 1) = occs (s.take (k + 1)) (m + 1)
  | 0, hk, m, hm => by
    have e : ∀ v : Nat, occ (s.take 1) v = if v = m then 1 else 0 := by
      intro v
      rw [occ_succ hk, hm]
      have : ((m : Int) = (v : Int)) = (v = m) := by apply propext; omega
      simp [occ, this]
    rw [occs_succ, show occs (s.take 1) m = [] from by
      have := occs_more (s := s.take 1) (m := 0) m (fun v _ hv => by rw [e, if_neg (by omega)])
      rw [Nat.zero_add] at this
      rw [this]; rfl, e, if_pos rfl]
    simp [runsTo]
  | k + 1, hk, m, hm => by
    have h1 : ∃ v : Nat, nth s k = (v : Int) := ⟨(nth s k).toNat, by have := h0 _ (nth_mem (xs := s) (i := k) (by omega)); omega⟩
    obtain ⟨v, hv⟩ := h1
    have hle := sorted_nth hs (i := k) (j := k + 1) (by omega) hk
    rw [hv, hm] at hle
    have ih := runs_occs hs h0 k (by omega) v hv
    have hup : ∀ u : Nat, (v : Int) < (u : Int) → occ (s.take (k + 1)) u = 0 := by
      intro u hu
      apply occ_none
      intro hmem
      obtain ⟨i, hi, e⟩ := mem_nth hmem
      rw [List.length_take] at hi
      rw [nth_take (by omega)] at e
      have := sorted_nth hs (i := i) (j := k) (by omega) (by omega)
      omega
    have hsucc := fun u : Nat => occ_succ (s := s) (k := k + 1) hk (u : Int)
    rw [hm] at hsucc
    have hpos : 0 < occ (s.take (k + 1)) v := occ_pos (by
      have := nth_mem (xs := s.take (k + 1)) (i := k) (by simp; omega)
      rw [nth_take (by omega), hv] at this
      exact this)
    rw [runsTo, show k + 1 - 1 = k from rfl, hv, hm]
    have ih' := ih
    generalize runsTo s (k + 1) = R at ih' ⊢
    by_cases e : v = m
    · subst e
      rw [if_neg (by simp)]
      rw [ih', occs_succ, occs_succ, if_neg (by omega)]
      have h2 : occ (s.take (k + 1 + 1)) v = occ (s.take (k + 1)) v + 1 := by rw [hsucc v, if_pos rfl]
      rw [if_neg (by omega), h2]
      have h3 : occs (s.take (k + 1 + 1)) v = occs (s.take (k + 1)) v := occs_congr fun u hu => by rw [hsucc u, if_neg (by omega)]; omega
      rw [h3]
      generalize occs (s.take (k + 1)) v = A
      rw [show (A ++ [occ (s.take (k + 1)) v]).length - 1 = A.length by simp, nth_append_at, List.set_append_right _ _ (Nat.le_refl _)]
      simp
    · rw [if_pos (.inr (by omega))]
      have h2 : occ (s.take (k + 1 + 1)) m = 1 := by rw [hsucc m, if_pos rfl, hup m (by omega)]; rfl
      rw [ih', occs_succ (s.take (k + 1 + 1)) m, h2, if_neg (by omega)]
      congr 1
      have h3 : occs (s.take (k + 1 + 1)) m = occs (s.take (k + 1)) m := occs_congr fun u hu => by rw [hsucc u, if_neg (by omega)]; omega
      rw [h3]
      have h4 := occs_more (s := s.take (k + 1)) (m := v + 1) (m - (v + 1)) (fun u a _ => hup u (by omega))
      rw [show v + 1 + (m - (v + 1)) = m by omega] at h4
      exact h4.symm
theorem runs_all {s : List Int} {m : Nat} (hs : s.Pairwise (· ≤ ·)) (h0 : ∀ x ∈ s, 0 ≤ x ∧ x < (m : Int)) : runsTo s s.length = occs s m := by
  by_cases hl : s.length = 0
  · have : s = [] := List.eq_nil_of_length_eq_zero hl
    subst this
    have := occs_more (s := []) (m := 0) m (fun v _ _ => by simp [occ])
    rw [Nat.zero_add] at this
    rw [this]
    rfl
  · obtain ⟨k, hk⟩ : ∃ k, s.length = k + 1 := ⟨s.length - 1, by omega⟩
    have hx := h0 _ (nth_mem (xs := s) (i := k) (by omega))
    have h1 := runs_occs hs (fun x hx => (h0 x hx).1) k (by omega) (nth s k).toNat (by omega)
    rw [hk, h1, List.take_of_length_le (by omega)]
    have h2 := occs_more (s := s) (m := (nth s k).toNat + 1) (m - ((nth s k).toNat + 1)) (fun u a _ => occ_none fun hm => by
      obtain ⟨i, hi, e⟩ := mem_nth hm
      have := sorted_nth hs (i := i) (j := k) (by omega) (by omega)
      omega)
    rw [show (nth s k).toNat + 1 + (m - ((nth s k).toNat + 1)) = m by omega] at h2
    exact h2.symm
theorem occ_perm {s t : List Int} (h : s.Perm t) (v : Int) : occ s v = occ t v := by unfold occ; rw [h.count_eq]
theorem occs_perm {s t : List Int} (h : s.Perm t) (m : Nat) : occs s m = occs t m := occs_congr fun v _ => occ_perm h v
/-- If each number occurs, none is left out. -/
theorem occs_full {s : List Int} {m : Nat} (h : ∀ v : Nat, v < m → (v : Int) ∈ s) : occs s m = (List.range m).map fun (v : Nat) => occ s v := by
  unfold occs
  rw [List.filter_eq_self]
  intro c hc
  obtain ⟨v, hv, rfl⟩ := List.mem_map.1 hc
  have := occ_pos (h v (by simpa using hv))
  simp
  omega

/-- The factorial. -/
def fct : Nat → Nat
  | 0 => 1
  | n + 1 => (n + 1) * fct n
theorem fct_pos : ∀ n, 0 < fct n
  | 0 => by decide
  | n + 1 => Nat.mul_pos (by omega) (fct_pos n)
theorem chs_fct : ∀ n, n < 9 → ∀ k, k < 9 → k ≤ n → chs n k * fct k * fct (n - k) = fct n := by decide +kernel
/-- The orders, group by group: how many, and of how many cars. -/
def groups : List Int → Nat × Nat
  | gs => gs.foldl (fun r g => (r.1 * chs (r.2 + g.toNat) g.toNat, r.2 + g.toNat)) (1, 0)
theorem groups_snoc (gs : List Int) (g : Int) : groups (gs ++ [g]) = ((groups gs).1 * chs ((groups gs).2 + g.toNat) g.toNat, (groups gs).2 + g.toNat) := by simp [groups]
/-- The product of the factorials. -/
def fcts (gs : List Int) : Nat := gs.foldl (fun r g => r * fct g.toNat) 1
theorem fcts_snoc (gs : List Int) (g : Int) : fcts (gs ++ [g]) = fcts gs * fct g.toNat := by simp [fcts]
theorem groups_fct : ∀ (k : Nat) (gs : List Int), gs.length = k → (groups gs).2 < 9 → (groups gs).1 * fcts gs = fct (groups gs).2
  | 0, gs, h, _ => by
    have : gs = [] := List.eq_nil_of_length_eq_zero h
    subst this
    rfl
  | k + 1, gs, h, h9 => by
    obtain ⟨hs, g, rfl⟩ : ∃ hs g, gs = hs ++ [g] := ⟨gs.dropLast, gs.getLast (by intro e; simp [e] at h), (List.dropLast_concat_getLast (by intro e; simp [e] at h)).symm⟩
    rw [groups_snoc] at h9 ⊢
    simp only at h9
    have ih := groups_fct k hs (by simpa using h) (by omega)
    rw [fcts_snoc]
    have hc := chs_fct ((groups hs).2 + g.toNat) (by omega) g.toNat (by omega) (by omega)
    rw [show (groups hs).2 + g.toNat - g.toNat = (groups hs).2 by omega, ← ih] at hc
    rw [← hc]
    simp only [Nat.mul_comm, Nat.mul_left_comm, Nat.mul_assoc]
theorem groups_sum (s : List Int) : ∀ m : Nat, (groups (occs s m)).2 = sumTo (fun v => s.count (v : Int)) m
  | 0 => rfl
  | m + 1 => by
    have ih := groups_sum s m
    rw [occs_succ]
    simp only [sumTo]
    split
    · rename_i h
      unfold occ at h
      rw [List.append_nil, ih]
      omega
    · rw [groups_snoc, ih]
      simp [occ]
theorem fcts_occs (s : List Int) : ∀ m : Nat, fcts (occs s (m + 1)) = fcts (occs s m) * fct (s.count (m : Int)) := by
  intro m
  rw [occs_succ]
  split
  · rename_i h
    unfold occ at h
    rw [List.append_nil, show s.count (m : Int) = 0 by omega]
    simp [fct]
  · rw [fcts_snoc]
    simp [occ]
theorem sum_counts {m : Nat} : ∀ (s : List Int), (∀ x ∈ s, 0 ≤ x ∧ x < (m : Int)) → sumTo (fun v => s.count (v : Int)) m = s.length
  | [], _ => by exact sumTo_zero fun _ _ => by simp
  | x :: s, h => by
    have ih := sum_counts s (fun y hy => h y (by simp [hy]))
    have hx := h x (by simp)
    have e : sumTo (fun v => (x :: s).count (v : Int)) m = sumTo (fun v => s.count (v : Int) + if v = x.toNat then 1 else 0) m := sumTo_congr fun v _ => by
      rw [List.count_cons]
      congr 1
      have : (x == (v : Int)) = decide (v = x.toNat) := by rw [Bool.eq_iff_iff]; simp; omega
      rw [this]
      simp
    rw [e, sumTo_add, ih]
    have h2 : ∀ k, sumTo (fun v => if v = x.toNat then 1 else 0) k = if x.toNat < k then 1 else 0 := by
      intro k
      induction k with
      | zero => rfl
      | succ k ih => simp only [sumTo]; rw [ih]; split <;> split <;> split <;> omega
    rw [h2, if_pos (by omega)]
    simp
/-- How many orders there are. -/
def ordersN (s : List Int) (m : Nat) : Nat := (groups (occs s m)).1
theorem orders_fct {s : List Int} {m : Nat} (h8 : s.length ≤ 8) (h : ∀ x ∈ s, 0 ≤ x ∧ x < (m : Int)) : ordersN s m * fcts (occs s m) = fct s.length := by
  have h1 : (groups (occs s m)).2 = s.length := by rw [groups_sum, sum_counts s h]
  have := groups_fct _ (occs s m) rfl (by omega)
  rw [h1] at this
  exact this
theorem fcts_pos : ∀ (s : List Int) (m : Nat), 0 < fcts (occs s m)
  | _, 0 => by simp [occs, fcts]
  | s, m + 1 => by rw [fcts_occs]; exact Nat.mul_pos (fcts_pos s m) (fct_pos _)
theorem fcts_step {s t : List Int} {x : Nat} : ∀ m : Nat, (∀ v : Nat, t.count (v : Int) = s.count (v : Int) + if v = x then 1 else 0) → fcts (occs t m) = fcts (occs s m) * if x < m then s.count (x : Int) + 1 else 1
  | 0, _ => by simp [occs, fcts]
  | m + 1, h => by
    rw [fcts_occs, fcts_occs, fcts_step m h, h m]
    by_cases e : m = x
    · subst e
      rw [if_neg (by omega), if_pos rfl, if_pos (by omega)]
      simp only [fct, Nat.mul_one]
      rw [Nat.mul_assoc, Nat.mul_comm (fct _)]
    · rw [if_neg e]
      have : (x < m + 1) = (x < m) := by apply propext; omega
      simp only [this]
      simp only [Nat.mul_comm, Nat.mul_left_comm, Nat.add_zero]
/-- One car more. -/
theorem orders_step {s : List Int} {m k x : Nat} (h8 : s.length ≤ 8) (h : ∀ y ∈ s, 0 ≤ y ∧ y < (m : Int)) (hk : k < s.length) (hx : nth s k = (x : Int)) :
    ordersN (s.take (k + 1)) m = ordersN (s.take k) m * (k + 1) / ((s.take k).count (x : Int) + 1) := by
  have hxm : x < m := by have := (h _ (nth_mem (xs := s) (i := k) hk)).2; omega
  have hb : ∀ j, ∀ y ∈ s.take j, 0 ≤ y ∧ y < (m : Int) := fun j y hy => h y (List.mem_of_mem_take hy)
  have h1 := orders_fct (s := s.take (k + 1)) (m := m) (by simp; omega) (hb _)
  have h2 := orders_fct (s := s.take k) (m := m) (by simp; omega) (hb _)
  have h3 := fcts_step (s := s.take k) (t := s.take (k + 1)) (x := x) m (fun v => by
    rw [take_succ_nth hk, List.count_append, List.count_singleton, hx]
    congr 1
    have : ((x : Int) == (v : Int)) = decide (v = x) := by rw [Bool.eq_iff_iff]; simp; omega
    rw [this]
    simp)
  rw [if_pos hxm] at h3
  rw [List.length_take, Nat.min_eq_left (by omega)] at h1 h2
  have hf : fct (k + 1) = (k + 1) * fct k := rfl
  rw [hf, ← h2, h3] at h1
  have hp := fcts_pos (s.take k) m
  have h4 : ordersN (s.take (k + 1)) m * ((s.take k).count (x : Int) + 1) = ordersN (s.take k) m * (k + 1) := by
    apply Nat.eq_of_mul_eq_mul_right hp
    rw [Nat.mul_assoc, Nat.mul_comm ((s.take k).count (x : Int) + 1), h1]
    simp only [Nat.mul_comm, Nat.mul_left_comm]
  rw [← h4, Nat.mul_div_cancel _ (by omega)]
theorem orders_le {s : List Int} {m : Nat} (h8 : s.length ≤ 8) (h : ∀ x ∈ s, 0 ≤ x ∧ x < (m : Int)) : ordersN s m ≤ 40320 := by
  have h1 := orders_fct h8 h
  have h2 := fcts_pos s m
  have h3 : ∀ n, n < 9 → fct n ≤ 40320 := by decide
  have h4 := h3 s.length (by omega)
  have := Nat.le_mul_of_pos_right (ordersN s m) h2
  omega
def ordersOf (xs : List Int) : Int × Bool := if isPark xs then ((ordersN xs xs.length : Int), true) else (0, false)
end Go.Proofs.Ytakadjhbomggbaa

namespace Go.Proofs.Ytakadjhbomggbaa
open Go.RowKit

/-- The total distance: the places are those from 0 on. -/
def tot (xs : List Int) : Int := total (upto xs.length) - total xs
theorem drive_upto {xs : List Int} (h : isPark xs = true) : total (drive xs.length xs) = total (upto xs.length) := by
  obtain ⟨h1, h2, h3⟩ := isPark_iff.1 h
  have hnd := drive_nodup h2 h3
  have hbd := drive_bounds h2 h3
  have hl := length_drive (xs.length : Int) xs
  refine total_perm ?_
  have hd2 : (upto xs.length).Nodup := by
    unfold upto List.Nodup
    rw [List.pairwise_map]
    exact List.nodup_range.imp fun h e => h (by omega)
  rw [List.perm_ext_iff_of_nodup hnd hd2]
  intro z
  unfold upto
  rw [List.mem_map]
  constructor
  · intro hz
    have := hbd z hz
    exact ⟨z.toNat, by rw [List.mem_range]; omega, by omega⟩
  · rintro ⟨i, hi, rfl⟩
    rw [List.mem_range] at hi
    apply Classical.byContradiction
    intro hz
    have := nodup_le xs.length ((i : Int) :: drive xs.length xs) (List.nodup_cons.2 ⟨hz, hnd⟩) (fun x hx => by
      rcases List.mem_cons.1 hx with rfl | hx
      · omega
      · exact hbd x hx)
    simp at this
    omega
theorem dists_tot {xs : List Int} (h : isPark xs = true) : total (dists xs.length xs) = tot xs := by
  rw [total_dists, drive_upto h]
  rfl
theorem total_nonneg {ys : List Int} (h : ∀ y ∈ ys, 0 ≤ y) : 0 ≤ total ys := by
  have : ∀ (ys : List Int) (c : Int), 0 ≤ c → (∀ y ∈ ys, 0 ≤ y) → 0 ≤ ys.foldl (· + ·) c := by
    intro ys
    induction ys with
    | nil => intro c hc _; exact hc
    | cons y ys ih =>
      intro c hc hy
      have := hy y (by simp)
      exact ih (c + y) (by omega) fun z hz => hy z (by simp [hz])
  exact this ys 0 (Int.le_refl _) h
theorem dists_nonneg {xs : List Int} (h : isPark xs = true) : ∀ y ∈ dists xs.length xs, 0 ≤ y := by
  obtain ⟨h1, h2, h3⟩ := isPark_iff.1 h
  intro y hy
  obtain ⟨i, hi, rfl⟩ := mem_nth hy
  rw [length_dists] at hi
  rw [nth_dists hi]
  have := (car_at hi h2 h3).1
  omega
/-- The greatest total distance. -/
def mostD (n : Nat) : Nat := n * (n - 1) / 2
theorem total_upto' (n : Nat) : total (upto n) = (mostD n : Int) := by
  have h := total_upto n
  unfold mostD
  cases n with
  | zero => rfl
  | succ n =>
    rw [show ((n + 1 : Nat) : Int) - 1 = (n : Int) by omega, ← Int.natCast_mul] at h
    rw [Nat.add_sub_cancel]
    omega
theorem tot_bounds {xs : List Int} (h : isPark xs = true) : 0 ≤ tot xs ∧ tot xs < ((mostD xs.length + 1 : Nat) : Int) := by
  have h1 := dists_tot h
  have h2 := total_nonneg (dists_nonneg h)
  have h3 := total_nonneg fun x hx => ((isPark_bounds h).2 x hx).1
  have h4 := total_upto' xs.length
  unfold tot at *
  omega
/-- A parking function with a total distance. -/
def wit (n : Nat) (s : Int) : List Int := (List.range n).map fun (i : Nat) => max 0 (min (i : Int) (s - (i : Int) * ((i : Int) - 1) / 2))
theorem wits : ∀ n, n < 6 → ∀ d, d < mostD n + 1 → isPark (wit n ((mostD n : Int) - (d : Int))) = true ∧ tot (wit n ((mostD n : Int) - (d : Int))) = (d : Int) ∧ (wit n ((mostD n : Int) - (d : Int))).length = n := by decide +kernel
theorem mem_list {xs : List Int} {n : Nat} (h : isPark xs = true) (hn : xs.length = n) : xs ∈ listL n n [] := by
  obtain ⟨h8, hb⟩ := isPark_bounds h
  subst hn
  have hz := (isPark_zpark h8 fun x hx => (hb x hx).1).1 h
  have e := toI_toN (xs := xs) fun x hx => (hb x hx).1
  have hlt : ∀ x ∈ toN xs, x < xs.length := fun x hx => by
    obtain ⟨y, hy, rfl⟩ := List.mem_map.1 hx
    have := hb y hy
    omega
  have h1 := rk_lt (n := xs.length) (toN xs) [] (by simp [length_toN]) hlt (by rw [e]; simpa using hz)
  have h2 := at_rk (n := xs.length) (toN xs) [] (by simp [length_toN]) hlt (by rw [e]; simpa using hz)
  rw [length_toN] at h2
  rw [list_at xs.length [] (by simp), List.mem_map]
  exact ⟨rk xs.length [] (toN xs), by rw [List.mem_range]; exact h1, by rw [h2, e]; rfl⟩
/-- The total distances of all. -/
def tots (n : Nat) : List Int := (listL n n []).map tot
theorem list_parks {n : Nat} (h8 : n ≤ 8) {xs : List Int} (h : xs ∈ listL n n []) : isPark xs = true ∧ xs.length = n := by
  obtain ⟨_, _, _, hp⟩ := all_chain h8
  obtain ⟨i, hi, e⟩ := List.getElem_of_mem h
  have := hp i hi
  simpa [hi, e] using this
theorem tots_bounds {n : Nat} (h8 : n ≤ 8) : ∀ t ∈ tots n, 0 ≤ t ∧ t < ((mostD n + 1 : Nat) : Int) := by
  intro t ht
  obtain ⟨xs, hx, rfl⟩ := List.mem_map.1 ht
  obtain ⟨h1, h2⟩ := list_parks h8 hx
  have := tot_bounds h1
  rw [h2] at this
  exact this
/-- How many have each total distance. -/
def distCounts (n : Nat) : List Int := (List.range (mostD n + 1)).map fun (d : Nat) => occ (tots n) d
theorem runs_dist {n : Nat} (h5 : n ≤ 5) : runsTo (insSort (tots n)) (tots n).length = distCounts n := by
  have hperm := insSort_perm (tots n)
  have h1 := runs_all (s := insSort (tots n)) (m := mostD n + 1) (insSort_sorted _) (fun x hx => tots_bounds (by omega) x (hperm.mem_iff.1 hx))
  rw [length_insSort, occs_perm hperm] at h1
  rw [h1]
  refine occs_full fun v hv => ?_
  obtain ⟨w1, w2, w3⟩ := wits n (by omega) v hv
  exact List.mem_map.2 ⟨_, mem_list w1 w3, w2⟩
def distOfN (n : Int) : List Int × Bool := if inB n 0 5 then (distCounts n.toNat, true) else ([], false)
theorem distOfN_yes {n : Nat} (h : inB (n : Int) 0 5 = true) : distOfN n = (distCounts n, true) := by simp [distOfN, h]
theorem distOfN_no {n : Int} (h : ¬ inB n 0 5 = true) : distOfN n = ([], false) := by simp [distOfN, h]
theorem mostD_small {n : Nat} (h : n ≤ 5) : mostD n ≤ 10 := by
  have : ∀ n, n < 6 → mostD n ≤ 10 := by decide
  exact this n (by omega)
end Go.Proofs.Ytakadjhbomggbaa

namespace Go.Proofs.Ytakadjhbomggbaa
open Go.RowKit

theorem out_perm {os : List Int} {n : Nat} (h8 : n ≤ 8) (h : os.Perm (upto n)) : outB os = true := by
  have hl : os.length = n := by rw [h.length_eq]; simp [upto]
  have hnd : os.Nodup := h.nodup_iff.2 (by unfold upto; rw [List.Nodup, List.pairwise_map]; exact List.nodup_range.imp fun h e => h (by omega))
  unfold outB
  rw [Bool.and_eq_true]
  refine ⟨?_, ?_⟩
  · unfold carsB
    rw [Bool.and_eq_true, decide_eq_true_eq, allB_iff]
    refine ⟨by omega, fun x hx => ?_⟩
    obtain ⟨c, hc, rfl⟩ := mem_upto.1 (h.subset hx)
    omega
  · unfold distB
    rw [List.all_eq_true]
    intro i hi
    rw [List.mem_range] at hi
    rw [Bool.not_eq_true', Bool.eq_false_iff]
    intro hh
    have hm : nth os i ∈ os.take i := by simpa [hasB] using hh
    obtain ⟨j, hj, e⟩ := mem_nth hm
    rw [List.length_take] at hj
    have e2 : nth (os.take i) j = nth os j := by simp [nth, show j < i by omega]
    rw [e2] at e
    have h3 := List.pairwise_iff_getElem.1 hnd j i (by omega) hi (by omega)
    simp only [nth, List.getD_eq_getElem?_getD, List.getElem?_eq_getElem (show j < os.length by omega), List.getElem?_eq_getElem hi, Option.getD_some] at e
    exact h3 e
/-- The cars in order, and what their favourites are. -/
theorem cars_facts {xs : List Int} (h : isPark xs = true) : xs.length ≤ 8 ∧ (carsL xs).length = xs.length ∧ (carsL xs).Perm (upto xs.length) ∧
    (∀ k, k < xs.length → ∃ c : Nat, nth (carsL xs) k = (c : Int) ∧ c < xs.length ∧ nth xs c = nth (insSort xs) k) ∧
    (∀ k, k < xs.length → 0 ≤ nth (insSort xs) k ∧ nth (insSort xs) k ≤ (k : Int)) ∧
    (∀ i k, i < k → k < xs.length → nth (insSort xs) i ≤ nth (insSort xs) k ∧ (nth (insSort xs) i = nth (insSort xs) k → nth (carsL xs) i < nth (carsL xs) k)) := by
  obtain ⟨h8, hb⟩ := isPark_bounds h
  have hb' : ∀ c, c < xs.length → 0 ≤ nth xs c ∧ nth xs c < (xs.length : Int) := fun c hc => by have := hb _ (nth_mem hc); omega
  have hp := carsL_perm rfl (by omega) hb'
  have hl : (carsL xs).length = xs.length := length_carsL rfl (by omega) hb'
  have hs := fair_sorted rfl (by omega) hb'
  have hso := carsTo_sorted (xs := xs) (by omega) (fun c hc => (hb' c hc).1) xs.length
  have hat : ∀ k, k < xs.length → ∃ c : Nat, nth (carsL xs) k = (c : Int) ∧ c < xs.length ∧ nth xs c = nth (insSort xs) k := fun k hk => by
    have hm : nth (carsL xs) k ∈ carsL xs := nth_mem (by omega)
    obtain ⟨c, hc, e⟩ := mem_upto.1 (hp.subset hm)
    refine ⟨c, e, hc, ?_⟩
    rw [← hs]
    have e2 : nth ((carsTo xs xs.length).map fun c => nth xs c.toNat) k = nth xs (nth (carsTo xs xs.length) k).toNat := by
      have hl2 : (carsTo xs xs.length).length = xs.length := hl
      generalize carsTo xs xs.length = ls at *
      simp [nth, hl2, hk]
    rw [e2]
    show nth xs c = nth xs (nth (carsL xs) k).toNat
    rw [e, Int.toNat_natCast]
  refine ⟨h8, hl, hp, hat, park_sorted h, fun i k hik hk => ?_⟩
  refine ⟨sorted_nth (insSort_sorted xs) (by omega) (by rw [length_insSort]; exact hk), fun e => ?_⟩
  obtain ⟨c, e1, c1, c2⟩ := hat i (by omega)
  obtain ⟨d, e2, d1, d2⟩ := hat k hk
  have := List.pairwise_iff_getElem.1 hso i k (by have : (carsTo xs xs.length).length = xs.length := hl; omega) (by have : (carsTo xs xs.length).length = xs.length := hl; omega) hik
  have g1 : (carsTo xs xs.length)[i]'(by have : (carsTo xs xs.length).length = xs.length := hl; omega) = (c : Int) := by
    have := e1
    simp only [nth, carsL, List.getD_eq_getElem?_getD, List.getElem?_eq_getElem (show i < (carsTo xs xs.length).length by have : (carsTo xs xs.length).length = xs.length := hl; omega), Option.getD_some] at this
    exact this
  have g2 : (carsTo xs xs.length)[k]'(by have : (carsTo xs xs.length).length = xs.length := hl; omega) = (d : Int) := by
    have := e2
    simp only [nth, carsL, List.getD_eq_getElem?_getD, List.getElem?_eq_getElem (show k < (carsTo xs xs.length).length by have : (carsTo xs xs.length).length = xs.length := hl; omega), Option.getD_some] at this
    exact this
  rw [g1, g2] at this
  unfold keyC at this
  rw [Int.toNat_natCast, Int.toNat_natCast] at this
  rw [e1, e2]
  omega
theorem hgt_at {xs : List Int} (h : isPark xs = true) {k : Nat} (hk : k < xs.length) : nth (hgtOf xs (carsL xs)) k = (k : Int) - nth (insSort xs) k := by
  obtain ⟨h8, hl, hp, hat, -, -⟩ := cars_facts h
  obtain ⟨c, e1, c1, c2⟩ := hat k hk
  rw [nth_hgtOf (by omega), e1, Int.toNat_natCast, c2]
/-- The walk of a parking function is one. -/
theorem walk_park {xs : List Int} (h : isPark xs = true) : walkB (hgtOf xs (carsL xs)) (carsL xs) = true := by
  obtain ⟨h8, hl, hp, hat, hs, hso⟩ := cars_facts h
  have hlh : (hgtOf xs (carsL xs)).length = xs.length := by rw [length_hgtOf, hl]
  refine walkB_iff.2 ⟨hgtB_iff.2 ⟨by omega, fun i hi => ?_⟩, by rw [length_hgtOf], out_perm h8 hp, riseTo_iff.2 fun i hi => ?_⟩
  · rw [hlh] at hi
    have h1 := hs i hi
    rw [hgt_at h hi]
    cases i with
    | zero => simp only [mostAt]; omega
    | succ i =>
      have h2 := (hso i (i + 1) (by omega) hi).1
      simp only [mostAt]
      rw [hgt_at h (by omega)]
      omega
  · rw [hl] at hi
    unfold riseOk raisedB
    cases i with
    | zero => simp
    | succ i =>
      rw [Nat.add_sub_cancel, hgt_at h hi, hgt_at h (by omega)]
      have h2 := hso i (i + 1) (by omega) hi
      simp only [Bool.not_eq_true', Bool.and_eq_false_iff, decide_eq_false_iff_not]
      by_cases e : nth (insSort xs) i = nth (insSort xs) (i + 1)
      · right
        have := h2.2 e
        omega
      · left
        right
        omega
/-- A filled list at the labels that came. -/
theorem pow_at {hs ls : List Int} (ho : outB ls = true) : ∀ k, k ≤ ls.length → ∀ i, i < k → nth (powTo hs ls k) (nth ls i).toNat = (i : Int) - nth hs i
  | 0, _, i, hi => by omega
  | k + 1, hk, i, hi => by
    have hb := out_nth ho (i := k) (by omega)
    have hbi := out_nth ho (i := i) (by omega)
    simp only [powTo]
    by_cases e : i = k
    · subst e
      rw [nth_set (by rw [length_powTo]; omega), if_pos rfl]
    · have hne : (nth ls k).toNat ≠ (nth ls i).toNat := fun h2 => e (out_inj ho (by omega) (by omega) (by omega))
      rw [nth_set (by rw [length_powTo]; omega), if_neg hne]
      exact pow_at ho k (by omega) i (by omega)
/-- The parking function of its walk. -/
theorem pow_park {xs : List Int} (h : isPark xs = true) : powTo (hgtOf xs (carsL xs)) (carsL xs) (carsL xs).length = xs := by
  obtain ⟨h8, hl, hp, hat, hs, hso⟩ := cars_facts h
  have ho := out_perm h8 hp
  refine ext_nth (by rw [length_powTo, hl]) fun c hc => ?_
  rw [length_powTo, hl] at hc
  obtain ⟨k, hk, e⟩ := mem_nth (out_all ho (z := c) (by omega))
  have := pow_at (hs := hgtOf xs (carsL xs)) ho (carsL xs).length (Nat.le_refl _) k hk
  rw [e, Int.toNat_natCast] at this
  rw [this]
  obtain ⟨d, e1, d1, d2⟩ := hat k (by omega)
  rw [hgt_at h (by omega), ← d2]
  have : d = c := by omega
  rw [this]
  omega
/-- The area is the total distance. -/
theorem area_park {xs : List Int} (h : isPark xs = true) : 2 * total (hgtOf xs (carsL xs)) = (xs.length : Int) * ((xs.length : Int) - 1) - 2 * total xs ∧ total (dists xs.length xs) = total (hgtOf xs (carsL xs)) := by
  obtain ⟨h8, hl, hp, hat, hs, hso⟩ := cars_facts h
  have h1 : total (hgtOf xs (carsL xs)) = total (upto xs.length) - total (insSort xs) := by
    have hk : ∀ k, k ≤ xs.length → total ((hgtOf xs (carsL xs)).take k) = total ((upto xs.length).take k) - total ((insSort xs).take k) := by
      intro k
      induction k with
      | zero => intro _; simp [total]
      | succ k ih =>
        intro hk
        rw [total_succ (by rw [length_hgtOf, hl]; omega), total_succ (by rw [length_upto]; omega), total_succ (by rw [length_insSort]; omega), ih (by omega), hgt_at h (by omega), nth_upto (by omega)]
        omega
    have := hk xs.length (Nat.le_refl _)
    rwa [List.take_of_length_le (by rw [length_hgtOf, hl]; exact Nat.le_refl _), List.take_of_length_le (by rw [length_upto]; exact Nat.le_refl _), List.take_of_length_le (by rw [length_insSort]; exact Nat.le_refl _)] at this
  have h2 := total_perm (insSort_perm xs)
  have h3 := total_upto xs.length
  have h4 := total_dists (xs.length : Int) xs
  have h5 := drive_upto h
  refine ⟨?_, ?_⟩ <;> omega
/-- The touches are the cuts. -/
theorem touch_park {xs : List Int} (h : isPark xs = true) : idxs (touchAt (hgtOf xs (carsL xs))) xs.length = idxs (isCut xs) xs.length := by
  unfold idxs
  congr 1
  refine List.filter_congr fun i hi => ?_
  rw [List.mem_range] at hi
  unfold touchAt isCut
  rw [hgt_at h hi, Bool.eq_iff_iff]
  simp only [Bool.and_eq_true, decide_eq_true_eq]
  have h1 := st_at h hi
  have h2 := st_iff h (b := i) (by omega)
  have h3 := below_ge h (b := i) (by omega)
  constructor
  · rintro ⟨a, b⟩
    have := h2.1 (h1.2 (by omega))
    exact ⟨by omega, by omega⟩
  · rintro ⟨a, b⟩
    have := h1.1 (h2.2 (by omega))
    exact ⟨by omega, by omega⟩
theorem perm_of_out {ls : List Int} (ho : outB ls = true) : ls.Perm (upto ls.length) := by
  have hnd : ls.Nodup := List.pairwise_iff_getElem.2 fun i j hi hj hij e => by
    have := out_inj ho hi hj (by simp only [nth, List.getD_eq_getElem?_getD, List.getElem?_eq_getElem hi, List.getElem?_eq_getElem hj, Option.getD_some]; exact e)
    omega
  have hnd2 : (upto ls.length).Nodup := by unfold upto; rw [List.Nodup, List.pairwise_map]; exact List.nodup_range.imp fun h e => h (by omega)
  refine (List.perm_ext_iff_of_nodup hnd hnd2).2 fun v => ?_
  constructor
  · intro hv
    obtain ⟨i, hi, rfl⟩ := mem_nth hv
    have := out_nth ho hi
    exact mem_upto.2 ⟨(nth ls i).toNat, by omega, by omega⟩
  · intro hv
    obtain ⟨c, hc, rfl⟩ := mem_upto.1 hv
    exact out_all ho hc
/-- The parking function of a walk is one, and its walk is that walk. -/
theorem park_walk {hs ls : List Int} (hw : walkB hs ls = true) : isPark (powTo hs ls ls.length) = true ∧ carsL (powTo hs ls ls.length) = ls ∧ hgtOf (powTo hs ls ls.length) ls = hs := by
  obtain ⟨hg, hll, ho, hr⟩ := walkB_iff.1 hw
  obtain ⟨h8, hb⟩ := hgt_of hg rfl
  have hmo := (hgtB_iff.1 hg).2
  have hr' := riseTo_iff.1 hr
  obtain ⟨xs, hx⟩ : ∃ xs, powTo hs ls ls.length = xs := ⟨_, rfl⟩
  have hxl : xs.length = ls.length := by rw [← hx, length_powTo]
  have hat : ∀ k, k < ls.length → nth xs (nth ls k).toNat = (k : Int) - nth hs k := fun k hk => by rw [← hx]; exact pow_at ho _ (Nat.le_refl _) k hk
  rw [hx]
  clear hx
  have hp := perm_of_out ho
  have hbd : ∀ c, c < ls.length → 0 ≤ nth xs c ∧ nth xs c < (ls.length : Int) := fun c hc => by
    obtain ⟨k, hk, e⟩ := mem_nth (out_all ho hc)
    have h1 := hat k hk
    rw [e, Int.toNat_natCast] at h1
    have := hb k (by omega)
    omega
  -- the favourites in the order of the labels
  have hstep : ∀ k, k + 1 < ls.length → nth xs (nth ls k).toNat < nth xs (nth ls (k + 1)).toNat ∨ (nth xs (nth ls k).toNat = nth xs (nth ls (k + 1)).toNat ∧ nth ls k < nth ls (k + 1)) := fun k hk => by
    rw [hat k (by omega), hat (k + 1) hk]
    have h1 := hmo (k + 1) (by omega)
    simp only [mostAt] at h1
    have h2 := hr' (k + 1) hk
    unfold riseOk raisedB at h2
    rw [Nat.add_sub_cancel] at h2
    simp only [Bool.not_eq_true', Bool.and_eq_false_iff, decide_eq_false_iff_not] at h2
    have h3 : nth ls k ≠ nth ls (k + 1) := fun e => by have := out_inj ho (i := k) (j := k + 1) (by omega) hk e; omega
    omega
  have hall : ∀ d i, i + d + 1 < ls.length → nth xs (nth ls i).toNat < nth xs (nth ls (i + d + 1)).toNat ∨ (nth xs (nth ls i).toNat = nth xs (nth ls (i + d + 1)).toNat ∧ nth ls i < nth ls (i + d + 1)) := by
    intro d
    induction d with
    | zero => intro i hi; exact hstep i hi
    | succ d ih =>
      intro i hi
      have h1 := ih i (by omega)
      have h2 := hstep (i + d + 1) (by omega)
      have e : i + (d + 1) + 1 = i + d + 1 + 1 := by omega
      rw [e]
      omega
  have hmap : (ls.map fun v => nth xs v.toNat).Perm xs := by
    refine (hp.map _).trans ?_
    rw [← hxl, ← self_upto xs]
  have hsorted : (ls.map fun v => nth xs v.toNat).Pairwise (· ≤ ·) := by
    rw [List.pairwise_map, List.pairwise_iff_getElem]
    intro i j hi hj hij
    have h1 := hall (j - i - 1) i (by omega)
    rw [show i + (j - i - 1) + 1 = j by omega] at h1
    simp only [nth, List.getD_eq_getElem?_getD, List.getElem?_eq_getElem hi, List.getElem?_eq_getElem hj, Option.getD_some] at h1 ⊢
    omega
  have hins : insSort xs = ls.map fun v => nth xs v.toNat := sorted_unique (insSort_sorted xs) hsorted ((insSort_perm xs).trans hmap.symm)
  have hask : asked xs = true := by
    rw [asked_cars]
    refine carsB_iff.2 ⟨by omega, fun x hx => ?_⟩
    obtain ⟨c, hc, rfl⟩ := mem_nth hx
    have := hbd c (by omega)
    omega
  have hpark : isPark xs = true := by
    rw [← fits_park hask, fitsB_iff]
    intro i hi
    have e : nth (insSort xs) i = nth xs (nth ls i).toNat := by rw [hins]; simp [nth, show i < ls.length by omega]
    rw [e, hat i (by omega)]
    have := hb i (by omega)
    omega
  refine ⟨hpark, ?_, ?_⟩
  · have hcp := carsL_perm hxl (by omega) hbd
    have hso := carsTo_sorted (xs := xs) (by omega) (fun c hc => (hbd c (by omega)).1) xs.length
    symm
    refine keyC_unique (xs := xs) (n := ls.length) (by omega) hcp (hp.trans hcp.symm) (hso.imp fun {a b} h => by omega) ?_
    rw [List.pairwise_iff_getElem]
    intro i j hi hj hij
    have h1 := hall (j - i - 1) i (by omega)
    rw [show i + (j - i - 1) + 1 = j by omega] at h1
    simp only [nth, List.getD_eq_getElem?_getD, List.getElem?_eq_getElem hi, List.getElem?_eq_getElem hj, Option.getD_some] at h1
    have b1 := out_nth ho hi
    have b2 := out_nth ho hj
    simp only [nth, List.getD_eq_getElem?_getD, List.getElem?_eq_getElem hi, List.getElem?_eq_getElem hj, Option.getD_some] at b1 b2
    unfold keyC
    simp only [nth, List.getD_eq_getElem?_getD]
    omega
  · refine ext_nth (by rw [length_hgtOf, hll]) fun i hi => ?_
    rw [length_hgtOf] at hi
    rw [nth_hgtOf hi, hat i hi]
    omega
end Go.Proofs.Ytakadjhbomggbaa

namespace Go.Proofs.Ytakadjhbomggbaa
open Go.RowKit

theorem run_append_emptyR (w : World) {B : Nat} (ty : TypeId) (a0 a1 : Option Addr) (n cap cap1 : Nat) (us : List Value) (hown : w.ownsRow B 24 1 (.slice a0 n cap) n us) :
    (Builtin.append_ #[42, 42] ty #[.slice a0 n cap, .slice a1 0 cap1]).run Try.prog w = .ok (.slice a0 n cap) w := by
  obtain ⟨i0, hi, hz0, hz1, hz2⟩ := info_parts Try.infoInts
  rcases hown.2 with ⟨hv, hn⟩ | ⟨g, cap', cur, hv, _, _, hnc, _⟩
  · simp at hv
    obtain ⟨rfl, rfl, rfl⟩ := hv
    cases a1 <;> simp [Builtin.append_, run_underlying Try.underlying42, sizeOf, typeInfo, hi, Builtin.lenOf, Builtin.firstCells, loadCells, loadCellsFrom]
  · simp at hv
    obtain ⟨rfl, rfl⟩ := hv
    cases a1 <;> simp [Builtin.append_, run_underlying Try.underlying42, sizeOf, typeInfo, hi, Builtin.lenOf, Builtin.firstCells, hnc, storeCells, loadCells, loadCellsFrom]

theorem wpList_append_rowsAny {ops : Array Oper} {rest : List Oper} {o : Oper} {a : Act} {Q : Exit → Act → World → Prop} (w0 w : World) (hgd : o.guard = none) (s x : Operand)
    (ho : o.op = .call { callee := .builtin .append, args := #[s, x], argTypes := #[42, 42] })
    (B : Nat) (a0 a1 : Option Addr) (n m cap c1 : Nat) (rs ss : List Rw) (hs : a.eval s = .slice a0 n cap) (hx : a.eval x = .slice a1 m c1)
    (hown : OwnR w0 B a0 n cap rs) (hb : Below w0.heap.size w0 w) (hsrc : OwnR w w0.heap.size a1 m c1 ss) (hl : n + m ≤ 2097152) (hB : B ≤ w0.heap.size)
    (h : ∀ a' k cap' w', Hid (k = n + m) → OwnR w' B a' k cap' (rs ++ ss) → Below B w w' → wpList Try.prog ops Q rest (a.put o.dst (.slice a' k cap')) w') :
    wpList Try.prog ops Q (o :: rest) a w := by
  by_cases hm : 0 < m
  · exact wpList_append_rows w0 w hgd s x ho B a0 a1 n m cap c1 rs ss hs hx hown hb hsrc hm hl hB h
  · obtain rfl : m = 0 := by omega
    obtain rfl : ss = [] := List.eq_nil_of_length_eq_zero hsrc.len
    have hownw := hown.below hb (Nat.le_refl _)
    refine wpList_plain hgd fun K hK => ?_
    have hrun := run_append_emptyR w o.type a0 a1 n cap c1 _ hownw.1
    unfold Oper.wp
    simp [execOp, ho, resolve, invoke, builtin, hs, hx, hrun, Result.andThen]
    exact hK _ _ (h a0 n cap w (hid rfl) (by simpa using hownw) (Below.refl _ _))
end Go.Proofs.Ytakadjhbomggbaa

namespace Go.Proofs.Ytakadjhbomggbaa
open Go.RowKit

/-- A slice of slices of the call's own. -/
def PostRowsOnly (w : World) (ls : List (List Int)) (e : Ending) (w' : World) : Prop := ∃ a q cap rs, e = .returned (.slice a q cap) ∧ OwnR w' w.heap.size a q cap rs ∧ numsOf rs = ls ∧ Below w.heap.size w w'
theorem numsOf_app (rs ss : List Rw) : numsOf (rs ++ ss) = numsOf rs ++ numsOf ss := by simp [numsOf]
theorem numsOf_len {w : World} {B : Nat} {a : Option Addr} {q cap : Nat} {rs : List Rw} (h : OwnR w B a q cap rs) : (numsOf rs).length = q := by
  rw [← h.len]
  simp [numsOf]

theorem take_getD {L : List (List Int)} {k : Nat} (h : k < L.length) : L.take (k + 1) = L.take k ++ [L.getD k []] := by
  rw [List.take_succ_eq_append_getElem h]
  simp [h]

end Go.Proofs.Ytakadjhbomggbaa

namespace Go.Proofs.Ytakadjhbomggbaa
open Go.RowKit

theorem ownsRow_up {w : World} {B K : Nat} {e : TypeId} {a : Option Addr} {n cap : Nat} {us : List Value} (h : w.ownsRow B e 1 (.slice a n cap) n us) (hg : BlkGe a K) : w.ownsRow K e 1 (.slice a n cap) n us := by
  refine ⟨h.1, ?_⟩
  rcases h.2 with h2 | ⟨g, cap', cur, hv, hg', r⟩
  · exact .inl h2
  · refine .inr ⟨g, cap', cur, hv, ?_, r⟩
    simp at hv
    obtain ⟨rfl, _⟩ := hv
    exact hg _ rfl
theorem ownsRow_ge {w : World} {B : Nat} {e : TypeId} {a : Option Addr} {n cap : Nat} {us : List Value} (h : w.ownsRow B e 1 (.slice a n cap) n us) : BlkGe a B := by
  rintro p rfl
  rcases h.2 with ⟨hv, _⟩ | ⟨g, cap', cur, hv, hg', _⟩
  · simp at hv
  · simp at hv
    rw [hv.1]
    exact hg'
/-- A row lies apart from the rows so far. -/
def Aside (rs : List Rw) (a : Option Addr) : Prop := ∀ i, i < rs.length → ∀ p q, (nthR rs i).a = some p → a = some q → p.block ≠ q.block

/-- 'append(out, row)': the row lies apart from the others; what lies before K stays. -/
theorem wpList_append_rowA {ops : Array Oper} {rest : List Oper} {o : Oper} {a : Act} {Q : Exit → Act → World → Prop} (w : World) (hgd : o.guard = none) (s x : Operand)
    (ho : o.op = .call { callee := .builtin .append, args := #[s, x], argTypes := #[42, 42] })
    (B K : Nat) (a0 : Option Addr) (n cap : Nat) (rs : List Rw) (a1 : Option Addr) (m c1 : Nat) (ys : List Int) (hs : a.eval s = .slice a0 n cap) (hx : a.eval x = .slice (some ⟨w.heap.size, 0, none⟩) 1 1)
    (hown : OwnR w B a0 n cap rs) (hrow : Own w B a1 m c1 ys) (hap : Aside rs a1) (hl : n + 1 ≤ 2097152) (hge : BlkGe a0 K) (hBK : B ≤ K) (hK : K ≤ w.heap.size)
    (h : ∀ a' cap' w', OwnR w' B a' (n + 1) cap' (rs ++ [⟨a1, c1, ys⟩]) → BlkGe a' K → Below K w w' → wpList Try.prog ops Q rest (a.put o.dst (.slice a' (n + 1) cap')) w') :
    wpList Try.prog ops Q (o :: rest) a (w.alloc (.cells #[.slice a1 m c1] 24)) := by
  obtain ⟨i0, hi, hz0, hz1, hz2⟩ := info_parts Try.infoInts
  have hlen := hown.len
  have hm : ys.length = m := hrow.len
  refine wpList_append_own (P := Try.prog) _ hgd s x 42 ho K 24 i0 (.slice none 0 0) 1 24 Try.underlying42 hi hz0 hz1 hz2 rfl (by decide) _ n (rs.map Rw.v) hs ((ownsRow_up hown.1 hge).alloc _) ⟨w.heap.size, 0, none⟩ 1 1 [.slice a1 m c1] hx rfl (one_cellV w _ _) (by intro u hu; simp at hu; subst hu; rfl) (by unfold maxLen; omega) (by omega) (by simp; omega) ?_
  intro v' w' hown' hgrow _
  have hbw : Below K w w' := ((Below.refl K w).alloc hK _).grown hgrow (by simp; omega) (fun k hk => ((ownsRow_up hown.1 hge).lt k hk).1)
  obtain ⟨a', cap', rfl⟩ := slice_of_row hown'
  have hkeep : ∀ {aa : Option Addr} {k c : Nat} {zs : List Int} {BB : Nat}, Own w BB aa k c zs → Own w' BB aa k c zs := by
    intro aa k c zs BB hz
    refine ⟨(hz.1.alloc _).kept hgrow ?_, hz.2⟩
    cases aa with
    | none => left; rfl
    | some p =>
      right
      rcases hz.1.2 with ⟨hv, _⟩ | ⟨g1, cap1, cur1, hv1, _, hh1, _⟩
      · simp at hv
      · simp at hv1
        rcases hown.1.2 with ⟨hv2, _⟩ | ⟨g2, cap2, cur2, hv2, _, hh2, _⟩
        · simp at hv2
          rw [hv2.1]
          simp [Value.ownBlock]
        · simp at hv2
          rw [hv2.1, hv1.1]
          simp only [Value.ownBlock]
          intro e
          simp at e
          rw [e, hh2] at hh1
          simp at hh1
  have hfin : OwnR w' B a' (n + 1) cap' (rs ++ [⟨a1, c1, ys⟩]) := by
    refine ⟨by simpa [Rw.v, hm] using ownsRow_mono hown' hBK, by simp [hlen], hl, fun i hi => ?_, fun i j p q hij hj hp hq => ?_⟩
    · by_cases e : i < n
      · rw [nthR_append_left (by omega)]
        exact hkeep (hown.2.2.2.1 i e)
      · obtain rfl : i = n := by omega
        rw [nthR_append_right (by omega), hlen, Nat.sub_self, nthR_one]
        have := hkeep hrow
        rw [← hm] at this
        exact this
    · rw [nthR_append_left (by omega)] at hp
      by_cases e : j < n
      · rw [nthR_append_left (by omega)] at hq
        exact hown.2.2.2.2 i j p q hij e hp hq
      · obtain rfl : j = n := by omega
        rw [nthR_append_right (by omega), hlen, Nat.sub_self, nthR_one] at hq
        exact hap i (by omega) p q hp hq
  exact h _ _ _ hfin (ownsRow_ge hown') hbw

/-- The k-th row read. -/
theorem OwnR.row {w : World} {B : Nat} {a : Option Addr} {n cap : Nat} {rs : List Rw} (h : OwnR w B a n cap rs) {k : Nat} (hk : k < n) : Own w B (nthR rs k).a (nthR rs k).xs.length (nthR rs k).c (nthR rs k).xs := h.2.2.2.1 k hk
theorem OwnR.cellAt {w : World} {B : Nat} {a : Option Addr} {n cap : Nat} {rs : List Rw} (h : OwnR w B a n cap rs) (hn : 0 < n) : ∃ g, a = some ⟨g, 0, none⟩ ∧ B ≤ g ∧ g < w.heap.size ∧ (∀ k, k < n → w.cell? ⟨g, k, none⟩ = some (.slice (nthR rs k).a (nthR rs k).xs.length (nthR rs k).c)) ∧ ∀ k, w.frozen? ⟨g, k, none⟩ = false := by
  rcases h.1.2 with ⟨hv, h0⟩ | ⟨g, cap', cur, hv, hg, hh, hnc, hcm, hcs, htake⟩
  · omega
  · simp at hv
    obtain ⟨rfl, rfl⟩ := hv
    obtain ⟨b, off, ha, hlt, hc⟩ := h.has.2.2.2.2.1 hn
    cases ha
    exact ⟨g, rfl, hg, hlt, fun k hk => by simpa [Rw.v] using hc k hk, fun i => h.1.frozenAt i⟩
theorem numsOf_nth {rs : List Rw} {k : Nat} (h : k < rs.length) : (numsOf rs).getD k [] = (nthR rs k).xs := by simp [numsOf, nthR, h]
end Go.Proofs.Ytakadjhbomggbaa

namespace Go.Proofs.Ytakadjhbomggbaa
open Go.RowKit

/-- The rows' own block is no row's. -/
theorem hdr_ne {w : World} {B B' n cap m c : Nat} {a a2 : Option Addr} {us : List Value} {xs : List Int} (h : w.ownsRow B 24 1 (.slice a n cap) n us) (h2 : Own w B' a2 m c xs) : ∀ p q, a = some p → a2 = some q → p.block ≠ q.block := by
  rintro p q rfl rfl e
  rcases h.2 with ⟨hv, _⟩ | ⟨g1, cap1, cur1, hv1, _, hh1, _⟩
  · simp at hv
  · simp at hv1
    rcases h2.1.2 with ⟨hv2, _⟩ | ⟨g2, cap2, cur2, hv2, _, hh2, _⟩
    · simp at hv2
    · simp at hv2
      rw [hv1.1, hv2.1] at e
      simp at e
      rw [e, hh2] at hh1
      simp at hh1
theorem own_other {w w' : World} {B m c g : Nat} {a2 : Option Addr} {xs : List Int} (h : Own w B a2 m c xs) (hg : w.grownBy w' (some g)) (hne : ∀ q, a2 = some q → q.block ≠ g) : Own w' B a2 m c xs := h.kept hg (.inr hne)
theorem nthR_setB {rs : List Rw} {i j : Nat} {r : Rw} (h : i < rs.length) : nthR (rs.set i r) j = if i = j then r else nthR rs j := by
  by_cases e : i = j
  · subst e; simp [nthR, h]
  · simp [nthR, e]
/-- Behind a growth of the k-th row the rows' own cells are as they were. -/
theorem OwnR.ready {w w1 : World} {B g n cap : Nat} {rs : List Rw} (h : OwnR w B (some ⟨g, 0, none⟩) n cap rs) {k : Nat} (hk : k < n) (hg : w.grownBy w1 (Value.ownBlock (.slice (nthR rs k).a (nthR rs k).xs.length (nthR rs k).c))) :
    w1.frozen? ⟨g, k, none⟩ = false ∧ w1.cell? ⟨g, k, none⟩ = some (.slice (nthR rs k).a (nthR rs k).xs.length (nthR rs k).c) := by
  have hhdr1 : w1.ownsRow B 24 1 (.slice (some ⟨g, 0, none⟩) n cap) n (rs.map Rw.v) := by
    refine h.1.kept hg ?_
    cases e : (nthR rs k).a with
    | none => right; simp [Value.ownBlock]
    | some q =>
      right
      have := hdr_ne h.1 (h.row hk) _ _ rfl e
      simpa [Value.ownBlock] using this
  have hc := hhdr1.cellAt k (by omega)
  rw [map_nthR Rw.v (by rw [h.len]; exact hk)] at hc
  exact ⟨hhdr1.frozenAt k, hc⟩
/-- The k-th row is set anew. -/
theorem OwnR.setRow {w w1 : World} {B g n cap : Nat} {rs : List Rw} (h : OwnR w B (some ⟨g, 0, none⟩) n cap rs) {k : Nat} (hk : k < n) (hg : w.grownBy w1 (Value.ownBlock (.slice (nthR rs k).a (nthR rs k).xs.length (nthR rs k).c))) {a' : Option Addr} {m' c' : Nat} {ys : List Int} (hown' : Own w1 B a' m' c' ys)
    (hloc : Value.ownBlock (.slice a' m' c') = Value.ownBlock (.slice (nthR rs k).a (nthR rs k).xs.length (nthR rs k).c) ∨ ∃ g', Value.ownBlock (.slice a' m' c') = some g' ∧ w.heap.size ≤ g') :
    OwnR (w1.setCell ⟨g, k, none⟩ (.slice a' m' c')) B (some ⟨g, 0, none⟩) n cap (rs.set k ⟨a', c', ys⟩) ∧ w1.grownBy (w1.setCell ⟨g, k, none⟩ (.slice a' m' c')) (some g) := by
  have hl := h.len
  have hm : ys.length = m' := hown'.len
  have hrk := h.row hk
  have hhdr1 : w1.ownsRow B 24 1 (.slice (some ⟨g, 0, none⟩) n cap) n (rs.map Rw.v) := by
    refine h.1.kept hg ?_
    cases e : (nthR rs k).a with
    | none => right; simp [Value.ownBlock]
    | some q =>
      right
      have := hdr_ne h.1 hrk _ _ rfl e
      simpa [Value.ownBlock] using this
  obtain ⟨s1, s2⟩ := hhdr1.stored k (.slice a' m' c')
  -- the other rows
  have other : ∀ j, j < n → j ≠ k → Own w1 B (nthR rs j).a (nthR rs j).xs.length (nthR rs j).c (nthR rs j).xs := fun j hj hjk => by
    refine ⟨(h.row hj).1.kept hg ?_, (h.row hj).2⟩
    cases e : (nthR rs j).a with
    | none => left; rfl
    | some p =>
      right
      cases e2 : (nthR rs k).a with
      | none => simp [Value.ownBlock]
      | some q =>
        have : p.block ≠ q.block := by
          rcases Nat.lt_or_gt_of_ne hjk with h5 | h5
          · exact h.2.2.2.2 j k p q h5 hk e e2
          · exact fun e3 => h.2.2.2.2 k j q p h5 hj e2 e e3.symm
        simpa [Value.ownBlock] using this
  have newOther : ∀ j, j < n → j ≠ k → ∀ p q, (nthR rs j).a = some p → a' = some q → p.block ≠ q.block := fun j hj hjk p q hp hq => by
    subst hq
    rcases hloc with h5 | ⟨g', h5, h6⟩
    · cases e2 : (nthR rs k).a with
      | none => rw [e2] at h5; simp [Value.ownBlock] at h5
      | some q' =>
        rw [e2] at h5
        simp [Value.ownBlock] at h5
        rw [h5]
        rcases Nat.lt_or_gt_of_ne hjk with h7 | h7
        · exact h.2.2.2.2 j k p q' h7 hk hp e2
        · exact fun e3 => h.2.2.2.2 k j q' p h7 hj e2 hp e3.symm
    · simp [Value.ownBlock] at h5
      have := (h.row hj).lt p hp
      omega
  refine ⟨⟨?_, by simpa using hl, h.2.2.1, fun j hj => ?_, fun i j p q hij hj hp hq => ?_⟩, s2⟩
  · have e : (rs.set k ⟨a', c', ys⟩).map Rw.v = (rs.map Rw.v).set k (.slice a' m' c') := by
      rw [List.map_set]
      simp [Rw.v, hm]
    rw [e]
    exact s1
  · rw [nthR_setB (by omega)]
    by_cases e : k = j
    · subst e
      rw [if_pos rfl]
      simp only
      rw [hm]
      exact own_other hown' s2 fun q hq e2 => hdr_ne hhdr1 hown' _ q rfl hq e2.symm
    · rw [if_neg e]
      exact own_other (other j hj (fun h => e h.symm)) s2 fun q hq e2 => hdr_ne hhdr1 (other j hj (fun h => e h.symm)) _ q rfl hq e2.symm
  · rw [nthR_setB (by omega)] at hp hq
    by_cases e1 : k = i
    · rw [if_pos e1] at hp
      by_cases e2 : k = j
      · omega
      · rw [if_neg e2] at hq
        exact fun e3 => newOther j hj (fun h => e2 h.symm) q p hq hp e3.symm
    · rw [if_neg e1] at hp
      by_cases e2 : k = j
      · rw [if_pos e2] at hq
        exact newOther i (by omega) (fun h => e1 h.symm) p q hp hq
      · rw [if_neg e2] at hq
        exact h.2.2.2.2 i j p q hij hj hp hq
end Go.Proofs.Ytakadjhbomggbaa

namespace Go.Proofs.Ytakadjhbomggbaa
open Go.RowKit

def blkAt (bs : List (List Int)) (k : Nat) : List Int := bs.getD k []
def lenTo (bs : List (List Int)) : Nat → Nat
  | 0 => 0
  | k + 1 => lenTo bs k + (blkAt bs k).length
def flatTo (bs : List (List Int)) : Nat → List Int
  | 0 => []
  | k + 1 => flatTo bs k ++ blkAt bs k
def nonTo (bs : List (List Int)) (k : Nat) : Bool := (List.range k).all fun j => decide (0 < (blkAt bs j).length)
def plIn (f : Nat) (b ys : List Int) : Nat → List Int
  | 0 => ys
  | i + 1 => (plIn f b ys i).set (nth b i).toNat ((f : Int) + ((i - 1 : Nat) : Int))
def plTo (n : Nat) (bs : List (List Int)) : Nat → List Int
  | 0 => List.replicate n 0
  | k + 1 => plIn (lenTo bs k) (blkAt bs k) (plTo n bs k) (blkAt bs k).length
def okBl (bs : List (List Int)) : Bool := nonTo bs bs.length && outB (flatTo bs bs.length)
def placeBl (bs : List (List Int)) : List Int := plTo (lenTo bs bs.length) bs bs.length
def fromUnit (bs : List (List Int)) : List Int × Bool := if okBl bs = true ∧ unitBlocksOf (placeBl bs) = (bs, true) then (placeBl bs, true) else ([], false)
theorem blkAt_nums {rs : List Rw} {k : Nat} (h : k < rs.length) : blkAt (numsOf rs) k = (nthR rs k).xs := by
  have h1 : (numsOf rs)[k]? = some (nthR rs k).xs := map_nthR Rw.xs h
  unfold blkAt
  rw [List.getD_eq_getElem?_getD, h1]
  rfl
theorem length_flatTo (bs : List (List Int)) : ∀ k, (flatTo bs k).length = lenTo bs k
  | 0 => rfl
  | k + 1 => by rw [flatTo, lenTo, List.length_append, length_flatTo bs k]
theorem lenTo_mono (bs : List (List Int)) {k : Nat} : ∀ m, lenTo bs k ≤ lenTo bs (k + m)
  | 0 => Nat.le_refl _
  | m + 1 => Nat.le_trans (lenTo_mono bs m) (Nat.le_add_right _ _)
theorem nonTo_succ {bs : List (List Int)} {k : Nat} : nonTo bs (k + 1) = (nonTo bs k && decide (0 < (blkAt bs k).length)) := by simp [nonTo, List.range_succ]
theorem nonTo_no {bs : List (List Int)} {k m : Nat} (hk : k < m) (h : (blkAt bs k).length = 0) : nonTo bs m = false := by
  unfold nonTo
  rw [List.all_eq_false]
  exact ⟨k, by simpa using hk, by simp [h]⟩
theorem nonTo_len {bs : List (List Int)} : ∀ {k : Nat}, nonTo bs k = true → k ≤ lenTo bs k
  | 0, _ => Nat.le_refl _
  | k + 1, h => by
    rw [nonTo_succ, Bool.and_eq_true, decide_eq_true_eq] at h
    have := nonTo_len h.1
    rw [lenTo]
    omega
theorem length_plIn (f : Nat) (b ys : List Int) : ∀ i, (plIn f b ys i).length = ys.length
  | 0 => rfl
  | i + 1 => by rw [plIn, List.length_set, length_plIn f b ys i]
theorem length_plTo (n : Nat) (bs : List (List Int)) : ∀ k, (plTo n bs k).length = n
  | 0 => by simp [plTo]
  | k + 1 => by rw [plTo, length_plIn, length_plTo n bs k]
/-- Different numbers below n. -/
def preB (n : Nat) (s : List Int) : Prop := s.Nodup ∧ ∀ x ∈ s, 0 ≤ x ∧ x < (n : Int)
theorem pre_snoc {n : Nat} {s : List Int} {x : Int} (h : preB n s) (hx : 0 ≤ x ∧ x < (n : Int)) (hn : x ∉ s) : preB n (s ++ [x]) := by
  refine ⟨?_, fun y hy => ?_⟩
  · rw [List.nodup_append]
    refine ⟨h.1, by simp, fun a ha b hb => ?_⟩
    rw [List.mem_singleton] at hb
    subst hb
    rintro rfl
    exact hn ha
  · rcases List.mem_append.1 hy with hy | hy
    · exact h.2 y hy
    · rw [List.mem_singleton] at hy; subst hy; exact hx
theorem out_pre {xs : List Int} : outB xs = true ↔ xs.length ≤ 8 ∧ preB xs.length xs := by
  constructor
  · intro h
    have h1 := out_le h
    unfold outB at h
    rw [Bool.and_eq_true, carsB_iff] at h
    have h2 := nodup_take _ (Nat.le_refl _) h.2
    rw [List.take_length] at h2
    exact ⟨h1, h2, fun x hx => by have := h.1.2 x hx; omega⟩
  · rintro ⟨h1, h2, h3⟩
    unfold outB
    rw [Bool.and_eq_true, carsB_iff]
    refine ⟨⟨h1, fun x hx => by have := h3 x hx; omega⟩, ?_⟩
    unfold distB
    rw [List.all_eq_true]
    intro i hi
    rw [List.mem_range] at hi
    rw [Bool.not_eq_true', Bool.eq_false_iff]
    intro hh
    have hm : nth xs i ∈ xs.take i := by simpa [hasB] using hh
    have h4 : xs = xs.take i ++ nth xs i :: xs.drop (i + 1) := by
      conv => lhs; rw [← List.take_append_drop i xs]
      rw [List.drop_eq_getElem_cons hi]
      simp [nth, hi]
    rw [h4, List.nodup_append] at h2
    exact h2.2.2 _ hm _ List.mem_cons_self rfl
theorem flat_prefix (bs : List (List Int)) {k : Nat} : ∀ m, flatTo bs k <+: flatTo bs (k + m)
  | 0 => List.prefix_refl _
  | m + 1 => (flat_prefix bs m).trans (List.prefix_append _ _)
theorem flat_part (bs : List (List Int)) {k q : Nat} (hk : k < q) (i : Nat) : flatTo bs k ++ (blkAt bs k).take i <+: flatTo bs q := by
  have h1 : flatTo bs k ++ (blkAt bs k).take i <+: flatTo bs (k + 1) := by
    rw [flatTo]
    exact (List.prefix_append_right_inj _).2 (List.take_prefix _ _)
  have h2 := flat_prefix bs (k := k + 1) (q - (k + 1))
  rw [show k + 1 + (q - (k + 1)) = q by omega] at h2
  exact h1.trans h2
/-- Where the model and the program say no. -/
theorem from_empty {bs : List (List Int)} {k : Nat} (hk : k < bs.length) (h : (blkAt bs k).length = 0) : fromUnit bs = ([], false) := by
  unfold fromUnit
  rw [if_neg]
  rintro ⟨h1, _⟩
  unfold okBl at h1
  rw [nonTo_no hk h] at h1
  simp at h1
theorem from_long {bs : List (List Int)} {k : Nat} (hk : k < bs.length) (h : 8 < lenTo bs (k + 1)) : fromUnit bs = ([], false) := by
  unfold fromUnit
  rw [if_neg]
  rintro ⟨h1, _⟩
  unfold okBl at h1
  rw [Bool.and_eq_true, out_pre, length_flatTo] at h1
  have := lenTo_mono bs (k := k + 1) (bs.length - (k + 1))
  rw [show k + 1 + (bs.length - (k + 1)) = bs.length by omega] at this
  omega
theorem from_range {bs : List (List Int)} {k i : Nat} (hk : k < bs.length) (hi : i < (blkAt bs k).length) (h : ¬ (0 ≤ nth (blkAt bs k) i ∧ nth (blkAt bs k) i < (lenTo bs bs.length : Int))) : fromUnit bs = ([], false) := by
  unfold fromUnit
  rw [if_neg]
  rintro ⟨h1, _⟩
  unfold okBl at h1
  rw [Bool.and_eq_true, out_pre, length_flatTo] at h1
  refine h (h1.2.2.2 _ ((flat_part bs hk (i + 1)).subset ?_))
  rw [take_succ_nth hi]
  simp
theorem from_twice {bs : List (List Int)} {k i : Nat} (hk : k < bs.length) (hi : i < (blkAt bs k).length) (h : nth (blkAt bs k) i ∈ flatTo bs k ++ (blkAt bs k).take i) : fromUnit bs = ([], false) := by
  unfold fromUnit
  rw [if_neg]
  rintro ⟨h1, _⟩
  unfold okBl at h1
  rw [Bool.and_eq_true, out_pre] at h1
  have h2 := (flat_part bs hk (i + 1)).sublist.nodup h1.2.2.1
  rw [take_succ_nth hi, ← List.append_assoc, List.nodup_append] at h2
  exact h2.2.2 _ h _ (List.mem_singleton_self _) rfl
theorem from_other {bs : List (List Int)} (h : ¬ unitBlocksOf (placeBl bs) = (bs, true)) : fromUnit bs = ([], false) := by
  unfold fromUnit
  rw [if_neg]
  rintro ⟨_, h1⟩
  exact h h1
theorem from_yes {bs : List (List Int)} (h0 : nonTo bs bs.length = true) (h8 : lenTo bs bs.length ≤ 8) (hp : preB (lenTo bs bs.length) (flatTo bs bs.length)) (h : unitBlocksOf (placeBl bs) = (bs, true)) : fromUnit bs = (placeBl bs, true) := by
  unfold fromUnit
  rw [if_pos]
  refine ⟨?_, h⟩
  unfold okBl
  rw [h0, Bool.true_and, out_pre, length_flatTo]
  exact ⟨h8, hp⟩
theorem blks_same {bs ls : List (List Int)} (hl : ls.length = bs.length) (h : ∀ j, j < bs.length → blkAt bs j = blkAt ls j) : ls = bs := by
  apply List.ext_getElem hl
  intro i h1 h2
  have := h i h2
  unfold blkAt at this
  simp [List.getD_eq_getElem?_getD, h1, h2] at this
  exact this.symm
end Go.Proofs.Ytakadjhbomggbaa

namespace Go.Proofs.Ytakadjhbomggbaa
open Go.RowKit Go.Maps

/-- A value in the map is told by itself. -/
def rv (v : Value) : Option (DataW Value × List MemPlace) := some (.held v, [])
theorem Try.keyLaw : Keyed Try.prog 3 := int_keyed Try.underlying3
theorem Try.zeroInts (w : World) : (zeroValue 24).run Try.prog w = .ok (.slice none 0 0) w := by kernel_rfl
theorem Try.keyInt (x : Nat) (h : x < 100) : keyOf Try.prog 3 (.int .i64 (x : Int)) = some (.int .i64 (x : Int)) := keyOf_int_mk Try.underlying3 (WalkArith.wf_i64 (by omega))

/-- The map in block b has for the number x, if at all, the value f x. -/
def PM (w : World) (b : Nat) (f : Nat → Option Value) (cnt : Nat) : Prop :=
  ∃ D : DataW Value, w.ownsMap Try.prog 3 rv b cnt D ∧ Maps.size D = cnt ∧ (∀ kl, Maps.has D kl = true → ∃ x : Nat, x < 8 ∧ kl = .int .i64 (x : Int)) ∧ (∀ x : Nat, x < 8 → Maps.has D (.int .i64 (x : Int)) = (f x).isSome) ∧ ∀ x : Nat, x < 8 → D.atKey (.int .i64 (x : Int)) (.held (.slice none 0 0)) = .held ((f x).getD (.slice none 0 0))

theorem keyLit_int (x : Nat) (h : x < 100) : WideAt.IsKeyLit (.int .i64 (x : Int)) := Try.keyLaw.key (Try.keyInt x h)
theorem owns_tight {w : World} {b n : Nat} {D : DataW Value} (h : w.ownsMap Try.prog 3 rv b n D) : w.ownsMap Try.prog 3 rv b (Maps.size D) D := by
  obtain ⟨es, clock, hb, F, _, rfl⟩ := h
  exact ⟨es, clock, hb, F, by simp [Maps.size, length_sorted], rfl⟩
theorem PM.made (w : World) : PM (w.alloc (.map #[] 0)) w.heap.size (fun _ => none) 0 :=
  ⟨.map [], World.ownsMap_made w _ _ _, rfl, fun kl h => by simp [Maps.has] at h, fun x _ => rfl, fun x _ => by simp [DataW.atKey]⟩
theorem PM.lt {w : World} {b cnt : Nat} {f : Nat → Option Value} (h : PM w b f cnt) : b < w.heap.size := by obtain ⟨D, h1, _⟩ := h; exact h1.lt
theorem PM.kept {w w' : World} {b cnt : Nat} {f : Nat → Option Value} {row : Option Nat} (h : PM w b f cnt) (hg : w.grownBy w' row) (hne : some b ≠ row) : PM w' b f cnt := by
  obtain ⟨D, h1, h2⟩ := h
  exact ⟨D, h1.kept hg hne, h2⟩
theorem PM.below {w w' : World} {b cnt B : Nat} {f : Nat → Option Value} (h : PM w b f cnt) (hb : Below B w w') (hlt : b < B) : PM w' b f cnt := by
  obtain ⟨D, ⟨es, clock, hh, r⟩, h2⟩ := h
  exact ⟨D, ⟨es, clock, (hb.block b hlt).trans hh, r⟩, h2⟩
def upd {α : Type} (f : Nat → α) (x : Nat) (v : α) : Nat → α := fun y => if y = x then v else f y
theorem litNe {x y : Nat} (h : x ≠ y) : Lit.int .i64 (x : Int) ≠ Lit.int .i64 (y : Int) := by
  intro e
  injection e with _ e
  omega
theorem PM.congr {w : World} {b cnt cnt' : Nat} {f g : Nat → Option Value} (h : PM w b f cnt) (hc : cnt = cnt') (hf : ∀ x, x < 8 → f x = g x) : PM w b g cnt' := by
  subst hc
  obtain ⟨D, h1, h2, h3, h4, h5⟩ := h
  exact ⟨D, h1, h2, h3, fun x hx => by rw [h4 x hx, hf x hx], fun x hx => by rw [h5 x hx, hf x hx]⟩

/-! ### The parts in the map -/
def valF (G : Nat → List Int) (r : Nat → Rw) (x : Nat) : Option Value := if G x = [] then none else some (r x).v
def keysG (G : Nat → List Int) : List Nat := (List.range 8).filter fun x => !(G x).isEmpty
/-- The map in block b has, for each number x, the row r x with the cars G x, if there are any; rows lie from block B on, apart from each other. -/
def PartsR (w : World) (b B : Nat) (G : Nat → List Int) (r : Nat → Rw) : Prop :=
  PM w b (valF G r) (keysG G).length ∧ b < B ∧ (∀ x, x < 8 → G x ≠ [] → (r x).xs = G x ∧ Own w B (r x).a (r x).xs.length (r x).c (r x).xs) ∧
  ∀ x y, x < 8 → y < 8 → x ≠ y → G x ≠ [] → G y ≠ [] → ∀ p q, (r x).a = some p → (r y).a = some q → p.block ≠ q.block
theorem keysG_le (G : Nat → List Int) : (keysG G).length ≤ 8 := by
  unfold keysG
  exact Nat.le_trans (List.length_filter_le _ _) (by simp)
theorem keysG_upd (G : Nat → List Int) {x : Nat} (hx : x < 8) (ys : List Int) :
    (keysG (upd G x ys)).length + (if G x = [] then 0 else 1) = (keysG G).length + (if ys = [] then 0 else 1) := by
  have key : ∀ l : List Nat, l.Nodup → (l.filter fun y => !(upd G x ys y).isEmpty).length + (if x ∈ l ∧ G x ≠ [] then 1 else 0) = (l.filter fun y => !(G y).isEmpty).length + (if x ∈ l ∧ ys ≠ [] then 1 else 0) := by
    intro l
    induction l with
    | nil => intro _; simp
    | cons z l ih =>
      intro hn
      obtain ⟨hz, hn⟩ := List.nodup_cons.1 hn
      have ih := ih hn
      by_cases e : z = x
      · subst e
        have e1 : (l.filter fun y => !(upd G z ys y).isEmpty) = l.filter fun y => !(G y).isEmpty := List.filter_congr fun y hy => by
          have : y ≠ z := fun e => hz (e ▸ hy)
          simp [upd, this]
        rw [List.filter_cons, List.filter_cons, e1]
        by_cases g1 : G z = [] <;> by_cases g2 : ys = [] <;> simp [upd, g1, g2]
      · have e1 : upd G x ys z = G z := by simp [upd, e]
        have e2 : (x ∈ z :: l) ↔ x ∈ l := by simp [Ne.symm e]
        rw [List.filter_cons, List.filter_cons, e1]
        simp only [e2]
        split
        · simp only [List.length_cons]
          omega
        · omega
  have := key (List.range 8) List.nodup_range
  have hm : x ∈ List.range 8 := by simpa using hx
  unfold keysG
  by_cases g1 : G x = [] <;> by_cases g2 : ys = [] <;> simp [hm, g1, g2] at this ⊢ <;> omega
theorem parts_made (w : World) : PartsR (w.alloc (.map #[] 0)) w.heap.size (w.heap.size + 1) (fun _ => []) (fun _ => Rw.none') :=
  ⟨(PM.made w).congr rfl (fun x _ => by simp [valF]), by omega, fun x _ h => absurd rfl h, fun x y _ _ _ h => absurd rfl h⟩
theorem PartsR.below {w w' : World} {b B K : Nat} {G : Nat → List Int} {r : Nat → Rw} (h : PartsR w b B G r) (hb : Below K w w') (hK : w.heap.size ≤ K) : PartsR w' b B G r := by
  obtain ⟨h1, h2, h3, h4⟩ := h
  exact ⟨h1.below hb (Nat.lt_of_lt_of_le h1.lt hK), h2, fun x hx hg => ⟨(h3 x hx hg).1, (h3 x hx hg).2.below hb hK⟩, h4⟩
/-- .. where what lies before K stays, and the map and its rows lie there. -/
theorem PartsR.belowB {w w' : World} {b B K : Nat} {G : Nat → List Int} {r : Nat → Rw} (h : PartsR w b B G r) (hb : Below K w w') (hbK : b < K) (hr : ∀ x, x < 8 → G x ≠ [] → BlkLt (r x).a K) : PartsR w' b B G r := by
  obtain ⟨h1, h2, h3, h4⟩ := h
  exact ⟨h1.below hb hbK, h2, fun x hx hg => ⟨(h3 x hx hg).1, (h3 x hx hg).2.belowB hb (hr x hx hg)⟩, h4⟩
theorem turned_own {w w' : World} {b B n cap : Nat} {a : Option Addr} {xs : List Int} (h : Own w B a n cap xs) (ht : w.grownBy w' (some b)) (hb : b < B) : Own w' B a n cap xs := h.kept ht (.inl hb)
theorem turned_rows {w w' : World} {b B n cap : Nat} {a : Option Addr} {rs : List Rw} (h : OwnR w B a n cap rs) (ht : w.grownBy w' (some b)) (hb : b < B) : OwnR w' B a n cap rs := by
  refine ⟨h.1.kept ht ?_, h.2.1, h.2.2.1, fun i hi => (h.2.2.2.1 i hi).kept ht (.inl hb), h.2.2.2.2⟩
  cases a with
  | none => left; rfl
  | some p =>
    right
    have := (h.1.lt p.block rfl).1
    simp [Value.ownBlock]
    omega

/-! ### At the operations -/
section
variable (w : World) {ops : Array Oper} {rest : List Oper} {o : Oper} {a : Act} {Q : Exit → Act → World → Prop}
/-- 'append(out, y)' of one number, with where the new slice lies. -/
theorem wpList_append_int_at (hgd : o.guard = none) (s x : Operand)
    (ho : o.op = .call { callee := .builtin .append, args := #[s, x], argTypes := #[24, 24] })
    (B : Nat) (a0 : Option Addr) (n cap : Nat) (xs : List Int) (y : Int) (hs : a.eval s = .slice a0 n cap) (hx : a.eval x = .slice (some ⟨w.heap.size, 0, none⟩) 1 1)
    (hown : Own w B a0 n cap xs) (hl : n + 1 ≤ 2097152) (hB : B ≤ w.heap.size)
    (h : ∀ a' cap' w', Own w' B a' (n + 1) cap' (xs ++ [y]) → w.grownBy w' (Value.ownBlock (.slice a0 n cap)) → (Value.ownBlock (.slice a' (n + 1) cap') = Value.ownBlock (.slice a0 n cap) ∨ ∃ g, Value.ownBlock (.slice a' (n + 1) cap') = some g ∧ w.heap.size ≤ g) →
      wpList Try.prog ops Q rest (a.put o.dst (.slice a' (n + 1) cap')) w') :
    wpList Try.prog ops Q (o :: rest) a (w.alloc (.cells #[.int .i64 y] 3)) := by
  obtain ⟨i0, hi, hz0, hz1, hz2⟩ := info_parts Try.infoInt
  have hlen := hown.len
  refine wpList_append_own_at (P := Try.prog) _ hgd s x 24 ho B 3 i0 (.int .i64 0) 1 8 Try.underlying24 hi hz0 hz1 hz2 rfl (by decide) _ n (xs.map (Value.int .i64)) hs (hown.1.alloc _) ⟨w.heap.size, 0, none⟩ 1 1 [.int .i64 y] hx rfl (cell_one_new _ _ _) (by intro u hu; simp at hu; subst hu; rfl) (by unfold maxLen; omega) (by omega) (by simp; omega) ?_
  intro v' w' hown' hgrow _ hloc
  obtain ⟨a', cap', rfl, ho'⟩ := own_of_row (xs := xs ++ [y]) hown' (by simp [hlen]) (by simp) (by simp; omega)
  exact h _ _ _ ho' ((World.grownBy_alloc _ _ _).trans hgrow) (hloc.imp id (fun h => ⟨_, h, by simp⟩))
end
end Go.Proofs.Ytakadjhbomggbaa

namespace Go.Proofs.Ytakadjhbomggbaa
open Go.RowKit

set_option maxHeartbeats 400000 in
theorem cBelow_any (a : Option Addr) (n cap : Nat) (xs : List Int) (p : Int) (w : World) (h : Has w a n cap xs) :
    Calls Try.prog 63 #[.slice a n cap, .int .i64 p] w fun e w' => e = .returned (.int .i64 (below xs p)) ∧ w = w' := by
  obtain ⟨h0, h1, h2, h3, h4⟩ := h
  go_enter Try.func63, Try.ntmps63
  go_wp2_with fail
  go_loop [5, 10] (fun c i => ∃ k : Nat, k ≤ n ∧ i = .int .i64 k ∧ c = .int .i64 (below (xs.take k) p)) (fun _ i => n - (intOf i).toNat)
  case atStart => exact ⟨0, Nat.zero_le _, rfl, rfl⟩
  case round =>
    obtain ⟨k, hk, rfl, rfl⟩ := hrel
    by_cases hlt : k < n
    · obtain ⟨b, off, rfl, hb, hc⟩ := h4 (by omega)
      have hck := hc k hlt
      clear hc h4
      have hle := below_le (xs.take k) p
      have hsn := below_succ (k := k) (xs := xs) (by omega) p
      simp only [List.length_take] at hle
      have HS := hid hsn
      clear hsn
      have hle2 : below (xs.take k) p ≤ n := by omega
      clear hle
      by_cases hp : nth xs k < p
      · go_wp2_with fail
        go_round
        case rel => exact ⟨k + 1, by omega, by go_num, by rw [HS.out, if_pos hp]; go_num⟩
        case measure => simp [intOf]; omega
      · go_wp2_with fail
        go_round
        case rel => exact ⟨k + 1, by omega, by go_num, by rw [HS.out, if_neg (by omega)]; go_num⟩
        case measure => simp [intOf]; omega
    · obtain rfl : k = n := by omega
      go_wp2_with fail
      go_ret
      exact ⟨ret_int (by rw [List.take_of_length_le (by omega)]), rfl⟩

end Go.Proofs.Ytakadjhbomggbaa

namespace Go.Proofs.Ytakadjhbomggbaa
open Go.RowKit Go.Maps

theorem grp_step {xs cs : List Int} {k c : Nat} (hk : k < cs.length) (hc : nth cs k = (c : Int)) (x : Nat) : grp xs (cs.take (k + 1)) x = upd (fun x => grp xs (cs.take k) x) (begC xs c) (grp xs (cs.take k) (begC xs c) ++ [(c : Int)]) x := by
  rw [take_succ_nth hk, hc, grp_snoc]
  unfold upd
  by_cases e : begC xs (c : Int) = x
  · rw [if_pos e, if_pos e.symm, e]
  · rw [if_neg e, if_neg (fun h => e h.symm)]
end Go.Proofs.Ytakadjhbomggbaa

namespace Go.Proofs.Ytakadjhbomggbaa
open Go.RowKit Go.Maps

/-- The least of the keys that have come, or 8. -/
def FirstK (D : DataW Value) (left : Lit → Bool) (f : Int) : Prop :=
  (0 ≤ f ∧ f ≤ 8) ∧ (f = 8 ∨ ∃ x : Nat, x < 8 ∧ f = (x : Int) ∧ Maps.has D (.int .i64 (x : Int)) = true ∧ left (.int .i64 (x : Int)) = false) ∧ ∀ x : Nat, x < 8 → Maps.has D (.int .i64 (x : Int)) = true → left (.int .i64 (x : Int)) = false → f ≤ (x : Int)
theorem FirstK.step {D : DataW Value} {left : Lit → Bool} {f : Int} (h : FirstK D left f) {x : Nat} (hx : x < 8) (hh : Maps.has D (.int .i64 (x : Int)) = true) : FirstK D (fun z => left z && !z.sameKey (.int .i64 (x : Int))) (min f (x : Int)) := by
  obtain ⟨h0, h1, h2⟩ := h
  have hs : (Lit.int .i64 (x : Int)).sameKey (.int .i64 (x : Int)) = true := WideAt.sameKey_self (keyLit_int x (by omega))
  refine ⟨by omega, ?_, fun z hz hhz hl => ?_⟩
  · rcases Int.le_total f (x : Int) with hle | hle
    · rw [Int.min_eq_left hle]
      rcases h1 with rfl | ⟨y, y1, y2, y3, y4⟩
      · exact .inl rfl
      · exact .inr ⟨y, y1, y2, y3, by simp [y4]⟩
    · rw [Int.min_eq_right hle]
      exact .inr ⟨x, hx, rfl, hh, by simp [hs]⟩
  · by_cases e : left (.int .i64 (z : Int)) = false
    · have := h2 z hz hhz e
      omega
    · rw [Bool.not_eq_false] at e
      simp only [e, Bool.true_and, Bool.not_eq_false'] at hl
      by_cases ez : z = x
      · subst ez; omega
      · rw [sameKey_ne (litNe ez)] at hl
        cases hl
theorem FirstK.done {D : DataW Value} {left : Lit → Bool} {f : Int} (h : FirstK D left f) (hl : ∀ kl, left kl = false) {m : Nat} (hm : m < 8) (hh : Maps.has D (.int .i64 (m : Int)) = true) (hmin : ∀ x, x < m → Maps.has D (.int .i64 (x : Int)) = false) : f = (m : Int) := by
  obtain ⟨h0, h1, h2⟩ := h
  have h3 := h2 m hm hh (hl _)
  rcases h1 with rfl | ⟨y, y1, y2, y3, y4⟩
  · omega
  · rcases Nat.lt_or_ge y m with hlt | hge
    · rw [hmin y hlt] at y3; cases y3
    · omega
theorem isSome_valF (G : Nat → List Int) (r : Nat → Rw) (x : Nat) : (valF G r x).isSome = !(G x).isEmpty := by
  unfold valF
  by_cases e : G x = []
  · simp [e]
  · rw [if_neg e]; simp [e]
theorem PartsR.taken {w w' : World} {b B : Nat} {G : Nat → List Int} {r : Nat → Rw} (h : PartsR w b B G r) {m : Nat} (hm : m < 8) (hG : G m ≠ []) {cnt : Nat} (hp : PM w' b (upd (valF G r) m none) cnt) (hc : cnt = (keysG G).length - 1) (ht : w.grownBy w' (some b)) : PartsR w' b B (upd G m []) r := by
  obtain ⟨h1, h2, h3, h4⟩ := h
  have hu : ∀ x, upd G m [] x ≠ [] → x ≠ m ∧ G x ≠ [] := fun x hx => by
    by_cases e : x = m
    · simp [upd, e] at hx
    · simp only [upd, if_neg e] at hx
      exact ⟨e, hx⟩
  refine ⟨hp.congr ?_ (fun x hx => ?_), h2, fun x hx hg => ?_, fun x y hx hy hxy hgx hgy => h4 x y hx hy hxy (hu x hgx).2 (hu y hgy).2⟩
  · have := keysG_upd G hm []
    rw [if_neg hG, if_pos rfl] at this
    omega
  · by_cases e : x = m
    · subst e; simp [upd, valF]
    · simp [upd, valF, e]
  · obtain ⟨e1, e2⟩ := hu x hg
    have := h3 x hx e2
    rw [show upd G m [] x = G x by simp [upd, e1]]
    exact ⟨this.1, turned_own this.2 ht h2⟩

end Go.Proofs.Ytakadjhbomggbaa

namespace Go.Proofs.Ytakadjhbomggbaa
open Go.RowKit Go.Maps

theorem keysG_mem {G : Nat → List Int} {x : Nat} : x ∈ keysG G ↔ x < 8 ∧ G x ≠ [] := by simp [keysG]
theorem keysG_sorted (G : Nat → List Int) : (keysG G).Pairwise (· < ·) := List.Pairwise.filter _ List.pairwise_lt_range
/-- What is left when the first k are taken. -/
def leftG (G : Nat → List Int) (k : Nat) : Nat → List Int := fun x => if x ∈ (keysG G).take k then [] else G x
theorem leftG_zero (G : Nat → List Int) : leftG G 0 = G := by funext x; simp [leftG]
theorem leftG_keys (G : Nat → List Int) (k : Nat) : keysG (leftG G k) = (keysG G).drop k := by
  have h1 : keysG (leftG G k) = (keysG G).filter fun x => decide (x ∉ (keysG G).take k) := by
    unfold keysG
    rw [List.filter_filter]
    refine List.filter_congr fun x _ => ?_
    unfold leftG keysG
    by_cases e : x ∈ ((List.range 8).filter fun x => !(G x).isEmpty).take k
    · simp [e]
    · simp [e]
  rw [h1]
  have hs := keysG_sorted G
  conv => lhs; arg 2; rw [← List.take_append_drop k (keysG G)]
  rw [List.filter_append]
  have e1 : ((keysG G).take k).filter (fun x => decide (x ∉ (keysG G).take k)) = [] := by
    rw [List.filter_eq_nil_iff]
    intro x hx
    simp [hx]
  have e2 : ((keysG G).drop k).filter (fun x => decide (x ∉ (keysG G).take k)) = (keysG G).drop k := by
    rw [List.filter_eq_self]
    intro x hx
    simp only [decide_eq_true_eq]
    intro hx2
    rw [← List.take_append_drop k (keysG G), List.pairwise_append] at hs
    have := hs.2.2 x hx2 x hx
    omega
  rw [e1, e2]
  rfl
theorem partRows_keys (xs cs : List Int) : (keysG (fun x => grp xs cs x)).map (fun x => grp xs cs x) = partRows xs cs := by
  unfold keysG partRows
  rw [List.filter_map]
  rfl
def keyAt (G : Nat → List Int) (k : Nat) : Nat := (keysG G).getD k 0
theorem keyAt_mem {G : Nat → List Int} {k : Nat} (h : k < (keysG G).length) : keyAt G k ∈ keysG G := by simp [keyAt, h]
theorem drop_keyAt {G : Nat → List Int} {k : Nat} (h : k < (keysG G).length) : (keysG G).drop k = keyAt G k :: (keysG G).drop (k + 1) := by
  rw [List.drop_eq_getElem_cons h]; simp [keyAt, h]
theorem leftG_least {G : Nat → List Int} {k : Nat} (h : k < (keysG G).length) : keyAt G k < 8 ∧ leftG G k (keyAt G k) ≠ [] ∧ ∀ x, x < keyAt G k → leftG G k x = [] := by
  have hk := leftG_keys G k
  rw [drop_keyAt h] at hk
  have hs := keysG_sorted (leftG G k)
  have hm : keyAt G k ∈ keysG (leftG G k) := by rw [hk]; exact List.mem_cons_self ..
  obtain ⟨h1, h2⟩ := keysG_mem.1 hm
  refine ⟨h1, h2, fun x hx => Classical.byContradiction fun hne => ?_⟩
  have hx' : x ∈ keysG (leftG G k) := keysG_mem.2 ⟨by omega, hne⟩
  rw [hk] at hs hx'
  rcases List.mem_cons.1 hx' with rfl | hx'
  · omega
  · have := (List.pairwise_cons.1 hs).1 x hx'
    omega
theorem take_keyAt {G : Nat → List Int} {k : Nat} (h : k < (keysG G).length) : (keysG G).take (k + 1) = (keysG G).take k ++ [keyAt G k] := by
  rw [List.take_succ_eq_append_getElem h]; simp [keyAt, h]
theorem leftG_succ {G : Nat → List Int} {k : Nat} (h : k < (keysG G).length) : upd (leftG G k) (keyAt G k) [] = leftG G (k + 1) := by
  funext x
  unfold leftG upd
  rw [take_keyAt h]
  simp only [List.mem_append, List.mem_singleton]
  by_cases e : x = keyAt G k
  · simp [e]
  · by_cases e2 : x ∈ (keysG G).take k <;> simp [e, e2]
theorem keyAt_ne {G : Nat → List Int} {i k : Nat} (hik : i < k) (h : k < (keysG G).length) : keyAt G i ≠ keyAt G k := by
  have := List.pairwise_iff_getElem.1 (keysG_sorted G) i k (by omega) h hik
  simp only [keyAt, List.getD_eq_getElem?_getD, List.getElem?_eq_getElem h, List.getElem?_eq_getElem (show i < (keysG G).length by omega), Option.getD_some]
  omega
/-- The rows in order. -/
def rowsG (G : Nat → List Int) (r : Nat → Rw) (k : Nat) : List Rw := ((keysG G).take k).map r
theorem length_rowsG {G : Nat → List Int} {r : Nat → Rw} {k : Nat} (h : k ≤ (keysG G).length) : (rowsG G r k).length = k := by simp [rowsG]; omega
theorem rowsG_succ {G : Nat → List Int} {r : Nat → Rw} {k : Nat} (h : k < (keysG G).length) : rowsG G r (k + 1) = rowsG G r k ++ [r (keyAt G k)] := by simp [rowsG, take_keyAt h]
theorem rowsG_at {G : Nat → List Int} {r : Nat → Rw} {i k : Nat} (hi : i < k) (h : k ≤ (keysG G).length) : nthR (rowsG G r k) i = r (keyAt G i) := by
  have h1 : i < (keysG G).length := by omega
  simp [nthR, rowsG, keyAt, hi, h1]
theorem rowsG_aside {G : Nat → List Int} {r : Nat → Rw} {k : Nat} (h : k < (keysG G).length) (hap : ∀ x y, x < 8 → y < 8 → x ≠ y → G x ≠ [] → G y ≠ [] → ∀ p q, (r x).a = some p → (r y).a = some q → p.block ≠ q.block) : Aside (rowsG G r k) (r (keyAt G k)).a := by
  intro i hi p q hp hq
  rw [length_rowsG (by omega)] at hi
  rw [rowsG_at hi (by omega)] at hp
  obtain ⟨a1, a2⟩ := keysG_mem.1 (keyAt_mem (G := G) (k := i) (by omega))
  obtain ⟨b1, b2⟩ := keysG_mem.1 (keyAt_mem h)
  exact hap _ _ a1 b1 (keyAt_ne hi h) a2 b2 p q hp hq
theorem nums_rowsG {G : Nat → List Int} {r : Nat → Rw} (hr : ∀ x, x < 8 → G x ≠ [] → (r x).xs = G x) : numsOf (rowsG G r (keysG G).length) = (keysG G).map G := by
  unfold numsOf rowsG
  rw [List.take_length, List.map_map]
  refine List.map_congr_left fun x hx => ?_
  obtain ⟨h1, h2⟩ := keysG_mem.1 hx
  exact hr x h1 h2

/-- Rows from B on; what lies before b stays. -/
def PostParts (B b : Nat) (w : World) (ls : List (List Int)) (e : Ending) (w' : World) : Prop := ∃ a q cap rs, e = .returned (.slice a q cap) ∧ OwnR w' B a q cap rs ∧ numsOf rs = ls ∧ Below b w w'
end Go.Proofs.Ytakadjhbomggbaa

namespace Go.Proofs.Ytakadjhbomggbaa
open Go.RowKit

theorem chs_70 : ∀ n, n < 9 → ∀ i, i < 9 → chs n i ≤ 70 := by decide +kernel
/-- The table of those that have chosen: k kinds are done, of the next one M. -/
def Next (c : Nat → Bool) (v : Nat → Nat) (L k M : Nat) (zs : List Int) : Prop :=
  ∀ s, s ≤ L → nth zs s = if c s = true then ((chs L s * (sumTo (fun j => chs s j * v j) k + if k ≤ s ∧ s < k + M then chs s k * v k else 0) : Nat) : Int) else 0
/-- A table. -/
def Tab (v : Nat → Nat) (L : Nat) (ys : List Int) : Prop := ∀ s, s ≤ L → nth ys s = ((chs L s * v s : Nat) : Int)
theorem nth_replicate0 (n i : Nat) : nth (List.replicate n 0) i = 0 := by
  simp only [nth, List.getD_eq_getElem?_getD, List.getElem?_replicate]
  split <;> rfl
theorem next_zero (c : Nat → Bool) (v : Nat → Nat) (L : Nat) : Next c v L 0 0 (List.replicate (L + 1) 0) := fun s _ => by
  rw [nth_replicate0]
  simp [sumTo]
theorem next_skip {c : Nat → Bool} {v : Nat → Nat} {L k M : Nat} {zs : List Int} (h : Next c v L k M zs) (hc : c (k + M) = false) : Next c v L k (M + 1) zs := fun s hs => by
  rw [h s hs]
  by_cases e : s = k + M
  · subst e; simp [hc]
  · have : (k ≤ s ∧ s < k + M) = (k ≤ s ∧ s < k + (M + 1)) := by apply propext; omega
    simp only [this]
theorem next_store {c : Nat → Bool} {v : Nat → Nat} {L k M : Nat} {ys zs : List Int} (h : Next c v L k M zs) (hy : Tab v L ys) (hl : zs.length = L + 1) (h8 : L ≤ 8) (hkM : k + M ≤ L) (hc : c (k + M) = true) :
    Next c v L k (M + 1) (zs.set (k + M) (nth zs (k + M) + nth ys k * (chs (L - k) M : Int))) := fun s hs => by
  rw [nth_set (by omega)]
  by_cases e : k + M = s
  · rw [if_pos e, h _ hkM, hy k (by omega), if_pos hc, if_neg (by omega), if_pos (by rw [← e]; exact hc), if_pos (by omega)]
    subst e
    have := chs_chs L (by omega) (k + M) (by omega) k (by omega) (by omega) (by omega)
    rw [show k + M - k = M by omega] at this
    rw [Nat.add_zero, Nat.mul_add, ← Nat.mul_assoc (chs L (k + M)) (chs (k + M) k), ← this]
    simp only [Int.natCast_mul, Int.natCast_add]
    rw [Int.mul_right_comm]
  · rw [if_neg e, h s hs]
    have : (k ≤ s ∧ s < k + M) = (k ≤ s ∧ s < k + (M + 1)) := by apply propext; omega
    simp only [this]
theorem next_done {c : Nat → Bool} {v : Nat → Nat} {L k M : Nat} {zs : List Int} (h : Next c v L k M zs) (hM : L < k + M) : Next c v L (k + 1) 0 zs := fun s hs => by
  rw [h s hs, if_neg (by omega : ¬ (k + 1 ≤ s ∧ s < k + 1 + 0)), Nat.add_zero, sumTo]
  by_cases e : k ≤ s
  · rw [if_pos (show k ≤ s ∧ s < k + M from ⟨e, by omega⟩)]
  · rw [if_neg (show ¬ (k ≤ s ∧ s < k + M) by omega), chs_big s k (by omega), Nat.zero_mul]
theorem sum_past {v : Nat → Nat} {s : Nat} : ∀ L, s ≤ L → sumTo (fun j => chs s j * v j) (L + 1) = sumTo (fun j => chs s j * v j) (s + 1)
  | L, h => by
    obtain ⟨d, rfl⟩ : ∃ d, L = s + d := ⟨L - s, by omega⟩
    induction d with
    | zero => rfl
    | succ d ih =>
      rw [show s + (d + 1) + 1 = (s + d + 1) + 1 from rfl, sumTo, ih (by omega), chs_big s (s + d + 1) (by omega), Nat.zero_mul, Nat.add_zero]
theorem next_final {c : Nat → Bool} {v : Nat → Nat} {L : Nat} {zs : List Int} (h : Next c v L (L + 1) 0 zs) : Tab (fun s => if c s = true then sumTo (fun j => chs s j * v j) (s + 1) else 0) L zs := fun s hs => by
  rw [h s hs, if_neg (by omega : ¬ (L + 1 ≤ s ∧ s < L + 1 + 0)), Nat.add_zero, sum_past L hs]
  split <;> simp [*]
theorem tab_le {v : Nat → Nat} {L : Nat} {ys : List Int} (h : Tab v L ys) (h8 : L ≤ 8) (hv : ∀ s, s ≤ 8 → v s ≤ 16777216) {s : Nat} (hs : s ≤ L) : 0 ≤ nth ys s ∧ nth ys s ≤ 1174405120 := by
  rw [h s hs]
  have := Nat.mul_le_mul (chs_70 L (by omega) s (by omega)) (hv s (by omega))
  omega
theorem next_le {c : Nat → Bool} {v : Nat → Nat} {L k M : Nat} {zs : List Int} (h : Next c v L k M zs) (h8 : L ≤ 8) (hk : k ≤ L) (hv : ∀ s, s ≤ 8 → v s ≤ 16777216) {s : Nat} (hs : s ≤ L) : 0 ≤ nth zs s ∧ nth zs s ≤ 1000000000000 := by
  rw [h s hs]
  split
  · have h1 : sumTo (fun j => chs s j * v j) k ≤ sumTo (fun _ => 1174405120) k := sumTo_le fun i hi => by
      have := Nat.mul_le_mul (chs_70 s (by omega) i (by omega)) (hv i (by omega))
      omega
    have h2 : ∀ k, sumTo (fun _ => 1174405120) k = k * 1174405120 := by
      intro k
      induction k with
      | zero => rfl
      | succ k ih => simp only [sumTo]; rw [ih]; omega
    rw [h2] at h1
    have h3 : k * 1174405120 ≤ 8 * 1174405120 := Nat.mul_le_mul_right _ (by omega)
    have h4 : (if k ≤ s ∧ s < k + M then chs s k * v k else 0) ≤ 1174405120 := by
      split
      · have := Nat.mul_le_mul (chs_70 s (by omega) k (by omega)) (hv k (by omega))
        omega
      · omega
    have := Nat.mul_le_mul (chs_70 L (by omega) s (by omega)) (Nat.add_le_add (Nat.le_trans h1 h3) h4)
    omega
  · omega
theorem prod_le {v : Nat → Nat} {L : Nat} {ys : List Int} (h : Tab v L ys) (h8 : L ≤ 8) (hv : ∀ s, s ≤ 8 → v s ≤ 16777216) {s : Nat} (hs : s ≤ L) {n k : Nat} (hn : n ≤ 8) (hk : k ≤ 8) :
    0 ≤ nth ys s * (chs n k : Int) ∧ nth ys s * (chs n k : Int) ≤ 1000000000000 := by
  rw [h s hs]
  have := Nat.mul_le_mul (Nat.mul_le_mul (chs_70 L (by omega) s (by omega)) (hv s (by omega))) (chs_70 n (by omega) k (by omega))
  rw [← Int.natCast_mul]
  omega
theorem V_le8 (b : Nat → Nat) {P : Nat} (hP : P ≤ 8) : ∀ s, s ≤ 8 → V b P s ≤ 16777216 := fun s hs => by
  refine Nat.le_trans (V_le b P (by omega) s (by omega)) ?_
  have : ∀ P, P < 9 → ∀ s, s < 9 → P ^ s ≤ 16777216 := by decide +kernel
  exact this P (by omega) s (by omega)
theorem tab_step {b : Nat → Nat} {P L : Nat} {zs : List Int} (h : Next (fun s => decide (P < b P + s)) (V b P) L (L + 1) 0 zs) : Tab (V b (P + 1)) L zs := fun s hs => by
  rw [next_final h s hs]
  simp only [V, decide_eq_true_eq]
/-- A first table. -/
theorem tab_first (b : Nat → Nat) (L : Nat) : Tab (V b 0) L ((List.replicate (L + 1) 0).set 0 1) := fun s _ => by
  rw [nth_set (by simp)]
  by_cases e : s = 0
  · subst e; simp [V, chs_zero]
  · rw [if_neg (by omega), nth_replicate0]
    simp [V, e]
theorem below_upto {xs : List Int} {n : Nat} (h0 : ∀ i, i < n → 0 ≤ nth xs i) (hn : xs.length = n) : below xs 0 = 0 := by
  unfold below
  rw [List.countP_eq_zero]
  intro x hx
  obtain ⟨i, hi, rfl⟩ := mem_nth hx
  have := h0 i (by omega)
  simp
  omega
theorem pow_small : ∀ b, b < 14 → ∀ k, k < 9 → b ^ k ≤ 815730721 := by decide +kernel
end Go.Proofs.Ytakadjhbomggbaa

namespace Go.Proofs.Ytakadjhbomggbaa
open Go.RowKit

theorem street_small : ∀ c, c < 9 → ∀ p, p < 13 → 1 ≤ c → c ≤ p → (p + 1 - c) * (p + 1) ^ (c - 1) ≤ 815730721 := by decide +kernel

theorem chs_times : ∀ n, n < 17 → ∀ i, i < n → chs n i * (n - i) ≤ 205920 := by decide +kernel

end Go.Proofs.Ytakadjhbomggbaa

namespace Go.Proofs.Ytakadjhbomggbaa
open Go.RowKit

def greatOf (xs : List Int) (p : Int) : Int × Bool := if good xs p && allPark p xs then (greatL (dists p xs), true) else (0, false)
theorem great_bounds {ys : List Int} (h : ∀ i, i < ys.length → 0 ≤ nth ys i ∧ nth ys i ≤ 12) : ∀ k, k ≤ ys.length → 0 ≤ greatL (ys.take k) ∧ greatL (ys.take k) ≤ 12
  | 0, _ => by simp [greatL]
  | k + 1, hk => by
    have := great_bounds h k (by omega)
    have := h k (by omega)
    rw [great_succ (by omega)]
    omega
end Go.Proofs.Ytakadjhbomggbaa

namespace Go.Proofs.Ytakadjhbomggbaa
open Go.RowKit

/-! ### Unit ones -/
/-! ### Unit ones -/
theorem dists12 {xs : List Int} (h : isPark xs = true) : distsOf xs 12 = (dists 12 xs, true) := by
  obtain ⟨g1, g2, _⟩ := park_good h
  simp [distsOf, g1, g2]
end Go.Proofs.Ytakadjhbomggbaa

namespace Go.Proofs.Ytakadjhbomggbaa
open Go.RowKit

theorem fold_order {p : Int} {xs ys : List Int} (h : xs.Perm ys) : ∀ out : List Int, (∀ x ∈ xs, 0 ≤ x ∧ x ≤ p) →
    (xs.foldl (fun out x => out ++ [place p out x]) out).Perm (ys.foldl (fun out x => out ++ [place p out x]) out) := by
  induction h with
  | nil => exact fun _ _ => List.Perm.refl _
  | cons x _ ih => exact fun out hb => ih _ fun z hz => hb z (List.mem_cons_of_mem _ hz)
  | swap x y l =>
    intro out hb
    simp only [List.foldl_cons]
    exact fold_perm2 l _ _ (fun z hz => (hb z (by simp [hz])).2) (two_perm (hb y (by simp)) (hb x (by simp)))
  | trans h1 _ ih1 ih2 => exact fun out hb => (ih1 out hb).trans (ih2 out fun z hz => hb z (h1.symm.subset hz))
theorem drive_order {p : Int} {xs ys : List Int} (h : xs.Perm ys) (hb : ∀ x ∈ xs, 0 ≤ x ∧ x ≤ p) : (drive p xs).Perm (drive p ys) := fold_order h [] hb
theorem allPark_order {p : Int} {xs ys : List Int} (h : xs.Perm ys) (hb : ∀ x ∈ xs, 0 ≤ x ∧ x ≤ p) : allPark p xs = allPark p ys := by
  rw [Bool.eq_iff_iff, allPark_iff, allPark_iff, (drive_order h hb).mem_iff]
theorem good_order {p : Int} {xs ys : List Int} (h : xs.Perm ys) : good xs p = good ys p := by
  rw [Bool.eq_iff_iff, good_iff, good_iff, h.length_eq]
  simp only [h.mem_iff]
def reordL (xs os : List Int) : List Int := os.map fun c => nth xs c.toNat
theorem length_reord (xs os : List Int) : (reordL xs os).length = os.length := by simp [reordL]
theorem nth_reord {xs os : List Int} {k : Nat} (h : k < os.length) : nth (reordL xs os) k = nth xs (nth os k).toNat := by simp [reordL, nth, h]
theorem reord_succ {xs os : List Int} {k : Nat} (h : k < os.length) : (reordL xs os).take (k + 1) = (reordL xs os).take k ++ [nth xs (nth os k).toNat] := by
  rw [take_succ_nth (by rw [length_reord]; exact h), nth_reord h]
theorem self_upto9 (xs : List Int) : (upto xs.length).map (fun c => nth xs c.toNat) = xs := (ext_nth (by simp [length_upto]) fun i hi => by
  simp [nth, upto, hi]).symm
theorem reord_perm {xs os : List Int} (h : os.Perm (upto xs.length)) : (reordL xs os).Perm xs := by
  have := h.map fun c => nth xs c.toNat
  rw [self_upto9] at this
  exact this
theorem good_le {xs : List Int} {p : Int} (h : good xs p = true) : ∀ x ∈ xs, 0 ≤ x ∧ x ≤ p := fun x hx => by have := (good_iff.1 h).2.2 x hx; omega
theorem good12 {xs : List Int} {p : Int} {n : Nat} (h : good xs p = true) (hl : xs.length = n) : n ≤ 8 ∧ ∀ c, c < n → 0 ≤ nth xs c ∧ nth xs c < ((12 : Nat) : Int) := by
  obtain ⟨h1, h2, h3⟩ := good_iff.1 h
  exact ⟨by omega, fun c hc => by have := h3 _ (nth_mem (xs := xs) (i := c) (by omega)); omega⟩
/-- All park in any order. -/
theorem reord_park {xs os : List Int} {p : Int} (h : (good xs p && allPark p xs) = true) (ho : os.Perm (upto xs.length)) : (good (reordL xs os) p && allPark p (reordL xs os)) = true := by
  obtain ⟨h1, h2⟩ := Bool.and_eq_true_iff.1 h
  rw [Bool.and_eq_true, good_order (reord_perm ho), allPark_order (reord_perm ho) fun x hx => good_le h1 x ((reord_perm ho).subset hx)]
  exact ⟨h1, h2⟩
def fairOf (xs : List Int) (p : Int) : List Int × Bool := if good xs p && allPark p xs then (fairL xs, true) else ([], false)
def leastGr (xs : List Int) (p : Int) : Int × Bool := if good xs p && allPark p xs then (greatL (dists p (reordL xs (fairL xs))), true) else (0, false)
def reorderOf (xs os : List Int) : List Int × Bool := if good xs 12 && decide (os.length = xs.length) && outB os then (reordL xs os, true) else ([], false)
end Go.Proofs.Ytakadjhbomggbaa

namespace Go.Proofs.Ytakadjhbomggbaa
open Go.RowKit

end Go.Proofs.Ytakadjhbomggbaa

namespace Go.Proofs.Ytakadjhbomggbaa
open Go.RowKit

theorem fairTo_nth (xs : List Int) {k j : Nat} (h : j < k) : ∃ c : Nat, c < k ∧ nth (fairTo xs k) j = (c : Int) := by
  have hl : (fairTo xs k).length = k := by rw [(fairTo_perm xs k).length_eq, length_upto]
  exact mem_upto.1 ((fairTo_perm xs k).subset (nth_mem (by omega)))
/-! ### Favourites in another order -/
theorem fair_cars {xs : List Int} {n : Nat} (hl : xs.length = n) (h8 : n ≤ 8) (hb : ∀ c, c < n → 0 ≤ nth xs c ∧ nth xs c < ((12 : Nat) : Int)) {k : Nat} (hk : k < n) : ∃ c : Nat, c < n ∧ nth (fairL xs) k = (c : Int) := by
  obtain ⟨c, h1, h2⟩ := carsP_nth hl (by omega) hb hk
  exact ⟨c, h2, h1⟩
theorem reord_good {xs os : List Int} {p : Int} {n : Nat} (hl : xs.length = n) (h : (good xs p && allPark p xs) = true) (ho : os.Perm (upto n)) : n ≤ 8 ∧ p ≤ 12 ∧ ∀ i, i < n → 0 ≤ nth (reordL xs os) i ∧ nth (reordL xs os) i ≤ p - 1 := by
  subst hl
  obtain ⟨h1, _⟩ := Bool.and_eq_true_iff.1 (reord_park h ho)
  have hle : (reordL xs os).length = xs.length := by rw [length_reord, ho.length_eq, length_upto]
  obtain ⟨g1, g2, g3, g4⟩ := good_nth h1 hle
  exact ⟨g1, g3, g4⟩
end Go.Proofs.Ytakadjhbomggbaa

namespace Go.Proofs.Ytakadjhbomggbaa
open Go.RowKit Go.Sort

/-- A slice of the call's own of cells of one kind. -/
def OwnE (E : TypeId) (w : World) (B : Nat) (a : Option Addr) (n cap : Nat) (us : List Value) : Prop := w.ownsRow B E 1 (.slice a n cap) n us ∧ us.length = n ∧ n ≤ 2097152
theorem OwnE.below {E : TypeId} {w w' : World} {B K : Nat} {a : Option Addr} {n cap : Nat} {us : List Value} (h : OwnE E w B a n cap us) (hb : Go.RowKit.Below K w w') (hB : w.heap.size ≤ K) : OwnE E w' B a n cap us := by
  obtain ⟨⟨h1, h2⟩, h3⟩ := h
  refine ⟨⟨h1, ?_⟩, h3⟩
  rcases h2 with h2 | ⟨g, cap', cur, hv, hg, hh, r⟩
  · exact .inl h2
  · exact .inr ⟨g, cap', cur, hv, hg, by rw [hb.block g (by have := (Array.getElem?_eq_some_iff.1 hh).1; omega)]; exact hh, r⟩
theorem OwnE.cell {E : TypeId} {w : World} {B g n cap : Nat} {us : List Value} (h : OwnE E w B (some ⟨g, 0, none⟩) n cap us) {i : Nat} (hi : i < n) : w.cell? ⟨g, i, none⟩ = us[i]? := h.1.cellAt i (by omega)
theorem OwnE.lt {E : TypeId} {w : World} {B g n cap : Nat} {us : List Value} (h : OwnE E w B (some ⟨g, 0, none⟩) n cap us) : B ≤ g ∧ g < w.heap.size := h.1.lt g rfl

theorem holds_of_cells {α : Type} [Inhabited α] {enc : α → Value} {w : World} {g : Nat} {cur : Array Value} {e : TypeId} {ds : List α} (hb : w.heap[g]? = some (.cells cur e (0, 0))) (ht : cur.toList.take ds.length = ds.map enc) : Go.Sort.Holds enc w g 0 ds.toArray := by
  intro j hj
  have hj' : j < ds.length := by simpa using hj
  refine ⟨?_, by simp [World.frozen?, hb]⟩
  have h1 : (cur.toList.take ds.length)[j]? = (ds.map enc)[j]? := by rw [ht]
  rw [List.getElem?_take_of_lt hj'] at h1
  simp only [World.cell?, hb, Nat.zero_add]
  simp only [Option.isSome_none, Bool.false_eq_true, if_false]
  rw [← Array.getElem?_toList, h1]
  simp [hj']
theorem heap_sortedE {α : Type} [Inhabited α] (enc : α → Value) {w : World} {g n : Nat} {os : Array Obj} {cur : Array Value} {e : TypeId} {fr : Nat × Nat} (d : Array α) (hb : w.heap[g]? = some (.cells cur e fr)) :
    (grow (putRow enc (Sort.ahead w n) g 0 d) os).heap[g]? = some (.cells (putCells enc 0 d cur) e fr) := by
  have hg : g < w.heap.size := (Array.getElem?_eq_some_iff.1 hb).1
  rw [heap_grow_old _ _ (by simpa using hg)]
  simp [putRow, mapBlock, Sort.ahead, Array.getElem?_modify, hb, onCells]
theorem grownBy_sortedE {α : Type} [Inhabited α] (enc : α → Value) {w : World} {g n : Nat} {os : Array Obj} (d : Array α) : w.grownBy (grow (putRow enc (Sort.ahead w n) g 0 d) os) (some g) := by
  refine ⟨rfl, rfl, rfl, by simp, fun k hk hne => ?_⟩
  rw [heap_grow_old _ _ (by simpa using hk)]
  have : g ≠ k := fun e => hne (by rw [e])
  simp [putRow, mapBlock, Sort.ahead, Array.getElem?_modify, this]
theorem take_putCellsE {α : Type} [Inhabited α] (enc : α → Value) (cur : Array Value) (ts : List α) (h : ts.length ≤ cur.size) : (putCells enc 0 ts.toArray cur).toList.take ts.length = ts.map enc := by
  apply List.ext_getElem?
  intro j
  by_cases hj : j < ts.length
  · rw [List.getElem?_take_of_lt hj, Array.getElem?_toList]
    simp [putCells, hj, show j < cur.size by omega]
  · rw [List.getElem?_take_eq_none (by omega), List.getElem?_eq_none (by simp; omega)]
theorem toArr {α : Type} (d : Array α) : d.toList.toArray = d := by simp
/-- A permutation, in order: what a sort leaves. -/
theorem sorted_list {α : Type} [Inhabited α] {lt : α → α → Bool} {ds : List α} {d' : Array α} (hp : PermIn 0 ds.length ds.toArray d') (hs : SortedIn lt 0 ds.length d') : d'.toList.Perm ds ∧ d'.toList.Pairwise (fun x y => lt y x = false) := by
  obtain ⟨h1, _, h3⟩ := hp
  have hsz : d'.size = ds.length := by simpa using h1
  constructor
  · have e1 : d'.extract 0 ds.length = d' := by rw [← hsz]; simp
    have e2 : ds.toArray.extract 0 ds.length = ds.toArray := by simp
    rw [e1, e2] at h3
    simpa using h3
  · rw [List.pairwise_iff_getElem]
    intro i j hi hj hij
    have := hs i j (Nat.zero_le _) hij (by simpa [hsz] using hj)
    have hi' : i < d'.size := by simpa using hi
    have hj' : j < d'.size := by simpa using hj
    rw [getElem!_pos d' j hj', getElem!_pos d' i hi'] at this
    simpa using this

/-- The order of integers, as a comparison tells it. -/
def cmpI (x y : Int) : Int := if x < y then -1 else if y < x then 1 else 0
theorem ltOf_cmpI (x y : Int) : ltOf cmpI x y = decide (x < y) := by
  unfold ltOf cmpI
  by_cases h : x < y
  · simp [h]
  · by_cases h2 : y < x
    · simp [h, h2]
    · simp [h, h2]
theorem swo_cmpI : SWO (ltOf cmpI) := ⟨fun x => by simp [ltOf_cmpI], fun x y z h1 h2 => by simp [ltOf_cmpI] at *; omega, fun x y z h1 h2 => by simp [ltOf_cmpI] at *; omega⟩

theorem wishes_sorted {ds : List Int} {d' : Array Int} (hp : PermIn 0 ds.length ds.toArray d') (hs : SortedIn (ltOf cmpI) 0 ds.length d') : d'.toList = insSort ds := by
  obtain ⟨h1, h2⟩ := sorted_list hp hs
  refine sorted_unique (h2.imp fun {x y} h => ?_) (insSort_sorted ds) (h1.trans (insSort_perm ds).symm)
  simp [ltOf_cmpI] at h
  omega

end Go.Proofs.Ytakadjhbomggbaa

namespace Go.Proofs.Ytakadjhbomggbaa
open Go.RowKit Go.Sort

theorem isNaNJ_any (x : Int) (w : World) : Calls Try.prog 106 #[.int .i64 x] w fun e w' => e = .returned (.bool false) ∧ w = w' := by
  have hx : (x != x) = false := by simp
  go_enter Try.func106, Try.ntmps106
  go_wp2_with fail
  go_ret
  exact ⟨rfl, rfl⟩
set_option maxHeartbeats 400000 in
theorem compareJ_any (x y : Int) (w : World) : Calls Try.prog 72 #[.int .i64 x, .int .i64 y] w fun e w' => e = .returned (.int .i64 (cmpI x y)) ∧ w = w' := by
  by_cases h1 : x < y
  · have HR : Hid (cmpI x y = -1) := hid (by simp [cmpI, h1])
    go_enter Try.func72, Try.ntmps72
    go_wp2_with (go_at_call 106; refine (isNaNJ_any _ _).mono ?_; rintro e w' ⟨rfl, rfl⟩)
    go_ret
    exact ⟨ret_int HR.out.symm, rfl⟩
  · by_cases h2 : y < x
    · have HR : Hid (cmpI x y = 1) := hid (by simp [cmpI, h1, h2])
      go_enter Try.func72, Try.ntmps72
      go_wp2_with (go_at_call 106; refine (isNaNJ_any _ _).mono ?_; rintro e w' ⟨rfl, rfl⟩)
      go_ret
      exact ⟨ret_int HR.out.symm, rfl⟩
    · have HR : Hid (cmpI x y = 0) := hid (by simp [cmpI, h1, h2])
      go_enter Try.func72, Try.ntmps72
      go_wp2_with (go_at_call 106; refine (isNaNJ_any _ _).mono ?_; rintro e w' ⟨rfl, rfl⟩)
      go_ret
      exact ⟨ret_int HR.out.symm, rfl⟩

theorem wcmp_any (bx : Nat) (a : Option Addr) (n cap : Nat) (xs : List Int) (x y : Nat) (w : World) (hbx : w.cell? ⟨bx, 0, none⟩ = some (.slice a n cap)) (h : Has w a n cap xs) (hx : x < n) (hy : y < n) :
    Calls Try.prog 96 #[.int .i64 (x : Int), .int .i64 (y : Int), .pointer (some ⟨bx, 0, none⟩)] w fun e w' => e = .returned (.int .i64 (cmpI (nth xs x) (nth xs y))) ∧ Quiet w w' := by
  obtain ⟨b, off, rfl, hb, hc⟩ := h.2.2.2.2 (by omega)
  have c1 := hc x hx
  have c2 := hc y hy
  have z1 : (x : Int) < (n : Int) := by omega
  have z2 : (y : Int) < (n : Int) := by omega
  have z3 : (0 : Int) ≤ (x : Int) := by omega
  have z4 : (0 : Int) ≤ (y : Int) := by omega
  have cq : ∀ j, Calls Try.prog 72 #[.int .i64 (nth xs x), .int .i64 (nth xs y)] (w.drewN j) fun e w'' => e = .returned (.int .i64 (cmpI (nth xs x) (nth xs y))) ∧ w'' = w.drewN j := fun j => (compareJ_any _ _ _).mono fun e w'' ⟨he, hw⟩ => ⟨he, hw.symm⟩
  have CQ := hid cq
  clear hc cq
  go_enter Try.func96, Try.ntmps96
  go_wp2_with fail
  go_quiet ((go_at_call 72; exact Calls.quiet_of_same (CQ.out _)))
  go_wp2_with fail
  go_ret
  exact ⟨rfl, ⟨_, rfl⟩⟩

def encF (m : Nat) (i : Fin (m + 1)) : Value := .int .i64 ((i.val : Nat) : Int)
theorem allFin_enc (m : Nat) : (allFin m).map (encF m) = (upto (m + 1)).map (Value.int .i64) := by
  unfold allFin upto encF
  apply List.ext_getElem
  · simp
  · intro i h1 h2
    simp

set_option maxHeartbeats 1000000 in
theorem insCars_any (B g m cap bx : Nat) (al : Option Addr) (cl : Nat) (xs : List Int) (w : World) (h8 : m + 1 ≤ 8) (hl : xs.length = m + 1) (hbd : ∀ c, c < m + 1 → 0 ≤ nth xs c ∧ nth xs c < (m : Int) + 1)
    (h : Own w B (some ⟨g, 0, none⟩) (m + 1) cap (upto (m + 1))) (hx : Has w al (m + 1) cl xs) (hal : ∀ p, al = some p → p.block ≠ g) (hbx : w.cell? ⟨bx, 0, none⟩ = some (.slice al (m + 1) cl)) (hbg : bx ≠ g) :
    Calls Try.prog 120 #[.slice (some ⟨g, 0, none⟩) (m + 1) cap, .int .i64 0, .int .i64 ((m + 1 : Nat) : Int), .func (.func 96) #[] #[.pointer (some ⟨bx, 0, none⟩)]] w fun e w' =>
      e = .returned (.tuple #[]) ∧ Own w' B (some ⟨g, 0, none⟩) (m + 1) cap (carsL xs) ∧ w.grownBy w' (some g) := by
  have hown := h
  obtain ⟨⟨h1, h2⟩, h3, h4⟩ := h
  rcases h2 with ⟨hv, _⟩ | ⟨g', cap', cur, hv, hg, hh, hnc, hcm, hcs, htake⟩
  · simp at hv
  · simp at hv
    obtain ⟨rfl, rfl⟩ := hv
    have hlen : (allFin m).length = m + 1 := by simp [allFin]
    have hH : Holds (encF m) w g 0 (allFin m).toArray := holds_of_cells hh (by rw [hlen, allFin_enc]; simpa using htake)
    have hlt : g < w.heap.size := (Array.getElem?_eq_some_iff.1 hh).1
    have eg : ∀ args w, (callFunc 96 args).run Try.prog w = .ok (.enter 96 args) w := by intro args w; go_simp
    have hcmp : CmpReads Try.prog 96 #[.pointer (some ⟨bx, 0, none⟩)] (encF m) (fun x y => cmpI (nth xs x.val) (nth xs y.val)) g 0 (allFin m).toArray.size w := by
      intro q os dk _ x y
      have hgr : w.grownBy (sortWorld (encF m) w g 0 q dk os) (some g) := grownBy_sortedE (encF m) dk
      have hx' := hx.kept hgr hal
      have hb' : (sortWorld (encF m) w g 0 q dk os).cell? ⟨bx, 0, none⟩ = some (.slice al (m + 1) cl) := hgr.cell hbx (by simpa using hbg)
      refine (wcmp_any bx al (m + 1) cl xs x.val y.val _ hb' hx' x.isLt y.isLt).mono ?_
      rintro e w' ⟨rfl, q2, rfl⟩
      exact ⟨rfl, q2, rfl⟩
    have hs := Try.insertionSortCmpFunc_one_f120 (encF m) (fun _ => rfl) (fun x y => cmpI (nth xs x.val) (nth xs y.val)) 96 #[.pointer (some ⟨bx, 0, none⟩)] g 0 cap 0 (m + 1) (allFin m).toArray w eg hcmp hH (Nat.zero_le _) (by simp [allFin]) (by simp [allFin]; omega)
    have hsz : (allFin m).toArray.size = m + 1 := by simp [allFin]
    simp only [hsz] at hs
    refine hs.mono ?_
    rintro e w' ⟨rfl, q, rfl⟩
    rw [← sortWorld_none]
    have hlt' : (ltOf fun x y : Fin (m + 1) => cmpI (nth xs x.val) (nth xs y.val)) = fun x y => decide (nth xs x.val < nth xs y.val) := by
      funext x y
      have := ltOf_cmpI (nth xs x.val) (nth xs y.val)
      simpa [ltOf] using this
    have hsort := sort_cars hl (by omega) hbd
    rw [← hlt'] at hsort
    generalize insertionSort (ltOf fun x y : Fin (m + 1) => cmpI (nth xs x.val) (nth xs y.val)) (allFin m).toArray 0 (m + 1) = d' at hsort ⊢
    have hcl : (carsL xs).length = m + 1 := length_carsL hl (by omega) (fun c hc => by have := hbd c hc; omega)
    have hdl : d'.toList.length = m + 1 := by
      have h5 := congrArg List.length hsort
      rw [List.length_map, hcl] at h5
      exact h5
    have henc : d'.toList.map (encF m) = (carsL xs).map (Value.int .i64) := by
      rw [← hsort, List.map_map]
      rfl
    refine ⟨rfl, ⟨⟨by simp [hcl], .inr ⟨g, cap, _, rfl, hg, heap_sortedE _ d' hh, hnc, hcm, by simpa [putCells] using hcs, ?_⟩⟩, hcl, h4⟩, grownBy_sortedE _ d'⟩
    rw [Nat.mul_one, ← henc]
    have := take_putCellsE (encF m) cur d'.toList (by omega)
    rw [toArr, hdl] at this
    exact this

set_option maxHeartbeats 400000 in
theorem insNone_any (a : Option Addr) (cap : Nat) (fv : Value) (w : World) :
    Calls Try.prog 120 #[.slice a 0 cap, .int .i64 0, .int .i64 0, fv] w fun e w' => e = .returned (.tuple #[]) ∧ w' = w := by
  go_enter Try.func120, Try.ntmps120
  go_wp2
  refine wp_loop_rounds 1 ?_
  rw [rounds_succ]
  go_wp2
  all_goals first | (exfalso; omega) | (go_end0; exact ⟨rfl, rfl⟩)

set_option maxHeartbeats 1000000 in
theorem stableCars_any (B m g cap bx : Nat) (al : Option Addr) (cl : Nat) (xs : List Int) (w : World) (h8 : m + 1 ≤ 8) (hl : xs.length = m + 1) (hbd : ∀ c, c < m + 1 → 0 ≤ nth xs c ∧ nth xs c < (m : Int) + 1)
    (h : Own w B (some ⟨g, 0, none⟩) (m + 1) cap (upto (m + 1))) (hx : Has w al (m + 1) cl xs) (hal : ∀ p, al = some p → p.block ≠ g) (hbx : w.cell? ⟨bx, 0, none⟩ = some (.slice al (m + 1) cl)) (hbg : bx ≠ g) :
    Calls Try.prog 95 #[.slice (some ⟨g, 0, none⟩) (m + 1) cap, .func (.func 96) #[] #[.pointer (some ⟨bx, 0, none⟩)]] w fun e w' =>
      e = .returned (.tuple #[]) ∧ Own w' B (some ⟨g, 0, none⟩) (m + 1) cap (carsL xs) ∧ w.grownBy w' (some g) := by
  have hins := insCars_any B g m cap bx al cl xs w h8 hl hbd h hx hal hbx hbg
  have HI := hid hins
  clear hins h hx hal hbx hbg hbd
  have hst : Calls Try.prog 117 #[.slice (some ⟨g, 0, none⟩) (m + 1) cap, .int .i64 ((m + 1 : Nat) : Int), .func (.func 96) #[] #[.pointer (some ⟨bx, 0, none⟩)]] w fun e w' =>
      e = .returned (.tuple #[]) ∧ Own w' B (some ⟨g, 0, none⟩) (m + 1) cap (carsL xs) ∧ w.grownBy w' (some g) := by
    have hn1 : ¬ (20 : Int) ≤ ((m + 1 : Nat) : Int) := by omega
    have hn2 : ¬ (20 : Int) < ((m + 1 : Nat) : Int) := by omega
    go_enter Try.func117, Try.ntmps117
    go_wp2
    refine wp_loop_rounds 1 ?_
    rw [rounds_succ]
    go_wp2_with (go_at_call 120; refine HI.out.mono ?_; rintro e w1 ⟨rfl, hq1, hq2⟩)
    refine wp_loop_rounds 1 ?_
    rw [rounds_succ]
    go_wp2
    all_goals first | (exfalso; omega) | (go_end0; exact ⟨rfl, hq1, hq2⟩)
  go_enter Try.func95, Try.ntmps95
  go_wp2_with fail
  refine hst.mono ?_
  rintro e w1 ⟨rfl, hq1, hq2⟩
  go_wp2_with fail
  go_end0
  exact ⟨rfl, hq1, hq2⟩

set_option maxHeartbeats 1000000 in
theorem stableNone_any (a : Option Addr) (cap : Nat) (fv : Value) (w : World) :
    Calls Try.prog 95 #[.slice a 0 cap, fv] w fun e w' => e = .returned (.tuple #[]) ∧ w' = w := by
  have hst : Calls Try.prog 117 #[.slice a 0 cap, .int .i64 0, fv] w fun e w' => e = .returned (.tuple #[]) ∧ w' = w := by
    go_enter Try.func117, Try.ntmps117
    go_wp2
    refine wp_loop_rounds 1 ?_
    rw [rounds_succ]
    go_wp2_with (go_at_call 120; refine (insNone_any _ _ _ _).mono ?_; rintro e w1 ⟨rfl, rfl⟩)
    refine wp_loop_rounds 1 ?_
    rw [rounds_succ]
    go_wp2
    all_goals first | (exfalso; omega) | (go_end0; exact ⟨rfl, rfl⟩)
  go_enter Try.func95, Try.ntmps95
  go_wp2_with fail
  refine hst.mono ?_
  rintro e w1 ⟨rfl, rfl⟩
  go_wp2_with fail
  go_end0
  exact ⟨rfl, rfl⟩
end Go.Proofs.Ytakadjhbomggbaa

namespace Go.Proofs.Ytakadjhbomggbaa
open Go.RowKit

theorem indices_any (n : Nat) (w : World) (hn : n ≤ 1000) :
    Calls Try.prog 68 #[.int .i64 (n : Int)] w fun e w' => ∃ a' cap', e = .returned (.slice a' n cap') ∧ Own w' w.heap.size a' n cap' (idx n) ∧ Below w.heap.size w w' := by
  have HN := hid (fun k (hk : k < n) => nth_idx hk)
  have HLL := hid (length_idx n)
  go_enter Try.func68, Try.ntmps68
  go_wp2_with (at_make; refine wpList_make_ints _ rfl _ _ rfl n rfl rfl (by omega) ?_; intro a1 cap1 w1 hown1 hb1)
  go_loopw [9] (fun i wr => ∃ (k : Nat) (zs : List Int), k ≤ n ∧ i = .int .i64 (k : Int) ∧ Own wr w.heap.size a1 n cap1 zs ∧ Hid (FromTo (idx n) zs k) ∧ Below w.heap.size w wr) (fun i _ => n - (intOf i).toNat)
  case atStart => exact ⟨0, _, Nat.zero_le _, rfl, hown1, hid (fun i hi => by omega), hb1⟩
  case round =>
    clear hown1 hb1
    obtain ⟨k, zs, hk, rfl, hz, HF, hb⟩ := hrel
    by_cases hlt : k < n
    · obtain ⟨g1, rfl, hg1, hg2, hg3, hg4⟩ := hz.opened (by omega)
      have hgk := hg3 k hlt
      have hgf := hg4 k
      obtain ⟨s1, s2⟩ := hz.set k (k : Int)
      have HF2 : Hid (FromTo (idx n) (zs.set k (k : Int)) (k + 1)) := hid (by
        intro i hi
        rw [nth_set (by rw [hz.len]; exact hlt)]
        by_cases e : k = i
        · subst e; rw [if_pos rfl, HN.out _ hlt]
        · rw [if_neg e]; exact HF.out i (by omega))
      have hb2 := hb.setCell (p := ⟨g1, k, none⟩) hg1 (.int .i64 (k : Int))
      clear hg3 hg4 s2
      go_wp2_with fail
      go_roundw
      case rel => exact ⟨k + 1, _, by omega, by go_num, s1, HF2, hb2⟩
      case measure => simp [intOf]; omega
    · obtain rfl : n = k := by omega
      have HE : Hid (idx n = zs) := hid (ext_nth (by rw [HLL.out, hz.len]) (fun i hi => (HF.out i (by rw [HLL.out] at hi; exact hi)).symm))
      go_wp2_with fail
      go_ret
      exact ⟨a1, cap1, rfl, by rw [HE.out]; exact hz, hb⟩
end Go.Proofs.Ytakadjhbomggbaa

namespace Go.Proofs.Ytakadjhbomggbaa
open Go.RowKit Go.Sort

theorem BlkLt.mono9 {a : Option Addr} {K K' : Nat} (h : BlkLt a K) (hK : K ≤ K') : BlkLt a K' := fun p hp => Nat.lt_of_lt_of_le (h p hp) hK
theorem BlkLt.ne9 {a : Option Addr} {K g : Nat} (h : BlkLt a K) (hg : K ≤ g) : ∀ p, a = some p → p.block ≠ g := fun p hp e => by have := h p hp; omega
theorem cars_of_none {xs : List Int} (h : xs.length = 0) {P : Nat} : carsTo xs P = [] := by
  obtain rfl := List.eq_nil_of_length_eq_zero h
  induction P with
  | zero => rfl
  | succ P ih => simp [carsTo, ih, idxs]
set_option maxHeartbeats 1000000 in
theorem insCarsP_any (P B g m cap bx : Nat) (al : Option Addr) (cl : Nat) (xs : List Int) (w : World) (h8 : m + 1 ≤ 8) (hl : xs.length = m + 1) (hbd : ∀ c, c < m + 1 → 0 ≤ nth xs c ∧ nth xs c < (P : Int))
    (h : Own w B (some ⟨g, 0, none⟩) (m + 1) cap (upto (m + 1))) (hx : Has w al (m + 1) cl xs) (hal : ∀ p, al = some p → p.block ≠ g) (hbx : w.cell? ⟨bx, 0, none⟩ = some (.slice al (m + 1) cl)) (hbg : bx ≠ g) :
    Calls Try.prog 120 #[.slice (some ⟨g, 0, none⟩) (m + 1) cap, .int .i64 0, .int .i64 ((m + 1 : Nat) : Int), .func (.func 96) #[] #[.pointer (some ⟨bx, 0, none⟩)]] w fun e w' =>
      e = .returned (.tuple #[]) ∧ Own w' B (some ⟨g, 0, none⟩) (m + 1) cap (carsTo xs P) ∧ w.grownBy w' (some g) := by
  have hown := h
  obtain ⟨⟨h1, h2⟩, h3, h4⟩ := h
  rcases h2 with ⟨hv, _⟩ | ⟨g', cap', cur, hv, hg, hh, hnc, hcm, hcs, htake⟩
  · simp at hv
  · simp at hv
    obtain ⟨rfl, rfl⟩ := hv
    have hlen : (allFin m).length = m + 1 := by simp [allFin]
    have hH : Holds (encF m) w g 0 (allFin m).toArray := holds_of_cells hh (by rw [hlen, allFin_enc]; simpa using htake)
    have hlt : g < w.heap.size := (Array.getElem?_eq_some_iff.1 hh).1
    have eg : ∀ args w, (callFunc 96 args).run Try.prog w = .ok (.enter 96 args) w := by intro args w; go_simp
    have hcmp : CmpReads Try.prog 96 #[.pointer (some ⟨bx, 0, none⟩)] (encF m) (fun x y => cmpI (nth xs x.val) (nth xs y.val)) g 0 (allFin m).toArray.size w := by
      intro q os dk _ x y
      have hgr : w.grownBy (sortWorld (encF m) w g 0 q dk os) (some g) := grownBy_sortedE (encF m) dk
      have hx' := hx.kept hgr hal
      have hb' : (sortWorld (encF m) w g 0 q dk os).cell? ⟨bx, 0, none⟩ = some (.slice al (m + 1) cl) := hgr.cell hbx (by simpa using hbg)
      refine (wcmp_any bx al (m + 1) cl xs x.val y.val _ hb' hx' x.isLt y.isLt).mono ?_
      rintro e w' ⟨rfl, q2, rfl⟩
      exact ⟨rfl, q2, rfl⟩
    have hs := Try.insertionSortCmpFunc_one_f120 (encF m) (fun _ => rfl) (fun x y => cmpI (nth xs x.val) (nth xs y.val)) 96 #[.pointer (some ⟨bx, 0, none⟩)] g 0 cap 0 (m + 1) (allFin m).toArray w eg hcmp hH (Nat.zero_le _) (by simp [allFin]) (by simp [allFin]; omega)
    have hsz : (allFin m).toArray.size = m + 1 := by simp [allFin]
    simp only [hsz] at hs
    refine hs.mono ?_
    rintro e w' ⟨rfl, q, rfl⟩
    rw [← sortWorld_none]
    have hlt' : (ltOf fun x y : Fin (m + 1) => cmpI (nth xs x.val) (nth xs y.val)) = fun x y => decide (nth xs x.val < nth xs y.val) := by
      funext x y
      have := ltOf_cmpI (nth xs x.val) (nth xs y.val)
      simpa [ltOf] using this
    have hsort := sort_carsP hl (by omega) hbd
    rw [← hlt'] at hsort
    generalize insertionSort (ltOf fun x y : Fin (m + 1) => cmpI (nth xs x.val) (nth xs y.val)) (allFin m).toArray 0 (m + 1) = d' at hsort ⊢
    have hcl : (carsTo xs P).length = m + 1 := length_carsP hl (by omega) hbd
    have hdl : d'.toList.length = m + 1 := by
      have h5 := congrArg List.length hsort
      rw [List.length_map, hcl] at h5
      exact h5
    have henc : d'.toList.map (encF m) = (carsTo xs P).map (Value.int .i64) := by
      rw [← hsort, List.map_map]
      rfl
    refine ⟨rfl, ⟨⟨by simp [hcl], .inr ⟨g, cap, _, rfl, hg, heap_sortedE _ d' hh, hnc, hcm, by simpa [putCells] using hcs, ?_⟩⟩, hcl, h4⟩, grownBy_sortedE _ d'⟩
    rw [Nat.mul_one, ← henc]
    have := take_putCellsE (encF m) cur d'.toList (by omega)
    rw [toArr, hdl] at this
    exact this

set_option maxHeartbeats 1000000 in
theorem stableCarsP_any (P B m g cap bx : Nat) (al : Option Addr) (cl : Nat) (xs : List Int) (w : World) (h8 : m + 1 ≤ 8) (hl : xs.length = m + 1) (hbd : ∀ c, c < m + 1 → 0 ≤ nth xs c ∧ nth xs c < (P : Int))
    (h : Own w B (some ⟨g, 0, none⟩) (m + 1) cap (upto (m + 1))) (hx : Has w al (m + 1) cl xs) (hal : ∀ p, al = some p → p.block ≠ g) (hbx : w.cell? ⟨bx, 0, none⟩ = some (.slice al (m + 1) cl)) (hbg : bx ≠ g) :
    Calls Try.prog 95 #[.slice (some ⟨g, 0, none⟩) (m + 1) cap, .func (.func 96) #[] #[.pointer (some ⟨bx, 0, none⟩)]] w fun e w' =>
      e = .returned (.tuple #[]) ∧ Own w' B (some ⟨g, 0, none⟩) (m + 1) cap (carsTo xs P) ∧ w.grownBy w' (some g) := by
  have hins := insCarsP_any P B g m cap bx al cl xs w h8 hl hbd h hx hal hbx hbg
  have HI := hid hins
  clear hins h hx hal hbx hbg hbd
  have hst : Calls Try.prog 117 #[.slice (some ⟨g, 0, none⟩) (m + 1) cap, .int .i64 ((m + 1 : Nat) : Int), .func (.func 96) #[] #[.pointer (some ⟨bx, 0, none⟩)]] w fun e w' =>
      e = .returned (.tuple #[]) ∧ Own w' B (some ⟨g, 0, none⟩) (m + 1) cap (carsTo xs P) ∧ w.grownBy w' (some g) := by
    have hn1 : ¬ (20 : Int) ≤ ((m + 1 : Nat) : Int) := by omega
    have hn2 : ¬ (20 : Int) < ((m + 1 : Nat) : Int) := by omega
    go_enter Try.func117, Try.ntmps117
    go_wp2
    refine wp_loop_rounds 1 ?_
    rw [rounds_succ]
    go_wp2_with (go_at_call 120; refine HI.out.mono ?_; rintro e w1 ⟨rfl, hq1, hq2⟩)
    refine wp_loop_rounds 1 ?_
    rw [rounds_succ]
    go_wp2
    all_goals first | (exfalso; omega) | (go_end0; exact ⟨rfl, hq1, hq2⟩)
  go_enter Try.func95, Try.ntmps95
  go_wp2_with fail
  refine hst.mono ?_
  rintro e w1 ⟨rfl, hq1, hq2⟩
  go_wp2_with fail
  go_end0
  exact ⟨rfl, hq1, hq2⟩

/-- The stable sort of the cars in order. -/
theorem sortCarsP_any (P B n : Nat) (a al : Option Addr) (cap cl bx : Nat) (xs : List Int) (w : World) (h8 : n ≤ 8) (hl : xs.length = n) (hbd : ∀ c, c < n → 0 ≤ nth xs c ∧ nth xs c < (P : Int)) (hBw : B ≤ w.heap.size)
    (h : Own w B a n cap (upto n)) (hx : Has w al n cl xs) (hal : 0 < n → BlkLt al B) (hbx : w.cell? ⟨bx, 0, none⟩ = some (.slice al n cl)) (hbg : bx < B) :
    Calls Try.prog 95 #[.slice a n cap, .func (.func 96) #[] #[.pointer (some ⟨bx, 0, none⟩)]] w fun e w' =>
      e = .returned (.tuple #[]) ∧ Own w' B a n cap (carsTo xs P) ∧ Below B w w' := by
  by_cases hn : n = 0
  · subst hn
    refine (stableNone_any _ _ _ _).mono ?_
    rintro e w1 ⟨rfl, rfl⟩
    exact ⟨rfl, by rw [cars_of_none hl]; exact h, Below.refl _ _⟩
  · obtain ⟨m, rfl⟩ : ∃ m, n = m + 1 := ⟨n - 1, by omega⟩
    obtain ⟨g, rfl, hg1, hg2, _, _⟩ := h.opened (by omega)
    refine (stableCarsP_any P B m g cap bx al cl xs w h8 hl hbd h hx ((hal (by omega)).ne9 hg1) hbx (by omega)).mono ?_
    rintro e w1 ⟨rfl, ho, hgr⟩
    exact ⟨rfl, ho, below_grown hgr hBw (fun k hk => by simp at hk; omega)⟩

set_option maxHeartbeats 1000000 in
theorem carsByP_any (P : Nat) (a : Option Addr) (n cap : Nat) (xs : List Int) (w : World) (h : Has w a n cap xs) (h8 : n ≤ 8) (hbd : ∀ c, c < n → 0 ≤ nth xs c ∧ nth xs c < (P : Int)) :
    Calls Try.prog 54 #[.slice a n cap] w fun e w' => ∃ a2 c2, e = .returned (.slice a2 n c2) ∧ Own w' w.heap.size a2 n c2 (carsTo xs P) ∧ Below w.heap.size w w' := by
  have HL := hid h.len
  have HBD := hid hbd
  have hle := h.le
  clear hbd
  go_enter Try.func54, Try.ntmps54
  go_wp2_with fail
  generalize hW : w.alloc (.cells #[.slice a n cap] 24) = W
  have hbW : Below w.heap.size w W := by rw [← hW]; exact (Below.refl _ w).alloc (Nat.le_refl _) _
  have hsz : W.heap.size = w.heap.size + 1 := by rw [← hW]; simp
  have hbx : W.cell? ⟨w.heap.size, 0, none⟩ = some (.slice a n cap) := by rw [← hW, World.cell?_alloc_at _ _ _ _ rfl]; rfl
  clear hW
  refine (indices_any n _ (by omega)).mono ?_
  rintro e w2 ⟨a2, c2, rfl, own2, st⟩
  have hs2 := st.size
  replace hbx : w2.cell? ⟨w.heap.size, 0, none⟩ = some (.slice a n cap) := by rw [st.cell (p := ⟨w.heap.size, 0, none⟩) (by simp; omega)]; exact hbx
  have hb2 := hbW.trans (st.mono hbW.size)
  clear st hbW
  go_wp2_with fail
  refine (sortCarsP_any P W.heap.size n a2 a c2 cap w.heap.size xs w2 h8 HL.out HBD.out hs2 own2 (h.below hb2 (Nat.le_refl _)) (fun hn => (h.lt hn).mono9 (by omega)) hbx (by omega)).mono ?_
  rintro e w3 ⟨rfl, own3, st⟩
  have hb3 := hb2.trans (st.mono (by omega))
  clear st hb2 own2
  go_wp2_with fail
  go_ret
  exact ⟨_, _, rfl, own3.mono (by omega), hb3⟩
end Go.Proofs.Ytakadjhbomggbaa

namespace Go.Proofs.Ytakadjhbomggbaa
open Go.RowKit Go.Maps

theorem blocks_yes {xs : List Int} (h : isPark xs = true) (hu : unitB xs 1 = true) : unitBlocksOf xs = (blk xs (fairL xs) xs.length, true) := by simp [unitBlocksOf, h, hu]
theorem blocks_no {xs : List Int} (h : ¬ (isPark xs = true ∧ unitB xs 1 = true)) : unitBlocksOf xs = ([], false) := by
  unfold unitBlocksOf
  rw [if_neg (by simpa using h)]
theorem nums_addLast {rs : List Rw} {a : Option Addr} {c : Nat} {v : Int} {q : Nat} (hq : rs.length = q + 1) : numsOf (rs.set q ⟨a, c, (nthR rs q).xs ++ [v]⟩) = addLast (numsOf rs) v := by
  obtain ⟨ss, r, rfl⟩ : ∃ ss r, rs = ss ++ [r] := ⟨rs.dropLast, rs.getLast (by intro e; subst e; simp at hq), (List.dropLast_concat_getLast _).symm⟩
  have hs : ss.length = q := by simpa using hq
  have e1 : nthR (ss ++ [r]) q = r := by rw [nthR_append_right (by omega), hs, Nat.sub_self, nthR_one]
  rw [e1]
  have e2 : (ss ++ [r]).set q ⟨a, c, r.xs ++ [v]⟩ = ss ++ [⟨a, c, r.xs ++ [v]⟩] := by
    rw [List.set_append_right _ _ (by omega), hs, Nat.sub_self]
    rfl
  rw [e2]
  simp only [numsOf, List.map_append, List.map_singleton]
  rw [addLast_snoc]
theorem blk_start {xs ls : List Int} {k : Nat} (h : nth xs (nth ls k).toNat = (k : Int)) : addLast (blk xs ls k ++ [[]]) (nth ls k) = blk xs ls (k + 1) := by
  rw [addLast_snoc, blk, if_pos h]
  rfl
theorem blk_on {xs ls : List Int} {k : Nat} (h : ¬ nth xs (nth ls k).toNat = (k : Int)) : addLast (blk xs ls k) (nth ls k) = blk xs ls (k + 1) := by rw [blk, if_neg h]
theorem length_blk {xs ls : List Int} : ∀ k, (blk xs ls k).length ≤ k ∧ (0 < k → 0 < (blk xs ls k).length)
  | 0 => ⟨Nat.le_refl _, fun h => absurd h (by omega)⟩
  | k + 1 => by
    obtain ⟨h1, _⟩ := length_blk (xs := xs) (ls := ls) k
    rw [blk]
    split
    · simp; omega
    · simp only [addLast, List.length_append, List.length_dropLast, List.length_singleton]
      rcases Nat.eq_zero_or_pos k with rfl | h0
      · simp [blk]
      · have := (length_blk (xs := xs) (ls := ls) k).2 h0
        omega

theorem row_blk {xs ls : List Int} : ∀ (k : Nat) (r : List Int), r ∈ blk xs ls k → r.length ≤ k
  | 0, r, h => by simp [blk] at h
  | k + 1, r, h => by
    rw [blk] at h
    split at h
    · rcases List.mem_append.1 h with h | h
      · have := row_blk k r h; omega
      · rw [List.mem_singleton] at h; subst h; simp
    · unfold addLast at h
      rcases List.mem_append.1 h with h | h
      · have := row_blk k r (List.dropLast_subset _ h); omega
      · rw [List.mem_singleton] at h
        subst h
        cases e : (blk xs ls k).getLast? with
        | none => simp
        | some r' =>
          have := row_blk k r' (List.mem_of_getLast? e)
          simp
          omega
end Go.Proofs.Ytakadjhbomggbaa

namespace Go.Proofs.Ytakadjhbomggbaa
open Go.RowKit

end Go.Proofs.Ytakadjhbomggbaa

namespace Go.Proofs.Ytakadjhbomggbaa
open Go.RowKit

theorem HasR.rowAt {w W : World} {a : Option Addr} {q cap : Nat} {rs : List Rw} {bs : List (List Int)} (h : HasR w a q cap rs) (hb : Below w.heap.size w W) (hbs : numsOf rs = bs) {k : Nat} (hk : k < q) :
    ∃ b off ak ck, a = some ⟨b, off, none⟩ ∧ W.cell? ⟨b, off + k, none⟩ = some (.slice ak (blkAt bs k).length ck) ∧ Has w ak (blkAt bs k).length ck (blkAt bs k) := by
  obtain ⟨r0, r1, r2, r3, r4, -⟩ := h.below hb (Nat.le_refl _)
  have r5 := h.2.2.2.2.2
  obtain ⟨b, off, rfl, _, hc⟩ := r4 (by omega)
  have h3 := hc k hk
  have h4 := r5 k hk
  unfold Rw.v at h3
  subst hbs
  rw [blkAt_nums (by omega)]
  exact ⟨_, _, _, _, rfl, h3, h4⟩
theorem pred_max (i : Nat) : max ((i : Int) - 1) 0 = ((i - 1 : Nat) : Int) := by omega

end Go.Proofs.Ytakadjhbomggbaa

namespace Go.Proofs.Ytakadjhbomggbaa
open Go.RowKit

/-- 'make([][]int, n)'. -/
theorem wpList_make_rowsN {ops : Array Oper} {rest : List Oper} {o : Oper} {a : Act} {Q : Exit → Act → World → Prop} (w : World) (hgd : o.guard = none) (l c : Operand) (ho : o.op = Op.makeSlice 42 l c)
    (n : Nat) (hl : a.eval l = .int .i64 (n : Int)) (hc : a.eval c = .int .i64 (n : Int)) (hn : n ≤ 2097152)
    (h : ∀ w', OwnR w' w.heap.size (some ⟨w.heap.size, 0, none⟩) n n (List.replicate n ⟨none, 0, []⟩) → Below w.heap.size w w' → wpList Try.prog ops Q rest (a.put o.dst (.slice (some ⟨w.heap.size, 0, none⟩) n n)) w') :
    wpList Try.prog ops Q (o :: rest) a w := by
  obtain ⟨i0, hi, hz0, hz1, hz2⟩ := info_parts Try.infoInts
  refine wpList_make_full (P := Try.prog) w hgd l c 42 ho w.heap.size 24 i0 (.slice none 0 0) 1 Try.underlying42 hi hz0 hz1 .i64 .i64 n n n hl hc rfl rfl (by rw [hz2]; omega) (by unfold maxLen; omega) (Nat.le_refl _) ?_
  intro w' hown hgrow
  have hr : ∀ i, i < n → nthR (List.replicate n (⟨none, 0, []⟩ : Rw)) i = ⟨none, 0, []⟩ := fun i hi => by simp [nthR, hi]
  have e : (madeCells (Value.slice none 0 0).cells (n * 1)).toList = (List.replicate n (⟨none, 0, []⟩ : Rw)).map Rw.v := by
    rw [show (Value.slice none 0 0).cells = #[Value.slice none 0 0] from rfl, toList_madeCells_one]
    simp [Rw.v]
  rw [e] at hown
  refine h _ ⟨hown, by simp, hn, fun i hi => ?_, fun i j p q hij hj hp _ => ?_⟩ (below_grown hgrow (Nat.le_refl _) (by simp))
  · rw [hr i hi]
    exact Own.nil _ _
  · rw [hr i (by omega)] at hp
    cases hp
theorem grown_none {w w' : World} (h : Below w.heap.size w w') : w.grownBy w' none := ⟨h.os, h.tape, h.output, h.size, fun i hi _ => h.block i hi⟩
theorem numsOf_set (rs : List Rw) (k : Nat) (r : Rw) : numsOf (rs.set k r) = (numsOf rs).set k r.xs := by simp [numsOf]
/-- The first k of some lists, then empty ones. -/
def firstR (bs : List (List Int)) (n : Nat) : Nat → List (List Int)
  | 0 => List.replicate n []
  | k + 1 => (firstR bs n k).set k (blkAt bs k)
theorem length_firstR (bs : List (List Int)) (n : Nat) : ∀ k, (firstR bs n k).length = n
  | 0 => by simp [firstR]
  | k + 1 => by rw [firstR, List.length_set, length_firstR bs n k]
theorem firstR_at (bs : List (List Int)) (n : Nat) : ∀ k j, j < n → (firstR bs n k)[j]? = some (if j < k then blkAt bs j else [])
  | 0, j, hj => by simp [firstR, hj]
  | k + 1, j, hj => by
    rw [firstR, List.getElem?_set, length_firstR, firstR_at bs n k j hj]
    by_cases e : k = j
    · subst e; simp [hj]
    · rw [if_neg e]
      by_cases e2 : j < k
      · rw [if_pos e2, if_pos (by omega)]
      · rw [if_neg e2, if_neg (by omega)]
theorem firstR_all {bs : List (List Int)} {n : Nat} (hl : bs.length = n) : firstR bs n n = bs := by
  apply List.ext_getElem?
  intro j
  by_cases hj : j < n
  · rw [firstR_at bs n n j hj, if_pos hj]
    unfold blkAt
    rw [List.getD_eq_getElem?_getD, List.getElem?_eq_getElem (by omega)]
    rfl
  · rw [List.getElem?_eq_none (by rw [length_firstR]; omega), List.getElem?_eq_none (by omega)]

set_option maxHeartbeats 800000 in
/-- Lists that are marked leave a list in later blocks as it was. -/
theorem markIntSS_keep (B : Nat) (a : Option Addr) (n cap : Nat) (rs : List Rw) (w : World) (h : OwnR w B a n cap rs) (hB : B ≤ w.heap.size) (Bg : Nat) (ag : Option Addr) (ng cg : Nat) (gs : List Int) (og0 : Own w Bg ag ng cg gs) (hg0 : ∀ i, i < n → BlkLt (nthR rs i).a Bg) :
    Calls Try.prog 45 #[.slice a n cap, .int .i64 1] w fun e w' => e = .returned (.int .i64 (1 + (sumLen rs n : Int))) ∧ OwnR w' B a n cap (marksR 1 rs n) ∧ Own w' Bg ag ng cg gs ∧ Below B w w' := by
  have hl := h.len
  have hn := h.le
  have hsl : ∀ k, k ≤ n → sumLen rs k ≤ k * 2097152 := fun k hk => sumLen_le (fun i hi => (h.2.2.2.1 i (by omega)).le) k (by omega)
  have HSL := hid hsl
  have HL := hid hl
  have HG := hid hg0
  clear hsl hl hg0
  go_enter Try.func45, Try.ntmps45
  go_wp2_with fail
  go_loopw [1, 5] (fun q i wr => ∃ k : Nat, k ≤ n ∧ i = .int .i64 k ∧ q = .int .i64 (1 + (sumLen rs k : Int)) ∧ OwnR wr B a n cap (marksR 1 rs k) ∧ Own wr Bg ag ng cg gs ∧ Below B w wr) (fun _ i _ => n - (intOf i).toNat)
  case atStart => exact ⟨0, Nat.zero_le _, rfl, rfl, by rw [marksR_zero]; exact h, og0, Below.refl _ _⟩
  case round =>
    obtain ⟨k, hk, rfl, rfl, hown, og, hb⟩ := hrel
    clear og0
    by_cases hlt : k < n
    · obtain ⟨k0, k1, k2, k3, k4, k5⟩ := hown.has
      obtain ⟨b, off, rfl, hbb, hc⟩ := k4 (by omega)
      have hck := hc k hlt
      rw [marksR_v] at hck
      have hrow := hown.2.2.2.1 k hlt
      rw [nth_marksR (by rw [HL.out]; omega), if_neg (by omega)] at hrow
      have hs1 := HSL.out k hk
      clear k0 k1 k2 k4 k5 hc
      go_wp2_with fail
      refine (markIntS_any B _ _ _ _ _ _ hrow (by omega) (by omega)).mono ?_
      rintro e w2 ⟨rfl, hm1, hm2⟩
      have hfin := hown.markAt hlt hm1 hm2
      have og2 := og.marked_gt hm2 (HG.out k hlt)
      have hb2 := hb.trans (hm2.below hrow.ge (Nat.le_trans hB hb.size))
      have HSS : Hid (sumLen rs (k + 1) = sumLen rs k + (nthR rs k).xs.length) := hid rfl
      clear hm1 hm2 hrow hown og
      go_wp2_with fail
      go_roundw
      case rel => exact ⟨k + 1, by omega, by go_num, by rw [HSS.out]; go_num, hfin, og2, hb2⟩
      case measure => simp [intOf]; omega
    · obtain rfl : k = n := by omega
      go_wp2_with fail
      go_ret
      exact ⟨rfl, hown, og, hb⟩
/-! ### The argument as it came in -/
def RawR (w : World) (a : Option Addr) (len cap : Nat) (A : Nat → Option Addr) (L C : Nat → Nat) (Z : Nat → List Int) : Prop :=
  (a = none ∧ len = 0 ∧ cap = 0) ∨ ∃ x : Addr, a = some x ∧ len ≤ cap ∧ cap ≤ maxLen ∧ ∀ r, r < cap → w.cell? (x.add r) = some (.slice (A r) (L r) (C r)) ∧ L r ≤ C r ∧ C r ≤ maxLen ∧ (Z r).length = C r ∧
    (∀ n ∈ Z r, (Lit.int .i64 n).wf = true) ∧ (A r = none → C r = 0) ∧ ∀ a', A r = some a' → ∀ c, c < C r → w.cell? (a'.add c) = some (.int .i64 ((Z r).getD c 0))
theorem RawR.at {w : World} {a : Option Addr} {len cap : Nat} {A : Nat → Option Addr} {L C : Nat → Nat} {Z : Nat → List Int} (h : RawR w a len cap A L C Z) (h0 : 0 < len) :
    ∃ b off, a = some ⟨b, off, none⟩ ∧ b < w.heap.size ∧ len ≤ cap ∧ cap ≤ maxLen ∧ ∀ r, r < len → w.cell? ⟨b, off + r, none⟩ = some (.slice (A r) (L r) (C r)) ∧ L r ≤ C r ∧ C r ≤ maxLen := by
  rcases h with ⟨_, rfl, _⟩ | ⟨x, rfl, h1, h2, h3⟩
  · omega
  · obtain ⟨b, off, spot⟩ := x
    have hc := (h3 0 (by omega)).1
    have hspot : spot = none := by simpa [Addr.add] using World.cell?_spot hc
    subst hspot
    refine ⟨b, off, rfl, by have := World.block_lt_of_cell? w _ hc; simpa [Addr.add] using this, h1, h2, fun r hr => ?_⟩
    obtain ⟨k1, k2, k3, _⟩ := h3 r (by omega)
    have e : (⟨b, off, none⟩ : Addr).add r = ⟨b, off + r, none⟩ := by unfold Addr.add; split <;> simp_all
    rw [e] at k1
    exact ⟨k1, k2, k3⟩
theorem hasR_of_raw {w : World} {a : Option Addr} {len cap : Nat} {A : Nat → Option Addr} {L C : Nat → Nat} {Z : Nat → List Int} (h : RawR w a len cap A L C Z) (hl : len ≤ 1048576) (hL : ∀ r, r < len → L r ≤ 1048576) : ∃ rs, HasR w a len cap rs := by
  have hcap : len ≤ cap ∧ cap ≤ maxLen := by
    rcases h with ⟨_, rfl, rfl⟩ | ⟨x, _, h1, h2, _⟩
    · exact ⟨Nat.le_refl _, by unfold maxLen; omega⟩
    · exact ⟨h1, h2⟩
  have hx : ∀ r, ∃ xs, r < len → Has w (A r) (L r) (C r) xs := fun r => by
    by_cases hr : r < len
    · rcases h with ⟨_, rfl, _⟩ | ⟨x, rfl, h1, h2, h3⟩
      · omega
      · obtain ⟨k1, k2, k3, k4, k5, k6, k7⟩ := h3 r (by omega)
        have := has_of_row (w := w) (a := A r) (len := L r) (cap := C r) (zs := Z r) (by
          cases hA : A r with
          | none =>
            have hC := k6 hA
            left
            exact ⟨rfl, by omega, hC, List.eq_nil_of_length_eq_zero (by omega)⟩
          | some a' =>
            right
            exact ⟨a', rfl, k2, k3, k4, fun i hi => k7 a' hA i (by omega), k5⟩) (hL r hr)
        obtain ⟨xs, hxs⟩ := this
        exact ⟨xs, fun _ => hxs⟩
    · exact ⟨[], fun e => absurd e hr⟩
  obtain ⟨X, hX⟩ := Classical.axiomOfChoice hx
  have hn : ∀ i, i < len → nthR ((List.range len).map fun r => (⟨A r, C r, X r⟩ : Rw)) i = ⟨A i, C i, X i⟩ := fun i hi => by simp [nthR, hi]
  refine ⟨(List.range len).map fun r => ⟨A r, C r, X r⟩, by simp, hcap.1, hcap.2, by omega, fun h0 => ?_, fun i hi => ?_⟩
  · obtain ⟨b, off, ha, hb, _, _, hc⟩ := h.at h0
    refine ⟨b, off, ha, hb, fun i hi => ?_⟩
    rw [hn i hi, (hc i hi).1]
    simp only [Rw.v]
    rw [(hX i hi).len]
  · rw [hn i hi]
    have := hX i hi
    rw [(hX i hi).len]
    exact this
def SzP (v len : Nat) (w : World) (e : Ending) (w' : World) : Prop := w = w' ∧ ((e = .returned (.int .i64 (-1)) ∧ v < len) ∨ (e = .returned (.int .i64 ((v - len : Nat) : Int)) ∧ len ≤ v))
/-- What szIntSS comes to. -/
def SzR (len : Nat) (L : Nat → Nat) (w : World) (e : Ending) (w' : World) : Prop := w = w' ∧ ((∃ v : Int, e = .returned (.int .i64 v) ∧ v < 0) ∨ ∃ v : Nat, e = .returned (.int .i64 (v : Int)) ∧ len ≤ 1048576 ∧ ∀ r, r < len → L r ≤ 1048576)
end Go.Proofs.Ytakadjhbomggbaa

namespace Go.Proofs.Ytakadjhbomggbaa
open Go.RowKit

def spH (xs : List Int) : List Int := hgtOf xs (carsL xs)
def spA (xs : List Int) : Nat := (total (spH xs)).toNat
def spQ (xs : List Int) : Nat := (pairsL (spH xs) (carsL xs)).length
def rowT (tb : List (List Int)) (a : Nat) : List Int := tb.getD a []
/-- One more with a and b. -/
def incAt (tb : List (List Int)) (a b : Nat) : List (List Int) := tb.set a ((rowT tb a).set b (nth (rowT tb a) b + 1))
def spTo (m : Nat) (L : List (List Int)) : Nat → List (List Int)
  | 0 => List.replicate m (List.replicate m 0)
  | k + 1 => incAt (spTo m L k) (spA (rowT L k)) (spQ (rowT L k))
def spM (n : Nat) : Nat := n * (n - 1) / 2 + 1
def spreadOf (n : Int) : List (List Int) × Bool := if inB n 0 4 then (spTo (spM n.toNat) (listL n.toNat n.toNat []) (listL n.toNat n.toNat []).length, true) else ([], false)
def spChk (n : Nat) (xs : List Int) : Bool := isPark xs && (decide (xs.length = n) && (decide (spA xs < spM n) && decide (spQ xs < spM n)))
set_option maxHeartbeats 4000000 in
theorem sp_all : ∀ n, n < 5 → (listL n n []).all (spChk n) = true ∧ (listL n n []).length ≤ 125 ∧ spM n ≤ 7 := by decide +kernel
theorem sp_at {n k : Nat} (hn : n < 5) (hk : k < (listL n n []).length) : isPark (rowT (listL n n []) k) = true ∧ (rowT (listL n n []) k).length = n ∧ spA (rowT (listL n n []) k) < spM n ∧ spQ (rowT (listL n n []) k) < spM n := by
  have h := List.all_eq_true.1 (sp_all n hn).1 (rowT (listL n n []) k) (by unfold rowT; rw [List.getD_eq_getElem?_getD, List.getElem?_eq_getElem hk]; exact List.getElem_mem hk)
  unfold spChk at h
  simp only [Bool.and_eq_true, decide_eq_true_eq] at h
  exact ⟨h.1, h.2.1, h.2.2.1, h.2.2.2⟩
/-- Sizes and bounds of a table. -/
def TbB (m k : Nat) (tb : List (List Int)) : Prop := tb.length = m ∧ ∀ a, a < m → (rowT tb a).length = m ∧ ∀ b, b < m → 0 ≤ nth (rowT tb a) b ∧ nth (rowT tb a) b ≤ (k : Int)
theorem tbB_start (m : Nat) : TbB m 0 (List.replicate m (List.replicate m 0)) := by
  refine ⟨by simp, fun a ha => ?_⟩
  have e : rowT (List.replicate m (List.replicate m (0 : Int))) a = List.replicate m 0 := by simp [rowT, ha]
  rw [e]
  exact ⟨by simp, fun b hb => by simp [nth, hb]⟩
theorem tbB_inc {m k a b : Nat} {tb : List (List Int)} (h : TbB m k tb) (ha : a < m) (hb : b < m) : TbB m (k + 1) (incAt tb a b) := by
  obtain ⟨h1, h2⟩ := h
  refine ⟨by simp [incAt, h1], fun c hc => ?_⟩
  have e : rowT (incAt tb a b) c = if a = c then (rowT tb a).set b (nth (rowT tb a) b + 1) else rowT tb c := by
    unfold incAt rowT
    rw [List.getD_eq_getElem?_getD, List.getElem?_set]
    split
    · rw [if_pos (by omega)]; rfl
    · rfl
  rw [e]
  obtain ⟨h3, h4⟩ := h2 a ha
  split
  · refine ⟨by simp [h3], fun d hd => ?_⟩
    rw [nth_set (by omega)]
    split
    · have := h4 b hb; omega
    · have := h4 d hd; omega
  · obtain ⟨h5, h6⟩ := h2 c hc
    exact ⟨h5, fun d hd => by have := h6 d hd; omega⟩
/-- A number of one row is stored. -/
theorem OwnR.setIn {w : World} {B g n cap : Nat} {rs : List Rw} (h : OwnR w B (some ⟨g, 0, none⟩) n cap rs) {k : Nat} (hk : k < n) {gr : Nat} (ha : (nthR rs k).a = some ⟨gr, 0, none⟩) (j : Nat) (y : Int) :
    OwnR (w.setCell ⟨gr, j, none⟩ (.int .i64 y)) B (some ⟨g, 0, none⟩) n cap (rs.set k ⟨(nthR rs k).a, (nthR rs k).c, (nthR rs k).xs.set j y⟩) := by
  have hrow := h.row hk
  have hdr := hdr_ne h.1 hrow _ _ rfl ha
  obtain ⟨h1, h2, h3, h4, h5⟩ := h
  have hv : (rs.set k ⟨(nthR rs k).a, (nthR rs k).c, (nthR rs k).xs.set j y⟩).map Rw.v = rs.map Rw.v := by
    apply List.ext_getElem?
    intro i
    by_cases hi : i < rs.length
    · rw [map_nthR _ (by simpa using hi), map_nthR _ hi, nthR_setB (by omega)]
      split
      · subst_vars; simp [Rw.v]
      · rfl
    · rw [List.getElem?_eq_none (by simp; omega), List.getElem?_eq_none (by simp; omega)]
  refine ⟨?_, by simp [h2], h3, fun i hi => ?_, fun i i' p q hii hi' hp hq => ?_⟩
  · rw [hv]
    obtain ⟨g1, g2⟩ := h1
    refine ⟨g1, ?_⟩
    rcases g2 with g2 | ⟨g', cap', cur, hv', hg, hh, r⟩
    · exact .inl g2
    · have hv2 := hv'
      simp at hv2
      obtain ⟨rfl, rfl⟩ := hv2
      exact .inr ⟨g, cap, cur, hv', hg, (Below.heap_setCell w ⟨gr, j, none⟩ _ g (show g ≠ gr from hdr)).trans hh, r⟩
  · rw [nthR_setB (by omega)]
    split
    · subst_vars
      rw [ha] at hrow ⊢
      have := (hrow.set j y).1
      simpa using this
    · rename_i hne
      have hr := h4 i hi
      refine hr.kept (g := gr) ?_ (.inr fun p hp => ?_)
      · rw [ha] at hrow; exact (hrow.set j y).2
      · rcases Nat.lt_or_gt_of_ne hne with hlt | hgt
        · exact fun e => h5 k i _ _ hlt hi ha hp e.symm
        · exact h5 i k _ _ hgt hk hp ha
  · rw [nthR_setB (by omega)] at hp hq
    refine h5 i i' p q hii hi' ?_ ?_
    · split at hp
      · subst_vars; exact hp
      · exact hp
    · split at hq
      · subst_vars; exact hq
      · exact hq
/-- In numbers. -/
theorem numsOf_inc {rs : List Rw} {tb : List (List Int)} (h : numsOf rs = tb) {a b : Nat} (ha : a < rs.length) : numsOf (rs.set a ⟨(nthR rs a).a, (nthR rs a).c, (nthR rs a).xs.set b (nth (nthR rs a).xs b + 1)⟩) = incAt tb a b := by
  rw [numsOf_set, h]
  have e : (nthR rs a).xs = rowT tb a := by rw [← h]; exact (numsOf_nth ha).symm
  rw [e]
  rfl
end Go.Proofs.Ytakadjhbomggbaa

