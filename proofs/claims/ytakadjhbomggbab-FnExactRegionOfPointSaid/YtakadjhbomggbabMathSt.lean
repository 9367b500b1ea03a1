/- Cars sorted by their favourites, equal ones by their numbers: what an insertion sort leaves of the cars in order. -/
import Derived.Test.YtakadjhbomggbabMathH
import Derived.Test.YtakadjhbomggbabMathS
import Derived.Sort.LotA
namespace Go.Proofs.Ytakadjhbomggbab
open Go.RowKit Go.Sort

/-- The cars with favourites below x, by their favourites. -/
def carsTo (xs : List Int) : Nat → List Int
  | 0 => []
  | x + 1 => carsTo xs x ++ idxs (fun c => decide (nth xs c = (x : Int))) xs.length
def carsL (xs : List Int) : List Int := carsTo xs xs.length
theorem mem_idxsZ {f : Nat → Bool} {n : Nat} {v : Int} : v ∈ idxs f n ↔ ∃ c : Nat, c < n ∧ f c = true ∧ v = (c : Int) := by
  unfold idxs
  simp only [List.mem_map, List.mem_filter, List.mem_range]
  constructor
  · rintro ⟨c, ⟨h1, h2⟩, h3⟩; exact ⟨c, h1, h2, h3.symm⟩
  · rintro ⟨c, h1, h2, h3⟩; exact ⟨c, ⟨h1, h2⟩, h3.symm⟩
theorem mem_carsTo {xs : List Int} (h0 : ∀ c, c < xs.length → 0 ≤ nth xs c) : ∀ {x : Nat} {v : Int}, v ∈ carsTo xs x ↔ ∃ c : Nat, c < xs.length ∧ nth xs c < (x : Int) ∧ v = (c : Int)
  | 0, v => by
    simp only [carsTo, List.not_mem_nil, false_iff]
    rintro ⟨c, h1, h2, _⟩
    have := h0 c h1
    omega
  | x + 1, v => by
    simp only [carsTo, List.mem_append, mem_carsTo h0, mem_idxsZ, decide_eq_true_eq]
    constructor
    · rintro (⟨c, h1, h2, h3⟩ | ⟨c, h1, h2, h3⟩)
      · exact ⟨c, h1, by omega, h3⟩
      · exact ⟨c, h1, by omega, h3⟩
    · rintro ⟨c, h1, h2, h3⟩
      by_cases e : nth xs c = (x : Int)
      · exact .inr ⟨c, h1, e, h3⟩
      · exact .inl ⟨c, h1, by omega, h3⟩
/-- A car's place in the order. -/
def keyC (xs : List Int) (v : Int) : Int := nth xs v.toNat * 100 + v
theorem carsTo_sorted {xs : List Int} (h8 : xs.length ≤ 50) (h0 : ∀ c, c < xs.length → 0 ≤ nth xs c) : ∀ x : Nat, (carsTo xs x).Pairwise fun v w => keyC xs v < keyC xs w
  | 0 => List.Pairwise.nil
  | x + 1 => by
    simp only [carsTo]
    rw [List.pairwise_append]
    refine ⟨carsTo_sorted h8 h0 x, ?_, fun v hv w hw => ?_⟩
    · unfold idxs
      rw [List.pairwise_map]
      have hp : ((List.range xs.length).filter fun c => decide (nth xs c = (x : Int))).Pairwise (· < ·) := List.Pairwise.filter _ (List.pairwise_lt_range)
      refine hp.imp_of_mem fun {a b} ha hb hab => ?_
      simp only [List.mem_filter, decide_eq_true_eq] at ha hb
      simp only [keyC, Int.toNat_natCast]
      omega
    · obtain ⟨c, h1, h2, rfl⟩ := (mem_carsTo h0).1 hv
      obtain ⟨d, h3, h4, rfl⟩ := mem_idxsZ.1 hw
      simp only [decide_eq_true_eq] at h4
      simp only [keyC, Int.toNat_natCast]
      omega

/-! ### An insertion sort asks only of the number that it inserts -/
theorem insInner_congr {α : Type} [Inhabited α] {lt lt' : α → α → Bool} (a : Nat) : ∀ (j : Nat) (d : Array α), j < d.size → (∀ k, k < j → lt d[j]! d[k]! = lt' d[j]! d[k]!) → insInner lt a j d = insInner lt' a j d
  | 0, d, _, _ => rfl
  | j + 1, d, hj, h => by
    unfold insInner
    rw [h j (by omega)]
    split
    · refine insInner_congr a j _ (by rw [size_swp]; omega) fun k hk => ?_
      rw [swp_right d (j + 1) j (by omega), swp_other d (j + 1) j k (by omega) (by omega)]
      exact h k (by omega)
    · rfl
theorem insInner_get {α : Type} [Inhabited α] {lt : α → α → Bool} (a : Nat) : ∀ (j : Nat) (d : Array α), j < d.size → (insInner lt a j d).size = d.size ∧ (∀ k, j < k → (insInner lt a j d)[k]! = d[k]!) ∧ ∀ k, k ≤ j → ∃ k', k' ≤ j ∧ (insInner lt a j d)[k]! = d[k']!
  | 0, d, _ => ⟨rfl, fun _ _ => rfl, fun k hk => ⟨k, hk, rfl⟩⟩
  | j + 1, d, hj => by
    unfold insInner
    split
    · obtain ⟨h1, h2, h3⟩ := insInner_get (lt := lt) a j (swp d (j + 1) j) (by rw [size_swp]; omega)
      refine ⟨by rw [h1, size_swp], fun k hk => by rw [h2 k (by omega), swp_other d (j + 1) j k (by omega) (by omega)], fun k hk => ?_⟩
      by_cases e : k = j + 1
      · subst e
        rw [h2 (j + 1) (by omega), swp_left d (j + 1) j hj (by omega)]
        exact ⟨j, by omega, rfl⟩
      · obtain ⟨k', hk', e'⟩ := h3 k (by omega)
        rw [e']
        by_cases e2 : k' = j
        · subst e2
          rw [swp_right d (k' + 1) k' (by omega)]
          exact ⟨k' + 1, by omega, rfl⟩
        · rw [swp_other d (j + 1) j k' (by omega) e2]
          exact ⟨k', by omega, rfl⟩
    · exact ⟨rfl, fun _ _ => rfl, fun k hk => ⟨k, hk, rfl⟩⟩
/-- Two orders that agree where the later number is asked for first. -/
theorem insOuter_congr {m : Nat} {lt lt' : Fin (m + 1) → Fin (m + 1) → Bool} (h : ∀ x y : Fin (m + 1), y.val < x.val → lt x y = lt' x y) (b : Nat) : ∀ (f i : Nat) (d : Array (Fin (m + 1))), b - i = f → b ≤ d.size → d.size ≤ m + 1 →
    (∀ k, k < i → k < d.size → (d[k]!).val < i) → (∀ k, i ≤ k → k < d.size → (d[k]!).val = k) → insOuter lt 0 b i d = insOuter lt' 0 b i d
  | 0, i, d, hf, hb, hm, h1, h2 => by
    unfold insOuter
    rw [if_neg (by omega), if_neg (by omega)]
  | f + 1, i, d, hf, hb, hm, h1, h2 => by
    unfold insOuter
    rw [if_pos (by omega), if_pos (by omega)]
    have e : insInner lt 0 i d = insInner lt' 0 i d := insInner_congr 0 i d (by omega) fun k hk => h _ _ (by rw [h2 i (Nat.le_refl _) (by omega)]; exact h1 k hk (by omega))
    rw [e]
    obtain ⟨g1, g2, g3⟩ := insInner_get (lt := lt') 0 i d (by omega)
    refine insOuter_congr h b f (i + 1) _ (by omega) (by rw [g1]; exact hb) (by rw [g1]; exact hm) (fun k hk hs => ?_) (fun k hk hs => ?_)
    · obtain ⟨k', hk', e'⟩ := g3 k (by omega)
      rw [e']
      by_cases e2 : k' = i
      · subst e2
        rw [h2 k' (Nat.le_refl _) (by omega)]
        omega
      · have := h1 k' (by omega) (by omega)
        omega
    · rw [g2 k (by omega)]
      exact h2 k (by omega) (by rw [g1] at hs; exact hs)

/-- A permutation, in order: what a sort leaves. -/
theorem sorted_cars_list {α : Type} [Inhabited α] {lt : α → α → Bool} {ds : List α} {d' : Array α} {n : Nat} (hn : ds.length = n) (hp : PermIn 0 n ds.toArray d') (hs : SortedIn lt 0 n d') : d'.toList.Perm ds ∧ d'.toList.Pairwise (fun x y => lt y x = false) := by
  subst hn
  obtain ⟨h1, _, h3⟩ := hp
  have hsz : d'.size = ds.length := by simpa using h1
  constructor
  · have e1 : d'.extract 0 ds.length = d' := by rw [← hsz]; simp
    have e2 : ds.toArray.extract 0 ds.length = ds.toArray := by simp
    rw [e1, e2] at h3
    simpa using h3
  · rw [List.pairwise_iff_getElem]
    intro i j hi hj hij
    have := hs i j (Nat.zero_le _) hij (by simpa [hsz] using hj)
    have hi' : i < d'.size := by simpa using hi
    have hj' : j < d'.size := by simpa using hj
    rw [getElem!_pos d' j hj', getElem!_pos d' i hi'] at this
    simpa using this

def allFin (m : Nat) : List (Fin (m + 1)) := List.finRange (m + 1)
theorem allFin_get {m k : Nat} (hk : k < m + 1) : ((allFin m).toArray[k]!).val = k := by
  rw [getElem!_pos _ k (by simp [allFin]; exact hk)]
  simp [allFin]
/-- The cars in order, sorted by favourites, are those that are listed. -/
theorem sort_cars {m : Nat} {xs : List Int} (hl : xs.length = m + 1) (h8 : m + 1 ≤ 50) (hb : ∀ c, c < m + 1 → 0 ≤ nth xs c ∧ nth xs c < (m : Int) + 1) :
    (insertionSort (fun x y : Fin (m + 1) => decide (nth xs x.val < nth xs y.val)) (allFin m).toArray 0 (m + 1)).toList.map (fun i => ((i.val : Nat) : Int)) = carsL xs := by
  have hsz : (allFin m).toArray.size = m + 1 := by simp [allFin]
  have hcong : insertionSort (fun x y : Fin (m + 1) => decide (nth xs x.val < nth xs y.val)) (allFin m).toArray 0 (m + 1) = insertionSort (fun x y : Fin (m + 1) => decide (keyC xs x.val < keyC xs y.val)) (allFin m).toArray 0 (m + 1) := by
    unfold insertionSort
    refine insOuter_congr (fun x y hxy => ?_) (m + 1) m 1 _ (by omega) (by rw [hsz]; omega) (by rw [hsz]; omega) (fun k hk hs => ?_) (fun k hk hs => ?_)
    · have hx := hb x.val x.isLt
      have hy := hb y.val y.isLt
      have h1 := x.isLt
      unfold keyC
      rw [Int.toNat_natCast, Int.toNat_natCast]
      rw [decide_eq_decide]
      omega
    · rw [allFin_get (by omega)]; exact hk
    · rw [allFin_get (by omega)]
  rw [hcong]
  have hswo : SWO (fun x y : Fin (m + 1) => decide (keyC xs x.val < keyC xs y.val)) := ⟨fun x => by simp, fun x y z h1 h2 => by simp at *; omega, fun x y z h1 h2 => by simp at *; omega⟩
  obtain ⟨hp, hs⟩ := insertionSort_holds hswo (allFin m).toArray 0 (m + 1) (by omega) (by rw [hsz]; omega)
  generalize insertionSort (fun x y : Fin (m + 1) => decide (keyC xs x.val < keyC xs y.val)) (allFin m).toArray 0 (m + 1) = d' at hp hs ⊢
  have hlen : (allFin m).length = m + 1 := by simp [allFin]
  obtain ⟨q1, q2⟩ := sorted_cars_list hlen hp hs
  have h0 : ∀ c, c < xs.length → 0 ≤ nth xs c := fun c hc => (hb c (by omega)).1
  have hsorted := carsTo_sorted (by omega) h0 xs.length
  have hmem : ∀ v : Int, v ∈ carsL xs ↔ v ∈ (allFin m).map (fun i => ((i.val : Nat) : Int)) := fun v => by
    unfold carsL
    rw [mem_carsTo h0, List.mem_map]
    constructor
    · rintro ⟨c, h1, h2, rfl⟩
      exact ⟨⟨c, by omega⟩, by simp [allFin], rfl⟩
    · rintro ⟨c, _, rfl⟩
      have h1 := c.isLt
      exact ⟨c.val, by omega, by have := hb c.val h1; omega, rfl⟩
  have hnd : (carsL xs).Nodup := hsorted.imp fun {a b} hab => by rintro rfl; omega
  have hnd2 : ((allFin m).map (fun i => ((i.val : Nat) : Int))).Nodup := by
    unfold allFin
    refine List.Pairwise.map _ (fun a b hab => ?_) (List.nodup_finRange (m + 1))
    intro e
    exact hab (Fin.ext (by omega))
  have hperm : (carsL xs).Perm ((allFin m).map (fun i => ((i.val : Nat) : Int))) := (List.perm_ext_iff_of_nodup hnd hnd2).2 hmem
  have hd : (d'.toList.map (fun i => ((i.val : Nat) : Int))).Perm (carsL xs) := (q1.map _).trans hperm.symm
  refine List.Perm.eq_of_pairwise (le := fun v w => keyC xs v ≤ keyC xs w) (fun a b ha hb' h1 h2 => ?_) ?_ (hsorted.imp fun {a b} hab => by omega) hd
  · have ha' := (hmem a).1 (hd.subset ha)
    have hb'' := (hmem b).1 hb'
    simp only [List.mem_map] at ha' hb''
    obtain ⟨i, _, rfl⟩ := ha'
    obtain ⟨j, _, rfl⟩ := hb''
    have hi := hb i.val i.isLt
    have hj := hb j.val j.isLt
    have h3 := i.isLt
    have h4 := j.isLt
    unfold keyC at h1 h2
    rw [Int.toNat_natCast, Int.toNat_natCast] at h1 h2
    omega
  · rw [List.pairwise_map]
    exact q2.imp fun {a b} hab => by simp at hab; omega
theorem carsL_perm {xs : List Int} {n : Nat} (hl : xs.length = n) (h8 : n ≤ 50) (hb : ∀ c, c < n → 0 ≤ nth xs c ∧ nth xs c < (n : Int)) : (carsL xs).Perm (upto n) := by
  subst hl
  have h0 : ∀ c, c < xs.length → 0 ≤ nth xs c := fun c hc => (hb c hc).1
  have hsorted := carsTo_sorted h8 h0 xs.length
  have hnd : (carsL xs).Nodup := hsorted.imp fun {a b} hab => by rintro rfl; omega
  have hnd2 : (upto xs.length).Nodup := by
    unfold upto
    refine List.Pairwise.map _ (fun a b hab => ?_) (List.nodup_range)
    intro e
    exact hab (by omega)
  refine (List.perm_ext_iff_of_nodup hnd hnd2).2 fun v => ?_
  unfold carsL
  rw [mem_carsTo h0]
  unfold upto
  rw [List.mem_map]
  simp only [List.mem_range]
  constructor
  · rintro ⟨c, h1, _, rfl⟩; exact ⟨c, h1, rfl⟩
  · rintro ⟨c, h1, rfl⟩; exact ⟨c, h1, (hb c h1).2, rfl⟩
theorem length_carsL {xs : List Int} {n : Nat} (hl : xs.length = n) (h8 : n ≤ 50) (hb : ∀ c, c < n → 0 ≤ nth xs c ∧ nth xs c < (n : Int)) : (carsL xs).length = n := by
  rw [(carsL_perm hl h8 hb).length_eq, length_upto]
/-- The heights of cars in a row. -/
def hgtOf (xs ls : List Int) : List Int := (List.range ls.length).map fun (i : Nat) => (i : Int) - nth xs (nth ls i).toNat
theorem length_hgtOf (xs ls : List Int) : (hgtOf xs ls).length = ls.length := by simp [hgtOf]
theorem nth_hgtOf {xs ls : List Int} {i : Nat} (h : i < ls.length) : nth (hgtOf xs ls) i = (i : Int) - nth xs (nth ls i).toNat := by simp [nth, hgtOf, h]
def walkOf (xs : List Int) : (List Int × List Int) × Bool := if isPark xs then ((hgtOf xs (carsL xs), carsL xs), true) else (([], []), false)
end Go.Proofs.Ytakadjhbomggbab
