/- The planes between indices: in order, what is told by all of them, and labels counted plane by plane. -/
import Derived.Test.YtakadjhbomggbabMathS
namespace Go.Proofs.Ytakadjhbomggbab
open Go.RowKit

abbrev Pl := Int × Int × Int
/-- The planes of a greater index with the first f lesser ones. -/
def plRow (s : Nat) : Nat → List Pl
  | 0 => []
  | f + 1 => plRow s f ++ [((f : Int), (s : Int), 0), ((f : Int), (s : Int), 100)]
/-- The planes of the first indices. -/
def plAll : Nat → List Pl
  | 0 => []
  | s + 1 => plAll s ++ plRow s s
def nthP (ps : List Pl) (k : Nat) : Pl := ps.getD k (0, 0, 0)
theorem length_plRow (s : Nat) : ∀ f, (plRow s f).length = 2 * f
  | 0 => rfl
  | f + 1 => by simp [plRow, length_plRow s f]; omega
theorem length_plAll : ∀ n, n ≤ 8 → (plAll n).length ≤ 56 := by decide
theorem plAll_len (n : Nat) (h : n ≤ 8) : (plAll n).length ≤ 56 := length_plAll n h
theorem nthP_mem {ps : List Pl} {k : Nat} (h : k < ps.length) : nthP ps k ∈ ps := by simp [nthP, h]
theorem mem_nthP {ps : List Pl} {x : Pl} (h : x ∈ ps) : ∃ k, k < ps.length ∧ nthP ps k = x := by
  obtain ⟨k, hk, e⟩ := List.getElem_of_mem h
  exact ⟨k, hk, by simp [nthP, hk, e]⟩
theorem take_succ_nthP {ps : List Pl} {k : Nat} (h : k < ps.length) : ps.take (k + 1) = ps.take k ++ [nthP ps k] := by
  rw [List.take_succ_eq_append_getElem h]; simp [nthP, h]
theorem mem_plRow {s : Nat} {p : Pl} : ∀ {f : Nat}, p ∈ plRow s f ↔ ∃ i : Nat, i < f ∧ (p = ((i : Int), (s : Int), 0) ∨ p = ((i : Int), (s : Int), 100))
  | 0 => by simp [plRow]
  | f + 1 => by
    rw [plRow, List.mem_append, mem_plRow]
    simp only [List.mem_cons, List.not_mem_nil, or_false]
    constructor
    · rintro (⟨i, h, e⟩ | e)
      · exact ⟨i, by omega, e⟩
      · exact ⟨f, by omega, e⟩
    · rintro ⟨i, h, e⟩
      by_cases e2 : i = f
      · subst e2; exact .inr e
      · exact .inl ⟨i, by omega, e⟩
theorem mem_plAll {p : Pl} : ∀ {n : Nat}, p ∈ plAll n ↔ ∃ s i : Nat, s < n ∧ i < s ∧ (p = ((i : Int), (s : Int), 0) ∨ p = ((i : Int), (s : Int), 100))
  | 0 => by simp [plAll]
  | n + 1 => by
    rw [plAll, List.mem_append, mem_plAll, mem_plRow]
    constructor
    · rintro (⟨s, i, h1, h2, e⟩ | ⟨i, h, e⟩)
      · exact ⟨s, i, by omega, h2, e⟩
      · exact ⟨n, i, by omega, h, e⟩
    · rintro ⟨s, i, h1, h2, e⟩
      by_cases e2 : s = n
      · subst e2; exact .inr ⟨i, h2, e⟩
      · exact .inl ⟨s, i, by omega, h2, e⟩
/-- A plane of them, in words. -/
theorem plane_at {n k : Nat} (h : k < (plAll n).length) : ∃ i s : Nat, i < s ∧ s < n ∧ (nthP (plAll n) k).1 = (i : Int) ∧ (nthP (plAll n) k).2.1 = (s : Int) ∧ ((nthP (plAll n) k).2.2 = 0 ∨ (nthP (plAll n) k).2.2 = 100) := by
  obtain ⟨s, i, h1, h2, e⟩ := mem_plAll.1 (nthP_mem h)
  refine ⟨i, s, h2, h1, ?_⟩
  rcases e with e | e <;> rw [e] <;> simp

/-! ### Points -/
/-- No two numbers lie on a plane. -/
def pairPt (xs : List Int) (n : Nat) : Bool := (List.range n).all fun s => (List.range s).all fun i => !(decide (nth xs i - nth xs s = 0) || decide (nth xs i - nth xs s = 100))
theorem pairPt_iff {xs : List Int} {n : Nat} : pairPt xs n = true ↔ ∀ s i : Nat, s < n → i < s → nth xs i - nth xs s ≠ 0 ∧ nth xs i - nth xs s ≠ 100 := by
  unfold pairPt
  simp only [List.all_eq_true, List.mem_range, Bool.not_eq_true', Bool.or_eq_false_iff, decide_eq_false_iff_not]
  exact ⟨fun h s i a b => h s a i b, fun h s a i b => h s i a b⟩
def pointB (xs : List Int) : Bool := decide (xs.length ≤ 8) && (allB xs (-100000) 100000 && pairPt xs xs.length)
theorem pointB_iff {xs : List Int} : pointB xs = true ↔ xs.length ≤ 8 ∧ allB xs (-100000) 100000 = true ∧ pairPt xs xs.length = true := by simp [pointB]
/-- Is the number of the first index greater than on the plane? -/
def grX (xs : List Int) (p : Pl) : Bool := decide (p.2.2 < nth xs p.1.toNat - nth xs p.2.1.toNat)
theorem planes_pairs {xs : List Int} {n : Nat} : pairPt xs n = true ↔ ∀ k, k < (plAll n).length → nth xs (nthP (plAll n) k).1.toNat - nth xs (nthP (plAll n) k).2.1.toNat ≠ (nthP (plAll n) k).2.2 := by
  rw [pairPt_iff]
  constructor
  · intro h k hk
    obtain ⟨s, i, h1, h2, e⟩ := mem_plAll.1 (nthP_mem hk)
    have := h s i h1 h2
    rcases e with e | e <;> rw [e] <;> simp only [Int.toNat_natCast]
    · exact this.1
    · exact this.2
  · intro h s i h1 h2
    have g : ∀ c : Int, c = 0 ∨ c = 100 → nth xs i - nth xs s ≠ c := fun c hc => by
      obtain ⟨k, hk, e⟩ := mem_nthP (mem_plAll (n := n) (p := ((i : Int), (s : Int), c)) |>.2 ⟨s, i, h1, h2, by rcases hc with rfl | rfl <;> simp⟩)
      have := h k hk
      rw [e] at this
      simpa using this
    exact ⟨g 0 (.inl rfl), g 100 (.inr rfl)⟩

/-! ### Labels -/
def bump1 (L : List Int) (i : Nat) : List Int := L.set i (nth L i + 1)
/-- What a plane does to the label. -/
def labS (gr : Pl → Bool) (L : List Int) (p : Pl) : List Int :=
  if p.2.2 = 0 then (if gr p = true then L else bump1 L p.1.toNat) else (if gr p = true then bump1 L p.2.1.toNat else L)
def labTo (gr : Pl → Bool) (ps : List Pl) (L : List Int) (k : Nat) : List Int := (ps.take k).foldl (labS gr) L
theorem labTo_succ {gr : Pl → Bool} {ps : List Pl} {L : List Int} {k : Nat} (h : k < ps.length) : labTo gr ps L (k + 1) = labS gr (labTo gr ps L k) (nthP ps k) := by
  unfold labTo
  rw [take_succ_nthP h, List.foldl_append]
  rfl
/-- What an index has in its label from another one. -/
def lab1 (gr : Pl → Bool) (i j : Nat) : Int := if j < i then (if gr ((j : Int), (i : Int), 100) = true then 1 else 0) else if i < j then (if gr ((i : Int), (j : Int), 0) = true then 0 else 1) else 0
def labN (gr : Pl → Bool) (i : Nat) : Nat → Int
  | 0 => 0
  | j + 1 => labN gr i j + lab1 gr i j
theorem nth_bump {L : List Int} {i j : Nat} (h : i < L.length) : nth (bump1 L i) j = nth L j + if i = j then 1 else 0 := by
  unfold bump1
  rw [nth_set h]
  by_cases e : i = j
  · subst e; simp
  · simp [e]
theorem length_bump (L : List Int) (i : Nat) : (bump1 L i).length = L.length := by simp [bump1]
theorem length_labS (gr : Pl → Bool) (L : List Int) (p : Pl) : (labS gr L p).length = L.length := by
  unfold labS
  split <;> split <;> simp [length_bump]
theorem length_labTo (gr : Pl → Bool) (ps : List Pl) (L : List Int) (k : Nat) : (labTo gr ps L k).length = L.length := by
  unfold labTo
  generalize ps.take k = qs
  induction qs generalizing L with
  | nil => rfl
  | cons q qs ih => rw [List.foldl_cons, ih, length_labS]
theorem lab_two {gr : Pl → Bool} {L : List Int} {f s : Nat} (hf : f < s) (hs : s < L.length) (i : Nat) :
    nth (([((f : Int), (s : Int), (0 : Int)), ((f : Int), (s : Int), 100)] : List Pl).foldl (labS gr) L) i = nth L i + (if i = f then lab1 gr f s else 0) + (if i = s then lab1 gr s f else 0) := by
  simp only [List.foldl_cons, List.foldl_nil]
  have e1 : lab1 gr f s = if gr ((f : Int), (s : Int), 0) = true then 0 else 1 := by unfold lab1; rw [if_neg (by omega), if_pos hf]
  have e2 : lab1 gr s f = if gr ((f : Int), (s : Int), 100) = true then 1 else 0 := by unfold lab1; rw [if_pos hf]
  have e3 : ∀ M : List Int, labS gr M ((f : Int), (s : Int), 100) = if gr ((f : Int), (s : Int), 100) = true then bump1 M s else M := fun M => by simp [labS]
  have e4 : ∀ M : List Int, labS gr M ((f : Int), (s : Int), 0) = if gr ((f : Int), (s : Int), 0) = true then M else bump1 M f := fun M => by simp [labS]
  rw [e1, e2, e3, e4]
  by_cases g0 : gr ((f : Int), (s : Int), 0) = true <;> by_cases g1 : gr ((f : Int), (s : Int), 100) = true <;> simp only [g0, g1, if_true, if_false, Bool.false_eq_true] <;>
    (try rw [nth_bump (by simp [length_bump]; omega)]) <;> (try rw [nth_bump (by omega)]) <;>
    by_cases a : i = f <;> by_cases b : i = s <;> simp [a, b, Ne.symm, eq_comm] <;> omega
theorem lab_row {gr : Pl → Bool} {L : List Int} {s : Nat} (hs : s < L.length) : ∀ f, f ≤ s → ∀ i, nth ((plRow s f).foldl (labS gr) L) i = nth L i + (if i < f then lab1 gr i s else 0) + (if i = s then labN gr s f else 0)
  | 0, _, i => by simp [plRow, labN]
  | f + 1, hf, i => by
    have ih := lab_row (gr := gr) hs f (by omega)
    have hl : ((plRow s f).foldl (labS gr) L).length = L.length := by
      have := length_labTo gr (plRow s f) L (plRow s f).length
      unfold labTo at this
      rwa [List.take_of_length_le (Nat.le_refl _)] at this
    rw [plRow, List.foldl_append, lab_two (by omega) (by omega), ih i, labN]
    by_cases a : i = f
    · subst a
      have c1 : ¬ i < i := by omega
      have c2 : i < i + 1 := by omega
      have c3 : ¬ i = s := by omega
      simp only [c1, c2, c3, if_true, if_false]
      omega
    · have c1 : (i < f + 1) ↔ (i < f) := by omega
      simp only [c1, a, if_false]
      by_cases b : i = s
      · subst b
        have c2 : ¬ i < f := by omega
        simp only [c2, if_true, if_false]
        omega
      · simp only [b, if_false]
        omega
theorem lab_all {gr : Pl → Bool} {n : Nat} {L : List Int} (hL : L.length = n) : ∀ s, s ≤ n → ∀ i, nth ((plAll s).foldl (labS gr) L) i = nth L i + if i < s then labN gr i s else 0
  | 0, _, i => by simp [plAll]
  | s + 1, hs, i => by
    have ih := lab_all (gr := gr) hL s (by omega)
    have hl : ((plAll s).foldl (labS gr) L).length = L.length := by
      have := length_labTo gr (plAll s) L (plAll s).length
      unfold labTo at this
      rwa [List.take_of_length_le (Nat.le_refl _)] at this
    rw [plAll, List.foldl_append, lab_row (by omega) s (Nat.le_refl _) i, ih i]
    by_cases a : i < s
    · have c1 : ¬ i = s := by omega
      have c2 : i < s + 1 := by omega
      simp only [a, c1, c2, if_true, if_false]
      rw [labN]; omega
    · by_cases b : i = s
      · subst b
        have : lab1 gr i i = 0 := by simp [lab1]
        have c2 : i < i + 1 := by omega
        simp only [a, c2, if_true, if_false]
        rw [labN, this]
        omega
      · have c2 : ¬ i < s + 1 := by omega
        simp only [a, b, c2, if_false, Int.add_zero]
/-- The label, counted plane by plane. -/
theorem lab_whole {gr : Pl → Bool} (n : Nat) : labTo gr (plAll n) (List.replicate n 0) (plAll n).length = (List.range n).map fun i => labN gr i n := by
  refine ext_nth (by rw [length_labTo]; simp) (fun i hi => ?_)
  rw [length_labTo, List.length_replicate] at hi
  unfold labTo
  rw [List.take_of_length_le (Nat.le_refl _), lab_all (by simp) n (Nat.le_refl _) i, if_pos hi]
  simp [nth, hi]
theorem lab1_bounds (gr : Pl → Bool) (i j : Nat) : 0 ≤ lab1 gr i j ∧ lab1 gr i j ≤ 1 := by
  unfold lab1
  split
  · split <;> omega
  · split
    · split <;> omega
    · omega
/-- A label is made of small numbers. -/
theorem labS_bounds {gr : Pl → Bool} {ps : List Pl} {n : Nat} : ∀ k, k ≤ ps.length → ∀ i, 0 ≤ nth (labTo gr ps (List.replicate n 0) k) i ∧ nth (labTo gr ps (List.replicate n 0) k) i ≤ k
  | 0, _, i => by
    have : nth (labTo gr ps (List.replicate n 0) 0) i = 0 := by
      simp only [labTo, List.take_zero, List.foldl_nil, nth, List.getD_eq_getElem?_getD, List.getElem?_replicate]
      split <;> rfl
    rw [this]; simp
  | k + 1, hk, i => by
    have ih := labS_bounds (gr := gr) (ps := ps) (n := n) k (by omega) i
    have hb : ∀ (L : List Int) (j : Nat), nth (bump1 L j) i = nth L i ∨ nth (bump1 L j) i = nth L i + 1 := fun L j => by
      by_cases e : j < L.length
      · rw [nth_bump e]; split <;> omega
      · left; unfold bump1; rw [List.set_eq_of_length_le (by omega)]
    rw [labTo_succ (by omega)]
    unfold labS
    have h1 := hb (labTo gr ps (List.replicate n 0) k) (nthP ps k).1.toNat
    have h2 := hb (labTo gr ps (List.replicate n 0) k) (nthP ps k).2.1.toNat
    split <;> split <;> omega
/-- The model's count of an index. -/
def labX1 (xs : List Int) (i j : Nat) : Int := if (j < i ∧ 100 < nth xs j - nth xs i) ∨ (i < j ∧ nth xs i < nth xs j) then 1 else 0
def labX (xs : List Int) (i : Nat) : Nat → Int
  | 0 => 0
  | j + 1 => labX xs i j + labX1 xs i j
theorem labX_same {xs : List Int} {n i : Nat} (hp : pairPt xs n = true) (hi : i < n) : ∀ j, j ≤ n → labX xs i j = labN (grX xs) i j
  | 0, _ => rfl
  | j + 1, hj => by
    rw [labX, labN, labX_same hp hi j (by omega)]
    congr 1
    unfold labX1 lab1 grX
    simp only [Int.toNat_natCast, decide_eq_true_eq]
    rcases Nat.lt_trichotomy j i with h | h | h
    · rw [if_pos h]
      by_cases e : 100 < nth xs j - nth xs i
      · rw [if_pos (.inl ⟨h, e⟩), if_pos e]
      · rw [if_neg (by omega), if_neg e]
    · subst h
      rw [if_neg (by omega), if_neg (by omega), if_neg (by omega)]
    · have := (pairPt_iff.1 hp j i (by omega) h).1
      rw [if_neg (by omega : ¬ j < i), if_pos h]
      by_cases e : nth xs i < nth xs j
      · rw [if_pos (.inr ⟨h, e⟩), if_neg (by omega)]
      · rw [if_neg (by omega), if_pos (by omega)]
def labPt (xs : List Int) : List Int := (List.range xs.length).map fun i => labX xs i xs.length
def labelPtOf (xs : List Int) : List Int × Bool := if pointB xs then (labPt xs, true) else ([], false)
end Go.Proofs.Ytakadjhbomggbab
