/- Trees told by parents: what is above a node, children, neighbours. -/
import Derived.Test.YtakadjhbomggbabMath1
import Derived.Test.YtakadjhbomggbabMathO
import Derived.Test.YtakadjhbomggbabMathP
namespace Go.Proofs.Ytakadjhbomggbab
open Go.RowKit

theorem nth_replicate0' (n i : Nat) : nth (List.replicate n 0) i = 0 := by
  simp [nth, List.getElem?_replicate]
  split <;> rfl
/-- The parent of a node. -/
def par (ps : List Int) (v : Int) : Int := nth ps (v.toNat - 1)
/-- Where k steps up lead; the root stays. -/
def up (ps : List Int) (v : Int) : Nat → Int
  | 0 => v
  | k + 1 => if up ps v k = 0 then 0 else par ps (up ps v k)
/-- The first k that are above a node. -/
def upTo (ps : List Int) (v : Int) (k : Nat) : List Int := (List.range k).map fun j => up ps v (j + 1)
theorem upTo_succ (ps : List Int) (v : Int) (k : Nat) : upTo ps v (k + 1) = upTo ps v k ++ [up ps v (k + 1)] := by simp [upTo, List.range_succ]
theorem length_upTo (ps : List Int) (v : Int) (k : Nat) : (upTo ps v k).length = k := by simp [upTo]
theorem up_succ {ps : List Int} {v : Int} {k : Nat} (h : up ps v k ≠ 0) : up ps v (k + 1) = par ps (up ps v k) := by simp [up, h]
theorem up_zero {ps : List Int} {v : Int} {k : Nat} (h : up ps v k = 0) : ∀ m, k ≤ m → up ps v m = 0
  | 0, hm => by obtain rfl : k = 0 := by omega
                exact h
  | m + 1, hm => by
    by_cases e : k = m + 1
    · subst e; exact h
    · have := up_zero h m (by omega)
      simp [up, this]
theorem up_add (ps : List Int) (v : Int) (k : Nat) : ∀ m, up ps v (k + m) = up ps (up ps v k) m
  | 0 => rfl
  | m + 1 => by rw [← Nat.add_assoc]; simp only [up]; rw [up_add ps v k m]

/-- The numbers are those of a tree's parents: within bounds, and from each node they lead to the root. -/
def treeB (ps : List Int) : Bool := decide (ps.length ≤ 8) && (allB ps 0 ps.length && (List.range ps.length).all fun i => decide (up ps ((i : Int) + 1) ps.length = 0))
theorem treeB_iff {ps : List Int} : treeB ps = true ↔ ps.length ≤ 8 ∧ (∀ x ∈ ps, 0 ≤ x ∧ x ≤ (ps.length : Int)) ∧ ∀ i, i < ps.length → up ps ((i : Int) + 1) ps.length = 0 := by
  simp only [treeB, Bool.and_eq_true, decide_eq_true_eq, allB_iff, List.all_eq_true, List.mem_range]
theorem treeB_cars (ps : List Int) (n : Nat) (hn : ps.length = n) : treeB ps = (carsB ps ((n : Int) + 1) && (List.range n).all fun i => decide (up ps ((i : Int) + 1) n = 0)) := by
  subst hn
  simp only [treeB, carsB, Bool.and_assoc, show ((ps.length : Int) + 1 - 1) = ps.length by omega]
theorem treeB_no {ps : List Int} {i : Nat} (hi : i < ps.length) (h : up ps ((i : Int) + 1) ps.length ≠ 0) : treeB ps = false := by
  rw [← Bool.not_eq_true, treeB_iff]
  exact fun hh => h (hh.2.2 i hi)
theorem treeB_nil : treeB [] = true := by decide

structure Tree (ps : List Int) (n : Nat) : Prop where
  len : ps.length = n
  le : n ≤ 8
  nthB : ∀ i, i < n → 0 ≤ nth ps i ∧ nth ps i ≤ (n : Int)
  top : ∀ i, i < n → up ps ((i : Int) + 1) n = 0
theorem tree_of {ps : List Int} {n : Nat} (h : treeB ps = true) (hn : ps.length = n) : Tree ps n := by
  obtain ⟨h1, h2, h3⟩ := treeB_iff.1 h
  subst hn
  exact ⟨rfl, h1, fun i hi => h2 _ (nth_mem hi), h3⟩
theorem Tree.b {ps : List Int} {n : Nat} (h : Tree ps n) : treeB ps = true := by
  obtain ⟨rfl, h1, h2, h3⟩ := h
  rw [treeB_iff]
  refine ⟨h1, fun x hx => ?_, h3⟩
  obtain ⟨i, hi, rfl⟩ := mem_nth hx
  exact h2 i hi
theorem Tree.par {ps : List Int} {n : Nat} (h : Tree ps n) {v : Int} (h1 : 1 ≤ v) (h2 : v ≤ n) : 0 ≤ Go.Proofs.Ytakadjhbomggbab.par ps v ∧ Go.Proofs.Ytakadjhbomggbab.par ps v ≤ n := by
  exact h.nthB _ (by omega)
theorem Tree.root {ps : List Int} {n : Nat} (h : Tree ps n) {v : Int} (h1 : 0 ≤ v) (h2 : v ≤ n) : up ps v n = 0 := by
  by_cases e : v = 0
  · subst e; exact up_zero (k := 0) rfl n (by omega)
  · have := h.top (v.toNat - 1) (by omega)
    rwa [show (((v.toNat - 1 : Nat) : Int) + 1) = v by omega] at this
theorem Tree.up_bounds {ps : List Int} {n : Nat} (h : Tree ps n) {v : Int} (h1 : 0 ≤ v) (h2 : v ≤ n) : ∀ k, 0 ≤ up ps v k ∧ up ps v k ≤ n
  | 0 => ⟨h1, h2⟩
  | k + 1 => by
    obtain ⟨h3, h4⟩ := Tree.up_bounds h h1 h2 k
    by_cases e : up ps v k = 0
    · simp [up, e]
    · rw [up_succ e]; exact h.par (by omega) h4

/-- How many steps lead from a node to the root. -/
def depG (ps : List Int) (v : Int) : Nat → Nat → Nat
  | 0, k => k
  | f + 1, k => if up ps v k = 0 then k else depG ps v f (k + 1)
def dep (ps : List Int) (v : Int) : Nat := depG ps v ps.length 0
theorem depG_is {ps : List Int} {v : Int} {d : Nat} (h : up ps v d = 0) (h' : ∀ j, j < d → up ps v j ≠ 0) : ∀ f k, k ≤ d → d ≤ k + f → depG ps v f k = d
  | 0, k, h1, h2 => by simp only [depG]; omega
  | f + 1, k, h1, h2 => by
    by_cases e : k = d
    · subst e; simp [depG, h]
    · simp only [depG, if_neg (h' k (by omega))]
      exact depG_is h h' f (k + 1) (by omega) (by omega)
theorem dep_is {ps : List Int} {v : Int} {d : Nat} (h : up ps v d = 0) (h' : ∀ j, j < d → up ps v j ≠ 0) (hd : d ≤ ps.length) : dep ps v = d := depG_is h h' _ _ (by omega) (by omega)
theorem least_zero {ps : List Int} {v : Int} : ∀ m, up ps v m = 0 → ∃ d, d ≤ m ∧ up ps v d = 0 ∧ ∀ j, j < d → up ps v j ≠ 0
  | 0, h => ⟨0, by omega, h, by omega⟩
  | m + 1, h => by
    by_cases e : up ps v m = 0
    · obtain ⟨d, h1, h2⟩ := least_zero m e
      exact ⟨d, by omega, h2⟩
    · refine ⟨m + 1, by omega, h, fun j hj hz => ?_⟩
      exact e (up_zero hz m (by omega))
theorem Tree.dep {ps : List Int} {n : Nat} (h : Tree ps n) {v : Int} (h1 : 0 ≤ v) (h2 : v ≤ n) : up ps v (Go.Proofs.Ytakadjhbomggbab.dep ps v) = 0 ∧ (∀ j, j < Go.Proofs.Ytakadjhbomggbab.dep ps v → up ps v j ≠ 0) ∧ Go.Proofs.Ytakadjhbomggbab.dep ps v ≤ n := by
  obtain ⟨d, hd, h3, h4⟩ := least_zero n (h.root h1 h2)
  rw [dep_is h3 h4 (by rw [h.len]; exact hd)]
  exact ⟨h3, h4, hd⟩
theorem Tree.dep_par {ps : List Int} {n : Nat} (h : Tree ps n) {v : Int} (h1 : 1 ≤ v) (h2 : v ≤ n) : Go.Proofs.Ytakadjhbomggbab.dep ps v = Go.Proofs.Ytakadjhbomggbab.dep ps (Go.Proofs.Ytakadjhbomggbab.par ps v) + 1 := by
  obtain ⟨p1, p2⟩ := h.par h1 h2
  obtain ⟨d1, d2, d3⟩ := h.dep p1 p2
  have e1 : up ps v 1 = Go.Proofs.Ytakadjhbomggbab.par ps v := by simp [up, show v ≠ 0 by omega]
  have hs : ∀ k, up ps v (k + 1) = up ps (Go.Proofs.Ytakadjhbomggbab.par ps v) k := fun k => by rw [Nat.add_comm, up_add, e1]
  obtain ⟨f1, f2, f3⟩ := h.dep (v := v) (by omega) h2
  have hne : Go.Proofs.Ytakadjhbomggbab.dep ps v ≠ 0 := fun e => by
    rw [e] at f1
    simp [up] at f1
    omega
  obtain ⟨k, hk⟩ : ∃ k, Go.Proofs.Ytakadjhbomggbab.dep ps v = k + 1 := ⟨Go.Proofs.Ytakadjhbomggbab.dep ps v - 1, by omega⟩
  rw [hk] at f1 f2 f3 ⊢
  rw [hs] at f1
  rcases Nat.lt_trichotomy k (Go.Proofs.Ytakadjhbomggbab.dep ps (Go.Proofs.Ytakadjhbomggbab.par ps v)) with hlt | he | hgt
  · exact absurd f1 (d2 k hlt)
  · omega
  · have := f2 (Go.Proofs.Ytakadjhbomggbab.dep ps (Go.Proofs.Ytakadjhbomggbab.par ps v) + 1) (by omega)
    rw [hs] at this
    exact absurd d1 this
/-- What is above a node, in order, the root last. -/
def abv (ps : List Int) (v : Int) : List Int := upTo ps v (dep ps v)

/-! ### Children, neighbours, degrees -/
def nodesTo (xs : List Int) (x : Int) (k : Nat) : List Int := ((List.range k).filter fun i => decide (nth xs i = x)).map fun (i : Nat) => (i : Int) + 1
def nodesW (xs : List Int) (x : Int) : List Int := nodesTo xs x xs.length
theorem nodesTo_zero (xs : List Int) (x : Int) : nodesTo xs x 0 = [] := rfl
theorem nodesTo_yes {xs : List Int} {x : Int} {k : Nat} (h : nth xs k = x) : nodesTo xs x (k + 1) = nodesTo xs x k ++ [(k : Int) + 1] := by simp [nodesTo, List.range_succ, h]
theorem nodesTo_no {xs : List Int} {x : Int} {k : Nat} (h : nth xs k ≠ x) : nodesTo xs x (k + 1) = nodesTo xs x k := by simp [nodesTo, List.range_succ, h]
theorem length_nodesTo (xs : List Int) (x : Int) (k : Nat) : (nodesTo xs x k).length ≤ k := by
  unfold nodesTo
  rw [List.length_map]
  exact Nat.le_trans (List.length_filter_le _ _) (by simp)
theorem mem_nodesTo {xs : List Int} {x v : Int} {k : Nat} : v ∈ nodesTo xs x k ↔ ∃ i, i < k ∧ nth xs i = x ∧ v = (i : Int) + 1 := by
  simp only [nodesTo, List.mem_map, List.mem_filter, List.mem_range, decide_eq_true_eq]
  constructor
  · rintro ⟨i, ⟨h1, h2⟩, rfl⟩; exact ⟨i, h1, h2, rfl⟩
  · rintro ⟨i, h1, h2, rfl⟩; exact ⟨i, ⟨h1, h2⟩, rfl⟩
theorem mem_nodesW {xs : List Int} {x v : Int} : v ∈ nodesW xs x ↔ 1 ≤ v ∧ v ≤ xs.length ∧ par xs v = x := by
  unfold nodesW
  rw [mem_nodesTo]
  constructor
  · rintro ⟨i, h1, h2, rfl⟩
    exact ⟨by omega, by omega, by unfold par; rw [show ((i : Int) + 1).toNat - 1 = i by omega]; exact h2⟩
  · rintro ⟨h1, h2, h3⟩
    exact ⟨v.toNat - 1, by omega, h3, by omega⟩
theorem nodup_nodesTo (xs : List Int) (x : Int) : ∀ k, (nodesTo xs x k).Nodup
  | 0 => by simp [nodesTo]
  | k + 1 => by
    by_cases h : nth xs k = x
    · rw [nodesTo_yes h, List.nodup_append]
      refine ⟨nodup_nodesTo xs x k, by simp, fun a ha b hb => ?_⟩
      obtain ⟨i, h1, _, rfl⟩ := mem_nodesTo.1 ha
      simp at hb
      omega
    · rw [nodesTo_no h]; exact nodup_nodesTo xs x k
theorem nodesTo_count {xs : List Int} (x : Int) : ∀ k, k ≤ xs.length → (nodesTo xs x k).length = (xs.take k).count x
  | 0, _ => by simp [nodesTo]
  | k + 1, h => by
    have ih := nodesTo_count (xs := xs) x k (by omega)
    rw [take_succ_nth (by omega), List.count_append]
    by_cases e : nth xs k = x
    · rw [nodesTo_yes e]; simp [ih, e]
    · rw [nodesTo_no e]; simp [ih, e]
theorem nodesW_count (xs : List Int) (x : Int) : (nodesW xs x).length = xs.count x := by
  unfold nodesW
  rw [nodesTo_count x _ (Nat.le_refl _), List.take_length]

/-- How many neighbours a node has. -/
def deg (ps : List Int) (v : Nat) : Nat := (if v = 0 then 0 else 1) + ps.count (v : Int)
def degL (ps : List Int) : List Int := (List.range (ps.length + 1)).map fun (v : Nat) => (deg ps v : Int)
theorem length_degL (ps : List Int) : (degL ps).length = ps.length + 1 := by simp [degL]
theorem nth_degL {ps : List Int} {v : Nat} (h : v ≤ ps.length) : nth (degL ps) v = (deg ps v : Int) := by
  simp [nth, degL, show v < ps.length + 1 by omega]
/-- The neighbours, the parent first. -/
def near (ps : List Int) (v : Int) : List Int := (if v = 0 then [] else [par ps v]) ++ nodesW ps v
theorem length_near (ps : List Int) (v : Nat) : (near ps v).length = deg ps v := by
  unfold near deg
  rw [List.length_append, nodesW_count]
  by_cases h : v = 0
  · subst h; simp
  · simp [h]
/-- Degrees as they are counted, behind k nodes. -/
def degTo (ps : List Int) (k : Nat) (v : Nat) : Nat := (if 1 ≤ v ∧ v ≤ k then 1 else 0) + (ps.take k).count (v : Int)
theorem degTo_all {ps : List Int} {v : Nat} (h : v ≤ ps.length) : degTo ps ps.length v = deg ps v := by
  unfold degTo deg
  rw [List.take_length]
  by_cases e : v = 0
  · subst e; simp
  · rw [if_pos (by omega), if_neg e]
theorem degTo_succ {ps : List Int} {k : Nat} (h : k < ps.length) (v : Nat) : degTo ps (k + 1) v = degTo ps k v + (if nth ps k = (v : Int) then 1 else 0) + (if v = k + 1 then 1 else 0) := by
  unfold degTo
  rw [take_succ_nth h, List.count_append]
  have : [nth ps k].count (v : Int) = if nth ps k = (v : Int) then 1 else 0 := by
    by_cases e : nth ps k = (v : Int) <;> simp [e]
  rw [this]
  generalize (if nth ps k = (v : Int) then 1 else 0) = q
  by_cases e : v = k + 1
  · subst e; rw [if_pos (by omega), if_neg (by omega), if_pos rfl]; omega
  · rw [if_neg e]
    by_cases e2 : 1 ≤ v ∧ v ≤ k
    · rw [if_pos (by omega), if_pos e2]; omega
    · rw [if_neg (by omega), if_neg e2]; omega
theorem degTo_le {ps : List Int} (k v : Nat) (h : ps.length ≤ 8) : degTo ps k v ≤ 9 := by
  unfold degTo
  have h1 : (ps.take k).count (v : Int) ≤ (ps.take k).length := List.count_le_length
  have h2 : (ps.take k).length ≤ ps.length := by simp; omega
  split <;> omega

/-- The leaves. -/
def leavesL (ps : List Int) : List Int := nodesW (List.drop 1 (degL ps)) 1
end Go.Proofs.Ytakadjhbomggbab
