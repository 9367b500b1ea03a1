/- Trees renamed, and turned at the root. -/
import Derived.Test.YtochmifhhigfhabMathUn
namespace Go.Proofs.Ytochmifhhigfhab
open Go.RowKit

def rerL (xs : List Int) (c : Int) : List Int := (List.range xs.length).map fun (i : Nat) => if (i : Int) + 1 = c then 0 else if nth xs i = 0 then c else if nth xs i = c then 0 else nth xs i
theorem length_rerL (xs : List Int) (c : Int) : (rerL xs c).length = xs.length := by simp [rerL]
theorem nth_rerL {xs : List Int} {c : Int} {i : Nat} (h : i < xs.length) : nth (rerL xs c) i = if (i : Int) + 1 = c then 0 else if nth xs i = 0 then c else if nth xs i = c then 0 else nth xs i := by simp [nth, rerL, h]
def rerOf (xs : List Int) (c : Int) : List Int × Bool := if treeB xs && hasB (nodesW xs 0) c then (rerL xs c, true) else ([], false)
theorem rer_has {xs : List Int} {n : Nat} {c : Int} (hl : xs.length = n) : hasB (nodesW xs 0) c = true ↔ 1 ≤ c ∧ c ≤ n ∧ nth xs (c.toNat - 1) = 0 := by
  rw [hasB_iff, mem_nodesW, hl]
  rfl

/-- Each of 1..n is a name, once. -/
def namesB (n : Nat) (ns : List Int) : Bool := decide (ns.length = n) && (allB ns 1 n && distB ns n)
theorem namesB_iff {n : Nat} {ns : List Int} : namesB n ns = true ↔ ns.length = n ∧ (∀ x ∈ ns, 1 ≤ x ∧ x ≤ (n : Int)) ∧ distB ns n = true := by
  simp only [namesB, Bool.and_eq_true, decide_eq_true_eq, allB_iff]
theorem names_all {n : Nat} {ns : List Int} (h : namesB n ns = true) : ∀ v : Nat, v < n → ((v : Int) + 1) ∈ ns := fun v hv => by
  obtain ⟨h1, h2, h3⟩ := namesB_iff.1 h
  have hn := nodup_take n (by omega) h3
  rw [List.take_of_length_le (by omega)] at hn
  exact full_of h1 hn h2 _ (by omega) (by omega)
theorem mem_split {xs : List Int} {i : Nat} (hi : i < xs.length) {v : Int} (h : v ∈ xs) : v = nth xs i ∨ v ∈ xs.take i ++ xs.drop (i + 1) := by
  have : v ∈ xs.take i ++ xs.drop i := by rw [List.take_append_drop]; exact h
  rw [drop_nth hi] at this
  simp only [List.mem_append, List.mem_cons] at this ⊢
  rcases this with h | h | h
  · exact .inr (.inl h)
  · exact .inl h
  · exact .inr (.inr h)
theorem all_names {n : Nat} {ns : List Int} (hl : ns.length = n) (h : ∀ v : Nat, v < n → ((v : Int) + 1) ∈ ns) : namesB n ns = true := by
  have key : ∀ i, i < n → ¬ ∀ v : Nat, v < n → ((v : Int) + 1) ∈ ns.take i ++ ns.drop (i + 1) := fun i hi hh => by
    have h1 := nodup_ge n ((ns.take i ++ ns.drop (i + 1)).map fun x => x - 1) (fun v hv => List.mem_map.2 ⟨_, hh v hv, by omega⟩)
    simp at h1
    omega
  rw [namesB_iff]
  refine ⟨hl, fun x hx => ?_, ?_⟩
  · obtain ⟨i, hi, rfl⟩ := mem_nth hx
    apply Classical.byContradiction
    intro hn
    refine key i (by omega) fun v hv => ?_
    rcases mem_split hi (h v hv) with e | e
    · omega
    · exact e
  · unfold distB
    rw [List.all_eq_true]
    intro i hi
    rw [List.mem_range] at hi
    apply Classical.byContradiction
    intro hn
    have hm : nth ns i ∈ ns.take i := by simpa [hasB] using hn
    refine key i hi fun v hv => ?_
    rcases mem_split (xs := ns) (i := i) (by omega) (h v hv) with e | e
    · rw [e, List.mem_append]; exact .inl hm
    · exact e

/-- The parents renamed, as far as the first k are. -/
def relTo (xs ns : List Int) : Nat → List Int
  | 0 => List.replicate xs.length 0
  | k + 1 => (relTo xs ns k).set ((nth ns k).toNat - 1) (if nth xs k = 0 then 0 else nth ns ((nth xs k).toNat - 1))
def relL (xs ns : List Int) : List Int := relTo xs ns xs.length
def relOf (xs ns : List Int) : List Int × Bool := if treeB xs && namesB xs.length ns then (relL xs ns, true) else ([], false)
theorem length_relTo (xs ns : List Int) : ∀ k, (relTo xs ns k).length = xs.length
  | 0 => by simp [relTo]
  | k + 1 => by simp [relTo, length_relTo xs ns k]
theorem relTo_free {xs ns : List Int} {n : Nat} (hl : xs.length = n) (h : namesB n ns = true) : ∀ k, k ≤ n → ∀ j, j < n → k ≤ j → nth (relTo xs ns k) ((nth ns j).toNat - 1) = 0
  | 0, _, j, _, _ => by simp only [relTo]; rw [nth_replicate0']
  | k + 1, hk, j, hj, hkj => by
    obtain ⟨h1, h2, h3⟩ := namesB_iff.1 h
    have hb := h2 _ (nth_mem (xs := ns) (i := k) (by omega))
    have hb2 := h2 _ (nth_mem (xs := ns) (i := j) (by omega))
    simp only [relTo]
    rw [nth_set (by rw [length_relTo]; omega)]
    have hn := nodup_take n (by omega) h3
    rw [List.take_of_length_le (by omega)] at hn
    have hne : nth ns k ≠ nth ns j := fun e => by
      have := nth_inj hn (i := k) (j := j) (by omega) (by omega) e
      omega
    rw [if_neg (by omega)]
    exact relTo_free hl h k (by omega) j hj (by omega)
theorem set_same {xs : List Int} {i : Nat} (h : i < xs.length) {y : Int} (e : nth xs i = y) : xs.set i y = xs :=
  ext_nth (by simp) fun j hj => by
    rw [nth_set h]
    split
    · subst_vars; rfl
    · rfl
theorem relTo_zero {xs ns : List Int} {n k : Nat} (hl : xs.length = n) (h : namesB n ns = true) (hk : k < n) (h0 : nth xs k = 0) : relTo xs ns (k + 1) = relTo xs ns k := by
  obtain ⟨h1, h2, h3⟩ := namesB_iff.1 h
  have hb := h2 _ (nth_mem (xs := ns) (i := k) (by omega))
  simp only [relTo, if_pos h0]
  exact set_same (by rw [length_relTo]; omega) (relTo_free hl h k (by omega) k hk (Nat.le_refl _))
theorem relTo_one {xs ns : List Int} {k : Nat} (h0 : nth xs k ≠ 0) : relTo xs ns (k + 1) = (relTo xs ns k).set ((nth ns k).toNat - 1) (nth ns ((nth xs k).toNat - 1)) := by
  simp only [relTo, if_neg h0]
theorem relTo_called {xs ns : List Int} {k p : Nat} (hp : nth xs k = (p : Int)) : relTo xs ns (k + 1) = (relTo xs ns k).set ((nth ns k).toNat - 1) (nth ([0] ++ ns) p) := by
  simp only [relTo]
  congr 1
  cases p with
  | zero => rw [hp]; simp [nth]
  | succ p =>
    have : ¬ nth xs k = 0 := by omega
    rw [if_neg this, hp]
    simp [nth]
end Go.Proofs.Ytochmifhhigfhab
