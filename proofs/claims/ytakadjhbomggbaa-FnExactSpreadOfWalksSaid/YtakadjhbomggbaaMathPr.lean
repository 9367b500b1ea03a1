/- Words of trees: leaves taken away, and put back. -/
import Derived.Test.YtakadjhbomggbaaMathBf
namespace Go.Proofs.Ytakadjhbomggbaa
open Go.RowKit

/-- The greatest number of 1..m that passes, 0 if there is none. -/
def grt (f : Int → Bool) : Nat → Int
  | 0 => 0
  | m + 1 => if f ((m : Int) + 1) then (m : Int) + 1 else grt f m
theorem grt_is {f : Int → Bool} {x : Nat} (h1 : 1 ≤ x) (hf : f x = true) : ∀ m, x ≤ m → (∀ v : Nat, x < v → v ≤ m → f v = false) → grt f m = x
  | 0, h, _ => by omega
  | m + 1, h, hn => by
    by_cases e : x = m + 1
    · subst e
      have hf' : f ((m : Int) + 1) = true := by exact_mod_cast hf
      simp [grt, hf']
    · have := hn (m + 1) (by omega) (by omega)
      have h' : f ((m : Int) + 1) = false := by exact_mod_cast this
      simp only [grt, h']
      exact grt_is h1 hf m (by omega) (fun v h2 h3 => hn v h2 (by omega))
theorem grt_ex {f : Int → Bool} : ∀ m : Nat, (∃ v : Nat, 1 ≤ v ∧ v ≤ m ∧ f v = true) → ∃ x : Nat, 1 ≤ x ∧ x ≤ m ∧ f x = true ∧ grt f m = x ∧ ∀ v : Nat, x < v → v ≤ m → f v = false
  | 0, ⟨v, h1, h2, _⟩ => by omega
  | m + 1, ⟨v, h1, h2, h3⟩ => by
    by_cases e : f ((m : Int) + 1) = true
    · exact ⟨m + 1, by omega, by omega, by exact_mod_cast e, by simp [grt, e], by intro v h4 h5; omega⟩
    · have hv : v ≠ m + 1 := fun hh => e (by subst hh; exact_mod_cast h3)
      obtain ⟨x, q1, q2, q3, q4, q5⟩ := grt_ex m ⟨v, h1, by omega, h3⟩
      refine ⟨x, q1, by omega, q3, by simp [grt, e, q4], fun v h4 h5 => ?_⟩
      by_cases e2 : v = m + 1
      · subst e2; simpa using e
      · exact q5 v h4 (by omega)

/-- How many children of a node are left. -/
def kids (ps g : List Int) (v : Int) : Nat := (nodesW ps v).countP fun u => !hasB g u
theorem kids_zero {ps g : List Int} {v : Int} : kids ps g v = 0 ↔ ∀ u : Int, 1 ≤ u → u ≤ ps.length → par ps u = v → u ∈ g := by
  unfold kids
  rw [List.countP_eq_zero]
  constructor
  · intro h u h1 h2 h3
    have := h u (mem_nodesW.2 ⟨h1, h2, h3⟩)
    simpa [hasB] using this
  · intro h u hu
    obtain ⟨h1, h2, h3⟩ := mem_nodesW.1 hu
    simpa [hasB] using h u h1 h2 h3
theorem countP_snoc {u : Int} {g : List Int} (hu : u ∉ g) : ∀ {l : List Int}, l.Nodup → l.countP (fun x => !hasB g x) = l.countP (fun x => !hasB (g ++ [u]) x) + if u ∈ l then 1 else 0
  | [], _ => rfl
  | y :: l, h => by
    have ih := countP_snoc hu (List.nodup_cons.1 h).2
    have hy := (List.nodup_cons.1 h).1
    rw [List.countP_cons, List.countP_cons, ih]
    by_cases e : y = u
    · subst e
      simp [hasB, hu, hy]
    · have e' : ¬ u = y := fun h => e h.symm
      have e1 : hasB (g ++ [u]) y = hasB g y := by simp [hasB, e]
      have e2 : (u ∈ y :: l) ↔ u ∈ l := by simp [e']
      rw [e1]
      simp only [e2]
      omega
theorem kids_snoc {ps g : List Int} {u : Int} (hu : u ∉ g) (h1 : 1 ≤ u) (h2 : u ≤ ps.length) (v : Int) : kids ps g v = kids ps (g ++ [u]) v + if par ps u = v then 1 else 0 := by
  unfold kids
  rw [countP_snoc hu (l := nodesW ps v) (nodup_nodesTo _ _ _)]
  congr 1
  by_cases e : par ps u = v
  · rw [if_pos (mem_nodesW.2 ⟨h1, h2, e⟩), if_pos e]
  · rw [if_neg (fun h => e (mem_nodesW.1 h).2.2), if_neg e]
theorem kids_le (ps g : List Int) (v : Int) : kids ps g v ≤ ps.length := Nat.le_trans List.countP_le_length (length_nodesTo _ _ _)
theorem kids_nil (ps : List Int) (v : Int) : kids ps [] v = ps.count v := by
  unfold kids
  rw [← nodesW_count, List.countP_eq_length]
  simp [hasB]

/-- A leaf among those that are left. -/
def lf (ps g : List Int) (v : Int) : Bool := !hasB g v && decide (kids ps g v = 0)
theorem lf_iff {ps g : List Int} {v : Int} : lf ps g v = true ↔ v ∉ g ∧ kids ps g v = 0 := by simp [lf, hasB]
/-- Those that are taken away, in order. -/
def pruG (ps : List Int) : Nat → List Int
  | 0 => []
  | k + 1 => pruG ps k ++ [grt (lf ps (pruG ps k)) ps.length]
/-- Nodes are taken away below first. -/
structure Gone (ps : List Int) (g : List Int) (k : Nat) : Prop where
  len : g.length = k
  mem : ∀ v ∈ g, (1 : Int) ≤ v ∧ v ≤ ps.length
  nodup : g.Nodup
  down : ∀ u : Int, 1 ≤ u → u ≤ ps.length → par ps u ∈ g → u ∈ g
theorem gone_nil (ps : List Int) : Gone ps [] 0 := ⟨rfl, by simp, by simp, by simp⟩
theorem left_ex {n : Nat} {g : List Int} (h : g.length < n) : ∃ v : Nat, 1 ≤ v ∧ v ≤ n ∧ (v : Int) ∉ g := by
  apply Classical.byContradiction
  intro hh
  have h2 := nodup_ge n (g.map fun x => x - 1) (fun v hv => by
    have h1 : ((v + 1 : Nat) : Int) ∈ g := Classical.byContradiction fun h3 => hh ⟨v + 1, by omega, by omega, h3⟩
    exact List.mem_map.2 ⟨_, h1, by omega⟩)
  simp at h2
  omega
theorem leaf_ex {ps g : List Int} {n : Nat} (ht : Tree ps n) : ∀ (d : Nat) (v : Nat), 1 ≤ v → v ≤ n → (v : Int) ∉ g → n - dep ps v = d → ∃ x : Nat, 1 ≤ x ∧ x ≤ n ∧ lf ps g x = true
  | d, v, h1, h2, h3, hd => by
    by_cases hk : kids ps g v = 0
    · exact ⟨v, h1, h2, lf_iff.2 ⟨h3, hk⟩⟩
    · rw [kids_zero] at hk
      obtain ⟨u, hu⟩ := Classical.not_forall.1 hk
      have hu1 : 1 ≤ u := Classical.byContradiction fun h => hu fun a => absurd a h
      have hu2 : u ≤ ps.length := Classical.byContradiction fun h => hu fun _ a => absurd a h
      have hu3 : par ps u = v := Classical.byContradiction fun h => hu fun _ _ a => absurd a h
      have hu4 : u ∉ g := fun h => hu fun _ _ _ => h
      rw [ht.len] at hu2
      have h4 := ht.dep_par hu1 hu2
      have h5 := (ht.dep (v := u) (by omega) hu2).2.2
      rw [hu3] at h4
      match d, hd with
      | 0, hd => omega
      | d + 1, hd => exact leaf_ex ht d u.toNat (by omega) (by omega) (by rw [Int.toNat_of_nonneg (by omega)]; exact hu4) (by rw [Int.toNat_of_nonneg (by omega)]; omega)
theorem gone_step {ps g : List Int} {n k : Nat} (ht : Tree ps n) (hg : Gone ps g k) (hk : k < n) :
    ∃ x : Nat, 1 ≤ x ∧ x ≤ n ∧ lf ps g x = true ∧ grt (lf ps g) n = x ∧ (∀ v : Nat, x < v → v ≤ n → lf ps g v = false) ∧ Gone ps (g ++ [(x : Int)]) (k + 1) := by
  obtain ⟨v, h1, h2, h3⟩ := left_ex (n := n) (g := g) (by rw [hg.len]; exact hk)
  obtain ⟨x, q1, q2, q3, q4, q5⟩ := grt_ex n (leaf_ex ht _ v h1 h2 h3 rfl)
  obtain ⟨q6, q7⟩ := lf_iff.1 q3
  refine ⟨x, q1, q2, q3, q4, q5, ⟨by simp [hg.len], fun v hv => ?_, ?_, fun u u1 u2 u3 => ?_⟩⟩
  · rcases List.mem_append.1 hv with hv | hv
    · exact hg.mem v hv
    · simp at hv; subst hv; rw [ht.len]; omega
  · rw [List.nodup_append]
    exact ⟨hg.nodup, by simp, fun a ha b hb => by simp at hb; subst hb; rintro rfl; exact q6 ha⟩
  · rcases List.mem_append.1 u3 with u3 | u3
    · simp [hg.down u u1 u2 u3]
    · simp at u3
      have := kids_zero.1 q7 u u1 u2 u3
      simp [this]
theorem pruG_gone {ps : List Int} {n : Nat} (ht : Tree ps n) : ∀ k, k ≤ n → Gone ps (pruG ps k) k
  | 0, _ => gone_nil ps
  | k + 1, h => by
    obtain ⟨x, _, _, _, q, _, r⟩ := gone_step ht (pruG_gone ht k (by omega)) (by omega)
    simp only [pruG]
    rw [ht.len, q]
    exact r
/-- The word of a tree, as far as it is made. -/
def pruW (ps : List Int) (k : Nat) : List Int := (pruG ps k).map (par ps)
def pruOf (ps : List Int) : List Int := pruW ps (ps.length - 1)
theorem pruW_succ (ps : List Int) (k : Nat) : pruW ps (k + 1) = pruW ps k ++ [par ps (grt (lf ps (pruG ps k)) ps.length)] := by simp [pruW, pruG]
theorem length_pruG (ps : List Int) : ∀ k, (pruG ps k).length = k
  | 0 => rfl
  | k + 1 => by simp [pruG, length_pruG ps k]
theorem length_pruW (ps : List Int) (k : Nat) : (pruW ps k).length = k := by simp [pruW, length_pruG]
/-- The neighbours that are left. -/
def leftL (xs g : List Int) : List Int := xs.filter fun u => !hasB g u
theorem left_near {ps g : List Int} {n k v : Nat} (ht : Tree ps n) (hg : Gone ps g k) (h1 : 1 ≤ v) (h2 : v ≤ n) (h3 : (v : Int) ∉ g) :
    leftL (near ps v) g = par ps v :: leftL (nodesW ps v) g ∧ (leftL (near ps v) g).length = 1 + kids ps g v := by
  have h4 : par ps (v : Int) ∉ g := fun h => h3 (hg.down _ (by omega) (by rw [ht.len]; omega) h)
  have e : leftL (near ps v) g = par ps v :: leftL (nodesW ps v) g := by
    unfold near
    rw [if_neg (by omega)]
    simp [leftL, hasB, h4]
  refine ⟨e, ?_⟩
  rw [e]
  unfold kids leftL
  rw [List.length_cons, ← List.countP_eq_length_filter]
  omega

/-- The degrees of those that are left. -/
def degAt (ps g : List Int) (v : Nat) : Nat := if hasB g v = true then 0 else (if v = 0 then 0 else 1) + kids ps g v
theorem degAt_nil (ps : List Int) (v : Nat) : degAt ps [] v = deg ps v := by simp [degAt, deg, hasB, kids_nil]
theorem degAt_leaf {ps g : List Int} {v : Nat} (h : 1 ≤ v) : degAt ps g v = 1 ↔ lf ps g v = true := by
  rw [lf_iff]
  unfold degAt
  by_cases e : (v : Int) ∈ g
  · simp [hasB, e]
  · have : ¬ v = 0 := by omega
    simp [hasB, e, this]
theorem degAt_step {ps g : List Int} {n k x p v : Nat} (ht : Tree ps n) (hg : Gone ps g k) (h1 : 1 ≤ x) (h2 : x ≤ n) (h3 : lf ps g x = true) (hp : par ps x = (p : Int)) :
    degAt ps (g ++ [(x : Int)]) v = if v = p then degAt ps g p - 1 else if v = x then 0 else degAt ps g v := by
  obtain ⟨q1, q2⟩ := lf_iff.1 h3
  have hs := kids_snoc (ps := ps) q1 (by omega) (by rw [ht.len]; omega) (v : Int)
  rw [hp] at hs
  have hpg : (p : Int) ∉ g := fun h => q1 (hg.down _ (by omega) (by rw [ht.len]; omega) (by rw [hp]; exact h))
  have hpx : p ≠ x := fun e => by
    subst e
    have := kids_zero.1 q2 p (by omega) (by rw [ht.len]; omega) hp
    exact q1 this
  by_cases e : v = p
  · subst e
    rw [if_pos rfl] at hs ⊢
    have e2 : ¬ (v : Int) = (x : Int) := by omega
    simp only [degAt, hasB, List.mem_append, List.mem_singleton, hpg, e2, or_false, decide_false, Bool.false_eq_true, if_false]
    omega
  · rw [if_neg e]
    rw [if_neg (by omega)] at hs
    by_cases e2 : v = x
    · subst e2; simp [degAt, hasB]
    · rw [if_neg e2]
      have e3 : ¬ (v : Int) = (x : Int) := by omega
      simp only [degAt, hasB, List.mem_append, List.mem_singleton, e3, or_false]
      rw [hs]; simp
theorem degAt_pos {ps g : List Int} {n k x p : Nat} (ht : Tree ps n) (hg : Gone ps g k) (h1 : 1 ≤ x) (h2 : x ≤ n) (h3 : lf ps g x = true) (hp : par ps x = (p : Int)) : 1 ≤ degAt ps g p ∧ p ≠ x ∧ p ≤ n := by
  obtain ⟨q1, q2⟩ := lf_iff.1 h3
  have hs := kids_snoc (ps := ps) q1 (by omega) (by rw [ht.len]; omega) (p : Int)
  rw [hp, if_pos rfl] at hs
  have hpg : (p : Int) ∉ g := fun h => q1 (hg.down _ (by omega) (by rw [ht.len]; omega) (by rw [hp]; exact h))
  have hpx : p ≠ x := fun e => by
    subst e
    exact q1 (kids_zero.1 q2 p (by omega) (by rw [ht.len]; omega) hp)
  have hb := ht.par (v := x) (by omega) (by omega)
  refine ⟨?_, hpx, by rw [hp] at hb; omega⟩
  simp only [degAt, hasB, hpg, decide_false, Bool.false_eq_true, if_false]
  omega
theorem degAt_le {ps g : List Int} {v : Nat} (h : ps.length ≤ 8) : degAt ps g v ≤ 9 := by
  have := kids_le ps g v
  unfold degAt
  split
  · omega
  · split <;> omega
end Go.Proofs.Ytakadjhbomggbaa
