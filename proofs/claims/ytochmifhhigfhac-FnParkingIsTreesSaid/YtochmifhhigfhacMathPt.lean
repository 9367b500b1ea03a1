/- Parking functions and trees undo each other. -/
import Derived.Test.YtochmifhhigfhacMathBf
namespace Go.Proofs.Ytochmifhhigfhac
open Go.RowKit

theorem mem_tpo {xs : List Int} {v : Int} (h : ∀ x ∈ xs, 0 ≤ x) : ∀ k : Nat, v ∈ tpo xs k ↔ v = 0 ∨ (1 ≤ v ∧ v ≤ xs.length ∧ par xs v < k)
  | 0 => by
    simp only [tpo, List.mem_singleton]
    constructor
    · exact .inl
    · rintro (h1 | ⟨h1, h2, h3⟩)
      · exact h1
      · have := h _ (nth_mem (xs := xs) (i := v.toNat - 1) (by omega))
        unfold par at h3
        omega
  | k + 1 => by
    simp only [tpo, List.mem_append, mem_tpo h k, mem_nodesW]
    constructor
    · rintro ((h1 | ⟨h1, h2, h3⟩) | ⟨h1, h2, h3⟩)
      · exact .inl h1
      · exact .inr ⟨h1, h2, by omega⟩
      · exact .inr ⟨h1, h2, by omega⟩
    · rintro (h1 | ⟨h1, h2, h3⟩)
      · exact .inl (.inl h1)
      · by_cases e : par xs v < k
        · exact .inl (.inr ⟨h1, h2, e⟩)
        · exact .inr ⟨h1, h2, by omega⟩
theorem nodup_tpo {xs : List Int} (h : ∀ x ∈ xs, 0 ≤ x) : ∀ k, (tpo xs k).Nodup
  | 0 => by simp [tpo]
  | k + 1 => by
    simp only [tpo]
    rw [List.nodup_append]
    refine ⟨nodup_tpo h k, nodup_nodesTo _ _ _, fun a ha b hb => ?_⟩
    rintro rfl
    obtain ⟨h1, h2, h3⟩ := mem_nodesW.1 hb
    rcases (mem_tpo h k).1 ha with h4 | ⟨_, _, h4⟩ <;> omega
theorem nodesW_congr {xs ys : List Int} {x y : Int} (hl : xs.length = ys.length) (h : ∀ i, i < xs.length → (nth xs i = x ↔ nth ys i = y)) : nodesW xs x = nodesW ys y := by
  unfold nodesW nodesTo
  rw [← hl]
  congr 1
  refine List.filter_congr fun i hi => ?_
  rw [decide_eq_decide]
  exact h i (List.mem_range.1 hi)

/-- What a parking function's order of breadth is. -/
structure Ord (xs O : List Int) (n : Nat) : Prop where
  len : xs.length = n
  le : n ≤ 8
  bnd : ∀ i, i < n → 0 ≤ nth xs i ∧ nth xs i < (n : Int)
  is : O = tpo xs n
  olen : O.length = n + 1
  nodup : O.Nodup
  mem : ∀ v : Int, 0 ≤ v → v ≤ n → v ∈ O
theorem ord_of {xs : List Int} {n : Nat} (hp : isPark xs = true) (hl : xs.length = n) : Ord xs (tpo xs n) n := by
  subst hl
  obtain ⟨h1, h2, h3⟩ := isPark_iff.1 hp
  have h0 : ∀ x ∈ xs, 0 ≤ x := fun x hx => (h2 x hx).1
  have hb : ∀ i, i < xs.length → 0 ≤ nth xs i ∧ nth xs i < (xs.length : Int) := fun i hi => by have := h2 _ (nth_mem hi); omega
  have hlen := length_tpo_park hp (Nat.le_refl _)
  refine ⟨rfl, h1, hb, rfl, by omega, nodup_tpo h0 _, fun v v0 v1 => (mem_tpo h0 _).2 ?_⟩
  by_cases e : v = 0
  · exact .inl e
  · refine .inr ⟨by omega, v1, ?_⟩
    exact (hb _ (by omega)).2
theorem Ord.nn {xs O : List Int} {n : Nat} (h : Ord xs O n) : ∀ x ∈ xs, 0 ≤ x := fun x hx => by
  obtain ⟨i, hi, rfl⟩ := mem_nth hx
  exact (h.bnd i (by rw [← h.len]; exact hi)).1
theorem Ord.tree_nth {xs O : List Int} {n i : Nat} (h : Ord xs O n) (hi : i < n) : nth (tpL xs) i = nth O (nth xs i).toNat := by
  rw [nth_tpL (by rw [h.len]; exact hi), h.is, h.len]
theorem Ord.nodes {xs O : List Int} {n k : Nat} (h : Ord xs O n) (hk : k ≤ n) : nodesW (tpL xs) (nth O k) = nodesW xs (k : Int) := by
  refine nodesW_congr (length_tpL xs) fun i hi => ?_
  rw [length_tpL, h.len] at hi
  rw [h.tree_nth hi]
  have hb := h.bnd i hi
  constructor
  · intro e
    have := nth_inj h.nodup (i := (nth xs i).toNat) (j := k) (by rw [h.olen]; omega) (by rw [h.olen]; omega) e
    omega
  · intro e
    rw [e]
    simp
theorem Ord.bfs {xs O : List Int} {n : Nat} (hp : isPark xs = true) (h : Ord xs O n) : ∀ k, k ≤ n + 1 → Go.Proofs.Ytochmifhhigfhac.bfs (tpL xs) k = tpo xs k
  | 0, _ => rfl
  | k + 1, hk => by
    have ih := Ord.bfs hp h k (by omega)
    have hl := length_tpo_park hp (k := k) (by rw [h.len]; omega)
    rw [bfs_step (by rw [ih]; exact hl.1), ih]
    have : nth (tpo xs k) k = nth O k := by rw [h.is, tpo_nth (k := k) (m := n) (by omega) hl.1]
    rw [this, h.nodes (by omega)]
    rfl
theorem Ord.br {xs O : List Int} {n : Nat} (hp : isPark xs = true) (h : Ord xs O n) : brOrder (tpL xs) = O := by
  unfold brOrder
  rw [length_tpL, h.len, h.bfs hp _ (Nat.le_refl _)]
  have hno : nodesW xs (n : Int) = [] := by
    apply List.eq_nil_iff_forall_not_mem.2
    intro v hv
    obtain ⟨h1, h2, h3⟩ := mem_nodesW.1 hv
    have := h.bnd (v.toNat - 1) (by have := h.len; omega)
    unfold par at h3
    omega
  simp only [tpo, hno, List.append_nil]
  exact h.is.symm
theorem Ord.plc {xs O : List Int} {n k : Nat} (h : Ord xs O n) (hk : k ≤ n) : Go.Proofs.Ytochmifhhigfhac.plc O (nth O k) = k :=
  plc_is (by rw [h.olen]; omega) rfl fun j hj e => by
    have := nth_inj h.nodup (i := j) (j := k) (by rw [h.olen]; omega) (by rw [h.olen]; omega) e
    omega
theorem Ord.pot {xs O : List Int} {n : Nat} (hp : isPark xs = true) (h : Ord xs O n) : potL (tpL xs) = xs := by
  refine ext_nth (by rw [length_potL, length_tpL]) fun i hi => ?_
  rw [length_potL, length_tpL, h.len] at hi
  rw [nth_potL (by rw [length_tpL, h.len]; exact hi), h.br hp, h.tree_nth hi]
  have hb := h.bnd i hi
  rw [h.plc (by omega)]
  omega
theorem Ord.first {xs O : List Int} {n : Nat} (hp : isPark xs = true) (h : Ord xs O n) : nth O 0 = 0 := by
  rw [← h.br hp]; exact bfs_first _ _
/-- The place of a node is behind all that have a lesser favourite. -/
theorem Ord.later {xs O : List Int} {n k i : Nat} (h : Ord xs O n) (hk : k ≤ n) (hi : i < n + 1) (h1 : 1 ≤ nth O i) : i < (tpo xs k).length ↔ par xs (nth O i) < k := by
  have hb := nth_mem (xs := O) (i := i) (by rw [h.olen]; exact hi)
  have hm : nth O i ∈ tpo xs k ↔ par xs (nth O i) < k := by
    rw [mem_tpo h.nn]
    have : nth O i ≤ (xs.length : Int) := by
      have hb2 := hb
      rw [h.is, mem_tpo h.nn] at hb2
      rw [← h.is] at hb2
      rcases hb2 with h0 | h0
      · omega
      · exact h0.2.1
    constructor
    · rintro (h2 | h2)
      · omega
      · exact h2.2.2
    · intro h2; exact .inr ⟨h1, this, h2⟩
  rw [← hm]
  constructor
  · intro hl
    have := tpo_nth (xs := xs) (k := k) (m := n) hk hl
    rw [h.is, this]
    exact nth_mem hl
  · intro hh
    obtain ⟨j, hj, e⟩ := mem_nth hh
    have h2 := tpo_nth (xs := xs) (k := k) (m := n) hk hj
    rw [← h.is, e] at h2
    have hle : (tpo xs k).length ≤ n + 1 := by
      have h3 := length_tpo h.nn k
      have h4 := below_le xs k
      have h5 := h.len
      omega
    have := nth_inj h.nodup (i := j) (j := i) (by rw [h.olen]; omega) (by rw [h.olen]; exact hi) h2
    omega
theorem Ord.down {xs O : List Int} {n i : Nat} (hp : isPark xs = true) (h : Ord xs O n) (hi : i < n + 1) (h1 : 1 ≤ nth O i) (h2 : nth O i ≤ n) : Go.Proofs.Ytochmifhhigfhac.plc O (par (tpL xs) (nth O i)) < i := by
  have hpar : par (tpL xs) (nth O i) = nth O (par xs (nth O i)).toNat := by
    unfold par
    exact h.tree_nth (by omega)
  have hb := h.bnd ((nth O i).toNat - 1) (by omega)
  rw [hpar, h.plc (by unfold par; omega)]
  have hx : par xs (nth O i) = nth xs ((nth O i).toNat - 1) := rfl
  have hl := (h.later (k := (par xs (nth O i)).toNat) (i := i) (by rw [hx]; omega) hi h1)
  have hge : (tpo xs (par xs (nth O i)).toNat).length ≤ i := by
    apply Classical.byContradiction
    intro hlt
    have := hl.1 (by omega)
    rw [hx] at this
    omega
  have := (length_tpo_park hp (k := (par xs (nth O i)).toNat) (by rw [hx, h.len]; omega)).1
  omega
theorem Ord.tree {xs O : List Int} {n : Nat} (hp : isPark xs = true) (h : Ord xs O n) : Tree (tpL xs) n := by
  have hob : ∀ j, j < n + 1 → 0 ≤ nth O j ∧ nth O j ≤ n := fun j hj => by
    have hm := nth_mem (xs := O) (i := j) (by rw [h.olen]; exact hj)
    rw [h.is, mem_tpo h.nn] at hm
    rw [← h.is, h.len] at hm
    omega
  have hup : ∀ (j : Nat) (v : Int), 0 ≤ v → v ≤ n → 0 ≤ up (tpL xs) v j ∧ up (tpL xs) v j ≤ n ∧ (up (tpL xs) v j = 0 ∨ Go.Proofs.Ytochmifhhigfhac.plc O (up (tpL xs) v j) + j ≤ Go.Proofs.Ytochmifhhigfhac.plc O v) := by
    intro j
    induction j with
    | zero => intro v h1 h2; exact ⟨h1, h2, .inr (Nat.le_refl _)⟩
    | succ j ih =>
      intro v h1 h2
      obtain ⟨a, b, c⟩ := ih v h1 h2
      by_cases e : up (tpL xs) v j = 0
      · simp [up, e]
      · rw [up_succ e]
        obtain ⟨p1, p2, _⟩ := plc_mem (h.mem _ a b)
        rw [h.olen] at p1
        have hd := h.down hp (i := Go.Proofs.Ytochmifhhigfhac.plc O (up (tpL xs) v j)) p1 (by rw [p2]; omega) (by rw [p2]; exact b)
        rw [p2] at hd
        have hpb : 0 ≤ par (tpL xs) (up (tpL xs) v j) ∧ par (tpL xs) (up (tpL xs) v j) ≤ n := by
          unfold par
          rw [h.tree_nth (by omega)]
          have := h.bnd ((up (tpL xs) v j).toNat - 1) (by omega)
          exact hob _ (by omega)
        refine ⟨hpb.1, hpb.2, .inr ?_⟩
        rcases c with c | c
        · omega
        · omega
  refine ⟨by rw [length_tpL, h.len], h.le, fun i hi => ?_, fun i hi => ?_⟩
  · rw [h.tree_nth hi]
    have := h.bnd i hi
    exact hob _ (by omega)
  · obtain ⟨a, b, c⟩ := hup n ((i : Int) + 1) (by omega) (by omega)
    rcases c with c | c
    · exact c
    · obtain ⟨p1, _, _⟩ := plc_mem (h.mem ((i : Int) + 1) (by omega) (by omega))
      obtain ⟨_, q2, _⟩ := plc_mem (h.mem _ a b)
      rw [h.olen] at p1
      have : Go.Proofs.Ytochmifhhigfhac.plc O (up (tpL xs) ((i : Int) + 1) n) = 0 := by omega
      rw [this, h.first hp] at q2
      exact q2.symm
/-- As many have a favourite as the node there has children. -/
theorem Ord.children {xs O : List Int} {n k : Nat} (h : Ord xs O n) (hk : k ≤ n) : (tpL xs).count (nth O k) = xs.count (k : Int) := by
  rw [← nodesW_count, ← nodesW_count, h.nodes hk]
/-- Favourites do not fall along the order. -/
theorem Ord.mono {xs O : List Int} {n k : Nat} (h : Ord xs O n) (hk : k + 1 < n + 1) (h1 : 1 ≤ nth O k) (h2 : 1 ≤ nth O (k + 1)) (b1 : nth O k ≤ n) : par xs (nth O k) ≤ par xs (nth O (k + 1)) := by
  apply Classical.byContradiction
  intro hlt
  have hx : par xs (nth O k) = nth xs ((nth O k).toNat - 1) := rfl
  have hb := h.bnd ((nth O k).toNat - 1) (by omega)
  have l1 := h.later (k := (par xs (nth O k)).toNat) (i := k + 1) (by rw [hx]; omega) hk h2
  have l2 := h.later (k := (par xs (nth O k)).toNat) (i := k) (by rw [hx]; omega) (by omega) h1
  have hP : 0 ≤ par xs (nth O k) := by rw [hx]; exact hb.1
  have m1 := l1.2 (by omega)
  have m2 : ¬ k < (tpo xs (par xs (nth O k)).toNat).length := fun hh => by have := l2.1 hh; omega
  omega

/-! ### From a tree to its parking function and back -/
theorem br_mem {t : List Int} {n : Nat} (ht : Tree t n) {v : Int} (h0 : 0 ≤ v) (h1 : v ≤ n) : v ∈ brOrder t := br_all ht _ v h0 h1 rfl
theorem pot_nodes {t : List Int} {n k : Nat} (ht : Tree t n) (hk : k < (brOrder t).length) : nodesW (potL t) (k : Int) = nodesW t (nth (brOrder t) k) := by
  refine nodesW_congr (length_potL t) fun i hi => ?_
  rw [length_potL] at hi
  rw [nth_potL hi]
  have hb := ht.nthB i (by rw [← ht.len]; exact hi)
  obtain ⟨p1, p2, p3⟩ := plc_mem (br_mem ht hb.1 hb.2)
  constructor
  · intro e
    have : plc (brOrder t) (nth t i) = k := by omega
    rw [← this, p2]
  · intro e
    have := nth_inj (bfs_nodup t _) (i := plc (brOrder t) (nth t i)) (j := k) p1 hk (p2.trans e)
    omega
theorem bfs_long {t : List Int} {n k : Nat} (ht : Tree t n) (hk : k ≤ n) : k < (bfs t k).length := by
  apply Classical.byContradiction
  intro h
  have h1 := bfs_done (ps := t) (k := k) (by omega)
  have h2 := br_length ht
  rw [← h1] at h2
  omega
theorem pot_tpo {t : List Int} {n : Nat} (ht : Tree t n) : ∀ k, k ≤ n + 1 → tpo (potL t) k = bfs t k
  | 0, _ => rfl
  | k + 1, hk => by
    have ih := pot_tpo ht k (by omega)
    have hl := bfs_long ht (k := k) (by omega)
    have hbl := br_length ht
    rw [bfs_step hl, ← ih]
    simp only [tpo]
    rw [pot_nodes ht (by rw [hbl]; omega), ih]
    unfold brOrder
    rw [bfs_nth (k := k) (m := t.length + 1) (by rw [ht.len]; omega) hl]
theorem pot_len_bound {t : List Int} {n i : Nat} (ht : Tree t n) (hi : i < n) : 0 ≤ nth (potL t) i ∧ nth (potL t) i ≤ (n : Int) := by
  have hb := ht.nthB i hi
  obtain ⟨p1, _, _⟩ := plc_mem (br_mem ht hb.1 hb.2)
  rw [br_length ht] at p1
  rw [nth_potL (by rw [ht.len]; exact hi)]
  omega
theorem pot_park {t : List Int} {n : Nat} (ht : Tree t n) : isPark (potL t) = true := by
  have hpl : (potL t).length = n := by rw [length_potL, ht.len]
  have hnn : ∀ x ∈ potL t, 0 ≤ x := fun x hx => by
    obtain ⟨i, hi, rfl⟩ := mem_nth hx
    exact (pot_len_bound ht (by rw [← hpl]; exact hi)).1
  have hge : ∀ k : Nat, k ≤ n → k ≤ below (potL t) k := fun k hk => by
    have h1 := length_tpo hnn k
    rw [pot_tpo ht k (by omega)] at h1
    have := bfs_long ht hk
    omega
  have hlt : ∀ x ∈ potL t, x < (n : Int) := by
    have h1 := hge n (Nat.le_refl _)
    have h2 := below_le (potL t) n
    have h3 : (potL t).countP (fun x => decide (x < (n : Int))) = (potL t).length := by
      unfold below at h1 h2
      omega
    intro x hx
    have := List.countP_eq_length.1 h3 x hx
    simpa using this
  rw [isPark_iff, hpl]
  have hb : ∀ x ∈ potL t, 0 ≤ x ∧ x ≤ (n : Int) - 1 := fun x hx => ⟨hnn x hx, by have := hlt x hx; omega⟩
  refine ⟨ht.le, hb, ?_⟩
  rw [park_iff hb]
  intro j hj
  have h1 := hge j (by omega)
  have h2 := from_below (potL t) j
  omega
theorem tp_pot {t : List Int} {n : Nat} (ht : Tree t n) : tpL (potL t) = t := by
  have hp := pot_park ht
  have hpl : (potL t).length = n := by rw [length_potL, ht.len]
  have ho := ord_of hp hpl
  have hO : tpo (potL t) n = brOrder t := by
    rw [pot_tpo ht n (by omega)]
    have h1 := bfs_long ht (Nat.le_refl n)
    unfold brOrder
    rw [ht.len]
    obtain ⟨s, hs⟩ := bfs_grows t n 1
    have h2 := br_length ht
    unfold brOrder at h2
    rw [ht.len, hs] at h2
    simp at h2
    have : s = [] := List.eq_nil_of_length_eq_zero (by omega)
    rw [hs, this, List.append_nil]
  refine ext_nth (by rw [length_tpL, length_potL]) fun i hi => ?_
  rw [length_tpL, length_potL] at hi
  rw [ho.tree_nth (by rw [← ht.len]; exact hi), nth_potL hi, hO]
  have hb := ht.nthB i (by rw [← ht.len]; exact hi)
  obtain ⟨_, p2, _⟩ := plc_mem (br_mem ht hb.1 hb.2)
  rw [Int.toNat_natCast]
  exact p2
end Go.Proofs.Ytochmifhhigfhac
