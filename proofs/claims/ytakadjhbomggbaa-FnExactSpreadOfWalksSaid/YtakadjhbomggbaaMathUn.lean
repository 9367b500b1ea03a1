/- The tree of a word. -/
import Derived.Test.YtakadjhbomggbaaMathPr
import Derived.Test.YtakadjhbomggbaaMathL
namespace Go.Proofs.Ytakadjhbomggbaa
open Go.RowKit

/-- A node that is left, and occurs no more. -/
def uf (w g : List Int) (k : Nat) (v : Int) : Bool := !hasB g v && !hasB (w.drop k) v
theorem uf_iff {w g : List Int} {k : Nat} {v : Int} : uf w g k v = true ↔ v ∉ g ∧ v ∉ w.drop k := by simp [uf, hasB]
def untG (w : List Int) : Nat → List Int
  | 0 => []
  | k + 1 => untG w k ++ [grt (uf w (untG w k) k) (w.length + 1)]
theorem length_untG (w : List Int) : ∀ k, (untG w k).length = k
  | 0 => rfl
  | k + 1 => by simp [untG, length_untG w k]
/-- The numbers are those of a word of a tree with n nodes. -/
structure Word (w : List Int) (n : Nat) : Prop where
  len : w.length + 1 = n
  le : n ≤ 8
  nthB : ∀ i, i < w.length → 0 ≤ nth w i ∧ nth w i ≤ (n : Int)
structure UnG (w g : List Int) (n k : Nat) : Prop where
  len : g.length = k
  mem : ∀ v ∈ g, (1 : Int) ≤ v ∧ v ≤ n
  nodup : g.Nodup
  off : ∀ v ∈ g, v ∉ w.drop k
theorem unG_nil (w : List Int) (n : Nat) : UnG w [] n 0 := ⟨rfl, by simp, by simp, by simp⟩
theorem unG_step {w g : List Int} {n k : Nat} (hw : Word w n) (hg : UnG w g n k) (hk : k < w.length) :
    ∃ x : Nat, 1 ≤ x ∧ x ≤ n ∧ uf w g k x = true ∧ grt (uf w g k) n = x ∧ (∀ v : Nat, x < v → v ≤ n → uf w g k v = false) ∧ UnG w (g ++ [(x : Int)]) n (k + 1) := by
  have hl := hw.len
  obtain ⟨v, h1, h2, h3⟩ := left_ex (n := n) (g := g ++ w.drop k) (by simp [hg.len]; omega)
  simp only [List.mem_append, not_or] at h3
  obtain ⟨x, q1, q2, q3, q4, q5⟩ := grt_ex n ⟨v, h1, h2, uf_iff.2 h3⟩
  obtain ⟨q6, q7⟩ := uf_iff.1 q3
  have hsub : ∀ v : Int, v ∈ w.drop (k + 1) → v ∈ w.drop k := fun v hv => by
    rw [drop_nth hk]; simp [hv]
  refine ⟨x, q1, q2, q3, q4, q5, ⟨by simp [hg.len], fun v hv => ?_, ?_, fun v hv hd => ?_⟩⟩
  · rcases List.mem_append.1 hv with hv | hv
    · exact hg.mem v hv
    · simp at hv; subst hv; omega
  · rw [List.nodup_append]
    exact ⟨hg.nodup, by simp, fun a ha b hb => by simp at hb; subst hb; rintro rfl; exact q6 ha⟩
  · rcases List.mem_append.1 hv with hv | hv
    · exact hg.off v hv (hsub v hd)
    · simp at hv; subst hv; exact q7 (hsub _ hd)
theorem untG_is {w : List Int} {n : Nat} (hw : Word w n) : ∀ k, k ≤ w.length → UnG w (untG w k) n k
  | 0, _ => unG_nil w n
  | k + 1, h => by
    obtain ⟨x, _, _, _, q, _, r⟩ := unG_step hw (untG_is hw k (by omega)) (by omega)
    simp only [untG]
    rw [hw.len, q]
    exact r
/-- The parents, as far as they are laid. -/
def unTo (w : List Int) : Nat → List Int
  | 0 => List.replicate (w.length + 1) 0
  | k + 1 => (unTo w k).set ((grt (uf w (untG w k) k) (w.length + 1)).toNat - 1) (nth w k)
def unOf (w : List Int) : List Int := unTo w w.length
theorem length_unTo (w : List Int) : ∀ k, (unTo w k).length = w.length + 1
  | 0 => by simp [unTo]
  | k + 1 => by simp [unTo, length_unTo w k]
theorem unTo_is {w : List Int} {n : Nat} (hw : Word w n) : ∀ k, k ≤ w.length →
    (∀ j, j < k → par (unTo w k) (nth (untG w k) j) = nth w j) ∧ ∀ v : Int, 1 ≤ v → v ≤ n → v ∉ untG w k → par (unTo w k) v = 0
  | 0, _ => ⟨by omega, fun v _ _ _ => by unfold par unTo; rw [nth_replicate0']⟩
  | k + 1, h => by
    obtain ⟨ih1, ih2⟩ := unTo_is hw k (by omega)
    have hg := untG_is hw k (by omega)
    obtain ⟨x, q1, q2, q3, q4, _, r⟩ := unG_step hw hg (by omega)
    have hx := (uf_iff.1 q3).1
    have hl := hw.len
    have e : untG w (k + 1) = untG w k ++ [(x : Int)] := by simp only [untG]; rw [hl, q4]
    have e2 : unTo w (k + 1) = (unTo w k).set (x - 1) (nth w k) := by simp only [unTo]; rw [hl, q4, Int.toNat_natCast]
    have hs : ∀ v : Int, 1 ≤ v → v ≤ n → par (unTo w (k + 1)) v = if v = x then nth w k else par (unTo w k) v := fun v v1 v2 => by
      unfold par
      rw [e2, nth_set (by rw [length_unTo]; omega)]
      by_cases ee : v = x
      · rw [if_pos (by omega), if_pos ee]
      · rw [if_neg (by omega), if_neg ee]
    refine ⟨fun j hj => ?_, fun v v1 v2 hv => ?_⟩
    · rw [e]
      by_cases ej : j = k
      · subst ej
        have : nth (untG w j ++ [(x : Int)]) j = x := by
          have := nth_append_at (xs := untG w j) (y := (x : Int))
          rwa [length_untG] at this
        rw [this, hs _ (by omega) (by omega), if_pos rfl]
      · have hjk : j < (untG w k).length := by rw [length_untG]; omega
        rw [nth_left hjk]
        have hm := hg.mem _ (nth_mem hjk)
        have hne : ¬ nth (untG w k) j = (x : Int) := fun hh => hx (by rw [← hh]; exact nth_mem hjk)
        rw [hs _ hm.1 hm.2, if_neg hne, ih1 j (by omega)]
    · rw [e] at hv
      simp only [List.mem_append, List.mem_singleton, not_or] at hv
      rw [hs v v1 v2, if_neg hv.2, ih2 v v1 v2 hv.1]

/-- The degrees of those that are left. -/
def degW (w g : List Int) (k : Nat) (v : Nat) : Nat := if hasB g v = true then 0 else (if v = 0 then 0 else 1) + (w.drop k ++ [0]).count (v : Int)
theorem degW_nil (w : List Int) (v : Nat) : degW w [] 0 v = deg (w ++ [0]) v := by simp [degW, deg, hasB]
theorem degW_leaf {w g : List Int} {k v : Nat} (h : 1 ≤ v) : degW w g k v = 1 ↔ uf w g k v = true := by
  rw [uf_iff]
  unfold degW
  by_cases e : (v : Int) ∈ g
  · simp [hasB, e]
  · have h0 : ¬ v = 0 := by omega
    have h1 : ¬ (0 : Int) = (v : Int) := by omega
    have h2 : List.count (v : Int) [0] = 0 := by rw [List.count_eq_zero]; simp; omega
    rw [List.count_append, h2]
    simp [hasB, e, h0, List.count_eq_zero]
theorem degW_step {w g : List Int} {n k x p v : Nat} (hg : UnG w g n k) (hk : k < w.length) (h1 : 1 ≤ x) (h3 : uf w g k x = true) (hp : nth w k = (p : Int)) :
    degW w (g ++ [(x : Int)]) (k + 1) v = if v = p then degW w g k p - 1 else if v = x then 0 else degW w g k v := by
  obtain ⟨q1, q2⟩ := uf_iff.1 h3
  have hd := drop_nth hk
  have hpd : (p : Int) ∈ w.drop k := by rw [hd, hp]; simp
  have hpg : (p : Int) ∉ g := fun h => hg.off _ h hpd
  have hpx : ¬ (p : Int) = (x : Int) := fun e => q2 (e ▸ hpd)
  have hs : (w.drop k ++ [0]).count (v : Int) = (w.drop (k + 1) ++ [0]).count (v : Int) + if v = p then 1 else 0 := by
    rw [hd, hp, List.cons_append, List.count_cons]
    congr 1
    by_cases e : v = p
    · subst e; simp
    · have : ¬ (p : Int) = (v : Int) := by omega
      simp [e, this]
  by_cases e : v = p
  · subst e
    rw [if_pos rfl] at hs ⊢
    simp only [degW, hasB, List.mem_append, List.mem_singleton, hpg, hpx, or_false, decide_false, Bool.false_eq_true, if_false]
    omega
  · rw [if_neg e]
    rw [if_neg e] at hs
    by_cases e2 : v = x
    · subst e2; simp [degW, hasB]
    · rw [if_neg e2]
      have e3 : ¬ (v : Int) = (x : Int) := by omega
      simp only [degW, hasB, List.mem_append, List.mem_singleton, e3, or_false]
      rw [hs]; simp
theorem degW_pos {w g : List Int} {n k x p : Nat} (hw : Word w n) (hg : UnG w g n k) (hk : k < w.length) (h3 : uf w g k x = true) (hp : nth w k = (p : Int)) : 1 ≤ degW w g k p ∧ p ≠ x ∧ p ≤ n := by
  obtain ⟨q1, q2⟩ := uf_iff.1 h3
  have hd := drop_nth hk
  have hpd : (p : Int) ∈ w.drop k := by rw [hd, hp]; simp
  have hpg : (p : Int) ∉ g := fun h => hg.off _ h hpd
  have hpx : p ≠ x := fun e => q2 (e ▸ hpd)
  have hb := hw.nthB k hk
  refine ⟨?_, hpx, by omega⟩
  have : 0 < (w.drop k ++ [0]).count (p : Int) := List.count_pos_iff.2 (by simp [hpd])
  simp only [degW, hasB, hpg, decide_false, Bool.false_eq_true, if_false]
  omega
theorem degW_le {w g : List Int} {k v n : Nat} (hw : Word w n) : degW w g k v ≤ 9 := by
  have h1 : (w.drop k ++ [0]).count (v : Int) ≤ (w.drop k ++ [0]).length := List.count_le_length
  have h2 := hw.len
  have h3 := hw.le
  simp only [List.length_append, List.length_drop, List.length_singleton] at h1
  unfold degW
  split
  · omega
  · split <;> omega

/-! ### The edges of a word, and how they are followed from the root -/
/-- The ends of the edges, the lower ones and the upper ones. -/
structure Edges (ps es os : List Int) (n : Nat) : Prop where
  plen : ps.length = n
  elen : es.length = n
  olen : os.length = n
  mem : ∀ i, i < n → 1 ≤ nth es i ∧ nth es i ≤ (n : Int)
  all : ∀ v : Int, 1 ≤ v → v ≤ n → v ∈ es
  up : ∀ i, i < n → nth os i = par ps (nth es i)
  later : ∀ i, i < n → nth os i = 0 ∨ ∃ j, i < j ∧ j < n ∧ nth os i = nth es j
theorem full_of {n : Nat} {es : List Int} (hl : es.length = n) (hn : es.Nodup) (hb : ∀ v ∈ es, 1 ≤ v ∧ v ≤ (n : Int)) : ∀ v : Int, 1 ≤ v → v ≤ n → v ∈ es := fun v h1 h2 => by
  apply Classical.byContradiction
  intro hv
  have := nodup_le n ((v :: es).map fun x => x - 1) (by
    rw [List.Nodup, List.pairwise_map]
    refine (List.nodup_cons.2 ⟨hv, hn⟩ : (v :: es).Nodup).imp ?_
    intro a b h e
    omega) (fun x hx => by
    obtain ⟨y, hy, rfl⟩ := List.mem_map.1 hx
    rcases List.mem_cons.1 hy with rfl | hy
    · omega
    · have := hb y hy; omega)
  simp at this
  omega
theorem edges_of {w : List Int} {n : Nat} (hw : Word w n) {last : Int} (h1 : 1 ≤ last) (h2 : last ≤ n) (h3 : last ∉ untG w w.length) : Edges (unOf w) (untG w w.length ++ [last]) (w ++ [0]) n := by
  have hl := hw.len
  have hg := untG_is hw w.length (Nat.le_refl _)
  have hel : (untG w w.length ++ [last]).length = n := by simp [length_untG]; omega
  have hem : ∀ v ∈ untG w w.length ++ [last], 1 ≤ v ∧ v ≤ (n : Int) := fun v hv => by
    rcases List.mem_append.1 hv with hv | hv
    · exact hg.mem v hv
    · simp at hv; omega
  have hnd : (untG w w.length ++ [last]).Nodup := by
    rw [List.nodup_append]
    exact ⟨hg.nodup, by simp, fun a ha b hb => by simp at hb; subst hb; rintro rfl; exact h3 ha⟩
  have hfull := full_of hel hnd hem
  obtain ⟨u1, u2⟩ := unTo_is hw w.length (Nat.le_refl _)
  refine ⟨by simp [unOf, length_unTo]; omega, hel, by simp; omega, fun i hi => hem _ (nth_mem (by omega)), hfull, fun i hi => ?_, fun i hi => ?_⟩
  · by_cases e : i < w.length
    · rw [nth_left e, nth_left (by rw [length_untG]; exact e)]
      exact (u1 i e).symm
    · obtain rfl : i = w.length := by omega
      have e1 : nth (untG w w.length ++ [last]) w.length = last := by
        have := nth_append_at (xs := untG w w.length) (y := last)
        rwa [length_untG] at this
      rw [nth_append_at, e1]
      exact (u2 last h1 h2 h3).symm
  · by_cases e : i < w.length
    · rw [nth_left e]
      by_cases e0 : nth w i = 0
      · exact .inl e0
      · have hb := hw.nthB i e
        obtain ⟨j, hj, ej⟩ := mem_nth (hfull (nth w i) (by omega) hb.2)
        refine .inr ⟨j, ?_, by omega, ej.symm⟩
        apply Classical.byContradiction
        intro hij
        have hji : j ≤ i := by omega
        have hsub : nth (untG w w.length ++ [last]) j ∈ untG w (i + 1) := by
          have hp : ∀ m k, ∃ t, untG w (k + m) = untG w k ++ t := by
            intro m
            induction m with
            | zero => exact fun k => ⟨[], by simp⟩
            | succ m ih =>
              intro k
              obtain ⟨t, ht⟩ := ih k
              exact ⟨t ++ [grt (uf w (untG w (k + m)) (k + m)) (w.length + 1)], by rw [← Nat.add_assoc, ← List.append_assoc, ← ht]; rfl⟩
          obtain ⟨t, ht⟩ := hp (w.length - (i + 1)) (i + 1)
          rw [show i + 1 + (w.length - (i + 1)) = w.length by omega] at ht
          rw [nth_left (by rw [length_untG]; omega), ht, nth_left (by rw [length_untG]; omega)]
          exact nth_mem (by rw [length_untG]; omega)
        rw [ej] at hsub
        have hgi := untG_is hw i (by omega)
        obtain ⟨x, q1, q2, q3, q4, _, r⟩ := unG_step hw hgi e
        have e2 : untG w (i + 1) = untG w i ++ [(x : Int)] := by simp only [untG]; rw [hl, q4]
        have hd : nth w i ∈ w.drop i := by rw [drop_nth e]; simp
        rw [e2] at hsub
        rcases List.mem_append.1 hsub with hs | hs
        · exact hgi.off _ hs hd
        · simp at hs; rw [hs] at hd; exact (uf_iff.1 q3).2 hd
    · obtain rfl : i = w.length := by omega
      exact .inl nth_append_at
structure Rch (ps es os R ys : List Int) (n k i : Nat) : Prop where
  nodup : R.Nodup
  first : 0 ∈ R
  mem : ∀ v ∈ R, (0 : Int) ≤ v ∧ v ≤ n
  closed : ∀ v ∈ R, v = 0 ∨ par ps v ∈ R
  ylen : ys.length = n
  ys : ∀ v, v < n → nth ys v = if ((v : Int) + 1) ∈ R then nth ps v else 0
  done : ∀ j, j < n → (∃ q, q < k ∧ q < R.length ∧ nth os j = nth R q) ∨ (j < i ∧ nth os j = nth R k) → nth es j ∈ R
theorem rch_zero {ps es os : List Int} {n : Nat} : Rch ps es os [0] (List.replicate n 0) n 0 0 :=
  ⟨by simp, by simp, by simp, by simp, by simp, fun v _ => by rw [if_neg (by simp; omega), nth_replicate0'], fun j _ h => by
    rcases h with ⟨q, h, _⟩ | ⟨h, _⟩ <;> omega⟩
theorem rch_len {ps es os R ys : List Int} {n k i : Nat} (h : Rch ps es os R ys n k i) : R.length ≤ n + 1 ∧ 0 < R.length :=
  ⟨nodup_le _ _ h.nodup fun v hv => by have := h.mem v hv; omega, List.length_pos_of_mem h.first⟩
/-- An edge that leads on from what was reached. -/
theorem rch_new {ps es os R ys : List Int} {n k i : Nat} (he : Edges ps es os n) (h : Rch ps es os R ys n k i) (hi : i < n) (hk : k < R.length) (ho : nth os i = nth R k) (hn : nth es i ∉ R) :
    Rch ps es os (R ++ [nth es i]) (ys.set ((nth es i).toNat - 1) (nth R k)) n k (i + 1) := by
  have hm := he.mem i hi
  have hu := he.up i hi
  refine ⟨?_, by simp [h.first], fun v hv => ?_, fun v hv => ?_, by simp [h.ylen], fun v hv => ?_, fun j hj hd => ?_⟩
  · rw [List.nodup_append]
    exact ⟨h.nodup, by simp, fun a ha b hb => by simp at hb; subst hb; rintro rfl; exact hn ha⟩
  · rcases List.mem_append.1 hv with hv | hv
    · exact h.mem v hv
    · simp at hv; subst hv; omega
  · rcases List.mem_append.1 hv with hv | hv
    · rcases h.closed v hv with h0 | h0
      · exact .inl h0
      · exact .inr (by simp [h0])
    · simp at hv; subst hv
      refine .inr ?_
      rw [← hu, ho]
      simp [nth_mem hk]
  · rw [nth_set (by rw [h.ylen]; omega), h.ys v hv]
    by_cases e : (nth es i).toNat - 1 = v
    · have e2 : (v : Int) + 1 = nth es i := by omega
      rw [if_pos e, e2, if_pos (by simp), ← ho, hu]
      unfold par
      rw [e]
    · have e2 : ¬ (v : Int) + 1 = nth es i := by omega
      rw [if_neg e]
      simp only [List.mem_append, List.mem_singleton, e2, or_false]
  · by_cases e : j = i
    · subst e; simp
    · have : nth es j ∈ R := by
        apply h.done j hj
        rcases hd with ⟨q, q1, q2, q3⟩ | ⟨q1, q2⟩
        · have hq : q < R.length := by omega
          exact .inl ⟨q, q1, hq, by rw [q3, nth_left hq]⟩
        · exact .inr ⟨by omega, by rw [q2, nth_left hk]⟩
      simp [this]
/-- An edge that leads nowhere new. -/
theorem rch_old {ps es os R ys : List Int} {n k i : Nat} (h : Rch ps es os R ys n k i) (ho : nth os i = nth R k → nth es i ∈ R) : Rch ps es os R ys n k (i + 1) := by
  refine ⟨h.nodup, h.first, h.mem, h.closed, h.ylen, h.ys, fun j hj hd => ?_⟩
  rcases hd with hd | ⟨h1, h2⟩
  · exact h.done j hj (.inl hd)
  · by_cases e : j = i
    · subst e; exact ho h2
    · exact h.done j hj (.inr ⟨by omega, h2⟩)
theorem rch_next {ps es os R ys : List Int} {n k : Nat} (h : Rch ps es os R ys n k n) (hk : k < R.length) : Rch ps es os R ys n (k + 1) 0 := by
  refine ⟨h.nodup, h.first, h.mem, h.closed, h.ylen, h.ys, fun j hj hd => ?_⟩
  rcases hd with ⟨q, h1, h2, h3⟩ | ⟨h1, _⟩
  · by_cases e : q = k
    · subst e; exact h.done j hj (.inr ⟨hj, h3⟩)
    · exact h.done j hj (.inl ⟨q, by omega, h2, h3⟩)
  · omega
theorem rch_all {ps es os R ys : List Int} {n k : Nat} (he : Edges ps es os n) (h : Rch ps es os R ys n k 0) (hk : R.length ≤ k) : ys = ps := by
  have hin : ∀ d j, n - j = d → j < n → nth es j ∈ R := by
    intro d
    induction d using Nat.strongRecOn with
    | _ d ih =>
      intro j hd hj
      have ho : nth os j ∈ R := by
        rcases he.later j hj with h0 | ⟨j', h1, h2, h3⟩
        · rw [h0]; exact h.first
        · rw [h3]; exact ih (n - j') (by omega) j' rfl h2
      obtain ⟨q, hq, e⟩ := mem_nth ho
      exact h.done j hj (.inl ⟨q, by omega, hq, e.symm⟩)
  refine ext_nth (by rw [h.ylen, he.plen]) fun v hv => ?_
  rw [h.ylen] at hv
  obtain ⟨j, hj, e⟩ := mem_nth (he.all ((v : Int) + 1) (by omega) (by omega))
  rw [h.ys v hv, if_pos (by rw [← e]; exact hin _ j rfl (by rw [he.elen] at hj; exact hj))]
/-- Edges of this kind are those of a tree. -/
theorem edges_tree {ps es os : List Int} {n : Nat} (he : Edges ps es os n) (h8 : n ≤ 8) : Tree ps n := by
  have hup : ∀ d j, n - j = d → j < n → up ps (nth es j) d = 0 := by
    intro d
    induction d using Nat.strongRecOn with
    | _ d ih =>
      intro j hd hj
      have hm := he.mem j hj
      have e1 : up ps (nth es j) 1 = nth os j := by rw [he.up j hj]; simp [up, show nth es j ≠ 0 by omega]
      rcases he.later j hj with h0 | ⟨j', h1, h2, h3⟩
      · exact up_zero (k := 1) (by rw [e1, h0]) d (by omega)
      · have h4 := ih (n - j') (by omega) j' rfl h2
        have h5 := up_add ps (nth es j) 1 (n - j')
        rw [e1, h3, h4] at h5
        exact up_zero h5 d (by omega)
  have hb : ∀ v : Nat, v < n → (0 ≤ nth ps v ∧ nth ps v ≤ (n : Int)) ∧ up ps ((v : Int) + 1) n = 0 := fun v hv => by
    obtain ⟨j, hj, e⟩ := mem_nth (he.all ((v : Int) + 1) (by omega) (by omega))
    rw [he.elen] at hj
    have h1 := he.up j hj
    rw [e] at h1
    have e2 : par ps ((v : Int) + 1) = nth ps v := by unfold par; rw [show ((v : Int) + 1).toNat - 1 = v by omega]
    rw [e2] at h1
    refine ⟨?_, by rw [← e]; exact up_zero (hup _ j rfl hj) n (by omega)⟩
    rcases he.later j hj with h0 | ⟨j', _, h2, h3⟩
    · omega
    · have := he.mem j' h2
      omega
  exact ⟨he.plen, h8, fun i hi => (hb i hi).1, fun i hi => (hb i hi).2⟩
theorem unOf_tree {w : List Int} {n : Nat} (hw : Word w n) : Tree (unOf w) n := by
  obtain ⟨v, h1, h2, h3⟩ := left_ex (n := n) (g := untG w w.length) (by rw [length_untG]; have := hw.len; omega)
  exact edges_tree (edges_of hw (by omega) (by omega) h3) hw.le
theorem length_unOf (w : List Int) : (unOf w).length = w.length + 1 := length_unTo w _
end Go.Proofs.Ytakadjhbomggbaa
