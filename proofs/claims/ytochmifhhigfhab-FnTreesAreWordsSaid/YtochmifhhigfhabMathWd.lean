/- Words and trees undo each other. -/
import Derived.Test.YtochmifhhigfhabMathUn
namespace Go.Proofs.Ytochmifhhigfhab
open Go.RowKit

theorem grt_congr {f g : Int → Bool} : ∀ {m : Nat}, (∀ v : Nat, 1 ≤ v → v ≤ m → f v = g v) → grt f m = grt g m
  | 0, _ => rfl
  | m + 1, h => by
    have h1 := h (m + 1) (by omega) (Nat.le_refl _)
    have h2 := grt_congr (f := f) (g := g) (m := m) (fun v a b => h v a (by omega))
    have h3 : f ((m : Int) + 1) = g ((m : Int) + 1) := by exact_mod_cast h1
    simp only [grt, h3, h2]
theorem untG_grows (w : List Int) (k : Nat) : ∀ m, ∃ t, untG w (k + m) = untG w k ++ t
  | 0 => ⟨[], by simp⟩
  | m + 1 => by
    obtain ⟨t, ht⟩ := untG_grows w k m
    exact ⟨t ++ [grt (uf w (untG w (k + m)) (k + m)) (w.length + 1)], by rw [← Nat.add_assoc, ← List.append_assoc, ← ht]; rfl⟩
theorem pruG_grows (w : List Int) (k : Nat) : ∀ m, ∃ t, pruG w (k + m) = pruG w k ++ t
  | 0 => ⟨[], by simp⟩
  | m + 1 => by
    obtain ⟨t, ht⟩ := pruG_grows w k m
    exact ⟨t ++ [grt (lf w (pruG w (k + m))) w.length], by rw [← Nat.add_assoc, ← List.append_assoc, ← ht]; rfl⟩
/-- What is left, by edges. -/
theorem lf_uf {ps es ws : List Int} {n k : Nat} (he : Edges ps es (ws ++ [0]) n) (hn : es.Nodup) (hw : ws.length + 1 = n) (hk : k ≤ ws.length) {v : Int} (h1 : 1 ≤ v) :
    lf ps (es.take k) v = uf ws (es.take k) k v := by
  rw [Bool.eq_iff_iff, lf_iff, uf_iff]
  constructor
  · rintro ⟨a, b⟩
    refine ⟨a, fun hd => ?_⟩
    obtain ⟨i, hi, e⟩ := mem_nth hd
    rw [nth_dropP] at e
    simp at hi
    have hu := he.up (k + i) (by omega)
    rw [nth_left (by omega), e] at hu
    have hm := he.mem (k + i) (by omega)
    have := kids_zero.1 b (nth es (k + i)) hm.1 (by rw [he.plen]; exact hm.2) hu.symm
    obtain ⟨j, hj, ej⟩ := mem_nth this
    simp at hj
    rw [nth_take (by omega)] at ej
    have := nth_inj hn (i := j) (j := k + i) (by omega) (by rw [he.elen]; omega) ej
    omega
  · rintro ⟨a, b⟩
    refine ⟨a, kids_zero.2 fun u u1 u2 u3 => ?_⟩
    obtain ⟨j, hj, ej⟩ := mem_nth (he.all u u1 (by rw [← he.plen]; exact u2))
    rw [he.elen] at hj
    have hu := he.up j hj
    rw [ej, u3] at hu
    by_cases hjk : j < k
    · rw [← ej, ← nth_take hjk]
      exact nth_mem (by simp [he.elen]; omega)
    · exfalso
      by_cases hjw : j < ws.length
      · rw [nth_left hjw] at hu
        refine b ?_
        rw [← hu, show j = k + (j - k) by omega, ← nth_dropP]
        exact nth_mem (by simp; omega)
      · have : j = ws.length := by omega
        subst this
        rw [nth_append_at] at hu
        omega
theorem take_grown {es : List Int} {t : List Int} {k : Nat} {g : List Int} (h : es = g ++ t) (hl : g.length = k) : es.take k = g := by
  subst h; subst hl; simp
/-- The word of the tree of a word. -/
theorem pru_un {ws : List Int} {n : Nat} (hw : Word ws n) : pruOf (unOf ws) = ws ∧ Tree (unOf ws) n := by
  have hl := hw.len
  have ht := unOf_tree hw
  obtain ⟨last, l1, l2, l3⟩ := left_ex (n := n) (g := untG ws ws.length) (by rw [length_untG]; omega)
  have he := edges_of hw (last := (last : Int)) (by omega) (by omega) l3
  have hg := untG_is hw ws.length (Nat.le_refl _)
  have hnd : (untG ws ws.length ++ [(last : Int)]).Nodup := by
    rw [List.nodup_append]
    exact ⟨hg.nodup, by simp, fun a ha b hb => by simp at hb; subst hb; rintro rfl; exact l3 ha⟩
  have hgo : ∀ k, k ≤ ws.length → pruG (unOf ws) k = untG ws k := by
    intro k
    induction k with
    | zero => intro _; rfl
    | succ k ih =>
      intro hk
      have ih' := ih (by omega)
      simp only [pruG, untG]
      rw [ih', ht.len, hl]
      congr 2
      refine grt_congr fun v v1 _ => ?_
      obtain ⟨t, hte⟩ := untG_grows ws k (ws.length - k)
      rw [show k + (ws.length - k) = ws.length by omega] at hte
      have htk : (untG ws ws.length ++ [(last : Int)]).take k = untG ws k := take_grown (t := t ++ [(last : Int)]) (by rw [hte, List.append_assoc]) (length_untG ws k)
      have := lf_uf he hnd hl (k := k) (by omega) (v := (v : Int)) (by omega)
      rw [htk] at this
      exact this
  refine ⟨?_, ht⟩
  unfold pruOf pruW
  rw [length_unOf, Nat.add_sub_cancel, hgo _ (Nat.le_refl _)]
  refine ext_nth (by simp [length_untG]) fun i hi => ?_
  simp [length_untG] at hi
  have := (unTo_is hw ws.length (Nat.le_refl _)).1 i hi
  have e : nth ((untG ws ws.length).map (par (unOf ws))) i = par (unOf ws) (nth (untG ws ws.length) i) := by
    simp [nth, length_untG, hi]
  rw [e]
  exact this

/-- The word of a tree is a word. -/
theorem pru_word {xs : List Int} {n : Nat} (ht : Tree xs n) (hn : 1 ≤ n) : Word (pruOf xs) n := by
  have hg := pruG_gone ht (n - 1) (by omega)
  refine ⟨by unfold pruOf; rw [length_pruW, ht.len]; omega, ht.le, fun i hi => ?_⟩
  have hm := nth_mem hi
  unfold pruOf pruW at hm
  rw [ht.len] at hm
  obtain ⟨v, hv, e⟩ := List.mem_map.1 hm
  have hb := hg.mem v hv
  have := ht.par hb.1 (by rw [← ht.len]; exact hb.2)
  rw [e] at this
  unfold pruOf
  rw [ht.len]
  exact this
/-- A tree's edges, as its leaves are taken away. -/
theorem pru_edges {xs : List Int} {n : Nat} (ht : Tree xs n) (hn : 1 ≤ n) : ∃ last : Nat, 1 ≤ last ∧ last ≤ n ∧ (last : Int) ∉ pruG xs (n - 1) ∧ par xs last = 0 ∧ (pruG xs (n - 1) ++ [(last : Int)]).Nodup ∧
    Edges xs (pruG xs (n - 1) ++ [(last : Int)]) (pruOf xs ++ [0]) n := by
  have hg := pruG_gone ht (n - 1) (by omega)
  have hw := pru_word ht hn
  obtain ⟨last, l1, l2, l3⟩ := left_ex (n := n) (g := pruG xs (n - 1)) (by rw [hg.len]; omega)
  have hnd : (pruG xs (n - 1) ++ [(last : Int)]).Nodup := by
    rw [List.nodup_append]
    exact ⟨hg.nodup, by simp, fun a ha b hb => by simp at hb; subst hb; rintro rfl; exact l3 ha⟩
  have hel : (pruG xs (n - 1) ++ [(last : Int)]).length = n := by simp [hg.len]; omega
  have hem : ∀ v ∈ pruG xs (n - 1) ++ [(last : Int)], 1 ≤ v ∧ v ≤ (n : Int) := fun v hv => by
    rcases List.mem_append.1 hv with hv | hv
    · have := hg.mem v hv; rw [ht.len] at this; exact this
    · simp at hv; omega
  have hfull := full_of hel hnd hem
  have hpl : par xs last = 0 := by
    apply Classical.byContradiction
    intro h0
    have hb := ht.par (v := last) (by omega) (by omega)
    have hm := hfull (par xs last) (by omega) hb.2
    rcases List.mem_append.1 hm with hm | hm
    · exact l3 (hg.down _ (by omega) (by rw [ht.len]; omega) hm)
    · simp at hm
      have hd := ht.dep_par (v := last) (by omega) (by omega)
      rw [hm] at hd
      omega
  have hlw : (pruOf xs).length = n - 1 := by unfold pruOf; rw [length_pruW, ht.len]
  have hwn : ∀ i, i < n - 1 → nth (pruOf xs) i = par xs (nth (pruG xs (n - 1)) i) := fun i hi => by
    unfold pruOf pruW
    rw [ht.len]
    simp [nth, hg.len, hi]
  refine ⟨last, l1, l2, l3, hpl, hnd, ht.len, hel, by simp [hlw]; omega, fun i hi => hem _ (nth_mem (by rw [hel]; exact hi)), hfull, fun i hi => ?_, fun i hi => ?_⟩
  · by_cases e : i < n - 1
    · rw [nth_left (by rw [hlw]; exact e), nth_left (by rw [hg.len]; exact e)]
      exact hwn i e
    · have e1 : i = (pruOf xs).length := by rw [hlw]; omega
      have e2 : i = (pruG xs (n - 1)).length := by rw [hg.len]; omega
      have r1 : nth (pruOf xs ++ [0]) i = 0 := by rw [e1]; exact nth_append_at
      have r2 : nth (pruG xs (n - 1) ++ [(last : Int)]) i = last := by rw [e2]; exact nth_append_at
      rw [r1, r2]; exact hpl.symm
  · by_cases e : i < n - 1
    · rw [nth_left (by rw [hlw]; exact e), hwn i e]
      by_cases e0 : par xs (nth (pruG xs (n - 1)) i) = 0
      · exact .inl e0
      · have hb := ht.par (v := nth (pruG xs (n - 1)) i) ((hg.mem _ (nth_mem (by rw [hg.len]; exact e))).1) (by have := (hg.mem _ (nth_mem (xs := pruG xs (n - 1)) (i := i) (by rw [hg.len]; exact e))).2; rw [ht.len] at this; exact this)
        obtain ⟨j, hj, ej⟩ := mem_nth (hfull _ (by omega) hb.2)
        refine .inr ⟨j, ?_, by omega, ej.symm⟩
        apply Classical.byContradiction
        intro hij
        have hji : j ≤ i := by omega
        -- j was taken away by then, so its child i was, too: before itself
        obtain ⟨t, hte⟩ := pruG_grows xs j (n - 1 - j)
        rw [show j + (n - 1 - j) = n - 1 by omega] at hte
        have hgj := pruG_gone ht (j + 1) (by omega)
        obtain ⟨t2, hte2⟩ := pruG_grows xs (j + 1) (n - 1 - (j + 1))
        rw [show j + 1 + (n - 1 - (j + 1)) = n - 1 by omega] at hte2
        obtain ⟨x, _, _, x3, x4, _, _⟩ := gone_step ht (pruG_gone ht j (by omega)) (by omega)
        have hgx : pruG xs (j + 1) = pruG xs j ++ [(x : Int)] := by simp only [pruG]; rw [ht.len, x4]
        have hxj : nth (pruG xs (n - 1)) j = (x : Int) := by
          rw [hte2, nth_left (by rw [hgj.len]; omega), hgx]
          have := nth_append_at (xs := pruG xs j) (y := (x : Int))
          rwa [length_pruG] at this
        rw [nth_left (by rw [hg.len]; omega), hxj] at ej
        have hin := kids_zero.1 (lf_iff.1 x3).2 (nth (pruG xs (n - 1)) i) ((hg.mem _ (nth_mem (by rw [hg.len]; exact e))).1) ((hg.mem _ (nth_mem (by rw [hg.len]; exact e))).2) ej.symm
        obtain ⟨q, hq, eq⟩ := mem_nth hin
        rw [length_pruG] at hq
        have hq2 : nth (pruG xs (n - 1)) q = nth (pruG xs (n - 1)) i := by rw [← eq, hte, nth_left (by rw [length_pruG]; exact hq)]
        have := nth_inj hg.nodup (i := q) (j := i) (by rw [hg.len]; omega) (by rw [hg.len]; exact e) hq2
        omega
    · have e1 : i = (pruOf xs).length := by rw [hlw]; omega
      exact .inl (by rw [e1]; exact nth_append_at)
/-- The tree of the word of a tree. -/
theorem un_pru {xs : List Int} {n : Nat} (ht : Tree xs n) (hn : 1 ≤ n) : unOf (pruOf xs) = xs := by
  have hw := pru_word ht hn
  obtain ⟨last, l1, l2, l3, hpl, hnd, he⟩ := pru_edges ht hn
  have hlw : (pruOf xs).length = n - 1 := by have := hw.len; omega
  have hg := pruG_gone ht (n - 1) (by omega)
  have hgo : ∀ k, k ≤ n - 1 → untG (pruOf xs) k = pruG xs k := by
    intro k
    induction k with
    | zero => intro _; rfl
    | succ k ih =>
      intro hk
      have ih' := ih (by omega)
      simp only [pruG, untG]
      rw [ih', ht.len, hw.len]
      congr 2
      refine grt_congr fun v v1 _ => ?_
      obtain ⟨t, hte⟩ := pruG_grows xs k (n - 1 - k)
      rw [show k + (n - 1 - k) = n - 1 by omega] at hte
      have htk : (pruG xs (n - 1) ++ [(last : Int)]).take k = pruG xs k := take_grown (t := t ++ [(last : Int)]) (by rw [hte, List.append_assoc]) (length_pruG xs k)
      have := lf_uf he hnd hw.len (k := k) (by omega) (v := (v : Int)) (by omega)
      rw [htk] at this
      exact this.symm
  obtain ⟨u1, u2⟩ := unTo_is hw (pruOf xs).length (Nat.le_refl _)
  rw [hlw, hgo (n - 1) (Nat.le_refl _)] at u1 u2
  have key : ∀ v : Int, 1 ≤ v → v ≤ n → par (unOf (pruOf xs)) v = par xs v := fun v v1 v2 => by
    by_cases hv : v ∈ pruG xs (n - 1)
    · obtain ⟨j, hj, rfl⟩ := mem_nth hv
      rw [length_pruG] at hj
      have h1 := u1 j hj
      have h2 := he.up j (by omega)
      rw [nth_left (by rw [hlw]; exact hj), nth_left (by rw [length_pruG]; exact hj)] at h2
      unfold unOf
      rw [hlw, h1, h2]
    · have hvl : v = last := by
        have := he.all v v1 v2
        rcases List.mem_append.1 this with h | h
        · exact absurd h hv
        · simpa using h
      have h1 := u2 v v1 v2 hv
      unfold unOf
      rw [hlw, h1, hvl, hpl]
  refine ext_nth (by rw [length_unOf, hlw, ht.len]; omega) fun i hi => ?_
  rw [length_unOf, hlw] at hi
  have := key ((i : Int) + 1) (by omega) (by omega)
  unfold par at this
  rwa [show ((i : Int) + 1).toNat - 1 = i by omega] at this
/-- How often a node occurs in the word. -/
theorem deg_word {xs : List Int} {n : Nat} (ht : Tree xs n) (hn : 1 ≤ n) (v : Nat) : deg xs v = (pruOf xs).count (v : Int) + 1 := by
  obtain ⟨last, l1, l2, l3, hpl, hnd, he⟩ := pru_edges ht hn
  have hp : (pruG xs (n - 1) ++ [(last : Int)]).map (par xs) = pruOf xs ++ [0] := by
    unfold pruOf pruW
    rw [List.map_append, ht.len]
    simp [hpl]
  have hperm : (pruG xs (n - 1) ++ [(last : Int)]).Perm ((List.range n).map fun (i : Nat) => (i : Int) + 1) := by
    rw [List.perm_ext_iff_of_nodup hnd]
    · intro a
      rw [List.mem_map]
      constructor
      · intro ha
        obtain ⟨j, hj, e⟩ := mem_nth ha
        have := he.mem j (by rw [← he.elen]; exact hj)
        rw [e] at this
        exact ⟨a.toNat - 1, List.mem_range.2 (by omega), by omega⟩
      · rintro ⟨i, hi, rfl⟩
        exact he.all _ (by omega) (by have := List.mem_range.1 hi; omega)
    · rw [List.Nodup, List.pairwise_map]
      refine List.nodup_range.imp ?_
      intro a b h e
      omega
  have hx : ((List.range n).map fun (i : Nat) => (i : Int) + 1).map (par xs) = xs := by
    refine ext_nth (by simp [ht.len]) fun i hi => ?_
    simp at hi
    simp only [nth, List.getD_eq_getElem?_getD, List.getElem?_map, List.getElem?_range hi, Option.map_some, Option.getD_some]
    unfold par
    rw [show ((i : Int) + 1).toNat - 1 = i by omega]
    rfl
  have hc := (hperm.map (par xs)).count_eq (v : Int)
  rw [hp, hx, List.count_append] at hc
  unfold deg
  rw [← hc]
  by_cases e : v = 0
  · subst e; simp
  · have : ¬ (0 : Int) = (v : Int) := by omega
    have h2 : List.count (v : Int) [0] = 0 := by rw [List.count_eq_zero]; simp; omega
    rw [h2]
    simp [e]; omega
theorem mem_leaves {xs : List Int} {v : Nat} (h1 : 1 ≤ v) (h2 : v ≤ xs.length) : hasB (leavesL xs) v = decide (deg xs v = 1) := by
  rw [Bool.eq_iff_iff, hasB_iff, decide_eq_true_eq]
  unfold leavesL
  rw [mem_nodesW, List.length_drop, length_degL]
  unfold par
  rw [nth_dropP, Int.toNat_natCast, show 1 + (v - 1) = v by omega, nth_degL h2]
  constructor
  · rintro ⟨_, _, h⟩; omega
  · intro h; exact ⟨by omega, by omega, by omega⟩
end Go.Proofs.Ytochmifhhigfhab
