/- Sand on complete graphs: toppling, settling, sums. -/
import Derived.Test.YtclpbccmgfclcaaMathT
namespace Go.Proofs.Ytclpbccmgfclcaa
open Go.RowKit

/-- Sand behind the toppling of a node: each node has a grain more, and the one that topples loses one for each node and one to the sink. -/
def topL (c : List Int) (i : Nat) : List Int := (c.map (· + 1)).set i (nth c i - c.length)
@[simp] theorem length_topL (c : List Int) (i : Nat) : (topL c i).length = c.length := by simp [topL]
theorem nth_map_succ {c : List Int} {k : Nat} (h : k < c.length) : nth (c.map (· + 1)) k = nth c k + 1 := by simp [nth, h]
theorem nth_topL {c : List Int} {i k : Nat} (hi : i < c.length) (hk : k < c.length) : nth (topL c i) k = if i = k then nth c k - c.length else nth c k + 1 := by
  unfold topL
  rw [nth_set (by simpa using hi)]
  split
  · subst_vars; rfl
  · exact nth_map_succ hk
theorem total_map_succ : ∀ c : List Int, total (c.map (· + 1)) = total c + c.length
  | [] => rfl
  | x :: c => by simp only [List.map_cons, total_cons, total_map_succ c, List.length_cons]; omega
theorem total_set : ∀ (l : List Int) (i : Nat) (y : Int), i < l.length → total (l.set i y) = total l - nth l i + y
  | [], i, y, h => by simp at h
  | x :: l, 0, y, _ => by simp only [List.set_cons_zero, total_cons, nth, List.getD_cons_zero]; omega
  | x :: l, i + 1, y, h => by
    have := total_set l i y (by simpa using h)
    simp only [List.set_cons_succ, total_cons, nth, List.getD_cons_succ] at this ⊢
    omega
theorem total_topL {c : List Int} {i : Nat} (hi : i < c.length) : total (topL c i) = total c - 1 := by
  unfold topL
  rw [total_set _ _ _ (by simpa using hi), total_map_succ, nth_map_succ hi]
  omega
/-- No node has less than no grain. -/
def Pile (c : List Int) : Prop := ∀ x ∈ c, 0 ≤ x
theorem Pile.nth {c : List Int} (h : Pile c) {k : Nat} (hk : k < c.length) : 0 ≤ nth c k := h _ (nth_mem hk)
theorem pile_of {c : List Int} (h : ∀ k, k < c.length → 0 ≤ nth c k) : Pile c := fun x hx => by
  obtain ⟨i, hi, rfl⟩ := mem_nth hx
  exact h i hi
theorem pile_total : ∀ {c : List Int}, Pile c → 0 ≤ total c ∧ ∀ x ∈ c, x ≤ total c
  | [], _ => ⟨Int.le_refl _, fun x hx => by simp at hx⟩
  | x :: c, h => by
    obtain ⟨h1, h2⟩ := pile_total (c := c) (fun y hy => h y (by simp [hy]))
    have h0 := h x (by simp)
    rw [total_cons]
    refine ⟨by omega, fun y hy => ?_⟩
    rcases List.mem_cons.1 hy with rfl | hy
    · omega
    · have := h2 y hy; omega
theorem total_le {M : Int} : ∀ {c : List Int}, (∀ x ∈ c, x ≤ M) → total c ≤ M * c.length
  | [], _ => by simp [total]
  | x :: c, h => by
    have h1 := total_le (c := c) (fun y hy => h y (by simp [hy]))
    have h0 := h x (by simp)
    rw [total_cons, List.length_cons, Int.natCast_succ, Int.mul_add]
    omega
theorem pile_topL {c : List Int} {i : Nat} (h : Pile c) (hi : i < c.length) (hn : (c.length : Int) ≤ nth c i) : Pile (topL c i) := pile_of fun k hk => by
  rw [length_topL] at hk
  rw [nth_topL hi hk]
  have := h.nth hk
  split
  · subst_vars; omega
  · omega
/-- The least node that can topple, or how many there are. -/
def firstN (c : List Int) : Nat := c.findIdx (fun x => decide ((c.length : Int) ≤ x))
theorem first_le (c : List Int) : firstN c ≤ c.length := List.findIdx_le_length
theorem first_at {c : List Int} (h : firstN c < c.length) : (c.length : Int) ≤ nth c (firstN c) := by
  have := List.findIdx_getElem (w := h)
  have e : nth c (firstN c) = c[firstN c] := by simp [nth, h]
  rw [e]
  exact of_decide_eq_true this
theorem first_before {c : List Int} {k : Nat} (h : k < firstN c) : nth c k < c.length := by
  have hk : k < c.length := Nat.lt_of_lt_of_le h (first_le c)
  have := List.not_of_lt_findIdx h
  simpa [nth, hk] using this
theorem first_of {c : List Int} {k : Nat} (h : ∀ j, j < k → nth c j < c.length) (hk : k < c.length) (hc : (c.length : Int) ≤ nth c k) : firstN c = k := by
  rcases Nat.lt_trichotomy (firstN c) k with h1 | h1 | h1
  · have h2 := first_at (Nat.lt_trans h1 hk)
    have := h _ h1
    omega
  · exact h1
  · have := first_before h1
    omega
theorem first_none {c : List Int} (h : ∀ j, j < c.length → nth c j < c.length) : firstN c = c.length := by
  have h1 := first_le c
  by_cases e : firstN c < c.length
  · have h2 := first_at e
    have := h _ e
    omega
  · omega
def settleF : Nat → List Int → List Int × List Int
  | 0, c => (c, [])
  | f + 1, c => if firstN c < c.length then ((settleF f (topL c (firstN c))).1, (firstN c : Int) :: (settleF f (topL c (firstN c))).2) else (c, [])
/-- Stable sand in which sand ends, and the nodes that topple, always the least one that can. -/
def settle (c : List Int) : List Int × List Int := settleF (total c).toNat c
theorem first_pos {c : List Int} (h : Pile c) (hf : firstN c < c.length) : 1 ≤ total c := by
  have h1 := first_at hf
  have h2 := (pile_total h).2 _ (nth_mem hf)
  omega
theorem settle_step {c : List Int} (h : Pile c) (hf : firstN c < c.length) : settle c = ((settle (topL c (firstN c))).1, (firstN c : Int) :: (settle (topL c (firstN c))).2) := by
  have h1 := first_pos h hf
  unfold settle
  rw [total_topL hf]
  obtain ⟨f, hf'⟩ : ∃ f, (total c).toNat = f + 1 := ⟨(total c).toNat - 1, by omega⟩
  rw [hf', show (total c - 1).toNat = f by omega, settleF, if_pos hf]
theorem settle_done {c : List Int} (hf : firstN c = c.length) : settle c = (c, []) := by
  unfold settle
  cases (total c).toNat with
  | zero => rfl
  | succ f => rw [settleF, if_neg (by omega)]
theorem settle_ind {P : List Int → Prop} (h0 : ∀ c, Pile c → firstN c = c.length → P c) (h1 : ∀ c, Pile c → firstN c < c.length → P (topL c (firstN c)) → P c) : ∀ (f : Nat) (c : List Int), Pile c → total c ≤ f → P c
  | 0, c, h, ht => by
    have := first_le c
    by_cases e : firstN c < c.length
    · have := first_pos h e; omega
    · exact h0 c h (by omega)
  | f + 1, c, h, ht => by
    have := first_le c
    by_cases e : firstN c < c.length
    · exact h1 c h e (settle_ind h0 h1 f _ (pile_topL h e (first_at e)) (by rw [total_topL e]; omega))
    · exact h0 c h (by omega)
structure Settled (c : List Int) : Prop where
  len : (settle c).1.length = c.length
  pile : Pile (settle c).1
  done : firstN (settle c).1 = c.length
  ord : ∀ x ∈ (settle c).2, 0 ≤ x ∧ x < c.length
  cnt : ((settle c).2.length : Int) ≤ total c
theorem settled {c : List Int} (h : Pile c) : Settled c := by
  refine settle_ind (P := Settled) (fun c hc hf => ?_) (fun c hc hf ih => ?_) (total c).toNat c h (by omega)
  · have hd := settle_done hf
    have := (pile_total hc).1
    exact ⟨by rw [hd], by rw [hd]; exact hc, by rw [hd]; exact hf, by rw [hd]; simp, by rw [hd]; simpa using this⟩
  · have hs := settle_step hc hf
    have i1 := ih.len
    have i3 := ih.done
    have i4 := ih.ord
    have i5 := ih.cnt
    rw [length_topL] at i1 i3 i4
    rw [total_topL hf] at i5
    refine ⟨by rw [hs]; exact i1, by rw [hs]; exact ih.pile, by rw [hs]; exact i3, ?_, ?_⟩
    · rw [hs]
      intro x hx
      rcases List.mem_cons.1 hx with rfl | hx
      · omega
      · exact i4 x hx
    · rw [hs]; simp only [List.length_cons]; omega
theorem stable_lt {c : List Int} (h : firstN c = c.length) : ∀ x ∈ c, x < c.length := fun x hx => by
  obtain ⟨i, hi, rfl⟩ := mem_nth hx
  exact first_before (by omega)
/-- Sums. -/
def plusL (c d : List Int) : List Int := List.zipWith (· + ·) c d
@[simp] theorem length_plusL {c d : List Int} (h : c.length = d.length) : (plusL c d).length = c.length := by simp [plusL, h]
theorem nth_plusL {c d : List Int} {k : Nat} (hc : k < c.length) (hd : k < d.length) : nth (plusL c d) k = nth c k + nth d k := by simp [plusL, nth, hc, hd, List.getElem?_zipWith]
theorem plus_ones : ∀ c : List Int, plusL c (List.replicate c.length 1) = c.map (· + 1)
  | [] => rfl
  | x :: c => by
    have := plus_ones c
    unfold plusL at this
    simp [plusL, List.replicate_succ, this]
theorem pile_plus {c d : List Int} (hc : Pile c) (hd : Pile d) (h : c.length = d.length) : Pile (plusL c d) := pile_of fun k hk => by
  rw [length_plusL h] at hk
  rw [nth_plusL hk (by omega)]
  have := hc.nth hk
  have := hd.nth (k := k) (by omega)
  omega
theorem total_plus : ∀ {c d : List Int}, c.length = d.length → total (plusL c d) = total c + total d
  | [], [], _ => rfl
  | x :: c, y :: d, h => by
    have := total_plus (c := c) (d := d) (by simpa using h)
    unfold plusL at this
    simp only [plusL, List.zipWith_cons_cons, total_cons, this]
    omega
/-- The program's and the document's words for sand. -/
def sandB (c : List Int) : Bool := decide (c.length ≤ 8) && allB c 0 60
theorem sandB_iff {c : List Int} : sandB c = true ↔ c.length ≤ 8 ∧ ∀ x ∈ c, 0 ≤ x ∧ x ≤ 60 := by
  simp [sandB, allB_iff]
theorem Pile.sand {c : List Int} (h : sandB c = true) : Pile c := fun x hx => ((sandB_iff.1 h).2 x hx).1
def recB (c : List Int) : Bool := decide ((settle (c.map (· + 1))).1 = c)
theorem pile_succ {c : List Int} (h : Pile c) : Pile (c.map (· + 1)) := fun x hx => by
  obtain ⟨y, hy, rfl⟩ := List.mem_map.1 hx
  have := h y hy
  omega
theorem rec_stable {c : List Int} (h : Pile c) (hr : recB c = true) : firstN c = c.length := by
  have := (settled (pile_succ h)).done
  rw [of_decide_eq_true hr, List.length_map] at this
  exact this
def turnL (c : List Int) : List Int := c.map fun x => (c.length : Int) - 1 - x
def restL (n : Nat) : List Int := List.replicate n ((n : Int) - 1)
/-- How often each node topples. -/
def bump (t : List Int) : List Int → List Int
  | [] => t
  | i :: is => bump (t.set i.toNat (nth t i.toNat + 1)) is
theorem bump_snoc (i : Int) : ∀ (is t : List Int), bump t (is ++ [i]) = (bump t is).set i.toNat (nth (bump t is) i.toNat + 1)
  | [], _ => rfl
  | _ :: is, _ => bump_snoc i is _
@[simp] theorem length_bump : ∀ (is t : List Int), (bump t is).length = t.length
  | [], _ => rfl
  | _ :: is, t => by rw [bump, length_bump is]; simp
theorem bump_bounds : ∀ (is t : List Int) (M : Int), (∀ x ∈ t, 0 ≤ x ∧ x ≤ M) → 0 ≤ M → ∀ x ∈ bump t is, 0 ≤ x ∧ x ≤ M + is.length
  | [], t, M, h, h0, x, hx => by have := h x hx; simp; omega
  | i :: is, t, M, h, h0, x, hx => by
    have := bump_bounds is _ (M + 1) (fun y hy => ?_) (by omega) x hx
    · simp only [List.length_cons]; omega
    · rcases List.mem_or_eq_of_mem_set hy with hy | rfl
      · have := h y hy; omega
      · by_cases e : i.toNat < t.length
        · have := h _ (nth_mem e); omega
        · have : nth t i.toNat = 0 := by simp [nth, Nat.not_lt.1 e]
          omega
def stableOf (c : List Int) : Bool × Bool := if sandB c then (decide (firstN c = c.length), true) else (false, false)
def toppleOf (c : List Int) (i : Int) : List Int × Bool :=
  if sandB c && decide (0 ≤ i) && decide (i < c.length) && decide ((c.length : Int) ≤ nth c i.toNat) && sandB (topL c i.toNat) then (topL c i.toNat, true) else ([], false)
def settleOf (c : List Int) : List Int × List Int × Bool := if sandB c then ((settle c).1, bump (List.replicate c.length 0) (settle c).2, true) else ([], [], false)
def recOf (c : List Int) : Bool × Bool := if sandB c then (recB c, true) else (false, false)
def parkOf (c : List Int) : List Int × Bool := if sandB c && recB c then (turnL c, true) else ([], false)
def addOf (c d : List Int) : List Int × Bool := if sandB c && sandB d && decide (c.length = d.length) then ((settle (plusL c d)).1, true) else ([], false)
def restOf (n : Int) : List Int × Bool := if inB n 0 8 then (restL n.toNat, true) else ([], false)
def repL (c : List Int) : Nat → List Int
  | 0 => restL c.length
  | k + 1 => (settle (plusL (repL c k) c)).1
def repeatOf (c : List Int) (k : Int) : List Int × Bool := if sandB c && recB c && inB k 0 1000 then (repL c k.toNat, true) else ([], false)
def fireOf (c : List Int) : List Int × Bool := if sandB c && recB c then ((settle (c.map (· + 1))).2, true) else ([], false)
theorem length_repL {c : List Int} (h : Pile c) : ∀ k, (repL c k).length = c.length ∧ Pile (repL c k) ∧ ∀ x ∈ repL c k, x < c.length
  | 0 => ⟨by simp [repL, restL], fun x hx => by
      rw [repL, restL] at hx
      obtain ⟨h1, rfl⟩ := List.mem_replicate.1 hx
      omega, fun x hx => by
      rw [repL, restL] at hx
      obtain ⟨h1, rfl⟩ := List.mem_replicate.1 hx
      omega⟩
  | k + 1 => by
    obtain ⟨h1, h2, h3⟩ := length_repL h k
    have hs := settled (pile_plus h2 h h1)
    have hl := hs.len
    rw [length_plusL h1, h1] at hl
    have hd := hs.done
    rw [length_plusL h1, h1, ← hl] at hd
    exact ⟨hl, hs.pile, fun x hx => by have := stable_lt hd x hx; rw [hl] at this; exact this⟩
/-- The model's way to the rest sand comes to it. -/
theorem rest_model : ∀ n, n ≤ 8 → (settle (List.zipWith (· - ·) (plusL (turnL (List.replicate n 0)) (turnL (List.replicate n 0))) (settle (plusL (turnL (List.replicate n 0)) (turnL (List.replicate n 0)))).1)).1 = restL n := by decide +kernel
end Go.Proofs.Ytclpbccmgfclcaa
