/- Regions told by labels: the next index is the one with the least number that can come, and no other one can. -/
import Derived.Test.YtakadjhbomggbabMathBf
namespace Go.Proofs.Ytakadjhbomggbab
open Go.RowKit

/-- How many of those before count in the label of an index: the greater ones, and those at places below f. -/
def cntF (i : Int) : List Int → Nat → Nat
  | [], _ => 0
  | j :: o, f => (if i < j ∨ 0 < f then 1 else 0) + cntF i o (f - 1)
theorem cntF_snoc (i j : Int) : ∀ (o : List Int) (f : Nat), cntF i (o ++ [j]) f = cntF i o f + (if i < j ∨ o.length < f then 1 else 0)
  | [], f => by simp [cntF]
  | k :: o, f => by
    simp only [List.cons_append, cntF, cntF_snoc i j o, List.length_cons]
    have : (i < j ∨ o.length < f - 1) ↔ (i < j ∨ o.length + 1 < f) := by omega
    simp only [this]
    omega
theorem cntF_le (i : Int) : ∀ (o : List Int) (f : Nat), cntF i o f ≤ o.length
  | [], _ => by simp [cntF]
  | j :: o, f => by
    have := cntF_le i o (f - 1)
    simp only [cntF, List.length_cons]
    split <;> omega
theorem cntF_full (i : Int) : ∀ (o : List Int) (f : Nat), o.length ≤ f → cntF i o f = o.length
  | [], _, _ => by simp [cntF]
  | j :: o, f, h => by
    simp only [List.length_cons] at h
    simp only [cntF, List.length_cons, cntF_full i o (f - 1) (by omega)]
    rw [if_pos (by omega)]
    omega
theorem cntF_succ (i : Int) : ∀ (o : List Int) (f : Nat), f < o.length → cntF i o (f + 1) = cntF i o f + (if i < nth o f then 0 else 1)
  | [], _, h => by simp at h
  | j :: o, 0, _ => by
    simp only [cntF, nth, List.getD_cons_zero]
    by_cases h : i < j <;> simp [h] <;> omega
  | j :: o, f + 1, h => by
    have := cntF_succ i o f (by simpa using h)
    simp only [cntF, nth, List.getD_cons_succ, Nat.add_sub_cancel] at this ⊢
    rw [this]
    simp
    omega
theorem cntF_mono (i : Int) (o : List Int) {f g : Nat} (h : f ≤ g) : cntF i o f ≤ cntF i o g := by
  induction g with
  | zero => rw [Nat.le_zero.1 h]; exact Nat.le_refl _
  | succ g ih =>
    by_cases e : f = g + 1
    · rw [e]; exact Nat.le_refl _
    · refine Nat.le_trans (ih (by omega)) ?_
      by_cases hg : g < o.length
      · rw [cntF_succ i o g hg]; omega
      · rw [cntF_full i o g (by omega), cntF_full i o (g + 1) (by omega)]; exact Nat.le_refl _
/-- The least number from l on at which the count is c; l + k if there is none below. -/
def farN (i : Int) (o : List Int) (c : Int) : Nat → Nat → Nat
  | 0, l => l
  | k + 1, l => if (cntF i o l : Int) = c then l else farN i o c k (l + 1)
theorem far_spec (i : Int) (o : List Int) (c : Int) : ∀ (k l : Nat), l ≤ farN i o c k l ∧ farN i o c k l ≤ l + k ∧ (∀ f, l ≤ f → f < farN i o c k l → (cntF i o f : Int) ≠ c) ∧ (farN i o c k l < l + k → (cntF i o (farN i o c k l) : Int) = c)
  | 0, l => ⟨Nat.le_refl _, Nat.le_refl _, fun f h1 h2 => by simp only [farN] at h2; omega, fun h => by simp only [farN] at h; omega⟩
  | k + 1, l => by
    simp only [farN]
    by_cases e : (cntF i o l : Int) = c
    · rw [if_pos e]
      exact ⟨Nat.le_refl _, by omega, fun f h1 h2 => by omega, fun _ => e⟩
    · rw [if_neg e]
      obtain ⟨h1, h2, h3, h4⟩ := far_spec i o c k (l + 1)
      refine ⟨by omega, by omega, fun f g1 g2 => ?_, fun g => h4 (by omega)⟩
      by_cases e2 : f = l
      · subst e2; exact e
      · exact h3 f (by omega) g2
theorem far_of {i : Int} {o : List Int} {c : Int} {k l f : Nat} (h1 : l ≤ f) (h2 : f < l + k) (h3 : ∀ g, l ≤ g → g < f → (cntF i o g : Int) ≠ c) (h4 : (cntF i o f : Int) = c) : farN i o c k l = f := by
  obtain ⟨g1, g2, g3, g4⟩ := far_spec i o c k l
  rcases Nat.lt_trichotomy (farN i o c k l) f with h | h | h
  · exact absurd (g4 (by omega)) (h3 _ g1 h)
  · exact h
  · exact absurd h4 (g3 f h1 h)
theorem far_none {i : Int} {o : List Int} {c : Int} {k l : Nat} (h : ∀ g, l ≤ g → g < l + k → (cntF i o g : Int) ≠ c) : farN i o c k l = l + k := by
  obtain ⟨g1, g2, g3, g4⟩ := far_spec i o c k l
  by_cases e : farN i o c k l < l + k
  · exact absurd (g4 e) (h _ g1 e)
  · omega
/-- The index that comes next among the first k, and its number; one more than there are places, if none can. -/
def nxtF (lab o : List Int) (l : Nat) : Nat → Nat × Nat
  | 0 => (0, o.length + 1)
  | k + 1 => if hasB o k then nxtF lab o l k
    else if farN k o (nth lab k) (o.length + 1 - l) l < (nxtF lab o l k).2 then (k, farN k o (nth lab k) (o.length + 1 - l) l) else nxtF lab o l k
/-- The number with which an index may come next. -/
def farOf (lab o : List Int) (l k : Nat) : Nat := farN k o (nth lab k) (o.length + 1 - l) l
theorem nxt_le (lab o : List Int) (l : Nat) : ∀ k, (nxtF lab o l k).2 ≤ o.length + 1
  | 0 => Nat.le_refl _
  | k + 1 => by
    have := nxt_le lab o l k
    simp only [nxtF]
    split
    · exact this
    · split
      · simp only; omega
      · exact this
theorem nxt_spec (lab o : List Int) (l : Nat) : ∀ k : Nat, (∀ j : Nat, j < k → (j : Int) ∉ o → (nxtF lab o l k).2 ≤ farOf lab o l j) ∧
    ((nxtF lab o l k).2 ≤ o.length → (nxtF lab o l k).1 < k ∧ ((nxtF lab o l k).1 : Int) ∉ o ∧ (nxtF lab o l k).2 = farOf lab o l (nxtF lab o l k).1 ∧ ∀ j : Nat, j < (nxtF lab o l k).1 → (j : Int) ∉ o → (nxtF lab o l k).2 < farOf lab o l j)
  | 0 => ⟨fun j hj => by omega, fun h => by simp only [nxtF] at h; omega⟩
  | k + 1 => by
    obtain ⟨h1, h2⟩ := nxt_spec lab o l k
    have hle := nxt_le lab o l k
    simp only [nxtF]
    by_cases hm : hasB o k = true
    · rw [if_pos hm]
      refine ⟨fun j hj ho => ?_, fun h => ?_⟩
      · by_cases e : j = k
        · subst e; exact absurd (hasB_iff.1 hm) ho
        · exact h1 j (by omega) ho
      · obtain ⟨a1, a2, a3, a4⟩ := h2 h
        exact ⟨by omega, a2, a3, a4⟩
    · rw [if_neg hm]
      have hm' : (k : Int) ∉ o := fun h => hm (hasB_iff.2 h)
      by_cases hl : farN k o (nth lab k) (o.length + 1 - l) l < (nxtF lab o l k).2
      · rw [if_pos hl]
        refine ⟨fun j hj ho => ?_, fun h => ⟨by simp, hm', rfl, fun j hj ho => ?_⟩⟩
        · by_cases e : j = k
          · subst e; exact Nat.le_refl _
          · have := h1 j (by omega) ho
            simp only; omega
        · have := h1 j hj ho
          simp only at hj ⊢
          omega
      · rw [if_neg hl]
        refine ⟨fun j hj ho => ?_, fun h => ?_⟩
        · by_cases e : j = k
          · subst e; unfold farOf; omega
          · exact h1 j (by omega) ho
        · obtain ⟨a1, a2, a3, a4⟩ := h2 h
          exact ⟨by omega, a2, a3, a4⟩
/-- The Region of a label, place by place: the order, the numbers and the last of these. -/
def regF (lab : List Int) : Nat → List Int × List Int × Nat
  | 0 => ([], [], 0)
  | p + 1 => ((regF lab p).1 ++ [((nxtF lab (regF lab p).1 (regF lab p).2.2 lab.length).1 : Int)], (regF lab p).2.1 ++ [((nxtF lab (regF lab p).1 (regF lab p).2.2 lab.length).2 : Int)], (nxtF lab (regF lab p).1 (regF lab p).2.2 lab.length).2)
theorem length_regF (lab : List Int) : ∀ p, (regF lab p).1.length = p ∧ (regF lab p).2.1.length = p
  | 0 => ⟨rfl, rfl⟩
  | p + 1 => by
    obtain ⟨h1, h2⟩ := length_regF lab p
    simp [regF, h1, h2]
/-- What may come next. -/
structure Fits (lab o : List Int) (l i f : Nat) : Prop where
  new : (i : Int) ∉ o
  ge : l ≤ f
  le : f ≤ o.length
  ord : l < f → ¬ (i : Int) < nth o (f - 1)
  cnt : (cntF i o f : Int) = nth lab i
/-- An index can't come any more. -/
def Over (lab o : List Int) (l u : Nat) : Prop := (u : Int) ∉ o ∧ nth lab u < (cntF u o l : Int)
/-- A state from which all come. -/
structure Alive (lab o : List Int) (l : Nat) : Prop where
  nd : o.Nodup
  rng : ∀ x ∈ o, 0 ≤ x ∧ x < (lab.length : Int)
  le : l ≤ o.length
  inv : ∀ k : Nat, k < lab.length → (k : Int) ∉ o → (cntF k o l : Int) ≤ nth lab k
theorem over_next {lab o : List Int} {l u i f : Nat} (h : Over lab o l u) (hf : Fits lab o l i f) : Over lab (o ++ [(i : Int)]) f u := by
  obtain ⟨h1, h2⟩ := h
  have hm := cntF_mono u o hf.ge
  have hiu : i ≠ u := by
    rintro rfl
    have := hf.cnt
    omega
  refine ⟨by simp; exact ⟨h1, by omega⟩, ?_⟩
  rw [cntF_snoc]
  omega
/-- A count that starts low enough comes to c. -/
theorem cntF_mid {i : Int} {o : List Int} {c : Int} {l : Nat} (h1 : (cntF i o l : Int) ≤ c) : ∀ g, l ≤ g → (∀ f, l ≤ f → f < g → (cntF i o f : Int) ≠ c) → (cntF i o g : Int) ≤ c
  | 0, h, _ => by rw [Nat.le_zero.1 h] at h1; exact h1
  | g + 1, h, hn => by
    by_cases e : l = g + 1
    · rw [← e]; exact h1
    · have ih := cntF_mid h1 g (by omega) (fun f a b => hn f a (by omega))
      have := hn g (by omega) (by omega)
      by_cases hg : g < o.length
      · rw [cntF_succ i o g hg]
        split <;> omega
      · rw [cntF_full i o g (by omega)] at ih this
        rw [cntF_full i o (g + 1) (by omega)]
        omega
theorem far_lt {lab o : List Int} {l k : Nat} (hl : l ≤ o.length) : farOf lab o l k ≤ o.length + 1 := by
  have := (far_spec k o (nth lab k) (o.length + 1 - l) l).2.1
  unfold farOf
  omega
theorem nodup_sub : ∀ (a b : List Int), a.Nodup → (∀ x ∈ a, x ∈ b) → a.length ≤ b.length
  | [], _, _, _ => by simp
  | x :: a, b, h, hs => by
    rw [List.nodup_cons] at h
    have h1 := nodup_sub a (b.erase x) h.2 (fun y hy => (List.mem_erase_of_ne (by rintro rfl; exact h.1 hy)).2 (hs y (by simp [hy])))
    have hx := hs x (by simp)
    have h2 := List.length_erase_of_mem hx
    have h3 := List.length_pos_of_mem hx
    simp only [List.length_cons]
    omega
/-- Of the indices that are left one is less than or equal to how many have come. -/
theorem park_left {lab o : List Int} (hp : isPark lab = true) (hl : o.length < lab.length) : ∃ k : Nat, k < lab.length ∧ (k : Int) ∉ o ∧ nth lab k ≤ (o.length : Int) := by
  apply Classical.byContradiction
  intro hno
  have h := park_below_ge hp (o.length + 1) (by omega)
  have e : below lab ((o.length + 1 : Nat) : Int) = ((List.range lab.length).filter fun k => decide (nth lab k ≤ (o.length : Int))).length := by
    have e1 : lab = (List.range lab.length).map (nth lab) := ext_nth (by simp) (fun i hi => by simp [nth, hi])
    unfold below
    conv => lhs; rw [e1]
    rw [List.countP_map, List.countP_eq_length_filter]
    congr 1
    refine List.filter_congr fun x _ => ?_
    simp only [Function.comp]
    rw [Bool.eq_iff_iff, decide_eq_true_iff, decide_eq_true_iff]
    omega
  rw [e] at h
  have hsub : ∀ x ∈ ((List.range lab.length).filter fun k => decide (nth lab k ≤ (o.length : Int))).map (fun k : Nat => (k : Int)), x ∈ o := by
    intro x hx
    obtain ⟨k, hk, rfl⟩ := List.mem_map.1 hx
    rw [List.mem_filter, List.mem_range] at hk
    apply Classical.byContradiction
    intro ho
    exact hno ⟨k, hk.1, ho, of_decide_eq_true hk.2⟩
  have hnd : (((List.range lab.length).filter fun k => decide (nth lab k ≤ (o.length : Int))).map (fun k : Nat => (k : Int))).Nodup := by
    rw [List.Nodup, List.pairwise_map]
    exact (List.Pairwise.filter _ List.nodup_range).imp fun h e => h (by omega)
  have := nodup_sub _ _ hnd hsub
  rw [List.length_map] at this
  omega
theorem alive_next {lab o : List Int} {l : Nat} (h : Alive lab o l) (hp : isPark lab = true) (hl : o.length < lab.length) :
    (nxtF lab o l lab.length).1 < lab.length ∧ Fits lab o l (nxtF lab o l lab.length).1 (nxtF lab o l lab.length).2 ∧
    Alive lab (o ++ [((nxtF lab o l lab.length).1 : Int)]) (nxtF lab o l lab.length).2 ∧
    ∀ i f, i < lab.length → Fits lab o l i f → (i = (nxtF lab o l lab.length).1 ∧ f = (nxtF lab o l lab.length).2) ∨ Over lab (o ++ [(i : Int)]) f (nxtF lab o l lab.length).1 := by
  obtain ⟨s1, s2⟩ := nxt_spec lab o l lab.length
  have hle := h.le
  obtain ⟨k0, k1, k2, k3⟩ := park_left hp hl
  have hk : farOf lab o l k0 ≤ o.length := by
    apply Classical.byContradiction
    intro hn
    obtain ⟨f1, f2, f3, f4⟩ := far_spec k0 o (nth lab k0) (o.length + 1 - l) l
    unfold farOf at hn
    have := cntF_mid (h.inv k0 k1 k2) o.length hle (fun f a b => f3 f a (by omega))
    have h2 := f3 o.length hle (by omega)
    rw [cntF_full _ o _ (Nat.le_refl _)] at this h2
    omega
  have hb : (nxtF lab o l lab.length).2 ≤ o.length := Nat.le_trans (s1 k0 k1 k2) hk
  obtain ⟨t1, t2, t3, t4⟩ := s2 hb
  obtain ⟨i, hi⟩ : ∃ i, (nxtF lab o l lab.length).1 = i := ⟨_, rfl⟩
  obtain ⟨f, hf⟩ : ∃ f, (nxtF lab o l lab.length).2 = f := ⟨_, rfl⟩
  rw [hi] at t1 t2 t3 t4 ⊢
  rw [hf] at hb t3 t4 s1 ⊢
  obtain ⟨f1, f2, f3, f4⟩ := far_spec i o (nth lab i) (o.length + 1 - l) l
  have e : farN i o (nth lab i) (o.length + 1 - l) l = f := t3.symm
  rw [e] at f1 f2 f3 f4
  have f4 := f4 (by omega)
  have FT : Fits lab o l i f := ⟨t2, f1, hb, fun hlt hx => by
    have h1 := f3 (f - 1) (by omega) (by omega)
    have h2 := cntF_succ i o (f - 1) (by omega)
    rw [if_pos hx, show f - 1 + 1 = f by omega] at h2
    omega, f4⟩
  refine ⟨t1, FT, ⟨?_, ?_, by simp; omega, ?_⟩, ?_⟩
  · rw [List.nodup_append]
    exact ⟨h.nd, by simp, fun x hx y hy => by simp at hy; subst hy; rintro rfl; exact t2 hx⟩
  · intro x hx
    rcases List.mem_append.1 hx with hx | hx
    · exact h.rng x hx
    · simp at hx; subst hx; omega
  · intro k hk1 hk2
    simp only [List.mem_append, List.mem_singleton, not_or] at hk2
    obtain ⟨hk2, hk3⟩ := hk2
    rw [cntF_snoc]
    obtain ⟨g1, g2, g3, g4⟩ := far_spec k o (nth lab k) (o.length + 1 - l) l
    have m1 := s1 k hk1 hk2
    have m2 := cntF_mid (h.inv k hk1 hk2) f f1 (fun g a b => g3 g a (by unfold farOf at m1; omega))
    by_cases hik : (k : Int) < (i : Int)
    · have m3 := t4 k (by omega) hk2
      have := g3 f f1 m3
      rw [if_pos (.inl hik)]
      omega
    · rw [if_neg (by omega)]
      omega
  · intro i' f' hi' F
    have m1 := s1 i' hi' F.new
    have hff : farOf lab o l i' ≤ f' := by
      obtain ⟨g1, g2, g3, g4⟩ := far_spec i' o (nth lab i') (o.length + 1 - l) l
      apply Classical.byContradiction
      intro hn
      exact g3 f' F.ge (by unfold farOf at hn; omega) F.cnt
    by_cases hii : i' = i
    · subst hii
      left
      refine ⟨rfl, ?_⟩
      apply Classical.byContradiction
      intro hne
      have h1 := F.ord (by omega)
      have h2 := cntF_succ i' o (f' - 1) (by have := F.le; omega)
      rw [if_neg h1, show f' - 1 + 1 = f' by omega] at h2
      have h3 := cntF_mono i' o (f := f) (g := f' - 1) (by omega)
      have := F.cnt
      omega
    · right
      refine ⟨by simp; exact ⟨t2, by omega⟩, ?_⟩
      rw [cntF_snoc]
      have h3 := cntF_mono i o (f := f) (g := f') (by omega)
      by_cases hlt : (i : Int) < (i' : Int)
      · rw [if_pos (.inl hlt)]
        omega
      · have m3 := t4 i' (by omega) F.new
        have h1 := F.ord (by omega)
        have h2 := cntF_succ i o (f' - 1) (by have := F.le; omega)
        rw [if_neg (by omega), show f' - 1 + 1 = f' by omega] at h2
        have h4 := cntF_mono i o (f := f) (g := f' - 1) (by omega)
        omega
theorem alive_reg {lab : List Int} (hp : isPark lab = true) : ∀ p, p ≤ lab.length → Alive lab (regF lab p).1 (regF lab p).2.2
  | 0, _ => ⟨by simp [regF], by simp [regF], by simp [regF], fun k hk _ => by
    have := (isPark_iff.1 hp).2.1 _ (nth_mem hk)
    simp only [regF, cntF]
    omega⟩
  | p + 1, h => (alive_next (alive_reg hp p (by omega)) hp (by rw [(length_regF lab p).1]; omega)).2.2.1
theorem reg_last (lab : List Int) (p : Nat) : (((regF lab p).2.2 : Nat) : Int) = if p = 0 then 0 else nth (regF lab p).2.1 (p - 1) := by
  cases p with
  | zero => rfl
  | succ p =>
    rw [if_neg (by omega)]
    have h := (length_regF lab p).2
    simp only [regF, Nat.add_sub_cancel]
    conv => rhs; rw [← h]
    rw [show (regF lab p).2.1.length = p from h]
    have := nth_append_at (xs := (regF lab p).2.1) (y := ((nxtF lab (regF lab p).1 (regF lab p).2.2 lab.length).2 : Int))
    rw [h] at this
    exact this.symm
theorem over_left {lab o : List Int} {l u : Nat} (h : Over lab o l u) (hu : u < lab.length) (nd : o.Nodup) (hr : ∀ x ∈ o, 0 ≤ x ∧ x < (lab.length : Int)) : o.length < lab.length := by
  have h1 : ((u : Int) :: o).Nodup := by rw [List.nodup_cons]; exact ⟨h.1, nd⟩
  have := nodup_le lab.length _ h1 (fun x hx => by
    rcases List.mem_cons.1 hx with rfl | hx
    · omega
    · exact hr x hx)
  simp only [List.length_cons] at this
  omega
def regionOf (lab : List Int) : (List Int × List Int) × Bool := if isPark lab then (((regF lab lab.length).1, (regF lab lab.length).2.1), true) else (([], []), false)
/-- The Region whose label has zeros only. -/
theorem reg_zeros : ∀ n : Nat, n ≤ 8 → (regF (List.replicate n 0) n).1 = (List.range n).map (fun k : Nat => (k : Int)) ∧ (regF (List.replicate n 0) n).2.1 = List.replicate n 0 := by decide +kernel
end Go.Proofs.Ytakadjhbomggbab
