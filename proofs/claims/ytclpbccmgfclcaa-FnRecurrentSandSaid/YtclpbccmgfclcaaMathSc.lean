/- Sand that is recurrent: each node topples once, and what it lacks is a parking function. -/
import Derived.Test.YtclpbccmgfclcaaMathSa
import Derived.Test.YtclpbccmgfclcaaMathBf
namespace Go.Proofs.Ytclpbccmgfclcaa
open Go.RowKit

theorem nodup_sub' : ∀ (a b : List Nat), a.Nodup → (∀ x ∈ a, x ∈ b) → a.length ≤ b.length
  | [], _, _, _ => by simp
  | x :: a, b, h, hs => by
    rw [List.nodup_cons] at h
    have h1 := nodup_sub' a (b.erase x) h.2 (fun y hy => (List.mem_erase_of_ne (by rintro rfl; exact h.1 hy)).2 (hs y (by simp [hy])))
    have hx := hs x (by simp)
    have h2 := List.length_erase_of_mem hx
    have h3 := List.length_pos_of_mem hx
    simp only [List.length_cons]
    omega
/-- Stable sand with a grain more on each node, when the nodes of a list have toppled, each once. -/
def burnL (c S : List Int) : List Int := (List.range c.length).map fun (k : Nat) => nth c k + 1 + (S.length : Int) - (if hasB S k then (c.length : Int) + 1 else 0)
@[simp] theorem length_burnL (c S : List Int) : (burnL c S).length = c.length := by simp [burnL]
theorem nth_burnL {c S : List Int} {k : Nat} (h : k < c.length) : nth (burnL c S) k = nth c k + 1 + (S.length : Int) - (if hasB S k then (c.length : Int) + 1 else 0) := by simp [burnL, nth, h]
theorem hasB_no {S : List Int} {x : Int} (h : x ∉ S) : hasB S x = false := Bool.eq_false_iff.2 fun e => h (hasB_iff.1 e)
theorem burn_top {c S : List Int} {f : Nat} (hf : f < c.length) (hn : (f : Int) ∉ S) : topL (burnL c S) f = burnL c (S ++ [(f : Int)]) := by
  refine ext_nth (by simp) fun k hk => ?_
  simp only [length_topL, length_burnL] at hk
  rw [nth_topL (by simpa using hf) (by simpa using hk), nth_burnL hk, nth_burnL hk, length_burnL, List.length_append, List.length_singleton, Int.natCast_succ]
  by_cases e : f = k
  · subst e
    rw [if_pos rfl, hasB_no hn, hasB_iff.2 (by simp : (f : Int) ∈ S ++ [(f : Int)])]
    simp
    omega
  · rw [if_neg e]
    have : hasB (S ++ [(f : Int)]) k = hasB S k := by
      rw [Bool.eq_iff_iff, hasB_iff, hasB_iff]
      simp
      omega
    rw [this]
    omega
structure Burn (c S R : List Int) : Prop where
  nd : (S ++ R).Nodup
  rng : ∀ x ∈ S ++ R, 0 ≤ x ∧ x < (c.length : Int)
  res : (settle (burnL c S)).1 = burnL c (S ++ R)
  rest : ∀ k : Nat, k < c.length → (k : Int) ∉ S ++ R → nth c k + 1 + ((S ++ R).length : Int) < c.length
  due : ∀ p, p < R.length → (c.length : Int) ≤ nth c (nth R p).toNat + 1 + S.length + p
theorem burn (c : List Int) (hs : ∀ x ∈ c, x < (c.length : Int)) : ∀ (m : Nat) (S : List Int), m + S.length = c.length → S.Nodup → (∀ x ∈ S, 0 ≤ x ∧ x < (c.length : Int)) → Pile (burnL c S) → Burn c S (settle (burnL c S)).2 := by
  have done : ∀ S : List Int, S.Nodup → (∀ x ∈ S, 0 ≤ x ∧ x < (c.length : Int)) → S.length ≤ c.length → firstN (burnL c S) = (burnL c S).length → Burn c S (settle (burnL c S)).2 := by
    intro S nd hr hl hf
    rw [settle_done hf]
    refine ⟨by simpa using nd, by simpa using hr, by simp [settle_done hf], fun k hk hn => ?_, fun p hp => by simp at hp⟩
    simp only [List.append_nil] at hn ⊢
    have := first_before (c := burnL c S) (k := k) (by rw [hf]; simpa using hk)
    rw [nth_burnL hk, hasB_no hn, length_burnL] at this
    simp at this
    exact this
  intro m
  induction m with
  | zero =>
    intro S hm nd hr hp
    refine done S nd hr (by omega) ?_
    refine first_none fun j hj => ?_
    rw [length_burnL] at hj ⊢
    have hj' : (j : Int) ∈ S := by
      apply Classical.byContradiction
      intro hn
      have := nodup_le c.length ((j : Int) :: S) (by rw [List.nodup_cons]; exact ⟨hn, nd⟩) (fun x hx => by
        rcases List.mem_cons.1 hx with rfl | hx
        · omega
        · exact hr x hx)
      simp at this
      omega
    rw [nth_burnL hj, hasB_iff.2 hj', if_pos rfl]
    have := hs _ (nth_mem hj)
    omega
  | succ m ih =>
    intro S hm nd hr hp
    have hle := first_le (burnL c S)
    by_cases hf : firstN (burnL c S) < (burnL c S).length
    · have hat := first_at hf
      obtain ⟨f, ef⟩ : ∃ f, firstN (burnL c S) = f := ⟨_, rfl⟩
      have hst := settle_step hp hf
      rw [ef] at hf hat hst
      have hf' : f < c.length := by simpa using hf
      rw [length_burnL, nth_burnL hf'] at hat
      have hfS : (f : Int) ∉ S := by
        intro hm'
        rw [hasB_iff.2 hm', if_pos rfl] at hat
        have := hs _ (nth_mem hf')
        omega
      rw [hasB_no hfS] at hat
      simp at hat
      rw [burn_top hf' hfS] at hst
      have hp' : Pile (burnL c (S ++ [(f : Int)])) := by
        rw [← burn_top hf' hfS]
        exact pile_topL hp hf (by rw [length_burnL, nth_burnL hf', hasB_no hfS]; simp; exact hat)
      have B := ih (S ++ [(f : Int)]) (by simp; omega) (by
        rw [List.nodup_append]
        exact ⟨nd, by simp, fun x hx y hy => by simp at hy; subst hy; rintro rfl; exact hfS hx⟩) (fun x hx => by
        rcases List.mem_append.1 hx with hx | hx
        · exact hr x hx
        · simp at hx; subst hx; omega) hp'
      obtain ⟨b1, b2, b3, b4, b5⟩ := B
      rw [hst]
      simp only [List.append_assoc, List.singleton_append] at b1 b2 b3 b4
      refine ⟨b1, b2, by rw [hst]; exact b3, b4, fun p hpl => ?_⟩
      cases p with
      | zero => simp [nth] at hat ⊢; exact hat
      | succ p =>
        have := b5 p (by simpa using hpl)
        simp only [List.length_append, List.length_singleton] at this
        simp only [nth, List.getD_cons_succ] at this ⊢
        omega
    · exact done S nd hr (by omega) (by omega)
theorem burn_start (c : List Int) : burnL c [] = c.map (· + 1) := ext_nth (by simp) fun k hk => by
  simp only [length_burnL] at hk
  rw [nth_burnL hk, nth_map_succ hk]
  simp [hasB]
/-- The nodes that topple when each node of stable sand gets a grain. -/
theorem fired {c : List Int} (hc : Pile c) (hs : ∀ x ∈ c, x < (c.length : Int)) : Burn c [] (settle (c.map (· + 1))).2 := by
  have := burn c hs c.length [] (by simp) (by simp) (by simp) (by rw [burn_start]; exact pile_succ hc)
  rwa [burn_start] at this
theorem fired_le {c : List Int} (hc : Pile c) (hs : ∀ x ∈ c, x < (c.length : Int)) : (settle (c.map (· + 1))).2.length ≤ c.length := by
  have B := fired hc hs
  exact nodup_le c.length _ (by simpa using B.nd) (by simpa using B.rng)
/-- Stable sand is recurrent just if all nodes topple. -/
theorem rec_iff {c : List Int} (hc : Pile c) (hs : ∀ x ∈ c, x < (c.length : Int)) : recB c = true ↔ (settle (c.map (· + 1))).2.length = c.length := by
  have B := fired hc hs
  have hle := fired_le hc hs
  have hres := B.res
  rw [burn_start, List.nil_append] at hres
  unfold recB
  rw [decide_eq_true_iff, hres]
  have hnd : (settle (c.map (· + 1))).2.Nodup := by simpa using B.nd
  have hrg : ∀ x ∈ (settle (c.map (· + 1))).2, 0 ≤ x ∧ x < (c.length : Int) := by simpa using B.rng
  constructor
  · intro he
    have : ∀ k : Nat, k < c.length → (k : Int) ∈ (settle (c.map (· + 1))).2 := by
      intro k hk
      apply Classical.byContradiction
      intro hn
      have h1 : nth (burnL c (settle (c.map (· + 1))).2) k = nth c k := by rw [he]
      rw [nth_burnL hk, hasB_no hn] at h1
      simp at h1
      omega
    have := nodup_ge c.length _ this
    omega
  · intro hl
    refine ext_nth (by simp) fun k hk => ?_
    simp only [length_burnL] at hk
    have hm : (k : Int) ∈ (settle (c.map (· + 1))).2 := by
      apply Classical.byContradiction
      intro hn
      have := nodup_le c.length ((k : Int) :: (settle (c.map (· + 1))).2) (by rw [List.nodup_cons]; exact ⟨hn, hnd⟩) (fun x hx => by
        rcases List.mem_cons.1 hx with rfl | hx
        · omega
        · exact hrg x hx)
      simp only [List.length_cons] at this
      omega
    rw [nth_burnL hk, hasB_iff.2 hm, if_pos rfl, hl]
    omega
@[simp] theorem length_turnL (c : List Int) : (turnL c).length = c.length := by simp [turnL]
theorem nth_turnL {c : List Int} {k : Nat} (h : k < c.length) : nth (turnL c) k = (c.length : Int) - 1 - nth c k := by simp [turnL, nth, h]
theorem turn_turn (c : List Int) : turnL (turnL c) = c := ext_nth (by simp) fun k hk => by
  simp only [length_turnL] at hk
  rw [nth_turnL (by simpa using hk), nth_turnL hk, length_turnL]
  omega
theorem count_range (xs : List Int) (P : Int → Bool) : xs.countP P = ((List.range xs.length).filter fun k => P (nth xs k)).length := by
  have e1 : xs = (List.range xs.length).map (nth xs) := ext_nth (by simp) (fun i hi => by simp [nth, hi])
  conv => lhs; rw [e1]
  rw [List.countP_map, List.countP_eq_length_filter]
  rfl
/-- Stable sand is recurrent just if n - 1 less each number of grains is a parking function. -/
theorem rec_park {c : List Int} (h8 : c.length ≤ 8) (hc : Pile c) (hs : ∀ x ∈ c, x < (c.length : Int)) : recB c = isPark (turnL c) := by
  have B := fired hc hs
  have hle := fired_le hc hs
  have hri := rec_iff hc hs
  have hnd : (settle (c.map (· + 1))).2.Nodup := by simpa using B.nd
  have hrg : ∀ x ∈ (settle (c.map (· + 1))).2, 0 ≤ x ∧ x < (c.length : Int) := by simpa using B.rng
  have hdue := B.due
  have hrest := B.rest
  simp only [List.nil_append] at hrest
  obtain ⟨R, eR⟩ : ∃ R, (settle (c.map (· + 1))).2 = R := ⟨_, rfl⟩
  rw [eR] at hri hnd hrg hdue hrest hle
  have h2 : ∀ x ∈ turnL c, 0 ≤ x ∧ x ≤ ((turnL c).length : Int) - 1 := by
    intro x hx
    obtain ⟨k, hk, rfl⟩ := mem_nth hx
    simp only [length_turnL] at hk
    rw [nth_turnL hk, length_turnL]
    have := hc.nth hk
    have := hs _ (nth_mem hk)
    omega
  rw [Bool.eq_iff_iff, hri]
  constructor
  · intro hl
    rw [isPark_iff]
    refine ⟨by simpa using h8, h2, (park_iff h2).2 fun j hj => ?_⟩
    have hfb := from_below (turnL c) j
    rw [length_turnL] at hj hfb ⊢
    have hj' : j ≤ below (turnL c) j := by
      have e := count_range (turnL c) (fun x => decide (x < (j : Int)))
      unfold below
      rw [e]
      have hsub := nodup_sub' ((R.take j).map Int.toNat) ((List.range (turnL c).length).filter fun k => decide (nth (turnL c) k < (j : Int))) ?_ ?_
      · simp only [List.length_map, List.length_take] at hsub
        omega
      · rw [List.Nodup, List.pairwise_map]
        refine (List.Pairwise.sublist (List.take_sublist j R) hnd).imp_of_mem fun {a b} ha hb hne he => hne ?_
        have := hrg a (List.mem_of_mem_take ha)
        have := hrg b (List.mem_of_mem_take hb)
        omega
      · intro k hk
        obtain ⟨x, hx, rfl⟩ := List.mem_map.1 hk
        obtain ⟨p, hp, rfl⟩ := mem_nth hx
        rw [List.length_take] at hp
        rw [nth_take (by omega)]
        have hb := hrg _ (nth_mem (xs := R) (i := p) (by omega))
        have hd := hdue p (by omega)
        rw [List.mem_filter, List.mem_range, length_turnL]
        refine ⟨by omega, ?_⟩
        rw [decide_eq_true_iff, nth_turnL (by omega)]
        simp only [List.length_nil] at hd
        omega
    omega
  · intro hp
    apply Classical.byContradiction
    intro hne
    have hlt : R.length < c.length := by omega
    have h := park_below_ge hp (R.length + 1) (by simp; omega)
    have e := count_range (turnL c) (fun x => decide (x < ((R.length + 1 : Nat) : Int)))
    unfold below at h
    rw [e] at h
    have hsub := nodup_sub' ((List.range (turnL c).length).filter fun k => decide (nth (turnL c) k < ((R.length + 1 : Nat) : Int))) (R.map Int.toNat) (List.Pairwise.filter _ List.nodup_range) ?_
    · simp only [List.length_map] at hsub
      omega
    · intro k hk
      rw [List.mem_filter, List.mem_range, length_turnL, decide_eq_true_iff] at hk
      obtain ⟨k1, k2⟩ := hk
      rw [nth_turnL k1] at k2
      apply Classical.byContradiction
      intro hn
      have hn' : (k : Int) ∉ R := fun hm => hn (List.mem_map.2 ⟨_, hm, by simp⟩)
      have := hrest k k1 hn'
      omega
theorem pile_turn {xs : List Int} (h : isPark xs = true) : Pile (turnL xs) ∧ ∀ x ∈ turnL xs, x < ((turnL xs).length : Int) := by
  obtain ⟨h1, h2, -⟩ := isPark_iff.1 h
  refine ⟨pile_of fun k hk => ?_, fun x hx => ?_⟩
  · simp only [length_turnL] at hk
    rw [nth_turnL hk]
    have := h2 _ (nth_mem hk)
    omega
  · obtain ⟨k, hk, rfl⟩ := mem_nth hx
    simp only [length_turnL] at hk
    rw [nth_turnL hk, length_turnL]
    have := h2 _ (nth_mem hk)
    omega
/-- The sand of a parking function is recurrent. -/
theorem turn_rec {xs : List Int} (h : isPark xs = true) : sandB (turnL xs) = true ∧ recB (turnL xs) = true := by
  obtain ⟨h1, h2, -⟩ := isPark_iff.1 h
  obtain ⟨p1, p2⟩ := pile_turn h
  refine ⟨sandB_iff.2 ⟨by simpa using h1, fun x hx => ⟨p1 x hx, by have := p2 x hx; rw [length_turnL] at this; omega⟩⟩, ?_⟩
  rw [rec_park (by simpa using h1) p1 p2, turn_turn]
  exact h
end Go.Proofs.Ytclpbccmgfclcaa
