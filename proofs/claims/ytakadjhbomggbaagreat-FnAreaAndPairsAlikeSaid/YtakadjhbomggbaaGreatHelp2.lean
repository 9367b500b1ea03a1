/- The laws' helpers on slices of slices of integers. -/
import Derived.Test.YtakadjhbomggbaaGreatRows2
namespace Go.Proofs.YtakadjhbomggbaaGreat
open Go.RowKit

def numsOf (rs : List Rw) : List (List Int) := rs.map Rw.xs
def sameR (rs ss : List Rw) : Bool := decide (numsOf rs = numsOf ss)
theorem sameR_no {rs ss : List Rw} {k : Nat} (h1 : k < rs.length) (h2 : k < ss.length) (h : same (nthR rs k).xs (nthR ss k).xs = false) : sameR rs ss = false := by
  unfold sameR
  rw [decide_eq_false_iff_not]
  intro e
  have : (rs.map Rw.xs)[k]? = (ss.map Rw.xs)[k]? := by unfold numsOf at e; rw [e]
  rw [map_nthR _ h1, map_nthR _ h2] at this
  simp at this
  simp [same, this] at h
theorem sameR_yes {rs ss : List Rw} (hl : rs.length = ss.length) (h : ∀ i, i < rs.length → same (nthR rs i).xs (nthR ss i).xs = true) : sameR rs ss = true := by
  unfold sameR numsOf
  rw [decide_eq_true_iff]
  apply List.ext_getElem?
  intro i
  by_cases hi : i < rs.length
  · rw [map_nthR _ hi, map_nthR _ (by omega)]
    have := h i hi
    simp [same] at this
    rw [this]
  · rw [List.getElem?_eq_none (by simp; omega), List.getElem?_eq_none (by simp; omega)]
theorem sameR_self' {rs ss : List Rw} (h : numsOf rs = numsOf ss) : sameR rs ss = true := by simp [sameR, h]

/-- How many numbers the first k rows hold. -/
def sumLen (rs : List Rw) : Nat → Nat
  | 0 => 0
  | k + 1 => sumLen rs k + (nthR rs k).xs.length
/-- The rows with marks from k0 on. -/
def markR (k0 : Int) (rs : List Rw) (i : Nat) : Rw := ⟨(nthR rs i).a, (nthR rs i).c, marks (k0 + sumLen rs i) (nthR rs i).xs.length⟩
def marksR (k0 : Int) (rs : List Rw) (k : Nat) : List Rw := (List.range rs.length).map fun i => if i < k then markR k0 rs i else nthR rs i
theorem length_marksR (k0 : Int) (rs : List Rw) (k : Nat) : (marksR k0 rs k).length = rs.length := by simp [marksR]
theorem nth_marksR {k0 : Int} {rs : List Rw} {k i : Nat} (h : i < rs.length) : nthR (marksR k0 rs k) i = if i < k then markR k0 rs i else nthR rs i := by
  simp only [nthR, marksR, List.getD_eq_getElem?_getD]
  rw [List.getElem?_map, List.getElem?_range h]
  rfl
theorem markR_a (k0 : Int) (rs : List Rw) (i : Nat) : (markR k0 rs i).a = (nthR rs i).a := rfl
theorem markR_c (k0 : Int) (rs : List Rw) (i : Nat) : (markR k0 rs i).c = (nthR rs i).c := rfl
theorem markR_len (k0 : Int) (rs : List Rw) (i : Nat) : (markR k0 rs i).xs.length = (nthR rs i).xs.length := by simp [markR, length_marks]
theorem markR_v (k0 : Int) (rs : List Rw) (i : Nat) : (markR k0 rs i).v = (nthR rs i).v := by simp [Rw.v, markR, length_marks]
theorem marksR_v (k0 : Int) (rs : List Rw) (k i : Nat) : (nthR (marksR k0 rs k) i).v = (nthR rs i).v := by
  by_cases h : i < rs.length
  · rw [nth_marksR h]
    split
    · exact markR_v _ _ _
    · rfl
  · simp [nthR, marksR, h]
theorem marksR_map (k0 : Int) (rs : List Rw) (k : Nat) : (marksR k0 rs k).map Rw.v = rs.map Rw.v := by
  apply List.ext_getElem?
  intro i
  by_cases h : i < rs.length
  · rw [map_nthR _ (by rw [length_marksR]; exact h), map_nthR _ h, marksR_v]
  · rw [List.getElem?_eq_none (by simp [marksR]; omega), List.getElem?_eq_none (by simp; omega)]
theorem marksR_zero (k0 : Int) (rs : List Rw) : marksR k0 rs 0 = rs := ext_nthR (length_marksR _ _ _) fun i hi => by rw [length_marksR] at hi; rw [nth_marksR hi, if_neg (by omega)]
theorem sumLen_le {rs : List Rw} (h : ∀ i, i < rs.length → (nthR rs i).xs.length ≤ 2097152) : ∀ k, k ≤ rs.length → sumLen rs k ≤ k * 2097152
  | 0, _ => by simp [sumLen]
  | k + 1, hk => by
    have := sumLen_le h k (by omega)
    have := h k (by omega)
    simp only [sumLen]
    omega

/-- A row is marked. -/
theorem OwnR.markAt {w w2 : World} {B : Nat} {a : Option Addr} {n cap : Nat} {rs : List Rw} {k0 : Int} {k : Nat} (h : OwnR w B a n cap (marksR k0 rs k)) (hk : k < n)
    (hown : Own w2 B (nthR rs k).a (nthR rs k).xs.length (nthR rs k).c (marks (k0 + sumLen rs k) (nthR rs k).xs.length)) (hm : Marked w w2 (nthR rs k).a) : OwnR w2 B a n cap (marksR k0 rs (k + 1)) := by
  have hl : rs.length = n := by rw [← h.len, length_marksR]
  obtain ⟨h1, h2, h3, h4, h5⟩ := h
  have ha : ∀ (j : Nat), j < n → (nthR (marksR k0 rs k) j).a = (nthR rs j).a := fun j hj => by
    rw [nth_marksR (by omega)]; split <;> rfl
  have ha' : ∀ (j : Nat), j < n → (nthR (marksR k0 rs (k + 1)) j).a = (nthR rs j).a := fun j hj => by
    rw [nth_marksR (by omega)]; split <;> rfl
  obtain ⟨row, hgr, hr⟩ := hm
  refine ⟨?_, by rw [length_marksR]; exact hl, h3, fun i hi => ?_, fun i j p q hij hj hp hq => ?_⟩
  · rw [marksR_map]
    rw [marksR_map] at h1
    refine h1.kept hgr ?_
    cases row with
    | none => exact (Classical.em _).elim .inl fun h => .inr h
    | some g =>
      obtain ⟨p, hp, rfl⟩ := hr g rfl
      cases a with
      | none => left; rfl
      | some pa =>
        right
        simp only [Value.ownBlock]
        intro e
        simp at e
        have hrow := h4 k hk
        rw [ha k hk, hp] at hrow
        rcases hrow.1.2 with ⟨hv, _⟩ | ⟨g1, cap1, cur1, hv1, _, hh1, _⟩
        · simp at hv
        · simp at hv1
          rcases h1.2 with ⟨hv2, _⟩ | ⟨g2, cap2, cur2, hv2, _, hh2, _⟩
          · simp at hv2
          · simp at hv2
            rw [hv2.1, hv1.1] at e
            simp at e
            rw [e, hh1] at hh2
            simp at hh2
  · rw [nth_marksR (by omega)]
    by_cases e : i = k
    · subst e
      rw [if_pos (by omega)]
      have := hown
      rw [show (markR k0 rs i).xs.length = (nthR rs i).xs.length from markR_len _ _ _]
      exact this
    · have hi4 := h4 i hi
      rw [nth_marksR (by omega)] at hi4
      have hcond : (i < k + 1) = (i < k) := by apply propext; omega
      simp only [hcond]
      refine ⟨hi4.1.kept hgr ?_, hi4.2⟩
      have hai : (if i < k then markR k0 rs i else nthR rs i).a = (nthR rs i).a := by split <;> rfl
      rw [hai]
      cases row with
      | none => exact (Classical.em _).elim .inl fun h => .inr h
      | some g =>
        obtain ⟨p, hp, rfl⟩ := hr g rfl
        cases hq : (nthR rs i).a with
        | none => left; rfl
        | some q =>
          right
          simp only [Value.ownBlock]
          intro e2
          simp at e2
          rcases Nat.lt_or_gt_of_ne e with h6 | h6
          · have := h5 i k q p h6 hk (by rw [ha i hi]; exact hq) (by rw [ha k hk]; exact hp)
            omega
          · have := h5 k i p q h6 hi (by rw [ha k hk]; exact hp) (by rw [ha i hi]; exact hq)
            omega
  · rw [ha' i (by omega)] at hp
    rw [ha' j hj] at hq
    exact h5 i j p q hij hj (by rw [ha i (by omega)]; exact hp) (by rw [ha j hj]; exact hq)

/-- Behind a mark in a later block. -/
theorem OwnR.marked_lt {w w' : World} {B K : Nat} {a a' : Option Addr} {n cap : Nat} {rs : List Rw} (h : OwnR w B a n cap rs) (hm : Marked w w' a') (hl : RLt a rs K) (hg : BlkGe a' K) : OwnR w' B a n cap rs := by
  refine ⟨?_, h.2.1, h.2.2.1, fun i hi => (h.2.2.2.1 i hi).marked_lt hm (hl.2 i (by rw [h.len]; exact hi)) hg, h.2.2.2.2⟩
  obtain ⟨row, hgr, hr⟩ := hm
  refine h.1.kept hgr ?_
  cases row with
  | none => exact (Classical.em _).elim .inl fun h => .inr h
  | some g =>
    obtain ⟨q, rfl, rfl⟩ := hr g rfl
    cases a with
    | none => left; rfl
    | some p =>
      right
      have h1 := hl.1 p rfl
      have h2 := hg q rfl
      simp [Value.ownBlock]
      omega

/-- A slice of slices of the call's own and a bool. -/
def PostRows (w : World) (r : List (List Int) × Bool) (e : Ending) (w' : World) : Prop :=
  ∃ a n cap rs, e = .returned (.tuple #[.slice a n cap, .bool r.2]) ∧ OwnR w' w.heap.size a n cap rs ∧ numsOf rs = r.1 ∧ Below w.heap.size w w'
theorem postRows {w w' : World} {r : List (List Int) × Bool} {ls : List (List Int)} {ok : Bool} {a : Option Addr} {n cap : Nat} {rs : List Rw} (hr : r = (ls, ok)) (h : OwnR w' w.heap.size a n cap rs) (hn : numsOf rs = ls) (hb : Below w.heap.size w w') :
    PostRows w r (.returned (.tuple #[.slice a n cap, .bool ok])) w' := by subst hr; exact ⟨_, _, _, _, rfl, h, hn, hb⟩
theorem postRows_no {w w' : World} {r : List (List Int) × Bool} (hr : r = ([], false)) (hb : Below w.heap.size w w') : PostRows w r (.returned (.tuple #[.slice none 0 0, .bool false])) w' :=
  postRows hr (OwnR.nil _ _) rfl hb
end Go.Proofs.YtakadjhbomggbaaGreat
