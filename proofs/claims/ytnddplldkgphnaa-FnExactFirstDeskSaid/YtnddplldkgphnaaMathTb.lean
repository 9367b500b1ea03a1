/- Tables: keys put in, found and taken out; tables of keys, and robin hood tables. -/
import Derived.Test.YtnddplldkgphnaaMathTa
namespace Go.Proofs.Ytnddplldkgphnaa
open Go.RowKit

/-- The walk to a cell at which one stops, step by step. -/
theorem way_step {n c q : Nat} (hc : c < n) (hq : q < n) (hne : c ≠ q) : wayN n c q = wayN n ((c + 1) % n) q + 1 := by
  have h1 : (c + 1) % n < n := Nat.mod_lt _ (by omega)
  rw [way_val hc hq, way_val h1 hq, mod_two (show c + 1 < 2 * n by omega)]
  split <;> split <;> split <;> omega
theorem goR_stop {stop : Nat → Bool} {n f c : Nat} (h : stop c = true) : goR stop n f c = c := by
  cases f
  · rfl
  · simp [goR, h]
theorem goR_go {stop : Nat → Bool} {n f c : Nat} (h : stop c = false) : goR stop n (f + 1) c = goR stop n f ((c + 1) % n) := by simp [goR, h]
/-- Where a cell is free. -/
def freeAt (cs : List Int) (q : Nat) : Prop := q < cs.length ∧ nth cs q = -1

/-- Keys with bounds. -/
def keyB (key : Int) : Bool := inB key 0 999
/-- A key put in. -/
def insL (cs : List Int) (key : Int) : List Int := cs.set (slot cs key) key
theorem length_insL (cs : List Int) (key : Int) : (insL cs key).length = cs.length := by simp [insL]
def emptyL (n : Nat) : List Int := List.replicate n (-1)
theorem length_emptyL (n : Nat) : (emptyL n).length = n := by simp [emptyL]
/-- How many cells are not free. -/
def usedN (cs : List Int) : Nat := cs.countP fun x => !decide (x = -1)
theorem usedN_le (cs : List Int) : usedN cs ≤ cs.length := List.countP_le_length
theorem usedN_lt {cs : List Int} (h : usedN cs < cs.length) : ∃ q, freeAt cs q := by
  apply Classical.byContradiction
  intro hn
  have : usedN cs = cs.length := by
    unfold usedN
    rw [List.countP_eq_length]
    intro x hx
    obtain ⟨i, hi, rfl⟩ := mem_nth hx
    have : ¬ nth cs i = -1 := fun e => hn ⟨i, hi, e⟩
    simp [this]
  omega
theorem countP_set (p : Int → Bool) : ∀ (cs : List Int) (i : Nat) (x : Int), i < cs.length → (cs.set i x).countP p + (p (nth cs i)).toNat = cs.countP p + (p x).toNat
  | [], i, x, h => by simp at h
  | y :: cs, 0, x, h => by
    cases h1 : p x <;> cases h2 : p y <;> simp [nth, h1, h2]
  | y :: cs, i + 1, x, h => by
    have ih := countP_set p cs i x (by simpa using h)
    have e : nth (y :: cs) (i + 1) = nth cs i := by simp [nth]
    rw [e, List.set_cons_succ, List.countP_cons, List.countP_cons]
    omega
theorem usedN_set {cs : List Int} {i : Nat} {x : Int} (h : freeAt cs i) (hx : x ≠ -1) : usedN (cs.set i x) = usedN cs + 1 := by
  have := countP_set (fun x => !decide (x = -1)) cs i x h.1
  simp [h.2, hx] at this
  exact this
theorem usedN_swap {cs : List Int} {i : Nat} {x : Int} (h : i < cs.length) (h0 : nth cs i ≠ -1) (hx : x ≠ -1) : usedN (cs.set i x) = usedN cs := by
  have := countP_set (fun x => !decide (x = -1)) cs i x h
  simp [h0, hx] at this
  exact this
theorem usedN_empty (n : Nat) : usedN (emptyL n) = 0 := by
  unfold usedN emptyL
  rw [List.countP_eq_zero]
  intro x hx
  rw [List.mem_replicate] at hx
  simp [hx.2]
theorem slot_free {cs : List Int} {key : Int} (h : ∃ q, freeAt cs q) : freeAt cs (slot cs key) := by
  obtain ⟨q, hq, e⟩ := h
  obtain ⟨k, k1, k2, k3, k4⟩ := slot_spec (key := key) hq e
  rw [k4]
  exact ⟨Nat.mod_lt _ (by omega), k3⟩
/-- A part of a table: as many cells taken as keys, and no other key. -/
structure Pt (n : Nat) (cs : List Int) (done : List Int) : Prop where
  len : cs.length = n
  many : usedN cs = done.length
  from_ : ∀ x ∈ cs, x = -1 ∨ x ∈ done
theorem pt_empty (n : Nat) : Pt n (emptyL n) [] := ⟨length_emptyL n, by simp [usedN_empty], fun x hx => .inl (by simp [emptyL] at hx; exact hx.2)⟩
theorem Pt.free {n : Nat} {cs done : List Int} (h : Pt n cs done) (hl : done.length < n) : ∃ q, freeAt cs q := usedN_lt (by rw [h.many, h.len]; exact hl)
theorem Pt.put {n : Nat} {cs done : List Int} (h : Pt n cs done) {i : Nat} {x : Int} (hi : freeAt cs i) (hx : x ≠ -1) : Pt n (cs.set i x) (done ++ [x]) := by
  refine ⟨by simp [h.len], by rw [usedN_set hi hx, h.many]; simp, ?_⟩
  intro y hy
  rcases List.mem_or_eq_of_mem_set hy with hy | rfl
  · rcases h.from_ y hy with e | e
    · exact .inl e
    · exact .inr (by simp [e])
  · exact .inr (by simp)
theorem Pt.ins {n : Nat} {cs done : List Int} (h : Pt n cs done) (hl : done.length < n) {x : Int} (hx : x ≠ -1) : Pt n (insL cs x) (done ++ [x]) := h.put (slot_free (h.free hl)) hx
/-- The table of keys. -/
def tabL (n : Nat) (keys : List Int) : List Int := keys.foldl insL (emptyL n)
theorem tabL_succ {n : Nat} {keys : List Int} {k : Nat} (h : k < keys.length) : tabL n (keys.take (k + 1)) = insL (tabL n (keys.take k)) (nth keys k) := by
  rw [take_succ_nth h]
  simp [tabL]
/-- Different keys. -/
def diffB (keys : List Int) : Bool := (List.range keys.length).all fun i => !hasB (keys.take i) (nth keys i)
theorem diffB_iff {keys : List Int} : diffB keys = true ↔ ∀ i, i < keys.length → nth keys i ∉ keys.take i := by
  simp [diffB, hasB]
/-- Fewer different keys than cells. -/
def keysB (n : Int) (keys : List Int) : Bool := inB n 2 12 && (decide ((keys.length : Int) < n) && (allB keys 0 999 && diffB keys))
theorem keysB_iff {n : Int} {keys : List Int} : keysB n keys = true ↔ (2 ≤ n ∧ n ≤ 12) ∧ (keys.length : Int) < n ∧ (∀ x ∈ keys, 0 ≤ x ∧ x ≤ 999) ∧ ∀ i, i < keys.length → nth keys i ∉ keys.take i := by
  simp only [keysB, Bool.and_eq_true, inB_iff, decide_eq_true_eq, allB_iff, diffB_iff]
theorem pt_tab {n : Nat} {keys : List Int} (h : keysB n keys = true) : ∀ k, k ≤ keys.length → Pt n (tabL n (keys.take k)) (keys.take k)
  | 0, _ => by simpa [tabL] using pt_empty n
  | k + 1, hk => by
    obtain ⟨h1, h2, h3, h4⟩ := keysB_iff.1 h
    rw [tabL_succ (by omega), take_succ_nth (by omega)]
    refine (pt_tab h k (by omega)).ins (by simp; omega) ?_
    have := h3 _ (nth_mem (show k < keys.length by omega))
    omega
/-- The next key is not there yet. -/
theorem pt_new {n : Nat} {keys cs : List Int} (h : keysB n keys = true) {k : Nat} (hk : k < keys.length) (hp : Pt n cs (keys.take k)) : nth keys k ∉ cs := by
  obtain ⟨h1, h2, h3, h4⟩ := keysB_iff.1 h
  intro hm
  have := h3 _ (nth_mem hk)
  rcases hp.from_ _ hm with e | e
  · omega
  · exact h4 k hk e

/-! ### Robin hood -/
/-- Whether a key in hand takes the cell of another one. -/
def before (n : Nat) (a b : Int) (c : Nat) : Bool := decide (costN n b c < costN n a c) || (decide (costN n a c = costN n b c) && decide (b < a))
def robGo (n : Nat) : Nat → List Int → Int → Nat → List Int
  | 0, cs, hand, c => cs.set c hand
  | f + 1, cs, hand, c => if nth cs c = -1 then cs.set c hand else
      if before n hand (nth cs c) c then robGo n f (cs.set c hand) (nth cs c) ((c + 1) % n) else robGo n f cs hand ((c + 1) % n)
def robIn (cs : List Int) (key : Int) : List Int := robGo cs.length cs.length cs key (ownN cs.length key)
theorem robGo_end {n f c : Nat} {cs : List Int} {hand : Int} (h : nth cs c = -1) : robGo n f cs hand c = cs.set c hand := by
  cases f
  · rfl
  · simp [robGo, h]
theorem robGo_swap {n f c : Nat} {cs : List Int} {hand : Int} (h : nth cs c ≠ -1) (hb : before n hand (nth cs c) c = true) : robGo n (f + 1) cs hand c = robGo n f (cs.set c hand) (nth cs c) ((c + 1) % n) := by simp [robGo, h, hb]
theorem robGo_keep {n f c : Nat} {cs : List Int} {hand : Int} (h : nth cs c ≠ -1) (hb : before n hand (nth cs c) c = false) : robGo n (f + 1) cs hand c = robGo n f cs hand ((c + 1) % n) := by simp [robGo, h, hb]
def robL (n : Nat) (keys : List Int) : List Int := keys.foldl robIn (emptyL n)
theorem robL_succ {n : Nat} {keys : List Int} {k : Nat} (h : k < keys.length) : robL n (keys.take (k + 1)) = robIn (robL n (keys.take k)) (nth keys k) := by
  rw [take_succ_nth h]
  simp [robL]
/-- What is in hand goes on to a free cell: one cell more is taken, and no other key comes. -/
theorem robGo_pt {n : Nat} {done : List Int} {x : Int} : ∀ (f : Nat) (cs : List Int) (hand : Int) (c q : Nat), cs.length = n → c < n → freeAt cs q → wayN n c q ≤ f → hand ≠ -1 → (∀ y ∈ cs, y = -1 ∨ y ∈ done ++ [x]) → hand ∈ done ++ [x] → usedN cs = done.length →
    Pt n (robGo n f cs hand c) (done ++ [x])
  | f, cs, hand, c, q, hl, hc, hq, hf, hh, hm, hx, hu => by
    by_cases e : nth cs c = -1
    · rw [robGo_end e]
      refine ⟨by simp [hl], by rw [usedN_set ⟨by omega, e⟩ hh, hu]; simp, ?_⟩
      intro y hy
      rcases List.mem_or_eq_of_mem_set hy with hy | rfl
      · exact hm y hy
      · exact .inr hx
    · have hcq : c ≠ q := fun e2 => e (e2 ▸ hq.2)
      have hst := way_step hc (by have := hq.1; omega) hcq
      have hc' : (c + 1) % n < n := Nat.mod_lt _ (by omega)
      cases f with
      | zero => omega
      | succ f =>
        cases hb : before n hand (nth cs c) c
        · rw [robGo_keep e hb]
          exact robGo_pt f cs hand _ q hl hc' hq (by omega) hh hm hx hu
        · rw [robGo_swap e hb]
          refine robGo_pt f _ _ _ q (by simp [hl]) hc' ⟨by simp; exact hq.1, by rw [nth_set (by omega), if_neg hcq]; exact hq.2⟩ (by omega) e ?_ ?_ (by rw [usedN_swap (by omega) e hh]; exact hu)
          · intro y hy
            rcases List.mem_or_eq_of_mem_set hy with hy | rfl
            · exact hm y hy
            · exact .inr hx
          · rcases hm _ (nth_mem (show c < cs.length by omega)) with e2 | e2
            · exact absurd e2 e
            · exact e2
theorem Pt.rob {n : Nat} {cs done : List Int} (h : Pt n cs done) (hl : done.length < n) {x : Int} (hx : x ≠ -1) : Pt n (robIn cs x) (done ++ [x]) := by
  obtain ⟨q, hq⟩ := h.free hl
  unfold robIn
  rw [h.len]
  have hn : 0 < n := by omega
  refine robGo_pt n cs x _ q h.len (own_lt hn) hq (Nat.le_of_lt (way_lt hn)) hx ?_ (by simp) h.many
  intro y hy
  rcases h.from_ y hy with e | e
  · exact .inl e
  · exact .inr (by simp [e])
theorem pt_rob {n : Nat} {keys : List Int} (h : keysB n keys = true) : ∀ k, k ≤ keys.length → Pt n (robL n (keys.take k)) (keys.take k)
  | 0, _ => by simpa [robL] using pt_empty n
  | k + 1, hk => by
    obtain ⟨h1, h2, h3, h4⟩ := keysB_iff.1 h
    rw [robL_succ (by omega), take_succ_nth (by omega)]
    refine (pt_rob h k (by omega)).rob (by simp; omega) ?_
    have := h3 _ (nth_mem (show k < keys.length by omega))
    omega

/-! ### Keys taken out -/
def rmGo (n : Nat) : Nat → List Int → Nat → Nat → List Int
  | 0, cs, _, _ => cs
  | f + 1, cs, free, c => if nth cs c = -1 then cs else
      if wayN n free c ≤ costN n (nth cs c) c then rmGo n f ((cs.set free (nth cs c)).set c (-1)) c ((c + 1) % n) else rmGo n f cs free ((c + 1) % n)
theorem rmGo_end {n f free c : Nat} {cs : List Int} (h : nth cs c = -1) : rmGo n f cs free c = cs := by
  cases f
  · rfl
  · simp [rmGo, h]
theorem rmGo_move {n f free c : Nat} {cs : List Int} (h : nth cs c ≠ -1) (hb : wayN n free c ≤ costN n (nth cs c) c) : rmGo n (f + 1) cs free c = rmGo n f ((cs.set free (nth cs c)).set c (-1)) c ((c + 1) % n) := by simp [rmGo, h, hb]
theorem rmGo_keep {n f free c : Nat} {cs : List Int} (h : nth cs c ≠ -1) (hb : ¬ wayN n free c ≤ costN n (nth cs c) c) : rmGo n (f + 1) cs free c = rmGo n f cs free ((c + 1) % n) := by simp [rmGo, h, hb]
/-- The table behind a cell's key is taken out. -/
def rmL (cs : List Int) (c : Nat) : List Int := rmGo cs.length cs.length (cs.set c (-1)) c ((c + 1) % cs.length)
/-- Where a key is. -/
def findL (cs : List Int) (key : Int) : Nat := (cs.takeWhile fun x => !decide (x = key)).length
theorem findL_spec {key : Int} : ∀ {cs : List Int}, key ∈ cs → findL cs key < cs.length ∧ nth cs (findL cs key) = key ∧ ∀ i, i < findL cs key → nth cs i ≠ key
  | [], h => by simp at h
  | x :: cs, h => by
    by_cases e : x = key
    · subst e
      simp [findL, nth]
    · have hm : key ∈ cs := by
        rcases List.mem_cons.1 h with h | h
        · exact absurd h.symm e
        · exact h
      obtain ⟨h1, h2, h3⟩ := findL_spec hm
      have e2 : findL (x :: cs) key = findL cs key + 1 := by simp [findL, e]
      rw [e2]
      refine ⟨by simpa using h1, by simpa [nth] using h2, ?_⟩
      intro i hi
      cases i with
      | zero => simpa [nth] using e
      | succ i => simpa [nth] using h3 i (by omega)
theorem Tb.find {cs : List Int} (h : Tb cs) {key : Int} (hk : key ≠ -1) (hm : key ∈ cs) : findL cs key = srch cs key := by
  obtain ⟨h1, h2, h3⟩ := findL_spec hm
  have := h.sr h1 (by rw [h2]; exact hk)
  rw [h2] at this
  exact this.symm
/-- The search tells whether a key is there. -/
theorem Tb.there {cs : List Int} (h : Tb cs) {key : Int} (hk : key ≠ -1) : nth cs (srch cs key) = key ↔ key ∈ cs := by
  constructor
  · intro e
    obtain ⟨q, hq, hs⟩ := h.fr
    obtain ⟨k, k1, k2, k3, k4⟩ := srch_spec (key := key) hq hs
    rw [k4] at e
    rw [← e]
    exact nth_mem (Nat.mod_lt _ (by omega))
  · intro hm
    rw [← h.find hk hm]
    exact (findL_spec hm).2.1
theorem srch_lt {cs : List Int} {key : Int} (h : ∃ q, freeAt cs q) : srch cs key < cs.length := by
  obtain ⟨q, hq, hs⟩ := h
  obtain ⟨k, k1, k2, k3, k4⟩ := srch_spec (key := key) hq hs
  rw [k4]
  exact Nat.mod_lt _ (by omega)
end Go.Proofs.Ytnddplldkgphnaa
