/- Tables with linear probing: cells that are looked at going round, own cells, costs; what the program and the model take for a table. -/
import Derived.Test.YtnddplldkgphnaaMathP
namespace Go.Proofs.Ytnddplldkgphnaa
open Go.RowKit

/-- The first cell from c on, going round, at which one stops (f: how many may still be looked at). -/
def goR (stop : Nat → Bool) (n : Nat) : Nat → Nat → Nat
  | 0, c => c
  | f + 1, c => if stop c then c else goR stop n f ((c + 1) % n)
theorem goR_of {stop : Nat → Bool} {n c k : Nat} (h : ∀ i, i < k → stop ((c + i) % n) = false) (hk : stop ((c + k) % n) = true) :
    ∀ f j, j ≤ k → k - j ≤ f → goR stop n f ((c + j) % n) = (c + k) % n
  | 0, j, hj, hf => by
    obtain rfl : j = k := by omega
    rfl
  | f + 1, j, hj, hf => by
    simp only [goR]
    by_cases e : j = k
    · subst e
      rw [if_pos hk]
    · rw [if_neg (by rw [h j (by omega)]; simp), Nat.mod_add_mod, Nat.add_assoc]
      exact goR_of h hk f (j + 1) (by omega) (by omega)
/-- How many cells lie behind a up to b, going round. -/
def wayN (n a b : Nat) : Nat := (b + n - a) % n
theorem way_lt {n a b : Nat} (hn : 0 < n) : wayN n a b < n := Nat.mod_lt _ hn
theorem mod_two {x n : Nat} (hx : x < 2 * n) : x % n = if x < n then x else x - n := by
  split
  · exact Nat.mod_eq_of_lt ‹_›
  · rw [Nat.mod_eq_sub_mod (by omega), Nat.mod_eq_of_lt (by omega)]
theorem way_val {n a b : Nat} (ha : a < n) (hb : b < n) : wayN n a b = if a ≤ b then b - a else b + n - a := by
  unfold wayN
  rw [mod_two (by omega)]
  split <;> split <;> omega
theorem way_at {n a b : Nat} (ha : a < n) (hb : b < n) : (a + wayN n a b) % n = b := by
  rw [way_val ha hb]
  split
  · rw [show a + (b - a) = b by omega]; exact Nat.mod_eq_of_lt hb
  · rw [show a + (b + n - a) = b + n by omega, Nat.add_mod_right]; exact Nat.mod_eq_of_lt hb
theorem way_add {n a d : Nat} (ha : a < n) (hd : d < n) : wayN n a ((a + d) % n) = d := by
  have hn : 0 < n := by omega
  have h1 : (a + d) % n < n := Nat.mod_lt _ hn
  rw [way_val ha h1]
  rw [mod_two (show a + d < 2 * n by omega)]
  split <;> split <;> omega
/-- Some cell at which one stops is come to. -/
theorem goR_spec {stop : Nat → Bool} {n c q : Nat} (hc : c < n) (hq : q < n) (hs : stop q = true) :
    ∃ k, k ≤ wayN n c q ∧ k < n ∧ (∀ i, i < k → stop ((c + i) % n) = false) ∧ stop ((c + k) % n) = true ∧ goR stop n n c = (c + k) % n := by
  have hex : ∀ m : Nat, (∀ i, i < m → stop ((c + i) % n) = false) ∨ ∃ k, k < m ∧ (∀ i, i < k → stop ((c + i) % n) = false) ∧ stop ((c + k) % n) = true := by
    intro m
    induction m with
    | zero => exact .inl fun i hi => by omega
    | succ m ih =>
      rcases ih with h | ⟨k, hk, h2, h3⟩
      · cases e : stop ((c + m) % n)
        · refine .inl fun i hi => ?_
          rcases Nat.lt_succ_iff_lt_or_eq.1 hi with h3 | rfl
          · exact h i h3
          · exact e
        · exact .inr ⟨m, by omega, h, e⟩
      · exact .inr ⟨k, by omega, h2, h3⟩
  have hw := way_lt (n := n) (a := c) (b := q) (by omega)
  rcases hex (wayN n c q + 1) with h | ⟨k, hk, h2, h3⟩
  · have := h (wayN n c q) (by omega)
    rw [way_at hc hq, hs] at this
    exact absurd this (by simp)
  · refine ⟨k, by omega, by omega, h2, h3, ?_⟩
    have := goR_of h2 h3 n 0 (by omega) (by omega)
    rwa [Nat.add_zero, Nat.mod_eq_of_lt hc] at this
/-- A key's own cell. -/
def ownN (n : Nat) (key : Int) : Nat := key.toNat % n
theorem own_lt {n : Nat} {key : Int} (hn : 0 < n) : ownN n key < n := Nat.mod_lt _ hn
/-- A key's cost in a cell. -/
def costN (n : Nat) (key : Int) (c : Nat) : Nat := wayN n (ownN n key) c
/-- The cell of a key, or the one into which it is put. -/
def srch (cs : List Int) (key : Int) : Nat := goR (fun c => decide (nth cs c = key) || decide (nth cs c = -1)) cs.length cs.length (ownN cs.length key)
/-- The first free cell from a key's own one on. -/
def slot (cs : List Int) (key : Int) : Nat := goR (fun c => decide (nth cs c = -1)) cs.length cs.length (ownN cs.length key)
/-- No cell is free from a key's own one up to where it is. -/
def full (cs : List Int) (key : Int) (d : Nat) : Bool := (List.range d).all fun j => !decide (nth cs ((ownN cs.length key + j) % cs.length) = -1)
theorem full_iff {cs : List Int} {key : Int} {d : Nat} : full cs key d = true ↔ ∀ j, j < d → nth cs ((ownN cs.length key + j) % cs.length) ≠ -1 := by
  simp [full]
/-- What the model asks of a cell. -/
def cellOk (cs : List Int) (c : Nat) : Bool := decide (nth cs c = -1) || (!hasB (cs.take c) (nth cs c) && full cs (nth cs c) (costN cs.length (nth cs c) c))
/-- A table, as the model says it. -/
def tblB (cs : List Int) : Bool := inB cs.length 2 12 && (allB cs (-1) 999 && (hasB cs (-1) && (List.range cs.length).all fun c => cellOk cs c))
/-- What the program asks of a cell. -/
def cellRd (cs : List Int) (c : Nat) : Bool := decide (nth cs c = -1) || (inB (nth cs c) 0 999 && decide (srch cs (nth cs c) = c))
/-- A table, as the program says it. -/
def rngB (cs : List Int) : Bool := inB cs.length 2 12 && (hasB cs (-1) && (List.range cs.length).all fun c => cellRd cs c)

theorem nth_eq {xs : List Int} {i : Nat} (h : i < xs.length) : nth xs i = xs[i] := by simp [nth, h]
theorem mem_take_nth {xs : List Int} {k : Nat} {x : Int} (h : x ∈ xs.take k) : ∃ j, j < k ∧ j < xs.length ∧ nth xs j = x := by
  obtain ⟨j, hj, e⟩ := List.mem_iff_getElem.1 h
  rw [List.length_take] at hj
  refine ⟨j, by omega, by omega, ?_⟩
  rw [List.getElem_take] at e
  rw [nth_eq (show j < xs.length by omega)]
  exact e
/-- A table, in words. -/
structure Tb (cs : List Int) : Prop where
  lo : 2 ≤ cs.length
  hi : cs.length ≤ 12
  bd : ∀ c, c < cs.length → -1 ≤ nth cs c ∧ nth cs c ≤ 999
  fr : ∃ q, q < cs.length ∧ nth cs q = -1
  one : ∀ c d, c < cs.length → d < cs.length → nth cs c = nth cs d → nth cs c ≠ -1 → c = d
  way : ∀ c, c < cs.length → nth cs c ≠ -1 → ∀ j, j < costN cs.length (nth cs c) c → nth cs ((ownN cs.length (nth cs c) + j) % cs.length) ≠ -1
theorem tb_iff {cs : List Int} : tblB cs = true ↔ Tb cs := by
  simp only [tblB, Bool.and_eq_true, inB_iff, List.all_eq_true, List.mem_range, cellOk, Bool.or_eq_true, decide_eq_true_eq, Bool.not_eq_true', full_iff]
  constructor
  · rintro ⟨⟨h1, h2⟩, h3, h4, h5⟩
    refine ⟨by omega, by omega, fun c hc => allB_nth h3 hc, ?_, ?_, ?_⟩
    · obtain ⟨j, hj, e⟩ := List.mem_iff_getElem.1 (hasB_iff.1 h4)
      exact ⟨j, hj, by rw [nth_eq hj]; exact e⟩
    · have key : ∀ c d, c < d → d < cs.length → nth cs c = nth cs d → nth cs c ≠ -1 → False := by
        intro c d hcd hd e hne
        rcases h5 d hd with h | ⟨h, _⟩
        · rw [← e] at h; exact hne h
        · rw [hasB_not] at h
          apply h
          rw [← e, ← nth_take hcd]
          exact nth_mem (by simp; omega)
      intro c d hc hd e hne
      rcases Nat.lt_trichotomy c d with h | h | h
      · exact absurd (key c d h hd e hne) id
      · exact h
      · exact absurd (key d c h hc e.symm (e ▸ hne)) id
    · intro c hc hne j hj
      rcases h5 c hc with h | ⟨_, h⟩
      · exact absurd h hne
      · exact h j hj
  · rintro ⟨h1, h2, h3, ⟨q, hq, e⟩, h5, h6⟩
    refine ⟨⟨by omega, by omega⟩, ?_, hasB_yes hq e, ?_⟩
    · rw [allB_iff]
      intro x hx
      obtain ⟨j, hj, rfl⟩ := List.mem_iff_getElem.1 hx
      have := h3 j hj
      rwa [nth_eq hj] at this
    · intro c hc
      by_cases hne : nth cs c = -1
      · exact .inl hne
      · refine .inr ⟨?_, h6 c hc hne⟩
        rw [hasB_not]
        intro hm
        obtain ⟨j, hj, hj2, e2⟩ := mem_take_nth hm
        have := h5 j c hj2 hc e2 (by rw [e2]; exact hne)
        omega
theorem srch_of {cs : List Int} {key : Int} {k : Nat} (hn : 0 < cs.length) (hk : k < cs.length) (h : ∀ i, i < k → nth cs ((ownN cs.length key + i) % cs.length) ≠ key ∧ nth cs ((ownN cs.length key + i) % cs.length) ≠ -1)
    (h2 : nth cs ((ownN cs.length key + k) % cs.length) = key ∨ nth cs ((ownN cs.length key + k) % cs.length) = -1) : srch cs key = (ownN cs.length key + k) % cs.length := by
  have := goR_of (stop := fun c => decide (nth cs c = key) || decide (nth cs c = -1)) (n := cs.length) (c := ownN cs.length key) (k := k) (fun i hi => by simp [h i hi]) (by simpa using h2) cs.length 0 (by omega) (by omega)
  rwa [Nat.add_zero, Nat.mod_eq_of_lt (own_lt hn)] at this
theorem slot_of {cs : List Int} {key : Int} {k : Nat} (hn : 0 < cs.length) (hk : k < cs.length) (h : ∀ i, i < k → nth cs ((ownN cs.length key + i) % cs.length) ≠ -1)
    (h2 : nth cs ((ownN cs.length key + k) % cs.length) = -1) : slot cs key = (ownN cs.length key + k) % cs.length := by
  have := goR_of (stop := fun c => decide (nth cs c = -1)) (n := cs.length) (c := ownN cs.length key) (k := k) (fun i hi => by simp [h i hi]) (by simpa using h2) cs.length 0 (by omega) (by omega)
  rwa [Nat.add_zero, Nat.mod_eq_of_lt (own_lt hn)] at this
/-- The search ends at a free cell at the latest. -/
theorem srch_spec {cs : List Int} {key : Int} {q : Nat} (hq : q < cs.length) (hs : nth cs q = -1) :
    ∃ k, k < cs.length ∧ (∀ i, i < k → nth cs ((ownN cs.length key + i) % cs.length) ≠ key ∧ nth cs ((ownN cs.length key + i) % cs.length) ≠ -1) ∧
      (nth cs ((ownN cs.length key + k) % cs.length) = key ∨ nth cs ((ownN cs.length key + k) % cs.length) = -1) ∧ srch cs key = (ownN cs.length key + k) % cs.length := by
  obtain ⟨k, _, h1, h2, h3, h4⟩ := goR_spec (stop := fun c => decide (nth cs c = key) || decide (nth cs c = -1)) (own_lt (n := cs.length) (key := key) (by omega)) hq (by simp [hs])
  exact ⟨k, h1, fun i hi => by simpa using h2 i hi, by simpa using h3, h4⟩
theorem slot_spec {cs : List Int} {key : Int} {q : Nat} (hq : q < cs.length) (hs : nth cs q = -1) :
    ∃ k, k < cs.length ∧ (∀ i, i < k → nth cs ((ownN cs.length key + i) % cs.length) ≠ -1) ∧
      nth cs ((ownN cs.length key + k) % cs.length) = -1 ∧ slot cs key = (ownN cs.length key + k) % cs.length := by
  obtain ⟨k, _, h1, h2, h3, h4⟩ := goR_spec (stop := fun c => decide (nth cs c = -1)) (own_lt (n := cs.length) (key := key) (by omega)) hq (by simp [hs])
  exact ⟨k, h1, fun i hi => by simpa using h2 i hi, by simpa using h3, h4⟩
/-- In a table a key is found. -/
theorem Tb.sr {cs : List Int} (h : Tb cs) {c : Nat} (hc : c < cs.length) (hne : nth cs c ≠ -1) : srch cs (nth cs c) = c := by
  have hn : 0 < cs.length := by omega
  have ho := own_lt (n := cs.length) (key := nth cs c) hn
  have hw := way_at ho hc
  have hl : costN cs.length (nth cs c) c < cs.length := way_lt hn
  have := srch_of (cs := cs) (key := nth cs c) (k := costN cs.length (nth cs c) c) hn hl (fun i hi => by
    refine ⟨fun e => ?_, h.way c hc hne i hi⟩
    have hp : (ownN cs.length (nth cs c) + i) % cs.length < cs.length := Nat.mod_lt _ hn
    have h1 := h.one _ c hp hc e (by rw [e]; exact hne)
    have h2 := way_add (n := cs.length) (d := i) ho (by omega)
    rw [h1] at h2
    unfold costN at hi
    omega) (by unfold costN; rw [hw]; exact .inl rfl)
  rw [this]
  exact hw
theorem rng_iff {cs : List Int} : rngB cs = true ↔ Tb cs := by
  simp only [rngB, Bool.and_eq_true, inB_iff, List.all_eq_true, List.mem_range, cellRd, Bool.or_eq_true, decide_eq_true_eq]
  constructor
  · rintro ⟨⟨h1, h2⟩, h4, h5⟩
    have hn : 0 < cs.length := by omega
    have hfr : ∃ q, q < cs.length ∧ nth cs q = -1 := by
      obtain ⟨j, hj, e⟩ := List.mem_iff_getElem.1 (hasB_iff.1 h4)
      exact ⟨j, hj, by rw [nth_eq hj]; exact e⟩
    refine ⟨by omega, by omega, fun c hc => ?_, hfr, ?_, ?_⟩
    · rcases h5 c hc with h | ⟨h, _⟩ <;> omega
    · intro c d hc hd e hne
      rcases h5 c hc with h | ⟨_, h⟩
      · exact absurd h hne
      · rcases h5 d hd with h' | ⟨_, h'⟩
        · exact absurd (e.trans h') hne
        · rw [← h, ← h', e]
    · intro c hc hne j hj
      rcases h5 c hc with h | ⟨_, h⟩
      · exact absurd h hne
      · obtain ⟨q, hq, e⟩ := hfr
        obtain ⟨k, k1, k2, k3, k4⟩ := srch_spec (key := nth cs c) hq e
        have ho := own_lt (n := cs.length) (key := nth cs c) hn
        have h2 := way_add (n := cs.length) (d := k) ho k1
        rw [← k4, h] at h2
        unfold costN at hj
        exact (k2 j (by omega)).2
  · intro h
    obtain ⟨q, hq, e⟩ := h.fr
    refine ⟨⟨by have := h.lo; omega, by have := h.hi; omega⟩, hasB_yes hq e, ?_⟩
    intro c hc
    by_cases hne : nth cs c = -1
    · exact .inl hne
    · have := h.bd c hc
      exact .inr ⟨by omega, h.sr hc hne⟩
/-- The program and the model take the same for a table. -/
theorem rng_tbl (cs : List Int) : rngB cs = tblB cs := by
  cases h : tblB cs
  · cases h' : rngB cs
    · rfl
    · rw [tb_iff.2 (rng_iff.1 h')] at h; exact absurd h (by simp)
  · exact rng_iff.2 (tb_iff.1 h)
/-- A key that is not there is put into the first free cell. -/
theorem srch_slot {cs : List Int} {key : Int} (hm : key ∉ cs) (hf : ∃ q, q < cs.length ∧ nth cs q = -1) : srch cs key = slot cs key := by
  obtain ⟨q, hq, e⟩ := hf
  have hn : 0 < cs.length := by omega
  obtain ⟨k, k1, k2, k3, k4⟩ := slot_spec (key := key) hq e
  rw [k4]
  refine srch_of hn k1 (fun i hi => ⟨fun e => hm ?_, k2 i hi⟩) (.inr k3)
  rw [← e]
  exact nth_mem (Nat.mod_lt _ hn)
end Go.Proofs.Ytnddplldkgphnaa
