/- Tables: their cells, keys and costs; the keys that may be put in next, and the orders of insertion. -/
import Derived.Test.YtnddplldkgphnaaMathTb
import Derived.Test.YtnddplldkgphnaaMathPu
namespace Go.Proofs.Ytnddplldkgphnaa
open Go.RowKit

/-- What is said of each of the first k cells with a property. -/
def coll (p : Nat → Bool) (f : Nat → Int) (k : Nat) : List Int := ((List.range k).filter p).map f
theorem coll_succ (p : Nat → Bool) (f : Nat → Int) (k : Nat) : coll p f (k + 1) = coll p f k ++ if p k then [f k] else [] := by
  unfold coll
  rw [List.range_succ, List.filter_append, List.map_append]
  congr 1
  by_cases h : p k <;> simp [h]
theorem coll_yes {p : Nat → Bool} {f : Nat → Int} {k : Nat} (h : p k = true) : coll p f (k + 1) = coll p f k ++ [f k] := by rw [coll_succ, if_pos h]
theorem coll_no {p : Nat → Bool} {f : Nat → Int} {k : Nat} (h : p k = false) : coll p f (k + 1) = coll p f k := by rw [coll_succ, if_neg (by simp [h]), List.append_nil]
theorem length_coll (p : Nat → Bool) (f : Nat → Int) (k : Nat) : (coll p f k).length ≤ k := by
  have := List.length_filter_le p (List.range k)
  simp [coll] at *
  exact this
theorem coll_map (p : Nat → Bool) (f : Nat → Int) (g : Int → Int) (k : Nat) : (coll p f k).map g = coll p (fun c => g (f c)) k := by simp [coll, Function.comp_def]
/-- A cell with a key. -/
def isUsed (cs : List Int) (c : Nat) : Bool := !decide (nth cs c = -1)
theorem isUsed_iff {cs : List Int} {c : Nat} : isUsed cs c = true ↔ nth cs c ≠ -1 := by simp [isUsed]
theorem isUsed_not {cs : List Int} {c : Nat} : isUsed cs c = false ↔ nth cs c = -1 := by simp [isUsed]
def usedL (cs : List Int) : List Int := coll (isUsed cs) (fun c => (c : Int)) cs.length
def takenL (cs : List Int) : List Int := coll (isUsed cs) (fun c => nth cs c) cs.length
def costsL (cs : List Int) : List Int := coll (isUsed cs) (fun c => (costN cs.length (nth cs c) c : Int)) cs.length
def keysL (cs : List Int) : List Int := insSort (takenL cs)
theorem used_taken (cs : List Int) : (usedL cs).map (fun c => nth cs c.toNat) = takenL cs := by simp [usedL, takenL, coll_map]
theorem used_costs (cs : List Int) : (usedL cs).map (fun c => (costN cs.length (nth cs c.toNat) c.toNat : Int)) = costsL cs := by simp [usedL, costsL, coll_map]
theorem length_collE (p : Nat → Bool) (f g : Nat → Int) (k : Nat) : (coll p f k).length = (coll p g k).length := by simp [coll]
theorem used_many (cs : List Int) : ∀ k, k ≤ cs.length → (coll (isUsed cs) (fun c => (c : Int)) k).length = usedN (cs.take k)
  | 0, _ => by simp [coll, usedN]
  | k + 1, h => by
    rw [coll_succ, take_succ_nth (by omega)]
    have ih := used_many cs k (by omega)
    unfold usedN at *
    rw [List.countP_append, List.length_append, ih]
    by_cases e : nth cs k = -1 <;> simp [isUsed, e]
theorem length_usedL (cs : List Int) : (usedL cs).length = usedN cs := by
  have := used_many cs cs.length (Nat.le_refl _)
  rwa [List.take_length] at this
theorem mem_coll {p : Nat → Bool} {f : Nat → Int} {k : Nat} {x : Int} : x ∈ coll p f k ↔ ∃ c, c < k ∧ p c = true ∧ f c = x := by
  simp [coll, and_assoc]
theorem mem_taken {cs : List Int} {x : Int} : x ∈ takenL cs ↔ x ∈ cs ∧ x ≠ -1 := by
  unfold takenL
  rw [mem_coll]
  constructor
  · rintro ⟨c, hc, h, rfl⟩
    exact ⟨nth_mem hc, isUsed_iff.1 h⟩
  · rintro ⟨h, hne⟩
    obtain ⟨c, hc, rfl⟩ := mem_nth h
    exact ⟨c, hc, isUsed_iff.2 hne, rfl⟩
theorem mem_used {cs : List Int} {x : Int} : x ∈ usedL cs ↔ ∃ c, c < cs.length ∧ nth cs c ≠ -1 ∧ (c : Int) = x := by
  unfold usedL
  rw [mem_coll]
  simp [isUsed]
theorem mem_keys {cs : List Int} {x : Int} : x ∈ keysL cs ↔ x ∈ cs ∧ x ≠ -1 := by
  rw [← mem_taken]
  exact (insSort_perm _).mem_iff
theorem coll_nodup {p : Nat → Bool} {f : Nat → Int} {k : Nat} (h : ∀ c d, c < k → d < k → p c = true → f c = f d → c = d) : (coll p f k).Nodup := by
  unfold coll List.Nodup
  rw [List.pairwise_map, List.pairwise_filter]
  refine List.Pairwise.imp_of_mem ?_ (List.nodup_range (n := k))
  intro a b ha hb hne hpa hpb e
  rw [List.mem_range] at ha hb
  exact hne (h a b ha hb hpa e)
theorem Tb.taken_nodup {cs : List Int} (h : Tb cs) : (takenL cs).Nodup := coll_nodup fun c d hc hd hp e => h.one c d hc hd e (isUsed_iff.1 hp)
/-- Numbers put in their places are sorted. -/
theorem putL_ins {x : Int} : ∀ {l : List Int}, x ∉ l → putL l x = ins x l
  | [], _ => rfl
  | y :: l, h => by
    have hne : y ≠ x := fun e => h (by simp [e])
    simp only [putL, ins]
    by_cases h1 : y < x
    · rw [if_pos h1, if_pos (by omega), putL_ins (fun hm => h (by simp [hm]))]
    · rw [if_neg h1, if_neg hne, if_neg (by omega)]
theorem put_next {p : Nat → Bool} {f : Nat → Int} {k : Nat} (hk : p k = true) (h : ∀ c, c < k → p c = true → f c ≠ f k) : putL (insSort (coll p f k)) (f k) = insSort (coll p f (k + 1)) := by
  rw [putL_ins, coll_yes hk]
  · simp [insSort]
  · rw [(insSort_perm _).mem_iff, mem_coll]
    rintro ⟨c, hc, hp, e⟩
    exact h c hc hp e
/-- Clusters: the first cells' rows. -/
def rowN (cs : List Int) : Nat → Nat → Nat
  | 0, _ => 0
  | f + 1, c => if nth cs c = -1 then 0 else rowN cs f ((c + 1) % cs.length) + 1
def startsAt (cs : List Int) (c : Nat) : Bool := isUsed cs c && decide (nth cs ((c + cs.length - 1) % cs.length) = -1)
def clusL (cs : List Int) : List Int := coll (startsAt cs) (fun c => (rowN cs cs.length c : Int)) cs.length
theorem rowN_end {cs : List Int} {f c : Nat} (h : nth cs c = -1) : rowN cs f c = 0 := by
  cases f <;> simp [rowN, h]
theorem rowN_next {cs : List Int} {f c : Nat} (h : nth cs c ≠ -1) : rowN cs (f + 1) c = rowN cs f ((c + 1) % cs.length) + 1 := by simp [rowN, h]

/-! ### Orders of insertion -/
/-- A table of some of another one's keys, in their cells. -/
structure Sub (cs part : List Int) : Prop where
  len : part.length = cs.length
  at_ : ∀ c, c < cs.length → nth part c = -1 ∨ nth part c = nth cs c
theorem sub_empty (cs : List Int) : Sub cs (emptyL cs.length) := ⟨length_emptyL _, fun c hc => .inl (by simp [emptyL, nth, hc])⟩
/-- A key may be put in next. -/
def rdyK (cs part : List Int) (key : Int) : Bool := decide (nth part (findL cs key) = -1) && full part key (costN cs.length key (findL cs key))
/-- The keys that may be put in next. -/
def rdyL (cs part : List Int) : List Int := (keysL cs).filter (rdyK cs part)
/-- What the program asks of a key. -/
def rdyP (cs part : List Int) (key : Int) : Bool := decide (nth cs (srch part key) = key) && decide (nth part (srch part key) = -1)
theorem Sub.free {cs part : List Int} (h : Sub cs part) (ht : Tb cs) : ∃ q, freeAt part q := by
  obtain ⟨q, hq, e⟩ := ht.fr
  refine ⟨q, by rw [h.len]; exact hq, ?_⟩
  rcases h.at_ q hq with h1 | h1
  · exact h1
  · rw [h1, e]
theorem rdyP_iff {cs part : List Int} (ht : Tb cs) (hs : Sub cs part) {key : Int} (hk : key ≠ -1) (hm : key ∈ cs) : rdyP cs part key = rdyK cs part key := by
  obtain ⟨f1, f2, f3⟩ := findL_spec hm
  have hn : 0 < cs.length := by omega
  have ho := own_lt (n := cs.length) (key := key) hn
  have hw := way_at ho f1
  have hlt : costN cs.length key (findL cs key) < cs.length := way_lt hn
  have huniq : ∀ c, c < cs.length → nth part c = key → c = findL cs key := by
    intro c hc e
    rcases hs.at_ c hc with h | h
    · omega
    · exact ht.one c _ hc f1 (by rw [f2, ← h, e]) (by rw [← h, e]; exact hk)
  have e1 : rdyP cs part key = true ↔ rdyK cs part key = true := by
    simp only [rdyP, rdyK, Bool.and_eq_true, decide_eq_true_eq, full_iff]
    constructor
    · rintro ⟨h1, h2⟩
      obtain ⟨q, hq⟩ := hs.free ht
      obtain ⟨k, k1, k2, k3, k4⟩ := srch_spec (key := key) hq.1 hq.2
      have hl := srch_lt (key := key) (hs.free ht)
      have hc : srch part key = findL cs key := ht.one _ _ (by rw [← hs.len]; exact hl) f1 (by rw [h1, f2]) (by rw [h1]; exact hk)
      rw [hs.len] at k1 k2 k3 k4
      have h5 := way_add (n := cs.length) (d := k) ho k1
      rw [← k4, hc] at h5
      refine ⟨by rw [← hc]; exact h2, ?_⟩
      intro j hj
      rw [hs.len]
      unfold costN at hj
      exact (k2 j (by omega)).2
    · rintro ⟨h1, h2⟩
      have h4 := srch_of (cs := part) (key := key) (k := costN cs.length key (findL cs key)) (by rw [hs.len]; exact hn) (by rw [hs.len]; exact hlt) (fun i hi => by
        refine ⟨fun e => ?_, h2 i hi⟩
        rw [hs.len] at e
        have h3 := huniq _ (Nat.mod_lt _ hn) e
        have h5 := way_add (n := cs.length) (d := i) ho (by omega)
        rw [h3] at h5
        unfold costN at hi
        omega) (.inr (by rw [hs.len]; unfold costN; rw [hw]; exact h1))
      rw [hs.len] at h4
      unfold costN at h4
      rw [hw] at h4
      rw [h4]
      exact ⟨f2, h1⟩
  cases h : rdyP cs part key
  · cases h' : rdyK cs part key
    · rfl
    · rw [e1.2 h'] at h; exact absurd h (by simp)
  · exact (e1.1 h).symm
/-- A key that may be put in next is put into its cell. -/
theorem rdy_cell {cs part : List Int} (ht : Tb cs) (hs : Sub cs part) {key : Int} (hm : key ∈ rdyL cs part) : key ∈ cs ∧ key ≠ -1 ∧ srch part key = findL cs key ∧ nth part (findL cs key) = -1 := by
  unfold rdyL at hm
  rw [List.mem_filter] at hm
  obtain ⟨h1, h2⟩ := hm
  obtain ⟨h3, h4⟩ := mem_keys.1 h1
  obtain ⟨f1, f2, f3⟩ := findL_spec h3
  have h5 := rdyP_iff ht hs h4 h3
  rw [h2] at h5
  simp only [rdyP, Bool.and_eq_true, decide_eq_true_eq] at h5
  have hl := srch_lt (key := key) (hs.free ht)
  have hc : srch part key = findL cs key := ht.one _ _ (by rw [← hs.len]; exact hl) f1 (by rw [h5.1, f2]) (by rw [h5.1]; exact h4)
  exact ⟨h3, h4, hc, by rw [← hc]; exact h5.2⟩
theorem Sub.put {cs part : List Int} (hs : Sub cs part) {key : Int} (hm : key ∈ cs) : Sub cs (part.set (findL cs key) key) := by
  obtain ⟨f1, f2, f3⟩ := findL_spec hm
  refine ⟨by simp [hs.len], ?_⟩
  intro c hc
  rw [nth_set (by rw [hs.len]; exact f1)]
  split
  · subst c; exact .inr f2.symm
  · exact hs.at_ c hc
/-- What is missing. -/
def missN (cs part : List Int) : Nat := usedN cs - usedN part
theorem usedN_mono {cs part : List Int} (hs : Sub cs part) : ∀ k, k ≤ cs.length → usedN (part.take k) ≤ usedN (cs.take k)
  | 0, _ => by simp [usedN]
  | k + 1, h => by
    rw [take_succ_nth (xs := cs) (by omega), take_succ_nth (xs := part) (by rw [hs.len]; omega)]
    have ih := usedN_mono hs k (by omega)
    unfold usedN at *
    rw [List.countP_append, List.countP_append]
    rcases hs.at_ k (by omega) with e | e
    · simp only [List.countP_singleton, e]
      simp
      omega
    · rw [e]; omega
theorem Sub.used {cs part : List Int} (hs : Sub cs part) : usedN part ≤ usedN cs := by
  have := usedN_mono hs cs.length (Nat.le_refl _)
  rwa [List.take_length, ← hs.len, List.take_length] at this
theorem miss_put {cs part : List Int} (hs : Sub cs part) {key : Int} (hm : key ∈ cs) (hk : key ≠ -1) (hf : nth part (findL cs key) = -1) : missN cs (part.set (findL cs key) key) + 1 = missN cs part := by
  obtain ⟨f1, f2, f3⟩ := findL_spec hm
  have h1 := usedN_set (cs := part) (i := findL cs key) (x := key) ⟨by rw [hs.len]; exact f1, hf⟩ hk
  have h2 := (hs.put hm).used
  unfold missN
  omega
/-- Of a part that is not all, some key may be put in next. -/
theorem rdy_some {cs part : List Int} (ht : Tb cs) (hs : Sub cs part) (hne : part ≠ cs) : rdyL cs part ≠ [] := by
  obtain ⟨F, hF, eF⟩ := ht.fr
  have hn : 0 < cs.length := by omega
  -- a missing key's cell
  have hex : ∃ c, c < cs.length ∧ nth part c = -1 ∧ nth cs c ≠ -1 := by
    apply Classical.byContradiction
    intro hno
    apply hne
    refine ext_nth hs.len fun i hi => ?_
    rw [hs.len] at hi
    rcases hs.at_ i hi with h | h
    · by_cases e : nth cs i = -1
      · rw [h, e]
      · exact absurd ⟨i, hi, h, e⟩ hno
    · exact h
  -- the nearest one behind the free cell
  have hmin : ∀ d c, c < cs.length → nth part c = -1 → nth cs c ≠ -1 → wayN cs.length F c ≤ d → ∃ c, c < cs.length ∧ nth part c = -1 ∧ nth cs c ≠ -1 ∧ ∀ b, b < cs.length → nth part b = -1 → nth cs b ≠ -1 → wayN cs.length F c ≤ wayN cs.length F b := by
    intro d
    induction d with
    | zero => intro c h1 h2 h3 h4; exact ⟨c, h1, h2, h3, fun b _ _ _ => by omega⟩
    | succ d ih =>
      intro c h1 h2 h3 h4
      by_cases hb : ∃ b, b < cs.length ∧ nth part b = -1 ∧ nth cs b ≠ -1 ∧ wayN cs.length F b ≤ d
      · obtain ⟨b, b1, b2, b3, b4⟩ := hb
        exact ih b b1 b2 b3 b4
      · refine ⟨c, h1, h2, h3, fun b b1 b2 b3 => ?_⟩
        have : ¬ wayN cs.length F b ≤ d := fun h => hb ⟨b, b1, b2, b3, h⟩
        omega
  obtain ⟨c0, h1, h2, h3⟩ := hex
  obtain ⟨c, c1, c2, c3, c4⟩ := hmin _ c0 h1 h2 h3 (Nat.le_refl _)
  have hm : nth cs c ∈ cs := nth_mem c1
  obtain ⟨f1, f2, f3⟩ := findL_spec hm
  have hfc : findL cs (nth cs c) = c := ht.one _ _ f1 c1 f2 (by rw [f2]; exact c3)
  intro hnil
  have hin : nth cs c ∈ rdyL cs part := by
    unfold rdyL
    rw [List.mem_filter, mem_keys]
    refine ⟨⟨hm, c3⟩, ?_⟩
    simp only [rdyK, Bool.and_eq_true, decide_eq_true_eq, full_iff, hfc, hs.len]
    refine ⟨c2, ?_⟩
    intro j hj hfree
    have ho := own_lt (n := cs.length) (key := nth cs c) hn
    have hb : (ownN cs.length (nth cs c) + j) % cs.length < cs.length := Nat.mod_lt _ hn
    have hw := ht.way c c1 c3 j hj
    have hle := c4 _ hb hfree hw
    -- the cells on the way lie nearer behind the free one
    have hall : ∀ i, i ≤ costN cs.length (nth cs c) c → nth cs ((ownN cs.length (nth cs c) + i) % cs.length) ≠ -1 := by
      intro i hi
      rcases Nat.lt_or_ge i (costN cs.length (nth cs c) c) with h | h
      · exact ht.way c c1 c3 i h
      · have : i = costN cs.length (nth cs c) c := by omega
        subst this
        unfold costN
        rw [way_at ho c1]
        exact c3
    have hd : costN cs.length (nth cs c) c < cs.length := way_lt hn
    have hFw : ∀ i, i ≤ costN cs.length (nth cs c) c → (ownN cs.length (nth cs c) + i) % cs.length ≠ F := fun i hi e => hall i hi (by rw [e]; exact eF)
    have hc2 : (ownN cs.length (nth cs c) + costN cs.length (nth cs c) c) % cs.length = c := way_at ho c1
    -- step by step
    have hstep : ∀ i, i ≤ costN cs.length (nth cs c) c → wayN cs.length F ((ownN cs.length (nth cs c) + i) % cs.length) = wayN cs.length F (ownN cs.length (nth cs c)) + i := by
      intro i
      induction i with
      | zero => intro _; rw [Nat.add_zero, Nat.mod_eq_of_lt ho]; rfl
      | succ i ih =>
        intro hi
        have h5 := ih (by omega)
        have h6 := hFw (i + 1) hi
        have h7 : (ownN cs.length (nth cs c) + i) % cs.length < cs.length := Nat.mod_lt _ hn
        have h8 : (ownN cs.length (nth cs c) + (i + 1)) % cs.length = ((ownN cs.length (nth cs c) + i) % cs.length + 1) % cs.length := by rw [Nat.mod_add_mod, Nat.add_assoc]
        rw [h8] at h6 ⊢
        rw [show wayN cs.length F (ownN cs.length (nth cs c)) + (i + 1) = wayN cs.length F ((ownN cs.length (nth cs c) + i) % cs.length) + 1 by omega]
        generalize (ownN cs.length (nth cs c) + i) % cs.length = y at h6 h7 ⊢
        have h9 : (y + 1) % cs.length < cs.length := Nat.mod_lt _ hn
        rw [way_val hF h9, way_val hF h7]
        rw [mod_two (show y + 1 < 2 * cs.length by omega)] at h6 h9 ⊢
        split at h6 <;> split <;> split <;> (try split) <;> omega
    have e1 := hstep j (by omega)
    have e2 := hstep _ (Nat.le_refl _)
    rw [hc2] at e2
    omega
  rw [hnil] at hin
  cases hin
theorem rdy_none {cs : List Int} : rdyL cs cs = [] := by
  unfold rdyL
  rw [List.filter_eq_nil_iff]
  intro key hk
  obtain ⟨h1, h2⟩ := mem_keys.1 hk
  obtain ⟨f1, f2, f3⟩ := findL_spec h1
  simp [rdyK, f2, h2]
theorem rdy_nil {cs part : List Int} (ht : Tb cs) (hs : Sub cs part) : rdyL cs part = [] ↔ part = cs := by
  constructor
  · intro h
    apply Classical.byContradiction
    intro hne
    exact rdy_some ht hs hne h
  · rintro rfl
    exact rdy_none
/-- The model's way: cell by cell. -/
def rdyC (cs part : List Int) (c : Nat) : Bool := isUsed cs c && (decide (nth part c = -1) && full part (nth cs c) (costN cs.length (nth cs c) c))
theorem Tb.find_at {cs : List Int} (ht : Tb cs) {c : Nat} (hc : c < cs.length) (hne : nth cs c ≠ -1) : findL cs (nth cs c) = c := by
  obtain ⟨f1, f2, f3⟩ := findL_spec (nth_mem hc)
  exact ht.one _ _ f1 hc f2 (by rw [f2]; exact hne)
theorem rdy_coll {cs part : List Int} (ht : Tb cs) : insSort (coll (rdyC cs part) (fun c => nth cs c) cs.length) = rdyL cs part := by
  have e : coll (rdyC cs part) (fun c => nth cs c) cs.length = (takenL cs).filter (rdyK cs part) := by
    unfold coll takenL coll
    rw [List.filter_map, List.filter_filter]
    congr 1
    refine List.filter_congr fun c hc => ?_
    rw [List.mem_range] at hc
    by_cases hne : nth cs c = -1
    · simp [rdyC, isUsed, hne]
    · simp only [rdyC, rdyK, Function.comp, ht.find_at hc hne]
      rw [Bool.and_comm]
  rw [e]
  unfold rdyL
  refine sorted_unique (insSort_sorted _) ((insSort_sorted _).filter _) ?_
  exact (insSort_perm _).trans ((insSort_perm _).symm.filter _)
/-- The least order of insertion, from a part on. -/
def firGo (cs : List Int) : Nat → List Int → List Int
  | 0, _ => []
  | f + 1, part => match rdyL cs part with
    | [] => []
    | key :: _ => key :: firGo cs f (part.set (findL cs key) key)
def firL (cs : List Int) : List Int := firGo cs cs.length (emptyL cs.length)
/-- How many orders go on. -/
def cntGo (cs : List Int) : Nat → List Int → Nat
  | 0, _ => 1
  | f + 1, part => if rdyL cs part = [] then 1 else ((rdyL cs part).map fun key => cntGo cs f (part.set (findL cs key) key)).foldl (· + ·) 0
def cntL (cs : List Int) : Nat := cntGo cs cs.length (emptyL cs.length)
end Go.Proofs.Ytnddplldkgphnaa
