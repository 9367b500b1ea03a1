/- The point of a Region: the model and the program come to the least numbers that keep all bounds. -/
import Derived.Test.YtnddplldkgphnabMathPo
namespace Go.Proofs.Ytnddplldkgphnab
open Go.RowKit

theorem modS_lt {f p n : Nat} (hp : p < n) : ∀ r ∈ modS f p, r.1 < n := by
  intro r hr
  simp only [modS, List.mem_append] at hr
  rcases hr with (hr | hr) | hr
  · split at hr <;> simp at hr; subst hr; exact hp
  · split at hr <;> simp at hr; subst hr; exact hp
  · split at hr <;> simp at hr; subst hr; simp only; omega
theorem prgS_lt {f p b n : Nat} (hp : p < n) (hb : b < n) : ∀ r ∈ prgS f p b, r.1 < n := by
  intro r hr
  unfold prgS at hr
  split at hr <;> simp at hr
  · subst hr; exact hp
  · rcases hr with rfl | rfl
    · exact hp
    · exact hb
theorem prgP_lt {f p n : Nat} (hp : p < n) : ∀ b, b ≤ p → ∀ r ∈ prgP f p b, r.1 < n
  | 0, _, r, hr => by simp [prgP] at hr
  | b + 1, hb, r, hr => by
    rw [prgP, List.mem_append] at hr
    rcases hr with hr | hr
    · exact prgP_lt hp b (by omega) r hr
    · exact prgS_lt hp (by omega) r hr
theorem prgR_lt {fs : List Int} {n : Nat} : ∀ p, p ≤ n → ∀ r ∈ prgR fs p, r.1 < n
  | 0, _, r, hr => by simp [prgR] at hr
  | p + 1, hp, r, hr => by
    rw [prgR, List.mem_append] at hr
    rcases hr with hr | hr
    · exact prgR_lt p (by omega) r hr
    · exact prgP_lt (by omega) p (Nat.le_refl _) r hr
theorem times_mem {L : List (Nat × Nat × Int)} {r : Nat × Nat × Int} : ∀ {k : Nat}, r ∈ times L k → r ∈ L
  | 0, h => by simp [times] at h
  | k + 1, h => by
    rw [times, List.mem_append] at h
    rcases h with h | h
    · exact times_mem h
    · exact h
theorem times_sub {L L' : List (Nat × Nat × Int)} (h : L'.Sublist L) : ∀ {k m : Nat}, k ≤ m → (times L' k).Sublist (times L m)
  | 0, m, _ => by simp [times]
  | k + 1, 0, hkm => by omega
  | k + 1, m + 1, hkm => by rw [times, times]; exact (times_sub h (by omega)).append h
theorem prgP_mono {f p : Nat} : ∀ {c b : Nat}, b ≤ c → (prgP f p b).Sublist (prgP f p c)
  | 0, b, h => by rw [show b = 0 by omega]; exact List.Sublist.refl _
  | c + 1, b, h => by
    by_cases e : b = c + 1
    · rw [e]; exact List.Sublist.refl _
    · rw [prgP]; exact (prgP_mono (by omega)).trans (List.sublist_append_left _ _)
theorem mid_sub {f p : Nat} (hf : f ≤ p) : (midS f p).Sublist (prgP f p p) := by
  have hA : (if 0 < f then [(p, f - 1, (101 : Int))] else []).Sublist (prgP f p f) := by
    by_cases h : 0 < f
    · obtain ⟨g, rfl⟩ : ∃ g, f = g + 1 := ⟨f - 1, by omega⟩
      rw [if_pos h, prgP]
      refine List.Sublist.trans ?_ (List.sublist_append_right _ _)
      simp [prgS]
    · rw [if_neg h]; exact List.nil_sublist _
  unfold midS
  by_cases h1 : f + 1 < p
  · rw [if_pos h1]
    obtain ⟨q, rfl⟩ : ∃ q, p = q + 1 := ⟨p - 1, by omega⟩
    have hB : ((if 0 < f then [(q + 1, f - 1, (101 : Int))] else []) ++ [(f, q + 1, -99)]).Sublist (prgP f (q + 1) (f + 1)) := by
      rw [prgP]
      refine hA.append ?_
      simp [prgS]
    have hC : ([(q + 1, q + 1 - 1, (1 : Int))] : List (Nat × Nat × Int)).Sublist (prgS f (q + 1) q) := by
      unfold prgS
      rw [if_neg (by omega)]
      simp
    have hD := (hB.trans (prgP_mono (show f + 1 ≤ q by omega))).append hC
    rw [show prgP f (q + 1) (q + 1) = prgP f (q + 1) q ++ prgS f (q + 1) q from rfl]
    simpa using hD
  · rw [if_neg h1]
    by_cases h2 : f < p
    · rw [if_pos h2]
      obtain rfl : p = f + 1 := by omega
      rw [prgP]
      refine hA.append ?_
      unfold prgS
      rw [if_neg (by omega)]
      exact List.Sublist.refl _
    · rw [if_neg h2, List.append_nil]
      obtain rfl : f = p := by omega
      exact hA
theorem far_le {os fs : List Int} {n : Nat} (hn : fs.length = n) (h : regB os fs = true) : ∀ p, p < n → farAt fs p ≤ p ∧ (nth fs p = (farAt fs p : Int)) ∧ (∀ q, q ≤ p → farAt fs q ≤ farAt fs p) := by
  subst hn
  have hf := (reg_iff.1 h).2.2
  have h0 : ∀ k, k < fs.length → lastF fs k ≤ nth fs k ∧ nth fs k ≤ k ∧ 0 ≤ nth fs k := by
    intro k
    induction k with
    | zero => intro hk; have := stepB_iff.1 (farTo_at hf 0 hk); simp only [lastF, if_true] at this ⊢; omega
    | succ k ih =>
      intro hk
      have h1 := stepB_iff.1 (farTo_at hf (k + 1) hk)
      have h2 := ih (by omega)
      rw [lastF_succ] at h1 ⊢
      omega
  have h1 : ∀ p, p < fs.length → nth fs p = (farAt fs p : Int) := fun p hp => by have := h0 p hp; unfold farAt; omega
  intro p hp
  refine ⟨by have := h0 p hp; have := h1 p hp; omega, h1 p hp, ?_⟩
  intro q
  induction p with
  | zero => intro hq; rw [show q = 0 by omega]; exact Nat.le_refl _
  | succ p ih =>
    intro hq
    by_cases e : q = p + 1
    · rw [e]; exact Nat.le_refl _
    · have h2 := ih (by omega) (by omega)
      have h3 := h0 (p + 1) hp
      rw [lastF_succ] at h3
      have := h1 p (by omega)
      have := h1 (p + 1) hp
      omega
theorem midR_sub {os fs : List Int} {n : Nat} (hn : fs.length = n) (h : regB os fs = true) : ∀ p, p ≤ n → (midR fs p).Sublist (prgR fs p)
  | 0, _ => by simp [midR]
  | p + 1, hp => by rw [midR, prgR]; exact (midR_sub hn h p (by omega)).append (mid_sub (far_le hn h p (by omega)).1)
theorem modR_mem {fs : List Int} {r : Nat × Nat × Int} : ∀ {n : Nat}, r ∈ modR fs n ↔ ∃ p, p < n ∧ r ∈ modS (farAt fs p) p
  | 0 => by simp [modR]
  | n + 1 => by
    rw [modR, List.mem_append, modR_mem]
    constructor
    · rintro (⟨p, h1, h2⟩ | h)
      · exact ⟨p, by omega, h2⟩
      · exact ⟨n, by omega, h⟩
    · rintro ⟨p, h1, h2⟩
      by_cases e : p = n
      · subst e; exact .inr h2
      · exact .inl ⟨p, by omega, h2⟩
theorem midR_mem {fs : List Int} {r : Nat × Nat × Int} : ∀ {n : Nat}, r ∈ midR fs n → r ∈ modR fs n
  | 0, h => by simp [midR] at h
  | n + 1, h => by
    rw [midR, List.mem_append] at h
    rw [modR, List.mem_append]
    rcases h with h | h
    · exact .inl (midR_mem h)
    · right
      simp only [midS, List.mem_append] at h
      simp only [modS, List.mem_append]
      rcases h with h | h
      · exact .inl (.inr h)
      · split at h
        · simp only [List.mem_cons, List.not_mem_nil, or_false] at h
          rcases h with rfl | rfl
          · right; rw [if_pos (by omega)]; simp
          · left; left; rw [if_pos (by omega)]; simp
        · split at h
          · simp only [List.mem_cons, List.not_mem_nil, or_false] at h
            rcases h with rfl | rfl
            · left; left; rw [if_pos (by omega)]; simp; omega
            · right; rw [if_pos (by omega)]; simp
          · simp at h
theorem modR_lt {fs : List Int} {n : Nat} : ∀ r ∈ modR fs n, r.1 < n := fun r hr => by
  obtain ⟨p, h1, h2⟩ := modR_mem.1 hr
  exact modS_lt h1 r h2
theorem nth_rep0 (n i : Nat) : nth (List.replicate n 0) i = 0 := by
  simp only [nth, List.getD_eq_getElem?_getD, List.getElem?_replicate]
  split <;> rfl
/-- The least numbers are the least. -/
theorem sol_least {fs s : List Int} {n : Nat} (hn : fs.length = n) (hs : s.length = n) (h0 : ∀ i, 0 ≤ nth s i) (hb : ∀ r ∈ modR fs n, nth s r.2.1 + r.2.2 ≤ nth s r.1) : LeL (solL fs) s := by
  unfold solL
  rw [hn]
  exact run_under (n := n) (fun r hr => modR_lt r (midR_mem (times_mem hr))) (fun r hr => hb r (midR_mem (times_mem hr))) (by simp) ⟨by simp [hs], fun i => by rw [nth_rep0]; exact h0 i⟩
theorem zero_sol (fs : List Int) : LeL (List.replicate fs.length 0) (solL fs) ∧ (solL fs).length = fs.length := ⟨⟨by unfold solL; rw [length_runR], fun i => by
  have : ∀ (L : List (Nat × Nat × Int)) (y : List Int), nth y i ≤ nth (runR L y) i := by
    intro L
    induction L with
    | nil => intro y; exact Int.le_refl _
    | cons r L ih =>
      intro y
      unfold runR
      rw [List.foldl_cons]
      refine Int.le_trans ?_ (ih (rlx y r))
      by_cases e : r.1 < y.length
      · exact (rlx_infl e).2 i
      · unfold rlx
        split
        · rw [List.set_eq_of_length_le (by omega)]; exact Int.le_refl _
        · exact Int.le_refl _
  exact this _ _⟩, by unfold solL; rw [length_runR]; simp⟩
/-- The model: numbers that keep all bounds and are not above the least ones are these. -/
theorem stable_sol {fs y : List Int} {n : Nat} (hn : fs.length = n) (h0 : ∀ i, 0 ≤ nth y i) (hl : LeL y (solL fs)) (hb : ∀ r ∈ modR fs n, nth y r.2.1 + r.2.2 ≤ nth y r.1) : y = solL fs :=
  hl.anti (sol_least hn (by rw [hl.1, (zero_sol fs).2, hn]) h0 hb)
theorem sol_chain {os fs : List Int} {n : Nat} (hn : fs.length = n) (h8 : n ≤ 8) (h : regB os fs = true) : ∀ q b, b ≤ q → q < n → nth (solL fs) b + ((q : Int) - b) ≤ nth (solL fs) q := by
  have hh := sol_holds h (by omega)
  rw [hn] at hh
  intro q
  induction q with
  | zero => intro b hb _; rw [show b = 0 by omega]; simp
  | succ q ih =>
    intro b hb hq
    by_cases e : b = q + 1
    · subst e; omega
    · have h1 := ih b (by omega) (by omega)
      have h2 := hh (q + 1, q, 1) (modR_mem.2 ⟨q + 1, hq, by simp [modS]⟩)
      simp only at h2
      omega
theorem prg_holds {os fs : List Int} {n : Nat} (hn : fs.length = n) (h8 : n ≤ 8) (h : regB os fs = true) : ∀ r ∈ prgR fs n, nth (solL fs) r.2.1 + r.2.2 ≤ nth (solL fs) r.1 := by
  have hh := sol_holds h (by omega)
  rw [hn] at hh
  have key : ∀ p b, b < p → p < n → ∀ r ∈ prgS (farAt fs p) p b, nth (solL fs) r.2.1 + r.2.2 ≤ nth (solL fs) r.1 := by
    intro p b hb hp r hr
    have hfp := (far_le hn h p hp).1
    have hc := sol_chain hn h8 h
    unfold prgS at hr
    split at hr
    · simp at hr
      subst hr
      have h1 := hh (p, farAt fs p - 1, 101) (modR_mem.2 ⟨p, hp, by simp only [modS, List.mem_append]; left; right; rw [if_pos (by omega)]; simp⟩)
      have h2 := hc (farAt fs p - 1) b (by omega) (by omega)
      simp only at h1 ⊢
      omega
    · simp only [List.mem_cons, List.not_mem_nil, or_false] at hr
      rcases hr with rfl | rfl
      · have h2 := hc p b (by omega) hp
        simp only
        omega
      · have h1 := hh (farAt fs p, p, -99) (modR_mem.2 ⟨p, hp, by simp only [modS, List.mem_append]; right; rw [if_pos (by omega)]; simp⟩)
        have h2 := hc b (farAt fs p) (by omega) (by omega)
        simp only at h1 ⊢
        omega
  have keyP : ∀ p, p < n → ∀ b, b ≤ p → ∀ r ∈ prgP (farAt fs p) p b, nth (solL fs) r.2.1 + r.2.2 ≤ nth (solL fs) r.1 := by
    intro p hp b
    induction b with
    | zero => intro _ r hr; simp [prgP] at hr
    | succ b ih =>
      intro hb r hr
      rw [prgP, List.mem_append] at hr
      rcases hr with hr | hr
      · exact ih (by omega) r hr
      · exact key p b (by omega) hp r hr
  have keyR : ∀ p, p ≤ n → ∀ r ∈ prgR fs p, nth (solL fs) r.2.1 + r.2.2 ≤ nth (solL fs) r.1 := by
    intro p
    induction p with
    | zero => intro _ r hr; simp [prgR] at hr
    | succ p ih =>
      intro hp r hr
      rw [prgR, List.mem_append] at hr
      rcases hr with hr | hr
      · exact ih (by omega) r hr
      · exact keyP p (by omega) p (Nat.le_refl _) r hr
  exact keyR n (Nat.le_refl _)
/-- The program: its rounds come to the least numbers. -/
theorem prog_sol {os fs : List Int} {n : Nat} (hn : fs.length = n) (h8 : n ≤ 8) (h : regB os fs = true) : runR (times (prgR fs n) n) (List.replicate n 0) = solL fs := by
  have hz := zero_sol fs
  rw [hn] at hz
  have hlt : ∀ r ∈ times (prgR fs n) n, r.1 < n := fun r hr => prgR_lt n (Nat.le_refl _) r (times_mem hr)
  refine LeL.anti (run_under hlt (fun r hr => prg_holds hn h8 h r (times_mem hr)) (by simp) hz.1) ?_
  have := run_sub (n := n) (times_sub (midR_sub hn h n (Nat.le_refl _)) (show min n 5 ≤ n by omega)) hlt (y := List.replicate n 0) (by simp) (LeL.refl _)
  unfold solL
  rw [hn]
  exact this
theorem mem_prgR {fs : List Int} {p b : Nat} {r : Nat × Nat × Int} (hb : b < p) (hr : r ∈ prgS (farAt fs p) p b) : ∀ {n : Nat}, p < n → r ∈ prgR fs n
  | 0, h => by omega
  | n + 1, h => by
    rw [prgR, List.mem_append]
    by_cases e : p = n
    · subst e
      right
      refine (prgP_mono (show b + 1 ≤ p by omega)).subset ?_
      rw [prgP, List.mem_append]
      exact .inr hr
    · exact .inl (mem_prgR hb hr (by omega))
/-! ### The program, step by step -/
theorem run_append (A B : List (Nat × Nat × Int)) (y : List Int) : runR (A ++ B) y = runR B (runR A y) := by simp [runR]
theorem run_bound {K : Int} : ∀ (L : List (Nat × Nat × Int)), (∀ r ∈ L, r.2.2 ≤ 101) → ∀ (y : List Int) (M : Int), 0 ≤ M → (∀ i, nth y i ≤ M) → ∀ i, nth (runR L y) i ≤ M + 101 * L.length
  | [], _, y, M, _, h, i => by simpa [runR] using h i
  | r :: L, hc, y, M, h0, h, i => by
    have h1 : ∀ j, nth (rlx y r) j ≤ M + 101 := fun j => by
      unfold rlx
      have := hc r List.mem_cons_self
      have := h r.2.1
      have := h j
      split
      · by_cases e : r.1 < y.length
        · rw [nth_set e]; split <;> omega
        · rw [List.set_eq_of_length_le (by omega)]; omega
      · omega
    have := run_bound (K := K) L (fun q hq => hc q (List.mem_cons_of_mem _ hq)) (rlx y r) (M + 101) (by omega) h1 i
    unfold runR at this ⊢
    rw [List.foldl_cons]
    simp only [List.length_cons]
    omega
theorem length_midS (f p : Nat) : (midS f p).length ≤ 3 := by
  unfold midS
  rw [List.length_append]
  have : (if 0 < f then [(p, f - 1, (101 : Int))] else []).length ≤ 1 := by split <;> simp
  have : (if f + 1 < p then [(f, p, (-99 : Int)), (p, p - 1, 1)] else if f < p then [(p, f, 1), (f, p, -99)] else []).length ≤ 2 := by
    split
    · simp
    · split <;> simp
  omega
theorem length_midR (fs : List Int) : ∀ p, (midR fs p).length ≤ 3 * p
  | 0 => by simp [midR]
  | p + 1 => by
    have := length_midR fs p
    have := length_midS (farAt fs p) p
    rw [midR, List.length_append]
    omega
theorem length_times (L : List (Nat × Nat × Int)) : ∀ k, (times L k).length = k * L.length
  | 0 => by simp [times]
  | k + 1 => by rw [times, List.length_append, length_times L k, Nat.succ_mul]
theorem mid_c {f p : Nat} {r : Nat × Nat × Int} (h : r ∈ midS f p) : r.2.2 ≤ 101 := by
  simp only [midS, List.mem_append] at h
  rcases h with h | h
  · split at h <;> simp at h; subst h; simp
  · split at h
    · simp only [List.mem_cons, List.not_mem_nil, or_false] at h
      rcases h with rfl | rfl <;> simp
    · split at h
      · simp only [List.mem_cons, List.not_mem_nil, or_false] at h
        rcases h with rfl | rfl <;> simp
      · simp at h
theorem midR_c {fs : List Int} {r : Nat × Nat × Int} : ∀ {n : Nat}, r ∈ midR fs n → r.2.2 ≤ 101
  | 0, h => by simp [midR] at h
  | n + 1, h => by
    rw [midR, List.mem_append] at h
    rcases h with h | h
    · exact midR_c h
    · exact mid_c h
theorem sol_bounds {fs : List Int} {n : Nat} (hn : fs.length = n) (h8 : n ≤ 8) (i : Nat) : 0 ≤ nth (solL fs) i ∧ nth (solL fs) i ≤ 12120 := by
  refine ⟨by have := (zero_sol fs).1.2 i; rwa [nth_rep0] at this, ?_⟩
  have h1 := run_bound (K := 0) (times (midR fs fs.length) (min fs.length 5)) (fun r hr => midR_c (times_mem hr)) (List.replicate fs.length 0) 0 (Int.le_refl _) (fun j => by rw [nth_rep0]; exact Int.le_refl _) i
  have h2 := length_times (midR fs fs.length) (min fs.length 5)
  have h3 := length_midR fs fs.length
  have h4 : min fs.length 5 * (midR fs fs.length).length ≤ 5 * 24 := Nat.mul_le_mul (by omega) (by omega)
  unfold solL
  omega
def prgY (fs : List Int) (n k p b : Nat) : List Int := runR (times (prgR fs n) k ++ (prgR fs p ++ prgP (farAt fs p) p b)) (List.replicate n 0)
theorem prgY_zero (fs : List Int) (n : Nat) : prgY fs n 0 0 0 = List.replicate n 0 := rfl
theorem prgY_place (fs : List Int) (n k p : Nat) : prgY fs n k p p = prgY fs n k (p + 1) 0 := by
  unfold prgY
  rw [prgR]
  simp [prgP]
theorem prgY_round (fs : List Int) (n k : Nat) : prgY fs n k n 0 = prgY fs n (k + 1) 0 0 := by
  unfold prgY
  rw [times]
  simp [prgP, prgR]
theorem prgY_far {fs : List Int} {n k p b : Nat} (h : b < farAt fs p) : prgY fs n k p (b + 1) = rlx (prgY fs n k p b) (p, b, 101) := by
  unfold prgY
  rw [prgP, ← List.append_assoc, ← List.append_assoc, run_append, ← List.append_assoc]
  unfold prgS
  rw [if_pos h]
  rfl
theorem prgY_near {fs : List Int} {n k p b : Nat} (h : ¬ b < farAt fs p) : prgY fs n k p (b + 1) = rlx (rlx (prgY fs n k p b) (p, b, 1)) (b, p, -99) := by
  unfold prgY
  rw [prgP, ← List.append_assoc, ← List.append_assoc, run_append, ← List.append_assoc]
  unfold prgS
  rw [if_neg h]
  rfl
theorem prgY_end {os fs : List Int} {n : Nat} (hn : fs.length = n) (h8 : n ≤ 8) (h : regB os fs = true) : prgY fs n n 0 0 = solL fs := by
  have := prog_sol hn h8 h
  unfold prgY
  simpa [prgP, prgR] using this
/-- Numbers that are not below 0 nor above the least ones. -/
structure Mid (fs y : List Int) (n : Nat) : Prop where
  len : y.length = n
  lo : ∀ i, 0 ≤ nth y i
  hi : ∀ i, nth y i ≤ 12120
  le : LeL y (solL fs)
theorem Mid.rlx {fs y : List Int} {n : Nat} (hn : fs.length = n) (h8 : n ≤ 8) (h : Mid fs y n) {r : Nat × Nat × Int} (hr : r.1 < n) (hb : nth (solL fs) r.2.1 + r.2.2 ≤ nth (solL fs) r.1) : Mid fs (rlx y r) n := by
  have h1 := rlx_under (by rw [h.len]; exact hr) hb h.le
  refine ⟨by rw [length_rlx, h.len], fun i => Int.le_trans (h.lo i) ((rlx_infl (by rw [h.len]; exact hr)).2 i), fun i => Int.le_trans (h1.2 i) (sol_bounds hn h8 i).2, h1⟩
theorem prgY_mid {os fs : List Int} {n k p b : Nat} (hn : fs.length = n) (h8 : n ≤ 8) (h : regB os fs = true) (hp : p ≤ n) (hb : b ≤ p) (hpb : b = 0 ∨ p < n) : Mid fs (prgY fs n k p b) n := by
  have hm : ∀ r ∈ times (prgR fs n) k ++ (prgR fs p ++ prgP (farAt fs p) p b), r ∈ prgR fs n := by
    have hR : ∀ a c, a + c = n → ∀ r ∈ prgR fs a, r ∈ prgR fs n := by
      intro a c
      induction c generalizing a with
      | zero => intro e r hr; rw [show n = a by omega]; exact hr
      | succ c ih => intro e r hr; exact ih (a + 1) (by omega) r (by rw [prgR, List.mem_append]; exact .inl hr)
    intro r hr
    rw [List.mem_append, List.mem_append] at hr
    rcases hr with hr | hr | hr
    · exact times_mem hr
    · exact hR p (n - p) (by omega) r hr
    · rcases hpb with rfl | hlt
      · simp [prgP] at hr
      · refine hR (p + 1) (n - (p + 1)) (by omega) r ?_
        rw [prgR, List.mem_append]
        exact .inr ((prgP_mono hb).subset hr)
  have hz := zero_sol fs
  rw [hn] at hz
  have h1 := run_under (n := n) (s := solL fs) (fun r hr => prgR_lt n (Nat.le_refl _) r (hm r hr)) (fun r hr => prg_holds hn h8 h r (hm r hr)) (y := List.replicate n 0) (by simp) hz.1
  have h2 := run_sub (n := n) (List.nil_sublist (times (prgR fs n) k ++ (prgR fs p ++ prgP (farAt fs p) p b))) (fun r hr => prgR_lt n (Nat.le_refl _) r (hm r hr)) (y := List.replicate n 0) (by simp) (LeL.refl _)
  refine ⟨by unfold prgY; rw [length_runR]; simp, fun i => ?_, fun i => Int.le_trans (h1.2 i) (sol_bounds hn h8 i).2, h1⟩
  have := h2.2 i
  rw [show nth (runR [] (List.replicate n 0)) i = 0 from nth_rep0 n i] at this
  exact this
def negL (y : List Int) : List Int := y.map fun x => -x
theorem length_negL (y : List Int) : (negL y).length = y.length := by simp [negL]
theorem nth_negL (y : List Int) (i : Nat) : nth (negL y) i = -(nth y i) := by
  simp only [negL, nth, List.getD_eq_getElem?_getD, List.getElem?_map]
  cases y[i]? <;> simp
theorem neg_set {y : List Int} {i : Nat} {v u : Int} (h : v = -u) : (negL y).set i v = negL (y.set i u) := by
  subst h
  simp [negL, List.map_set]
theorem neg_same {y : List Int} {i : Nat} (hi : i < y.length) : (negL y).set i (-(nth y i)) = negL y := by
  refine ext_nth (by simp [negL]) (fun j hj => ?_)
  rw [nth_set (by rw [length_negL]; exact hi)]
  split
  · rename_i e; subst e; rw [nth_negL]
  · rfl
theorem neg_rlx {y : List Int} {i j : Nat} {c v : Int} (hi : i < y.length) (hv : v = if -(nth y j) - c < -(nth y i) then -(nth y j) - c else -(nth y i)) : (negL y).set i v = negL (rlx y (i, j, c)) := by
  subst hv
  unfold rlx
  simp only
  by_cases e : nth y i < nth y j + c
  · rw [if_pos (by omega), if_pos e, neg_set (u := nth y j + c) (by omega)]
  · rw [if_neg (by omega), if_neg e, neg_same hi]
/-- A list's numbers at their places of an order. -/
def putAt (os ys xs : List Int) (k : Nat) : List Int := (List.range k).foldl (fun L p => L.set (nth os p).toNat (nth ys p)) xs
theorem putAt_succ (os ys xs : List Int) (k : Nat) : putAt os ys xs (k + 1) = (putAt os ys xs k).set (nth os k).toNat (nth ys k) := by
  unfold putAt
  rw [List.range_succ, List.foldl_append]
  rfl
theorem length_putAt (os ys xs : List Int) : ∀ k, (putAt os ys xs k).length = xs.length
  | 0 => rfl
  | k + 1 => by rw [putAt_succ, List.length_set, length_putAt os ys xs k]
def pointOf (os fs : List Int) : List Int × Bool := if regB os fs then (putAt os (negL (solL fs)) (List.replicate fs.length 0) fs.length, true) else ([], false)
theorem point_yes {os fs : List Int} {n : Nat} (hn : fs.length = n) (h : regB os fs = true) : pointOf os fs = (putAt os (negL (solL fs)) (List.replicate n 0) n, true) := by unfold pointOf; rw [if_pos h, hn]
theorem point_no {os fs : List Int} (h : ¬ regB os fs = true) : pointOf os fs = ([], false) := by unfold pointOf; rw [if_neg h]
theorem reg_order {os fs : List Int} {n : Nat} (hn : fs.length = n) (h : regB os fs = true) : os.length = n ∧ n ≤ 8 ∧ ∀ k, k < n → 0 ≤ nth os k ∧ nth os k < (n : Int) := by
  obtain ⟨h1, h2, h3⟩ := reg_iff.1 h
  have h8 := out_le h1
  refine ⟨by omega, by omega, fun k hk => ?_⟩
  have := out_nth h1 (i := k) (by omega)
  omega
end Go.Proofs.Ytnddplldkgphnab
