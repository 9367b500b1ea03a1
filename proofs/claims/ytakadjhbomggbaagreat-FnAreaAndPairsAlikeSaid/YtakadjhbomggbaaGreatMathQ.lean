/- All lists with an outcome: each drives to it, in lexicographic order, the outcome itself last. -/
import Derived.Test.YtakadjhbomggbaaGreatMathL
import Derived.Test.YtakadjhbomggbaaGreatMathP
namespace Go.Proofs.YtakadjhbomggbaaGreat
open Go.RowKit

/-- The first difference decides. -/
def lexLess : List Int → List Int → Bool
  | x :: xs, y :: ys => if x = y then lexLess xs ys else decide (x < y)
  | _, _ => false

theorem mem_upFrom : ∀ (k : Nat) (l x : Int), x ∈ upFrom l k ↔ l ≤ x ∧ x < l + k
  | 0, l, x => by simp only [upFrom, List.not_mem_nil, false_iff]; omega
  | k + 1, l, x => by simp only [upFrom, List.mem_cons, mem_upFrom k]; omega

theorem lex_mem : ∀ (ls hs L : List Int), ls.length = hs.length → L ∈ lex ls hs → L.length = ls.length ∧ ∀ i, i < ls.length → nth ls i ≤ nth L i ∧ nth L i ≤ nth hs i
  | [], [], L, _, h => by
    simp [lex] at h
    subst h
    exact ⟨rfl, fun i hi => by simp at hi⟩
  | l :: ls, h :: hs, L, hl, hm => by
    rw [lex] at hm
    obtain ⟨x, hx, hL⟩ := List.mem_flatMap.1 hm
    obtain ⟨M, hM, rfl⟩ := List.mem_map.1 hL
    obtain ⟨h1, h2⟩ := lex_mem ls hs M (by simpa using hl) hM
    rw [mem_upFrom] at hx
    unfold span at hx
    refine ⟨by simp [h1], fun i hi => ?_⟩
    cases i with
    | zero => simp only [nth_cons_zero]; omega
    | succ i => simp only [nth_cons_succ]; exact h2 i (by simpa using hi)

theorem lex_pairwise : ∀ (ls hs : List Int), (lex ls hs).Pairwise (fun a b => lexLess a b = true)
  | l :: ls, h :: hs => by
    have ih := lex_pairwise ls hs
    have key : ∀ (k : Nat) (x : Int), ((upFrom x k).flatMap fun x => (lex ls hs).map (x :: ·)).Pairwise (fun a b => lexLess a b = true) := by
      intro k
      induction k with
      | zero => intro x; simp [upFrom]
      | succ k ihk =>
        intro x
        simp only [upFrom, List.flatMap_cons]
        rw [List.pairwise_append]
        refine ⟨?_, ihk _, fun a ha b hb => ?_⟩
        · rw [List.pairwise_map]
          exact ih.imp fun h => by simp [lexLess, h]
        · obtain ⟨M, _, rfl⟩ := List.mem_map.1 ha
          obtain ⟨y, hy, hb⟩ := List.mem_flatMap.1 hb
          obtain ⟨M', _, rfl⟩ := List.mem_map.1 hb
          rw [mem_upFrom] at hy
          simp only [lexLess]
          rw [if_neg (by omega)]
          simp
          omega
    rw [lex]
    exact key _ _
  | [], _ => by simp [lex]
  | _ :: _, [] => by simp [lex]

theorem lex_last : ∀ (ls hs : List Int), ls.length = hs.length → (∀ i, i < ls.length → nth ls i ≤ nth hs i) → ∃ M, lex ls hs = M ++ [hs]
  | [], [], _, _ => ⟨[], by simp [lex]⟩
  | l :: ls, h :: hs, hl, hle => by
    obtain ⟨M, hM⟩ := lex_last ls hs (by simpa using hl) (fun i hi => by have := hle (i + 1) (by simpa using hi); simpa only [nth_cons_succ] using this)
    have h0 := hle 0 (by simp)
    simp only [nth_cons_zero] at h0
    have e : span l h = (h - l).toNat + 1 := by unfold span; omega
    have e2 : l + ((h - l).toNat : Int) = h := by omega
    rw [lex, e, upFrom_snoc, e2, List.flatMap_append, hM]
    exact ⟨((upFrom l (h - l).toNat).flatMap fun x => (M ++ [hs]).map (x :: ·)) ++ M.map (h :: ·), by simp⟩

theorem down_mem (t : List Int) : ∀ (x z : Nat), down t x ≤ z → z < x → (z : Int) ∈ t
  | 0, _, _, h => absurd h (by omega)
  | x + 1, z, h1, h2 => by
    by_cases hm : (x : Int) ∈ t
    · rw [down_step hm] at h1
      by_cases e : z = x
      · subst e; exact hm
      · exact down_mem t x z h1 (by omega)
    · rw [down_stop hm] at h1
      omega

/-- A list between the least favourites and the outcome drives to it. -/
theorem drive_out {xs L : List Int} (ho : outB xs = true) (hl : L.length = xs.length) (h : ∀ i, i < xs.length → leastOf xs i ≤ nth L i ∧ nth L i ≤ nth xs i) : ∀ k, k ≤ xs.length → drive xs.length (L.take k) = xs.take k
  | 0, _ => rfl
  | k + 1, hk => by
    have ih := drive_out ho hl h k (by omega)
    have hb := out_nth ho (i := k) (by omega)
    have h2 := h k (by omega)
    have h3 := leastOf_bounds hb.1
    rw [drive_succ (by omega), ih, take_succ_nth (by omega)]
    congr 2
    refine place_is h2.2 hb.2 (fun hm => by have := (out_before ho (i := k) (j := k) (by omega) (by omega)).1 hm; omega) (fun z h4 h5 => ?_)
    have := down_mem (xs.take k) (nth xs k).toNat z.toNat (by unfold leastOf at h2; omega) (by omega)
    rwa [Int.toNat_of_nonneg (by omega)] at this

/-- What each of all lists with an outcome is. -/
theorem outcome_list {xs L : List Int} (ho : outB xs = true) (h : L ∈ lex (leasts xs) xs) : L.length = xs.length ∧ drive xs.length L = xs ∧ ∀ x ∈ L, 0 ≤ x ∧ x ≤ (xs.length : Int) - 1 := by
  obtain ⟨h1, h2⟩ := lex_mem _ _ _ (length_leasts xs) h
  rw [length_leasts] at h1 h2
  have hb : ∀ i, i < xs.length → leastOf xs i ≤ nth L i ∧ nth L i ≤ nth xs i := fun i hi => by have := h2 i hi; rwa [nth_leasts hi] at this
  have hd := drive_out ho h1 hb xs.length (Nat.le_refl _)
  rw [List.take_length, List.take_of_length_le (by omega)] at hd
  refine ⟨h1, hd, fun x hx => ?_⟩
  obtain ⟨i, hi, rfl⟩ := mem_nth hx
  have h3 := hb i (by omega)
  have h4 := out_nth ho (i := i) (by omega)
  have h5 := leastOf_bounds h4.1
  omega
theorem outcome_drives {xs L : List Int} (ho : outB xs = true) (hn : 0 < xs.length) (h : L ∈ lex (leasts xs) xs) : driveCars L (L.length : Int) = (xs, true) := by
  obtain ⟨h1, h2, h3⟩ := outcome_list ho h
  have h8 := out_le ho
  have hg : good L (L.length : Int) = true := good_iff.2 ⟨by omega, by omega, fun x hx => by have := h3 x hx; omega⟩
  have ha : allPark (L.length : Int) L = true := allPark_iff.2 (by
    rw [h1, h2]
    intro hm
    obtain ⟨i, hi, e⟩ := mem_nth hm
    have := out_nth ho hi
    omega)
  unfold driveCars
  rw [if_pos (by rw [hg, ha]; rfl), h1, h2]

theorem leasts_le {xs : List Int} (ho : outB xs = true) : ∀ i, i < (leasts xs).length → nth (leasts xs) i ≤ nth xs i := fun i hi => by
  rw [length_leasts] at hi
  rw [nth_leasts hi]
  exact (leastOf_bounds (out_nth ho hi).1).2
theorem outcomes_last {xs : List Int} (ho : outB xs = true) : ∃ M, lex (leasts xs) xs = M ++ [xs] := lex_last _ _ (length_leasts xs) (leasts_le ho)
theorem outcomes_count {xs : List Int} (ho : outB xs = true) : (((lex (leasts xs) xs).length : Nat) : Int) = prodTo xs xs.length := by
  have := length_lex xs ho xs.length (Nat.le_refl _)
  simpa [prodTo] using this

theorem lexLess_at : ∀ (k : Nat) (xs ys : List Int), k < xs.length → xs.length = ys.length → (∀ i, i < k → nth xs i = nth ys i) → nth xs k ≠ nth ys k → lexLess xs ys = decide (nth xs k < nth ys k)
  | 0, x :: xs, y :: ys, _, _, _, h => by
    simp only [nth_cons_zero] at h ⊢
    simp [lexLess, h]
  | k + 1, x :: xs, y :: ys, hk, hl, hh, h => by
    have h0 := hh 0 (by omega)
    simp only [nth_cons_zero, nth_cons_succ] at h h0 ⊢
    simp only [lexLess, if_pos h0]
    exact lexLess_at k xs ys (by simpa using hk) (by simpa using hl) (fun i hi => by have := hh (i + 1) (by omega); simpa only [nth_cons_succ] using this) h
  | _, [], _, hk, _, _, _ => by simp at hk
  | _, _ :: _, [], _, hl, _, _ => by simp at hl
theorem lexLess_same : ∀ (xs : List Int), lexLess xs xs = false
  | [] => rfl
  | x :: xs => by simp [lexLess, lexLess_same xs]
end Go.Proofs.YtakadjhbomggbaaGreat
