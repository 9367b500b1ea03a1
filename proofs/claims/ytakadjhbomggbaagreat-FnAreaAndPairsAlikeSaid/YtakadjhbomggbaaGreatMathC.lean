/- Circles: cars that go round, the place that stays free, turned favourites. -/
import Derived.Test.YtakadjhbomggbaaGreatMathUp
import Derived.Test.YtakadjhbomggbaaGreatMathP
namespace Go.Proofs.YtakadjhbomggbaaGreat
open Go.RowKit

/-- The first place from x on, going round, that is not taken. -/
def cnext (out : List Int) (p : Int) : Nat → Int → Int
  | 0, x => x
  | f + 1, x => if x ∈ out then cnext out p f ((x + 1) % p) else x
/-- From x on k places are taken, going round. -/
def CRuns (out : List Int) (p x : Int) (k : Nat) : Prop := ∀ i : Nat, i < k → (x + i) % p ∈ out
theorem CRuns.zero (out : List Int) (p x : Int) : CRuns out p x 0 := fun i hi => by omega
theorem CRuns.step {out : List Int} {p x : Int} {k : Nat} (h : CRuns out p x k) (h2 : (x + k) % p ∈ out) : CRuns out p x (k + 1) := fun i hi => by
  rcases Nat.lt_succ_iff_lt_or_eq.1 hi with h3 | rfl
  · exact h i h3
  · exact h2
theorem round_next {p x : Int} {k : Nat} : ((x + k) % p + 1) % p = (x + ((k + 1 : Nat) : Int)) % p := by
  rw [Int.emod_add_emod]
  congr 1
  omega
theorem cnext_of {out : List Int} {p x : Int} {k : Nat} (h : CRuns out p x k) (hn : (x + k) % p ∉ out) : ∀ (f j : Nat), j ≤ k → k - j ≤ f → cnext out p f ((x + j) % p) = (x + k) % p
  | 0, j, hj, hf => by
    obtain rfl : j = k := by omega
    rfl
  | f + 1, j, hj, hf => by
    simp only [cnext]
    by_cases e : j = k
    · subst e
      rw [if_neg hn]
    · rw [if_pos (h j (by omega)), round_next]
      exact cnext_of h hn f (j + 1) (by omega) (by omega)
/-- Where a car comes to stand on the circle. -/
def cplace (p : Int) (out : List Int) (x : Int) : Int := cnext out p p.toNat x
theorem cplace_of {out : List Int} {p x : Int} {k : Nat} (h : CRuns out p x k) (hn : (x + k) % p ∉ out) (hk : k < p) (h0 : 0 ≤ x) (h1 : x < p) : cplace p out x = (x + k) % p := by
  have := cnext_of h hn p.toNat 0 (by omega) (by omega)
  rw [show (x + ((0 : Nat) : Int)) % p = x from by rw [show x + ((0 : Nat) : Int) = x by omega]; exact Int.emod_eq_of_lt h0 h1] at this
  exact this
/-- Fewer cars than places: some place is free. -/
theorem cruns_lt {out : List Int} {p x : Int} {k : Nat} (h : CRuns out p x k) (hl : (out.length : Int) < p) : (k : Int) < p := by
  apply Classical.byContradiction
  intro hn
  have hall : ∀ z, 0 ≤ z → z < p → z ∈ out := by
    intro z hz0 hz1
    have h1 := h ((z - x) % p).toNat (by have := Int.emod_lt_of_pos (z - x) (show 0 < p by omega); have := Int.emod_nonneg (z - x) (show p ≠ 0 by omega); omega)
    have h2 := Int.emod_nonneg (z - x) (show p ≠ 0 by omega)
    rw [show (((z - x) % p).toNat : Int) = (z - x) % p by omega, Int.add_emod_emod, show x + (z - x) = z by omega, Int.emod_eq_of_lt hz0 hz1] at h1
    exact h1
  have h3 := from_all (xs := out) (p := p) p.toNat 0 (by omega) hall
  have h4 := from_le out 0
  omega
/-- The places of cars on a circle. -/
def cdrive (p : Int) (xs : List Int) : List Int := xs.foldl (fun out x => out ++ [cplace p out x]) []
theorem cdrive_succ {p : Int} {xs : List Int} {k : Nat} (h : k < xs.length) : cdrive p (xs.take (k + 1)) = cdrive p (xs.take k) ++ [cplace p (cdrive p (xs.take k)) (nth xs k)] := by
  rw [take_succ_nth h]
  simp [cdrive]
theorem length_cfoldl {p : Int} : ∀ (xs out : List Int), (xs.foldl (fun out x => out ++ [cplace p out x]) out).length = out.length + xs.length
  | [], _ => by simp
  | x :: xs, out => by simp [length_cfoldl xs]; omega
theorem length_cdrive (p : Int) (xs : List Int) : (cdrive p xs).length = xs.length := by simp [cdrive, length_cfoldl]
/-- A free place is found. -/
theorem cplace_spec {out : List Int} {p x : Int} (hl : (out.length : Int) < p) (h0 : 0 ≤ x) (h1 : x < p) : ∃ k : Nat, CRuns out p x k ∧ (x + k) % p ∉ out ∧ (k : Int) < p ∧ cplace p out x = (x + k) % p := by
  have hex : ∀ n : Nat, CRuns out p x n ∨ ∃ k : Nat, k < n ∧ CRuns out p x k ∧ (x + k) % p ∉ out := by
    intro n
    induction n with
    | zero => exact .inl (CRuns.zero _ _ _)
    | succ n ih =>
      rcases ih with h | ⟨k, hk, h2, h3⟩
      · by_cases hm : (x + n) % p ∈ out
        · exact .inl (h.step hm)
        · exact .inr ⟨n, by omega, h, hm⟩
      · exact .inr ⟨k, by omega, h2, h3⟩
  rcases hex p.toNat with h | ⟨k, hk, h2, h3⟩
  · have := cruns_lt h hl
    omega
  · exact ⟨k, h2, h3, by omega, cplace_of h2 h3 (by omega) h0 h1⟩
theorem cdrive_ok {p : Int} {xs : List Int} (hb : ∀ x ∈ xs, 0 ≤ x ∧ x ≤ p - 1) : ∀ k, k ≤ xs.length → (k : Int) ≤ p → (cdrive p (xs.take k)).Nodup ∧ ∀ y ∈ cdrive p (xs.take k), 0 ≤ y ∧ y < p
  | 0, _, _ => by simp [cdrive]
  | k + 1, h, hp => by
    obtain ⟨i1, i2⟩ := cdrive_ok hb k (by omega) (by omega)
    have hx := hb _ (nth_mem (xs := xs) (i := k) (by omega))
    have hl : (cdrive p (xs.take k)).length = k := by rw [length_cdrive]; simp; omega
    obtain ⟨j, h1, h2, h3, h4⟩ := cplace_spec (out := cdrive p (xs.take k)) (p := p) (x := nth xs k) (by omega) hx.1 (by omega)
    rw [cdrive_succ (by omega), h4]
    constructor
    · rw [List.nodup_append]
      refine ⟨i1, by simp, ?_⟩
      intro a ha b hb e
      simp at hb
      subst hb
      subst e
      exact h2 ha
    · intro y hy
      rcases List.mem_append.1 hy with hy | hy
      · exact i2 y hy
      · simp at hy
        subst hy
        exact ⟨Int.emod_nonneg _ (by omega), Int.emod_lt_of_pos _ (by omega)⟩
/-- The first place from x on that is not taken. -/
def freeFrom (t : List Int) : Nat → Int → Int
  | 0, x => x
  | f + 1, x => if x ∈ t then freeFrom t f (x + 1) else x
theorem freeFrom_of {t : List Int} {y : Int} (hn : y ∉ t) : ∀ (f : Nat) (x : Int), (∀ z, x ≤ z → z < y → z ∈ t) → x ≤ y → y - x ≤ f → freeFrom t f x = y
  | 0, x, _, h1, h2 => by simp only [freeFrom]; omega
  | f + 1, x, h, h1, h2 => by
    simp only [freeFrom]
    by_cases e : x = y
    · subst e
      rw [if_neg hn]
    · rw [if_pos (h x (Int.le_refl _) (by omega))]
      exact freeFrom_of hn f (x + 1) (fun z a b => h z (by omega) b) (by omega) (by omega)
def cfree (xs : List Int) : Int := freeFrom (cdrive ((xs.length : Int) + 1) xs) (xs.length + 1) 0
/-- 0, 1, .., n - 1. -/
theorem total_upto : ∀ n : Nat, 2 * total (upto n) = (n : Int) * ((n : Int) - 1)
  | 0 => by simp [upto, total]
  | n + 1 => by
    have ih := total_upto n
    unfold upto at *
    rw [List.range_succ, List.map_append, List.map_cons, List.map_nil, total_snoc, Int.mul_add, ih]
    rw [show ((n + 1 : Nat) : Int) = (n : Int) + 1 by omega, Int.add_mul, Int.mul_sub, Int.mul_sub, Int.mul_add]
    omega
/-- n different places of n + 1: one stays free. -/
theorem one_free {t : List Int} {n : Nat} (hd : t.Nodup) (hl : t.length = n) (hb : ∀ y ∈ t, 0 ≤ y ∧ y < (n : Int) + 1) :
    ∃ m : Int, 0 ≤ m ∧ m ≤ n ∧ m ∉ t ∧ (∀ z : Int, 0 ≤ z → z ≤ n → z ≠ m → z ∈ t) ∧ m + total t = (n + 1 : Int) * n / 2 := by
  have hex : ∃ m : Int, 0 ≤ m ∧ m ≤ n ∧ m ∉ t := by
    apply Classical.byContradiction
    intro hno
    have h3 := from_all (xs := t) (p := (n : Int) + 1) (n + 1) 0 (by omega) (fun z h1 h2 => Classical.byContradiction fun hz => hno ⟨z, h1, by omega, hz⟩)
    have h4 := from_le t 0
    omega
  obtain ⟨m, h1, h2, h3⟩ := hex
  have hall : ∀ z : Int, 0 ≤ z → z ≤ n → z ≠ m → z ∈ t := by
    intro z hz0 hz1 hzm
    apply Classical.byContradiction
    intro hz
    have := nodup_le (n + 1) (z :: m :: t) (by
      rw [List.nodup_cons, List.nodup_cons]
      exact ⟨by simp [hzm, hz], h3, hd⟩) (fun x hx => by
      rcases List.mem_cons.1 hx with rfl | hx
      · omega
      · rcases List.mem_cons.1 hx with rfl | hx
        · omega
        · have := hb x hx; omega)
    simp at this
    omega
  refine ⟨m, h1, h2, h3, hall, ?_⟩
  have hperm : (m :: t).Perm (upto (n + 1)) := by
    have hd1 : (m :: t).Nodup := List.nodup_cons.2 ⟨h3, hd⟩
    have hd2 : (upto (n + 1)).Nodup := by
      unfold upto List.Nodup
      rw [List.pairwise_map]
      exact List.nodup_range.imp fun h e => h (by omega)
    rw [List.perm_ext_iff_of_nodup hd1 hd2]
    intro z
    unfold upto
    rw [List.mem_cons, List.mem_map]
    constructor
    · rintro (rfl | hz)
      · exact ⟨z.toNat, by rw [List.mem_range]; omega, by omega⟩
      · have := hb z hz
        exact ⟨z.toNat, by rw [List.mem_range]; omega, by omega⟩
    · rintro ⟨i, hi, rfl⟩
      rw [List.mem_range] at hi
      by_cases e : (i : Int) = m
      · exact .inl e
      · exact .inr (hall i (by omega) (by omega) e)
  have ht := total_perm hperm
  rw [total_cons] at ht
  have hu := total_upto (n + 1)
  rw [← ht] at hu
  rw [show ((n + 1 : Nat) : Int) = (n : Int) + 1 by omega, show (n : Int) + 1 - 1 = n by omega] at hu
  omega
/-- A circle list. -/
def circB (xs : List Int) : Bool := decide (xs.length ≤ 8) && allB xs 0 xs.length
theorem circ_good {xs : List Int} (h8 : xs.length ≤ 8) : circB xs = good xs ((xs.length : Int) + 1) := by
  have : inB ((xs.length : Int) + 1) 1 12 = true := inB_iff.2 ⟨by omega, by omega⟩
  simp [circB, good, this]
theorem circB_iff {xs : List Int} : circB xs = true ↔ xs.length ≤ 8 ∧ ∀ x ∈ xs, 0 ≤ x ∧ x ≤ (xs.length : Int) := by simp [circB, allB_iff]
theorem circ_bounds {xs : List Int} (h : circB xs = true) : ∀ x ∈ xs, 0 ≤ x ∧ x ≤ (xs.length : Int) + 1 - 1 := fun x hx => by
  have := (circB_iff.1 h).2 x hx
  omega
theorem cfree_spec {xs : List Int} (h : circB xs = true) : 0 ≤ cfree xs ∧ cfree xs ≤ xs.length ∧ cfree xs ∉ cdrive ((xs.length : Int) + 1) xs ∧ (∀ z, 0 ≤ z → z < cfree xs → z ∈ cdrive ((xs.length : Int) + 1) xs) ∧
    cfree xs + total (cdrive ((xs.length : Int) + 1) xs) = ((xs.length : Int) + 1) * xs.length / 2 := by
  have hb := circ_bounds h
  obtain ⟨d1, d2⟩ := cdrive_ok hb xs.length (Nat.le_refl _) (by omega)
  rw [List.take_length] at d1 d2
  obtain ⟨m, m1, m2, m3, m4, m5⟩ := one_free d1 (length_cdrive _ _) d2
  have e : cfree xs = m := freeFrom_of m3 _ 0 (fun z a b => m4 z a (by omega) (by omega)) m1 (by omega)
  rw [e]
  exact ⟨m1, m2, m3, fun z a b => m4 z a (by omega) (by omega), m5⟩
/-- Turned favourites. -/
def turn (xs : List Int) (p b : Int) : List Int := xs.map fun x => (x + b) % p
theorem turn_succ {xs : List Int} {p b : Int} {k : Nat} (h : k < xs.length) : turn (xs.take (k + 1)) p b = turn (xs.take k) p b ++ [(nth xs k + b) % p] := by
  rw [take_succ_nth h]
  simp [turn]
theorem turn_tmod (x b p : Int) (hp : 0 < p) : (((x + b).tmod p) + p).tmod p = (x + b) % p := by
  have h1 := Int.tmod_add_mul_tdiv (x + b) p
  have h2 := Int.lt_tmod_of_pos (x + b) hp
  rw [Int.tmod_eq_emod_of_nonneg (a := (x + b).tmod p + p) (by omega), Int.add_emod_right]
  conv => rhs; rw [← h1]
  rw [Int.add_mul_emod_self_left]
theorem turn_tmod2 (x b p : Int) (hp : 0 < p) (hx : 0 ≤ x) : (x + b.tmod p + p).tmod p = (x + b) % p := by
  have h1 := Int.tmod_add_mul_tdiv b p
  have h2 := Int.lt_tmod_of_pos b hp
  rw [Int.tmod_eq_emod_of_nonneg (a := x + b.tmod p + p) (by omega), Int.add_emod_right]
  conv => rhs; rw [← h1]
  rw [← Int.add_assoc, Int.add_mul_emod_self_left]
/-! ### What the functions come to -/
def circleOf (xs : List Int) (p : Int) : List Int × Bool := if good xs p && decide ((xs.length : Int) ≤ p) then (cdrive p xs, true) else ([], false)
def freeOf (xs : List Int) : Int × Bool := if circB xs then (cfree xs, true) else (0, false)
def turnOf (xs : List Int) (p b : Int) : List Int × Bool := if good xs p && inB b (-1000) 1000 then (turn xs p b, true) else ([], false)
def classOf (xs : List Int) : List Int × Int × Bool := if circB xs then (turn xs ((xs.length : Int) + 1) ((xs.length : Int) - cfree xs), (xs.length : Int) - cfree xs, true) else ([], 0, false)
end Go.Proofs.YtakadjhbomggbaaGreat
