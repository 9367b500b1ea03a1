/- Mathematics of chapter 5: long cars. -/
import Derived.Test.YtnddplldkgphnacMathLo
namespace Go.Proofs.Ytnddplldkgphnac
open Go.RowKit

/-- Are so many places from y on all there and free? -/
def fits (tk : List Int) (p y : Int) : Nat → Bool
  | 0 => true
  | L + 1 => fits tk p y L && (decide (y + (L : Int) < p) && !hasB tk (y + (L : Int)))
/-- So many places from y on. -/
def cover (y : Int) : Nat → List Int
  | 0 => []
  | L + 1 => cover y L ++ [y + (L : Int)]
theorem mem_cover {y z : Int} : ∀ {L : Nat}, z ∈ cover y L ↔ y ≤ z ∧ z < y + L
  | 0 => by simp [cover]; try omega
  | L + 1 => by
    rw [cover, List.mem_append, mem_cover, List.mem_singleton]
    omega
theorem hasB_append (xs ys : List Int) (z : Int) : hasB (xs ++ ys) z = (hasB xs z || hasB ys z) := by simp [hasB]
theorem hasB_cover {T : List Int} {y z : Int} {L : Nat} (h : ¬ (y ≤ z ∧ z < y + L)) : hasB (T ++ cover y L) z = hasB T z := by
  rw [hasB_append, show hasB (cover y L) z = false from hasB_not.2 fun e => h (mem_cover.1 e), Bool.or_false]
theorem hasB_covered {T : List Int} {y z : Int} {L : Nat} (h : y ≤ z ∧ z < y + L) : hasB (T ++ cover y L) z = true := by
  rw [hasB_append, show hasB (cover y L) z = true from hasB_iff.2 (mem_cover.2 h), Bool.or_true]
theorem fits_yes {T : List Int} {p y : Int} {L : Nat} (h : fits T p y L = true) (h1 : y + (L : Int) < p) (h2 : hasB T (y + (L : Int)) = false) : fits T p y (L + 1) = true := by
  simp [fits, h, h1, h2]
theorem fits_no {T : List Int} {p y : Int} {L M : Nat} (h : ¬ (y + (L : Int) < p ∧ hasB T (y + (L : Int)) = false)) (hl : L < M) : fits T p y M = false := by
  induction M with
  | zero => omega
  | succ M ih =>
    by_cases e : L = M
    · subst e
      rw [fits]
      by_cases h1 : y + (L : Int) < p
      · have : hasB T (y + (L : Int)) = true := by
          cases hh : hasB T (y + (L : Int)) with
          | true => rfl
          | false => exact absurd ⟨h1, hh⟩ h
        simp [this]
      · simp [h1]
    · rw [fits, ih (by omega), Bool.false_and]

/-- Behind k cars: their places, all places that are taken, and whether none is blocked (otherwise those ahead of the blocked one). -/
def longAt (p : Int) (xs ls : List Int) : Nat → List Int × List Int × Bool
  | 0 => ([], [], true)
  | k + 1 =>
    if (longAt p xs ls k).2.2 then
      if decide (0 ≤ place p (longAt p xs ls k).2.1 (nth xs k)) && fits (longAt p xs ls k).2.1 p (place p (longAt p xs ls k).2.1 (nth xs k)) (nth ls k).toNat then
        ((longAt p xs ls k).1 ++ [place p (longAt p xs ls k).2.1 (nth xs k)], (longAt p xs ls k).2.1 ++ cover (place p (longAt p xs ls k).2.1 (nth xs k)) (nth ls k).toNat, true)
      else ((longAt p xs ls k).1, (longAt p xs ls k).2.1, false)
    else longAt p xs ls k

theorem longAt_go {p : Int} {xs ls out T : List Int} {k : Nat} {y : Int} (h : longAt p xs ls k = (out, T, true)) (hy : place p T (nth xs k) = y) (h0 : 0 ≤ y) (hf : fits T p y (nth ls k).toNat = true) :
    longAt p xs ls (k + 1) = (out ++ [y], T ++ cover y (nth ls k).toNat, true) := by
  rw [longAt, h]
  simp [hy, h0, hf]
theorem longAt_stop {p : Int} {xs ls out T : List Int} {k : Nat} (h : longAt p xs ls k = (out, T, true)) (hy : ¬ (0 ≤ place p T (nth xs k) ∧ fits T p (place p T (nth xs k)) (nth ls k).toNat = true)) :
    longAt p xs ls (k + 1) = (out, T, false) := by
  rw [longAt, h]
  have : (decide (0 ≤ place p T (nth xs k)) && fits T p (place p T (nth xs k)) (nth ls k).toNat) = false := by
    rw [Bool.eq_false_iff]
    intro e
    simp at e
    exact hy e
  simp only [this, if_true, Bool.false_eq_true, if_false]
theorem longAt_stays {p : Int} {xs ls : List Int} {k : Nat} (h : (longAt p xs ls k).2.2 = false) : longAt p xs ls (k + 1) = longAt p xs ls k := by
  rw [longAt, h]
  simp
theorem longAt_end {p : Int} {xs ls : List Int} {k : Nat} (h : (longAt p xs ls k).2.2 = false) : ∀ m, k ≤ m → longAt p xs ls m = longAt p xs ls k := by
  intro m hm
  induction m with
  | zero => rw [show k = 0 from by omega]
  | succ m ih =>
    by_cases e : k = m + 1
    · rw [e]
    · have := ih (by omega)
      rw [longAt_stays (by rw [this]; exact h), this]
theorem longAt_facts (p : Int) (xs ls : List Int) : ∀ k, (∀ y ∈ (longAt p xs ls k).1, 0 ≤ y) ∧ ((longAt p xs ls k).2.2 = true → (longAt p xs ls k).1.length = k) ∧ ((longAt p xs ls k).2.2 = false → (longAt p xs ls k).1.length < k) := by
  intro k
  induction k with
  | zero => simp [longAt]
  | succ k ih =>
    obtain ⟨h1, h2, h3⟩ := ih
    by_cases hb : (longAt p xs ls k).2.2 = true
    · rw [longAt, if_pos hb]
      split
      · rename_i hc
        simp at hc
        refine ⟨fun y hy => ?_, fun _ => by simp [h2 hb], fun e => by simp at e⟩
        simp at hy
        rcases hy with hy | rfl
        · exact h1 y hy
        · exact hc.1
      · exact ⟨h1, fun e => by simp at e, fun _ => by simp only; rw [h2 hb]; omega⟩
    · have hb' : (longAt p xs ls k).2.2 = false := by simpa using hb
      rw [longAt_stays hb']
      exact ⟨h1, fun e => absurd e hb, fun _ => by have := h3 hb'; omega⟩

/-- Lengths. -/
def lenB (ls : List Int) : Bool := inB ls.length 1 8 && (allB ls 1 12 && decide (total ls ≤ 12))
theorem lenB_iff {ls : List Int} : lenB ls = true ↔ (1 ≤ ls.length ∧ ls.length ≤ 8) ∧ (∀ x ∈ ls, 1 ≤ x ∧ x ≤ 12) ∧ total ls ≤ 12 := by
  have e : ((1 : Int) ≤ (ls.length : Int) ∧ (ls.length : Int) ≤ 8) ↔ (1 ≤ ls.length ∧ ls.length ≤ 8) := by omega
  simp only [lenB, Bool.and_eq_true, inB_iff, allB_iff, decide_eq_true_eq, e]
def taskB (xs ls : List Int) : Bool := lenB ls && (decide (xs.length = ls.length) && allB xs 0 (total ls - 1))
/-- How many cars park. -/
def longN (xs ls : List Int) : List Int := (longAt (total ls) xs ls xs.length).1
def longOk (xs ls : List Int) : Bool := (longAt (total ls) xs ls xs.length).2.2
theorem longN_ok (xs ls : List Int) : (longN xs ls).length = xs.length ↔ longOk xs ls = true := by
  obtain ⟨_, h2, h3⟩ := longAt_facts (total ls) xs ls xs.length
  unfold longN longOk
  cases hb : (longAt (total ls) xs ls xs.length).2.2 with
  | true => simp [h2 hb]
  | false => have := h3 hb; simp; omega
theorem longN_le (xs ls : List Int) : (longN xs ls).length ≤ xs.length := by
  obtain ⟨_, h2, h3⟩ := longAt_facts (total ls) xs ls xs.length
  unfold longN
  cases hb : (longAt (total ls) xs ls xs.length).2.2 with
  | true => rw [h2 hb]; omega
  | false => have := h3 hb; omega
def driveLongOf (xs ls : List Int) : List Int × Bool := if taskB xs ls && longOk xs ls then (longN xs ls, true) else ([], false)
def isLongOf (xs ls : List Int) : Bool × Bool := if taskB xs ls then (longOk xs ls, true) else (false, false)
def blockedOf (xs ls : List Int) : Int × Bool := if taskB xs ls && !longOk xs ls then (((longN xs ls).length : Int), true) else (0, false)

theorem total_lens {ls : List Int} (h : ∀ x ∈ ls, 0 ≤ x) : ∀ k, k ≤ ls.length → 0 ≤ total (ls.take k) ∧ total (ls.take k) ≤ total ls := by
  have h0 : ∀ k, k ≤ ls.length → 0 ≤ total (ls.take k) := by
    intro k
    induction k with
    | zero => intro _; simp [total]
    | succ k ih =>
      intro hk
      rw [total_succ (by omega)]
      have := ih (by omega)
      have := h _ (nth_mem (xs := ls) (i := k) (by omega))
      omega
  have h1 : ∀ j k, k + j = ls.length → total (ls.take k) ≤ total ls := by
    intro j
    induction j with
    | zero => intro k hk; rw [List.take_of_length_le (by omega)]; exact Int.le_refl _
    | succ j ih =>
      intro k hk
      have h2 := ih (k + 1) (by omega)
      rw [total_succ (by omega)] at h2
      have := h _ (nth_mem (xs := ls) (i := k) (by omega))
      omega
  exact fun k hk => ⟨h0 k hk, h1 (ls.length - k) k (by omega)⟩
theorem total_ge {ls : List Int} (h : ∀ x ∈ ls, 1 ≤ x) : ∀ k, k ≤ ls.length → (k : Int) ≤ total (ls.take k) := by
  intro k
  induction k with
  | zero => intro _; simp [total]
  | succ k ih =>
    intro hk
    rw [total_succ (by omega)]
    have := ih (by omega)
    have := h _ (nth_mem (xs := ls) (i := k) (by omega))
    omega

/-! ### The count of long parking functions -/
def prodLong (ls : List Int) : Nat → Int
  | 0 => 1
  | i + 1 => if i = 0 then 1 else prodLong ls i * (total (ls.take i) + ls.length - i + 1)
theorem prodLong_one (ls : List Int) : prodLong ls 1 = 1 := by simp [prodLong]
theorem prodLong_succ (ls : List Int) {i : Nat} (h : 1 ≤ i) : prodLong ls (i + 1) = prodLong ls i * (total (ls.take i) + ls.length - i + 1) := by
  rw [prodLong, if_neg (by omega)]
theorem factor_bounds {ls : List Int} (h : lenB ls = true) {i : Nat} (hi : i ≤ ls.length) : 0 ≤ total (ls.take i) ∧ total (ls.take i) ≤ 12 ∧ 1 ≤ total (ls.take i) + ls.length - i + 1 ∧ total (ls.take i) + ls.length - i + 1 ≤ 21 := by
  obtain ⟨h1, h2, h3⟩ := lenB_iff.1 h
  have := total_lens (fun x hx => by have := h2 x hx; omega) i hi
  omega
theorem prodLong_bounds {ls : List Int} (h : lenB ls = true) : ∀ i, i ≤ ls.length → 1 ≤ prodLong ls i ∧ prodLong ls i ≤ 21 ^ i
  | 0, _ => by simp [prodLong]
  | i + 1, hi => by
    obtain ⟨h1, h2⟩ := prodLong_bounds h i (by omega)
    rw [prodLong]
    split
    · rename_i e; subst e; simp
    · obtain ⟨_, _, f1, f2⟩ := factor_bounds h (i := i) (by omega)
      generalize total (ls.take i) + ls.length - i + 1 = f at *
      constructor
      · have := Int.mul_le_mul h1 f1 (by omega) (by omega)
        omega
      · have := Int.mul_le_mul h2 f2 (by omega) (by exact Int.pow_nonneg (by omega))
        rw [Int.pow_succ]
        exact this
theorem prodLong_le {ls : List Int} (h : lenB ls = true) {i : Nat} (hi : i ≤ ls.length) : 1 ≤ prodLong ls i ∧ prodLong ls i ≤ 37822859361 := by
  obtain ⟨h1, h2⟩ := prodLong_bounds h i hi
  obtain ⟨h3, _⟩ := lenB_iff.1 h
  refine ⟨h1, Int.le_trans h2 ?_⟩
  have : (21 : Nat) ^ i ≤ 21 ^ 8 := Nat.pow_le_pow_right (by omega) (by omega)
  have e : ((21 : Int) ^ i) = (((21 : Nat) ^ i : Nat) : Int) := by simp
  rw [e]
  have : (21 : Nat) ^ 8 = 37822859361 := by decide
  omega
def countLongOf (ls : List Int) : Int × Bool := if lenB ls then (prodLong ls ls.length, true) else (0, false)

/-! ### Stretched lists -/
/-- The lengths of the first k cars that stand on places less than x. -/
def strSum (order ls : List Int) (x : Int) : Nat → Int
  | 0 => 0
  | k + 1 => strSum order ls x k + if nth order k < x then nth ls k else 0
theorem strSum_bounds {order ls : List Int} (h : ∀ x ∈ ls, 0 ≤ x) (x : Int) : ∀ k, k ≤ ls.length → 0 ≤ strSum order ls x k ∧ strSum order ls x k ≤ total (ls.take k)
  | 0, _ => by simp [strSum, total]
  | k + 1, hk => by
    obtain ⟨h1, h2⟩ := strSum_bounds (order := order) h x k (by omega)
    have := h _ (nth_mem (xs := ls) (i := k) (by omega))
    rw [strSum, total_succ (by omega)]
    split <;> omega
def stretch (xs ls : List Int) : List Int := xs.map fun x => strSum (drive xs.length xs) ls x ls.length
theorem length_stretch (xs ls : List Int) : (stretch xs ls).length = xs.length := by simp [stretch]
theorem stretch_take {xs ls : List Int} {k : Nat} (h : k < xs.length) : (stretch xs ls).take (k + 1) = (stretch xs ls).take k ++ [strSum (drive xs.length xs) ls (nth xs k) ls.length] := by
  rw [take_succ_nth (by rw [length_stretch]; exact h)]
  congr 2
  simp [stretch, nth, h]
def stretchOf (xs ls : List Int) : List Int × Bool := if isPark xs && (lenB ls && decide (xs.length = ls.length)) then (stretch xs ls, true) else ([], false)
end Go.Proofs.Ytnddplldkgphnac
