/- Mathematics of chapter 5: cars that look back, defects, places that are needed. -/
import Derived.Test.YtnddplldkgphnacMathS
namespace Go.Proofs.Ytnddplldkgphnac
open Go.RowKit

theorem place_run {p : Int} {out : List Int} : ∀ (f : Nat) (x : Int), x ≤ p → p - x ≤ f → ∃ y, Runs out p x y ∧ ¬ (y < p ∧ y ∈ out) ∧ y ≤ p ∧ place p out x = if p ≤ y then -1 else y := by
  have key : ∀ (f : Nat) (x : Int), x ≤ p → p - x ≤ f → ∃ y, Runs out p x y ∧ ¬ (y < p ∧ y ∈ out) ∧ y ≤ p := by
    intro f
    induction f with
    | zero => intro x h1 h2; exact ⟨x, Runs.refl _ _ _, by omega, h1⟩
    | succ f ih =>
      intro x h1 h2
      by_cases hx : x < p ∧ x ∈ out
      · obtain ⟨y, r, h3, h4⟩ := ih (x + 1) (by omega) (by omega)
        refine ⟨y, ⟨by have := r.1; omega, fun z z1 z2 => ?_⟩, h3, h4⟩
        by_cases e : z = x
        · subst e; exact hx
        · exact r.2 z (by omega) z2
      · exact ⟨x, Runs.refl _ _ _, hx, h1⟩
  intro f x h1 h2
  obtain ⟨y, r, h3, h4⟩ := key f x h1 h2
  exact ⟨y, r, h3, h4, place_of r h3 h4⟩

theorem place_ex {p : Int} {out : List Int} {x : Int} (h : x ≤ p) : ∃ y, Runs out p x y ∧ ¬ (y < p ∧ y ∈ out) ∧ y ≤ p ∧ place p out x = if p ≤ y then -1 else y :=
  place_run (p - x).toNat x h (by omega)

/-! ### Looking back -/
/-- The first free place from x on backwards, of so many; -1 if there is none. -/
def lookBack (out : List Int) : Nat → Int → Int
  | 0, _ => -1
  | f + 1, x => if x < 0 then -1 else if hasB out x then lookBack out f (x - 1) else x

theorem lookBack_bounds (out : List Int) : ∀ (f : Nat) (x : Int), -1 ≤ lookBack out f x ∧ (lookBack out f x ≤ x ∨ lookBack out f x = -1)
  | 0, x => by simp [lookBack]
  | f + 1, x => by
    have ih := lookBack_bounds out f (x - 1)
    unfold lookBack
    split
    · simp
    · split
      · omega
      · omega
theorem lookBack_neg {out : List Int} {f : Nat} {x : Int} (h : x < 0) : lookBack out f x = -1 := by
  cases f with
  | zero => rfl
  | succ f => simp [lookBack, h]
theorem lookBack_zero {out : List Int} {x : Int} : lookBack out 0 x = -1 := rfl
theorem lookBack_step {out : List Int} {f : Nat} {x : Int} (h : 0 ≤ x) (hm : hasB out x = true) : lookBack out (f + 1) x = lookBack out f (x - 1) := by
  rw [lookBack, if_neg (by omega), if_pos hm]
theorem lookBack_hit {out : List Int} {f : Nat} {x : Int} (h : 0 ≤ x) (hm : ¬ hasB out x = true) : lookBack out (f + 1) x = x := by
  rw [lookBack, if_neg (by omega), if_neg hm]

/-- Where a car goes that looks back m places. -/
def backPlace (p : Int) (m : Nat) (out : List Int) (x : Int) : Int := if lookBack out (m + 1) x < 0 then place p out x else lookBack out (m + 1) x
theorem backPlace_neg {p : Int} {m : Nat} {out : List Int} {x : Int} (h : lookBack out (m + 1) x = -1) : backPlace p m out x = place p out x := by
  unfold backPlace; rw [if_pos (by omega)]
theorem backPlace_pos {p : Int} {m : Nat} {out : List Int} {x : Int} (h : 0 ≤ lookBack out (m + 1) x) : backPlace p m out x = lookBack out (m + 1) x := by
  unfold backPlace; rw [if_neg (by omega)]
def backs (p : Int) (m : Nat) (xs : List Int) : List Int := xs.foldl (fun out x => out ++ [backPlace p m out x]) []
theorem backs_nil (p : Int) (m : Nat) : backs p m [] = [] := rfl
theorem backs_snoc (p : Int) (m : Nat) (xs : List Int) (x : Int) : backs p m (xs ++ [x]) = backs p m xs ++ [backPlace p m (backs p m xs) x] := by simp [backs]
theorem backs_succ {p : Int} {m : Nat} {xs : List Int} {k : Nat} (h : k < xs.length) : backs p m (xs.take (k + 1)) = backs p m (xs.take k) ++ [backPlace p m (backs p m (xs.take k)) (nth xs k)] := by
  rw [take_succ_nth h, backs_snoc]
theorem length_backs (p : Int) (m : Nat) (xs : List Int) : (backs p m xs).length = xs.length := by
  have : ∀ (ys out : List Int), (ys.foldl (fun out x => out ++ [backPlace p m out x]) out).length = out.length + ys.length := by
    intro ys
    induction ys with
    | nil => intro out; rfl
    | cons y ys ih => intro out; simp only [List.foldl_cons]; rw [ih]; simp; omega
  simp [backs, this]
theorem backPlace_bounds {p : Int} {m : Nat} {out : List Int} {x : Int} (h0 : 0 ≤ x) (h1 : x < p) : -1 ≤ backPlace p m out x ∧ (backPlace p m out x < p) := by
  have h2 := lookBack_bounds out (m + 1) x
  have h3 := place_bounds (p := p) (out := out) h0
  unfold backPlace
  split <;> omega
theorem backs_zero_place {p : Int} {out : List Int} {x : Int} (h0 : 0 ≤ x) (h1 : x < p) : backPlace p 0 out x = place p out x := by
  unfold backPlace
  by_cases hm : hasB out x = true
  · rw [lookBack_step h0 hm, lookBack_zero, if_pos (by omega)]
  · rw [lookBack_hit h0 hm, if_neg (by omega)]
    have := place_of (p := p) (Runs.refl out p x) (fun e => hm (hasB_iff.2 e.2)) (by omega)
    rw [this, if_neg (by omega)]

def backB (xs : List Int) (p k : Int) : Bool := good xs p && inB k 0 8
def driveBackOf (xs : List Int) (p k : Int) : List Int × Bool := if backB xs p k && !hasB (backs p k.toNat xs) (-1) then (backs p k.toNat xs, true) else ([], false)
def doBackOf (xs : List Int) (p k : Int) : Bool × Bool := if backB xs p k then (!hasB (backs p k.toNat xs) (-1), true) else (false, false)
/-- The least number of places from k on, of so many. -/
def leastFrom (xs : List Int) (p : Int) : Nat → Nat → Int × Bool
  | 0, _ => (0, false)
  | f + 1, k => if hasB (backs p k xs) (-1) then leastFrom xs p f (k + 1) else ((k : Int), true)
def leastBackOf (xs : List Int) (p : Int) : Int × Bool := if good xs p then leastFrom xs p 9 0 else (0, false)

/-! ### Cars that fail -/
def driveSomeOf (xs : List Int) (p : Int) : List Int × Bool := if good xs p then (drive p xs, true) else ([], false)
/-- How many stand on no place. -/
def fails (ys : List Int) : Nat := ys.countP fun y => decide (y < 0)
theorem fails_le (ys : List Int) : fails ys ≤ ys.length := List.countP_le_length
theorem fails_succ {ys : List Int} {k : Nat} (h : k < ys.length) : fails (ys.take (k + 1)) = fails (ys.take k) + if nth ys k < 0 then 1 else 0 := by
  unfold fails
  rw [take_succ_nth h, List.countP_append]
  simp
/-- The surplus of favourites from a place on. -/
def surplus (xs : List Int) (p j : Int) : Int := (xs.length : Int) - below xs j - (p - j)
/-- The greatest surplus from the places less than j on, or 0. -/
def defTo (xs : List Int) (p : Int) : Nat → Int
  | 0 => 0
  | j + 1 => max (defTo xs p j) (surplus xs p j)

/-- How many stand on a place less than j. -/
def stood (ys : List Int) (j : Int) : Nat := ys.countP fun y => decide (0 ≤ y) && decide (y < j)

theorem place_new {p : Int} {out : List Int} {x : Int} (h1 : x ≤ p) : place p out x = -1 ∨ (place p out x ∉ out ∧ x ≤ place p out x ∧ place p out x < p) := by
  obtain ⟨y, r, h3, h4, h5⟩ := place_ex (out := out) h1
  have h6 := r.1
  rw [h5]
  split
  · exact .inl rfl
  · exact .inr ⟨fun e => h3 ⟨by omega, e⟩, h6, by omega⟩

/-- No place is taken twice. -/
theorem drive_once {p : Int} {xs : List Int} (hb : ∀ x ∈ xs, 0 ≤ x ∧ x ≤ p - 1) (j : Int) (hj : 0 ≤ j) : ∀ k, k ≤ xs.length → (drive p (xs.take k)).countP (fun y => decide (y = j)) = if hasB (drive p (xs.take k)) j then 1 else 0 := by
  intro k
  induction k with
  | zero => intro _; simp [drive, hasB]
  | succ k ih =>
    intro hk
    have ih := ih (by omega)
    obtain ⟨h0, h1⟩ := hb _ (nth_mem (xs := xs) (i := k) (by omega))
    rw [drive_succ (by omega), List.countP_append, ih]
    generalize drive p (xs.take k) = out at *
    have hn := place_new (p := p) (out := out) (x := nth xs k) (by omega)
    generalize place p out (nth xs k) = y at *
    by_cases e : y = j
    · subst e
      have : y ∉ out := by rcases hn with h | h; omega; exact h.1
      simp [this, hasB]
    · have e' : ¬ j = y := fun h => e h.symm
      simp [hasB, e, e']

theorem stood_succ (ys : List Int) (j : Int) (hj : 0 ≤ j) : stood ys (j + 1) = stood ys j + ys.countP (fun y => decide (y = j)) := by
  induction ys with
  | nil => rfl
  | cons y ys ih =>
    unfold stood at *
    simp only [List.countP_cons, ih, Bool.and_eq_true, decide_eq_true_eq]
    by_cases e : y = j
    · subst e
      rw [if_pos ⟨hj, by omega⟩, if_neg (by omega), if_pos rfl]
      omega
    · simp only [if_neg e]
      by_cases e2 : 0 ≤ y ∧ y < j
      · rw [if_pos ⟨e2.1, by omega⟩, if_pos e2]; omega
      · rw [if_neg (by omega), if_neg e2]; omega

/-- Fewer than the favourites below j + 1 stand below j: just then j is taken. -/
theorem taken_iff {p : Int} {xs : List Int} (hb : ∀ x ∈ xs, 0 ≤ x ∧ x ≤ p - 1) (j : Int) (hj : 0 ≤ j) (hp : j < p) : ∀ k, k ≤ xs.length →
    (stood (drive p (xs.take k)) j ≤ below (xs.take k) j) ∧ (hasB (drive p (xs.take k)) j = true ↔ stood (drive p (xs.take k)) j < below (xs.take k) (j + 1)) := by
  intro k
  induction k with
  | zero => intro _; simp [drive, hasB, stood, below]
  | succ k ih =>
    intro hk
    have ih := ih (by omega)
    obtain ⟨h0, h1⟩ := hb _ (nth_mem (xs := xs) (i := k) (by omega))
    rw [drive_succ (by omega), below_succ (by omega), below_succ (by omega)]
    obtain ⟨y, r, h3, h4, h5⟩ := place_ex (p := p) (out := drive p (xs.take k)) (x := nth xs k) (by omega)
    rw [h5]
    have hmono : below (xs.take k) j ≤ below (xs.take k) (j + 1) := by
      unfold below
      exact List.countP_mono_left fun x _ hx => by simp at *; omega
    generalize drive p (xs.take k) = out at *
    have hs : ∀ z : Int, stood (out ++ [z]) j = stood out j + if 0 ≤ z ∧ z < j then 1 else 0 := by
      intro z
      unfold stood
      rw [List.countP_append]
      simp [List.countP_cons]
    rw [hs]
    have hh : ∀ z : Int, hasB (out ++ [z]) j = (hasB out j || decide (z = j)) := by
      intro z
      by_cases e : z = j
      · subst e; simp [hasB]
      · have e' : ¬ j = z := fun h => e h.symm
        simp [hasB, e, e']
    rw [hh]
    have hr := r.1
    by_cases hy : p ≤ y
    · rw [if_pos hy]
      have hj2 : nth xs k ≤ j → hasB out j = true := fun h => hasB_iff.2 (r.2 j h (by omega)).2
      have e1 : ¬ ((0 : Int) ≤ -1 ∧ (-1 : Int) < j) := by omega
      have e2 : ¬ (-1 : Int) = j := by omega
      simp only [if_neg e1, e2, decide_false, Bool.or_false]
      by_cases hx : nth xs k < j + 1
      · have := hj2 (by omega)
        rw [if_pos hx]
        refine ⟨by split <;> omega, ⟨fun _ => ?_, fun _ => this⟩⟩
        have := ih.2.1 this
        omega
      · rw [if_neg hx, if_neg (by omega)]
        exact ⟨by omega, ih.2⟩
    · rw [if_neg hy]
      by_cases hyj : y < j
      · rw [if_pos ⟨by omega, hyj⟩, if_pos (show nth xs k < j by omega), if_pos (show nth xs k < j + 1 by omega), show decide (y = j) = false from by simp; omega, Bool.or_false]
        refine ⟨by omega, ih.2.trans ⟨fun h => by omega, fun h => by omega⟩⟩
      · rw [if_neg (show ¬ (0 ≤ y ∧ y < j) by omega)]
        by_cases e : y = j
        · subst e
          have : hasB out y = false := hasB_not.2 fun e => h3 ⟨by omega, e⟩
          have h6 : ¬ stood out y < below (xs.take k) (y + 1) := fun h => by have := ih.2.2 h; simp_all
          simp only [decide_true, Bool.or_true, true_iff]
          rw [if_pos (show nth xs k < y + 1 by omega)]
          refine ⟨by split <;> omega, by omega⟩
        · rw [show decide (y = j) = false from by simp; omega, Bool.or_false]
          have hj2 : nth xs k ≤ j → hasB out j = true := fun h => hasB_iff.2 (r.2 j h (by omega)).2
          by_cases hx : nth xs k < j + 1
          · have h7 := hj2 (by omega)
            rw [if_pos hx]
            refine ⟨by split <;> omega, ⟨fun _ => ?_, fun _ => h7⟩⟩
            have := ih.2.1 h7
            omega
          · rw [if_neg hx, if_neg (by omega)]
            exact ⟨by omega, ih.2⟩

/-- How many of the favourites below a place do not stand below it. -/
theorem over_step {p : Int} {xs : List Int} (hb : ∀ x ∈ xs, 0 ≤ x ∧ x ≤ p - 1) (j : Int) (hj : 0 ≤ j) (hp : j < p) :
    (stood (drive p xs) (j + 1) = if stood (drive p xs) j < below xs (j + 1) then stood (drive p xs) j + 1 else stood (drive p xs) j) ∧ stood (drive p xs) j ≤ below xs j ∧ below xs j ≤ below xs (j + 1) := by
  have h1 := taken_iff hb j hj hp xs.length (Nat.le_refl _)
  have h2 := drive_once hb j hj xs.length (Nat.le_refl _)
  rw [List.take_of_length_le (Nat.le_refl _)] at h1 h2
  have hmono : below xs j ≤ below xs (j + 1) := by
    unfold below
    exact List.countP_mono_left fun x _ hx => by simp at *; omega
  refine ⟨?_, h1.1, hmono⟩
  rw [stood_succ _ _ hj, h2]
  by_cases e : hasB (drive p xs) j = true
  · rw [if_pos e, if_pos (h1.2.1 e)]
  · rw [if_neg e, if_neg fun h => e (h1.2.2 h)]; rfl

theorem over_max {p : Int} {xs : List Int} (hb : ∀ x ∈ xs, 0 ≤ x ∧ x ≤ p - 1) : ∀ q : Nat, (q : Int) ≤ p →
    (∀ j : Nat, j ≤ q → (below xs q : Int) - below xs j - ((q : Int) - j) ≤ (below xs q : Int) - stood (drive p xs) q) ∧ (∃ j : Nat, j ≤ q ∧ (below xs q : Int) - below xs j - ((q : Int) - j) = (below xs q : Int) - stood (drive p xs) q) ∧ (stood (drive p xs) q : Int) ≤ below xs q := by
  intro q
  induction q with
  | zero =>
    intro _
    have h0 : stood (drive p xs) 0 = 0 := by
      unfold stood
      rw [List.countP_eq_zero]
      intro y _
      simp
    have h1 : below xs 0 = 0 := by
      unfold below
      rw [List.countP_eq_zero]
      intro y hy
      have := hb y hy
      simp
      omega
    simp only [Int.natCast_zero] at *
    refine ⟨fun j hj => ?_, ⟨0, Nat.le_refl _, ?_⟩, ?_⟩
    · obtain rfl : j = 0 := by omega
      simp [h0, h1]
    · simp [h0, h1]
    · rw [h0, h1]; simp
  | succ q ih =>
    intro hq
    obtain ⟨i1, ⟨j, i2, i3⟩, i4⟩ := ih (by omega)
    obtain ⟨s1, s2, s3⟩ := over_step hb (q : Int) (by omega) (by omega)
    have e : ((q + 1 : Nat) : Int) = (q : Int) + 1 := by omega
    rw [e]
    refine ⟨fun k hk => ?_, ?_, ?_⟩
    · by_cases hk2 : k ≤ q
      · have := i1 k hk2
        rw [s1]
        split <;> omega
      · obtain rfl : k = q + 1 := by omega
        rw [e, s1]
        split <;> omega
    · by_cases hlt : stood (drive p xs) q < below xs ((q : Int) + 1)
      · refine ⟨j, by omega, ?_⟩
        rw [s1, if_pos hlt]
        omega
      · refine ⟨q + 1, Nat.le_refl _, ?_⟩
        rw [e, s1, if_neg hlt]
        omega
    · rw [s1]
      split <;> omega

theorem defTo_max (xs : List Int) (p : Int) : ∀ q : Nat, 0 ≤ defTo xs p q ∧ (∀ j, j < q → surplus xs p j ≤ defTo xs p q) ∧ (defTo xs p q = 0 ∨ ∃ j, j < q ∧ defTo xs p q = surplus xs p j)
  | 0 => ⟨by simp [defTo], fun j hj => by omega, .inl rfl⟩
  | q + 1 => by
    obtain ⟨h1, h2, h3⟩ := defTo_max xs p q
    refine ⟨by rw [defTo]; omega, fun j hj => ?_, ?_⟩
    · rw [defTo]
      by_cases e : j < q
      · have := h2 j e; omega
      · obtain rfl : j = q := by omega
        omega
    · rw [defTo]
      by_cases e : surplus xs p q ≤ defTo xs p q
      · rw [Int.max_eq_left e]
        rcases h3 with h | ⟨j, h, h'⟩
        · exact .inl h
        · exact .inr ⟨j, by omega, h'⟩
      · rw [Int.max_eq_right (by omega)]
        exact .inr ⟨q, by omega, rfl⟩

theorem stood_fails {ys : List Int} {p : Int} (h : ∀ y ∈ ys, y < p) : stood ys p + fails ys = ys.length := by
  induction ys with
  | nil => rfl
  | cons y ys ih =>
    have ih := ih fun z hz => h z (List.mem_cons_of_mem _ hz)
    have := h y List.mem_cons_self
    unfold stood fails at *
    simp only [List.countP_cons, List.length_cons, Bool.and_eq_true, decide_eq_true_eq]
    split <;> split <;> omega

theorem drive_lt {p : Int} (hp : 0 ≤ p) {xs : List Int} (hb : ∀ x ∈ xs, 0 ≤ x ∧ x ≤ p - 1) : ∀ k, k ≤ xs.length → ∀ y ∈ drive p (xs.take k), -1 ≤ y ∧ y < p := by
  intro k
  induction k with
  | zero => intro _ y hy; simp [drive] at hy
  | succ k ih =>
    intro hk y hy
    rw [drive_succ (by omega), List.mem_append, List.mem_singleton] at hy
    rcases hy with hy | rfl
    · exact ih (by omega) y hy
    · obtain ⟨h0, h1⟩ := hb _ (nth_mem (xs := xs) (i := k) (by omega))
      have := place_bounds (p := p) (out := drive p (xs.take k)) h0
      omega

/-- The cars that fail are as many as the greatest surplus. -/
theorem fails_defect {p : Nat} {xs : List Int} (hp : 1 ≤ p) (hb : ∀ x ∈ xs, 0 ≤ x ∧ x ≤ (p : Int) - 1) : (fails (drive p xs) : Int) = defTo xs p p := by
  obtain ⟨h1, ⟨j, h2, h3⟩, h4⟩ := over_max hb p (Int.le_refl _)
  have hall : below xs p = xs.length := by
    unfold below
    rw [List.countP_eq_length]
    intro x hx
    have := hb x hx
    simp
    omega
  have hs := stood_fails (ys := drive p xs) (p := p) (fun y hy => by
    have := drive_lt (p := (p : Int)) (by omega) hb xs.length (Nat.le_refl _) y (by rw [List.take_of_length_le (Nat.le_refl _)]; exact hy)
    omega)
  rw [length_drive] at hs
  obtain ⟨d1, d2, d3⟩ := defTo_max xs p p
  have hall2 := hall
  rw [hall] at h1 h3 h4
  have e1 : ∀ j : Nat, surplus xs p j = (xs.length : Int) - below xs j - ((p : Int) - j) := fun j => rfl
  have hle : defTo xs p p ≤ fails (drive p xs) := by
    rcases d3 with h | ⟨k, hk, h⟩
    · omega
    · have := h1 k (by omega)
      rw [h, e1]
      omega
  have hge : (fails (drive p xs) : Int) ≤ defTo xs p p := by
    by_cases e : j < p
    · have := d2 j e
      rw [e1] at this
      omega
    · obtain rfl : j = p := by omega
      rw [hall] at h3
      omega
  omega

def defectOf (xs : List Int) (p : Int) : Int × Bool := if good xs p then ((fails (drive p xs) : Int), true) else (0, false)

/-! ### Places that are needed -/
theorem drive_other {p q : Int} {xs : List Int} (hb : ∀ x ∈ xs, 0 ≤ x ∧ x ≤ q - 1) : ∀ k, k ≤ xs.length → (∀ y ∈ drive q (xs.take k), 0 ≤ y ∧ y < p) → drive p (xs.take k) = drive q (xs.take k) := by
  intro k
  induction k with
  | zero => intro _ _; rfl
  | succ k ih =>
    intro hk hy
    obtain ⟨h0, h1⟩ := hb _ (nth_mem (xs := xs) (i := k) (by omega))
    rw [drive_succ (by omega)] at hy
    have ih := ih (by omega) fun y h => hy y (List.mem_append_left _ h)
    have hz := hy _ (List.mem_append_right _ List.mem_cons_self)
    rw [drive_succ (by omega), drive_succ (by omega), ih]
    generalize drive q (xs.take k) = out at *
    obtain ⟨y, r, h3, h4, h5⟩ := place_ex (p := q) (out := out) (x := nth xs k) (by omega)
    rw [h5] at hz ⊢
    have hyq : ¬ q ≤ y := fun e => by rw [if_pos e] at hz; omega
    rw [if_neg hyq] at hz ⊢
    rw [place_of (p := p) (y := y) ⟨r.1, fun z h6 h7 => ⟨by omega, (r.2 z h6 h7).2⟩⟩ (fun e => h3 ⟨by omega, e.2⟩) (by omega), if_neg (by omega)]

theorem drive_same {p q : Int} (hpq : p ≤ q) {xs : List Int} (hb : ∀ x ∈ xs, 0 ≤ x ∧ x ≤ p - 1) : ∀ k, k ≤ xs.length → (-1 : Int) ∉ drive p (xs.take k) → drive q (xs.take k) = drive p (xs.take k) := by
  intro k
  induction k with
  | zero => intro _ _; rfl
  | succ k ih =>
    intro hk hy
    obtain ⟨h0, h1⟩ := hb _ (nth_mem (xs := xs) (i := k) (by omega))
    rw [drive_succ (by omega)] at hy
    have ih := ih (by omega) fun h => hy (List.mem_append_left _ h)
    have hz : place p (drive p (xs.take k)) (nth xs k) ≠ -1 := fun e => hy (List.mem_append_right _ (by rw [e]; exact List.mem_cons_self))
    rw [drive_succ (by omega), drive_succ (by omega), ih]
    generalize drive p (xs.take k) = out at *
    obtain ⟨y, r, h3, h4, h5⟩ := place_ex (p := p) (out := out) (x := nth xs k) (by omega)
    rw [h5] at hz ⊢
    have hyq : ¬ p ≤ y := fun e => by rw [if_pos e] at hz; exact hz rfl
    rw [if_neg hyq]
    rw [place_of (p := q) (y := y) ⟨r.1, fun z h6 h7 => ⟨by omega, (r.2 z h6 h7).2⟩⟩ (fun e => h3 ⟨by omega, e.2⟩) (by omega), if_neg (by omega)]

/-- The greatest place and one more, at least 1. -/
def needTo (ys : List Int) : Int := ys.foldl (fun m y => max m (y + 1)) 1
theorem needTo_snoc (ys : List Int) (y : Int) : needTo (ys ++ [y]) = max (needTo ys) (y + 1) := by simp [needTo]
theorem needTo_succ {ys : List Int} {k : Nat} (h : k < ys.length) : needTo (ys.take (k + 1)) = max (needTo (ys.take k)) (nth ys k + 1) := by rw [take_succ_nth h, needTo_snoc]
theorem needTo_max : ∀ (ys : List Int), 1 ≤ needTo ys ∧ (∀ y ∈ ys, y < needTo ys) ∧ (needTo ys = 1 ∨ ∃ y ∈ ys, needTo ys = y + 1) := by
  intro ys
  have key : ∀ k, k ≤ ys.length → 1 ≤ needTo (ys.take k) ∧ (∀ y ∈ ys.take k, y < needTo (ys.take k)) ∧ (needTo (ys.take k) = 1 ∨ ∃ y ∈ ys.take k, needTo (ys.take k) = y + 1) := by
    intro k
    induction k with
    | zero => intro _; simp [needTo]
    | succ k ih =>
      intro hk
      obtain ⟨h1, h2, h3⟩ := ih (by omega)
      rw [needTo_succ (by omega), take_succ_nth (by omega)]
      refine ⟨by omega, fun y hy => ?_, ?_⟩
      · rw [List.mem_append, List.mem_singleton] at hy
        rcases hy with hy | rfl
        · have := h2 y hy; omega
        · omega
      · by_cases e : nth ys k + 1 ≤ needTo (ys.take k)
        · rw [Int.max_eq_left e]
          rcases h3 with h | ⟨y, hy, h⟩
          · exact .inl h
          · exact .inr ⟨y, List.mem_append_left _ hy, h⟩
        · rw [Int.max_eq_right (by omega)]
          exact .inr ⟨_, List.mem_append_right _ List.mem_cons_self, rfl⟩
  have := key ys.length (Nat.le_refl _)
  rwa [List.take_of_length_le (Nat.le_refl _)] at this

def neededOf (xs : List Int) : Int × Bool := if good xs 12 && allPark 12 xs then (needTo (drive 12 xs), true) else (0, false)
/-- Does a street of so many places serve? -/
def serves (xs : List Int) (p : Int) : Bool := allB xs 0 (p - 1) && allPark p xs

theorem serves_iff {xs : List Int} (hb : ∀ x ∈ xs, 0 ≤ x ∧ x ≤ 11) {p : Int} (h1 : 1 ≤ p) (h2 : p ≤ 12) : serves xs p = true ↔ allPark 12 xs = true ∧ needTo (drive 12 xs) ≤ p := by
  obtain ⟨n1, n2, n3⟩ := needTo_max (drive 12 xs)
  unfold serves
  rw [Bool.and_eq_true, allB_iff, allPark_iff, allPark_iff]
  constructor
  · rintro ⟨h3, h4⟩
    have := drive_same (q := 12) h2 h3 xs.length (Nat.le_refl _) (by rw [List.take_of_length_le (Nat.le_refl _)]; exact h4)
    rw [List.take_of_length_le (Nat.le_refl _)] at this
    refine ⟨by rw [this]; exact h4, ?_⟩
    rcases n3 with h | ⟨y, hy, h⟩
    · omega
    · rw [this] at hy
      have := drive_lt (p := p) (by omega) h3 xs.length (Nat.le_refl _) y (by rw [List.take_of_length_le (Nat.le_refl _)]; exact hy)
      omega
  · rintro ⟨h3, h4⟩
    have hy : ∀ y ∈ drive 12 xs, 0 ≤ y ∧ y < p := by
      intro y hy
      have h5 := n2 y hy
      have h6 := drive_lt (p := 12) (by omega) (by simpa using hb) xs.length (Nat.le_refl _) y (by rw [List.take_of_length_le (Nat.le_refl _)]; exact hy)
      have h7 : y ≠ -1 := fun e => h3 (e ▸ hy)
      omega
    have := drive_other (p := p) (q := 12) (by simpa using hb) xs.length (Nat.le_refl _) (by rw [List.take_of_length_le (Nat.le_refl _)]; exact hy)
    rw [List.take_of_length_le (Nat.le_refl _)] at this
    refine ⟨fun x hx => ?_, by rw [this]; exact h3⟩
    obtain ⟨k, hk, rfl⟩ : ∃ k, k < xs.length ∧ nth xs k = x := by
      obtain ⟨k, hk, e⟩ := List.getElem_of_mem hx
      exact ⟨k, hk, by simp [nth, hk, e]⟩
    have h8 := hb _ hx
    have h9 := drive_get (p := 12) hk
    have h10 := hy (nth (drive 12 xs) k) (nth_mem (by rw [length_drive]; exact hk))
    have h11 := place_bounds (p := 12) (out := drive 12 (xs.take k)) h8.1
    rw [h9] at h10
    omega
end Go.Proofs.Ytnddplldkgphnac
