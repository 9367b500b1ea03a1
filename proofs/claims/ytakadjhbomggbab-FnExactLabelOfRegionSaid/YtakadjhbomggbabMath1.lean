/- Chapter 1's plain mathematics: favourites, driving, outcomes that the program and the model compute alike. -/
import Derived.Test.YtakadjhbomggbabBase
namespace Go.Proofs.Ytakadjhbomggbab
open Go.RowKit

/-- A number lies within bounds. -/
def inB (n lo hi : Int) : Bool := decide (lo ≤ n) && decide (n ≤ hi)
theorem inB_iff {n lo hi : Int} : inB n lo hi = true ↔ lo ≤ n ∧ n ≤ hi := by simp [inB]
theorem inB_not {n lo hi : Int} : inB n lo hi = false ↔ n < lo ∨ hi < n := by
  rw [← Bool.not_eq_true, inB_iff]; omega

/-- All numbers lie within bounds. -/
def allB (xs : List Int) (lo hi : Int) : Bool := xs.all fun n => inB n lo hi
theorem allB_no {xs : List Int} {lo hi : Int} {k : Nat} (h : k < xs.length) (hn : inB (nth xs k) lo hi = false) : allB xs lo hi = false := by
  unfold allB
  rw [List.all_eq_false]
  exact ⟨_, nth_mem h, by simp [hn]⟩
theorem allB_succ {xs : List Int} {lo hi : Int} {k : Nat} (h : k < xs.length) (h0 : allB (xs.take k) lo hi = true) (hn : inB (nth xs k) lo hi = true) : allB (xs.take (k + 1)) lo hi = true := by
  unfold allB at *
  rw [take_succ_nth h, List.all_append, h0]
  simp [hn]
theorem allB_iff {xs : List Int} {lo hi : Int} : allB xs lo hi = true ↔ ∀ x ∈ xs, lo ≤ x ∧ x ≤ hi := by
  simp [allB, inB_iff]
theorem allB_nth {xs : List Int} {lo hi : Int} (h : allB xs lo hi = true) {k : Nat} (hk : k < xs.length) : lo ≤ nth xs k ∧ nth xs k ≤ hi := allB_iff.1 h _ (nth_mem hk)

/-- A number occurs in a list. -/
def hasB (xs : List Int) (n : Int) : Bool := decide (n ∈ xs)
theorem hasB_iff {xs : List Int} {n : Int} : hasB xs n = true ↔ n ∈ xs := by simp [hasB]
theorem hasB_not {xs : List Int} {n : Int} : hasB xs n = false ↔ n ∉ xs := by simp [hasB]
theorem hasB_yes {xs : List Int} {n : Int} {k : Nat} (h : k < xs.length) (e : nth xs k = n) : hasB xs n = true := hasB_iff.2 (e ▸ nth_mem h)
theorem hasB_succ {xs : List Int} {n : Int} {k : Nat} (h : k < xs.length) (h0 : hasB (xs.take k) n = false) (hn : nth xs k ≠ n) : hasB (xs.take (k + 1)) n = false := by
  rw [hasB_not] at *
  rw [take_succ_nth h]
  simp only [List.mem_append, List.mem_singleton, not_or]
  exact ⟨h0, fun e => hn e.symm⟩

/-- Favourites for a street. -/
def good (xs : List Int) (p : Int) : Bool := inB p 1 12 && (decide (xs.length ≤ 8) && allB xs 0 (p - 1))
theorem good_iff {xs : List Int} {p : Int} : good xs p = true ↔ (1 ≤ p ∧ p ≤ 12) ∧ xs.length ≤ 8 ∧ ∀ x ∈ xs, 0 ≤ x ∧ x ≤ p - 1 := by
  simp only [good, Bool.and_eq_true, inB_iff, decide_eq_true_eq, allB_iff]

/-- The first place from x on that is not taken, among p places (f: how many may still be looked at). -/
def nextFree (out : List Int) (p : Int) : Nat → Int → Int
  | 0, x => x
  | f + 1, x => if x < p ∧ x ∈ out then nextFree out p f (x + 1) else x

/-- From x on all places up to y are taken. -/
def Runs (out : List Int) (p x y : Int) : Prop := x ≤ y ∧ ∀ z, x ≤ z → z < y → z < p ∧ z ∈ out

theorem Runs.refl (out : List Int) (p x : Int) : Runs out p x x := ⟨Int.le_refl _, fun z h1 h2 => by omega⟩
theorem Runs.step {out : List Int} {p x y : Int} (h : Runs out p x y) (h1 : y < p) (h2 : y ∈ out) : Runs out p x (y + 1) :=
  ⟨by have := h.1; omega, fun z hz1 hz2 => by
    by_cases e : z = y
    · subst e; exact ⟨h1, h2⟩
    · exact h.2 z hz1 (by omega)⟩

theorem nextFree_of {out : List Int} {p : Int} : ∀ (f : Nat) (x y : Int), Runs out p x y → ¬ (y < p ∧ y ∈ out) → y - x ≤ f → nextFree out p f x = y
  | 0, x, y, h, _, hf => by have := h.1; simp only [nextFree]; omega
  | f + 1, x, y, h, hn, hf => by
    by_cases e : x = y
    · subst e
      simp only [nextFree, if_neg hn]
    · have hx := h.2 x (Int.le_refl _) (by have := h.1; omega)
      simp only [nextFree, if_pos hx]
      exact nextFree_of f (x + 1) y ⟨by have := h.1; omega, fun z h1 h2 => h.2 z (by omega) h2⟩ hn (by omega)

/-- Where a car with the favourite x comes to stand, -1 if it fails. -/
def place (p : Int) (out : List Int) (x : Int) : Int := let y := nextFree out p (p - x).toNat x; if p ≤ y then -1 else y

theorem place_of {out : List Int} {p x y : Int} (h : Runs out p x y) (hn : ¬ (y < p ∧ y ∈ out)) (hp : y ≤ p) : place p out x = if p ≤ y then -1 else y := by
  unfold place
  rw [nextFree_of _ x y h hn (by have := h.1; omega)]

/-- The places of cars that come one after the other. -/
def drive (p : Int) (xs : List Int) : List Int := xs.foldl (fun out x => out ++ [place p out x]) []

theorem drive_nil (p : Int) : drive p [] = [] := rfl
theorem drive_snoc (p : Int) (xs : List Int) (x : Int) : drive p (xs ++ [x]) = drive p xs ++ [place p (drive p xs) x] := by simp [drive]
theorem drive_succ {p : Int} {xs : List Int} {k : Nat} (h : k < xs.length) : drive p (xs.take (k + 1)) = drive p (xs.take k) ++ [place p (drive p (xs.take k)) (nth xs k)] := by
  rw [take_succ_nth h, drive_snoc]
theorem length_foldl {p : Int} : ∀ (xs out : List Int), (xs.foldl (fun out x => out ++ [place p out x]) out).length = out.length + xs.length
  | [], _ => by simp
  | x :: xs, out => by simp [length_foldl xs]; omega
theorem length_drive (p : Int) (xs : List Int) : (drive p xs).length = xs.length := by simp [drive, length_foldl]
theorem drive_append_mem {p : Int} : ∀ (ys out : List Int) (z : Int), z ∈ out → z ∈ ys.foldl (fun out x => out ++ [place p out x]) out
  | [], _, _, h => h
  | y :: ys, out, z, h => by simp only [List.foldl_cons]; exact drive_append_mem ys _ z (by simp [h])
theorem drive_take_mem {p : Int} {xs : List Int} (k : Nat) {z : Int} (h : z ∈ drive p (xs.take k)) : z ∈ drive p xs := by
  have e : drive p xs = (xs.drop k).foldl (fun out x => out ++ [place p out x]) (drive p (xs.take k)) := by
    unfold drive
    rw [← List.foldl_append, List.take_append_drop]
  rw [e]
  exact drive_append_mem _ _ _ h
theorem place_bounds {p : Int} {out : List Int} {x : Int} (h0 : 0 ≤ x) : -1 ≤ place p out x ∧ (place p out x < p ∨ place p out x = -1) ∧ (place p out x = -1 ∨ x ≤ place p out x) := by
  have hge : ∀ (f : Nat) (x : Int), x ≤ nextFree out p f x := by
    intro f
    induction f with
    | zero => intro x; simp [nextFree]
    | succ f ih =>
      intro x
      simp only [nextFree]
      split
      · have := ih (x + 1); omega
      · omega
  have := hge (p - x).toNat x
  simp only [place]
  split <;> omega

/-- No car fails. -/
def allPark (p : Int) (xs : List Int) : Bool := !hasB (drive p xs) (-1)
theorem allPark_iff {p : Int} {xs : List Int} : allPark p xs = true ↔ (-1 : Int) ∉ drive p xs := by simp [allPark, hasB]

/-- A parking function. -/
def isPark (xs : List Int) : Bool := decide (xs.length ≤ 8) && (allB xs 0 ((xs.length : Int) - 1) && allPark xs.length xs)
theorem isPark_iff {xs : List Int} : isPark xs = true ↔ xs.length ≤ 8 ∧ (∀ x ∈ xs, 0 ≤ x ∧ x ≤ (xs.length : Int) - 1) ∧ allPark xs.length xs = true := by
  simp only [isPark, Bool.and_eq_true, decide_eq_true_eq, allB_iff]
def asked (xs : List Int) : Bool := decide (xs.length ≤ 8) && allB xs 0 99

/-- How many numbers are less than a bound. -/
def below (xs : List Int) (b : Int) : Nat := xs.countP fun x => decide (x < b)
theorem below_le (xs : List Int) (b : Int) : below xs b ≤ xs.length := List.countP_le_length
theorem below_succ {xs : List Int} {k : Nat} (h : k < xs.length) (b : Int) : below (xs.take (k + 1)) b = below (xs.take k) b + if nth xs k < b then 1 else 0 := by
  unfold below
  rw [take_succ_nth h, List.countP_append]
  simp
/-- How many are at least a bound. -/
def from' (xs : List Int) (b : Int) : Nat := xs.countP fun x => decide (b ≤ x)
theorem from_le (xs : List Int) (b : Int) : from' xs b ≤ xs.length := List.countP_le_length
theorem from_succ {xs : List Int} {k : Nat} (h : k < xs.length) (b : Int) : from' (xs.take (k + 1)) b = from' (xs.take k) b + if b ≤ nth xs k then 1 else 0 := by
  unfold from'
  rw [take_succ_nth h, List.countP_append]
  simp
theorem from_below (xs : List Int) (b : Int) : from' xs b + below xs b = xs.length := by
  induction xs with
  | nil => rfl
  | cons x xs ih =>
    unfold from' below at *
    simp only [List.countP_cons, List.length_cons, decide_eq_true_eq]
    split <;> split <;> omega

/-- The numbers i < n that a test lets pass, in order. -/
def idxs (f : Nat → Bool) (n : Nat) : List Int := ((List.range n).filter f).map fun (i : Nat) => (i : Int)
theorem idxs_succ (f : Nat → Bool) (n : Nat) : idxs f (n + 1) = idxs f n ++ if f n then [(n : Int)] else [] := by
  unfold idxs
  rw [List.range_succ, List.filter_append, List.map_append]
  congr 1
  by_cases h : f n <;> simp [h]
theorem length_idxs (f : Nat → Bool) (n : Nat) : (idxs f n).length ≤ n := by
  have := List.length_filter_le f (List.range n)
  simp [idxs] at *
  exact this

/-- Distances. -/
def dists (p : Int) (xs : List Int) : List Int := (drive p xs).zipWith (fun y x => y - x) xs
theorem length_dists (p : Int) (xs : List Int) : (dists p xs).length = xs.length := by simp [dists, length_drive]
theorem nth_dists {p : Int} {xs : List Int} {k : Nat} (h : k < xs.length) : nth (dists p xs) k = nth (drive p xs) k - nth xs k := by
  have h' : k < (drive p xs).length := by rw [length_drive]; exact h
  simp [nth, dists, List.getElem?_zipWith, h, h']

def total (xs : List Int) : Int := xs.foldl (· + ·) 0
theorem total_snoc (xs : List Int) (x : Int) : total (xs ++ [x]) = total xs + x := by simp [total]
theorem total_succ {xs : List Int} {k : Nat} (h : k < xs.length) : total (xs.take (k + 1)) = total (xs.take k) + nth xs k := by rw [take_succ_nth h, total_snoc]
theorem drive_get {p : Int} {xs : List Int} {k : Nat} (h : k < xs.length) : nth (drive p xs) k = place p (drive p (xs.take k)) (nth xs k) := by
  have e : ∀ (ys out : List Int) (j : Nat), j < out.length → nth (ys.foldl (fun out x => out ++ [place p out x]) out) j = nth out j := by
    intro ys
    induction ys with
    | nil => intro out j _; rfl
    | cons y ys ih => intro out j hj; simp only [List.foldl_cons]; rw [ih _ _ (by simp; omega), nth_append_left hj]
  have e2 : drive p xs = (xs.drop (k + 1)).foldl (fun out x => out ++ [place p out x]) (drive p (xs.take (k + 1))) := by
    unfold drive
    rw [← List.foldl_append, List.take_append_drop]
  rw [e2, e _ _ _ (by rw [length_drive]; simp; omega), drive_succ h]
  have hl : (drive p (xs.take k)).length = k := by rw [length_drive]; simp; omega
  generalize place p (drive p (xs.take k)) (nth xs k) = y
  generalize drive p (xs.take k) = out at hl
  subst hl
  exact nth_append_at

/-- At most eight numbers from 0 on, less than a bound. -/
def carsB (xs : List Int) (b : Int) : Bool := decide (xs.length ≤ 8) && allB xs 0 (b - 1)
theorem carsB_iff {xs : List Int} {b : Int} : carsB xs b = true ↔ xs.length ≤ 8 ∧ ∀ x ∈ xs, 0 ≤ x ∧ x ≤ b - 1 := by simp [carsB, allB_iff]
theorem good_cars (xs : List Int) (p : Int) : good xs p = (inB p 1 12 && carsB xs p) := rfl
theorem asked_cars (xs : List Int) : asked xs = carsB xs 100 := rfl

/-! ### What the functions come to -/
def driveCars (xs : List Int) (p : Int) : List Int × Bool := if good xs p && allPark p xs then (drive p xs, true) else ([], false)
def isParking (xs : List Int) : Bool × Bool := if asked xs then (isPark xs, true) else (false, false)
def doAllPark (xs : List Int) (p : Int) : Bool × Bool := if good xs p then (allPark p xs, true) else (false, false)
/-- The greatest place less than a number that refuses. -/
def refuseAt (xs : List Int) (p : Int) : Nat → Int × Bool
  | 0 => (0, false)
  | j + 1 => if p - (j : Int) < (from' xs j : Int) then ((j : Int), true) else refuseAt xs p j
def refusing (xs : List Int) (p : Int) : Int × Bool := if good xs p then refuseAt xs p p.toNat else (0, false)
def distsOf (xs : List Int) (p : Int) : List Int × Bool := if good xs p && allPark p xs then (dists p xs, true) else ([], false)
def totalOf (xs : List Int) (p : Int) : Int × Bool := if good xs p && allPark p xs then (total (dists p xs), true) else (0, false)
def luckyOf (xs : List Int) (p : Int) : List Int × Bool := if good xs p && allPark p xs then (idxs (fun i => nth (dists p xs) i == 0) xs.length, true) else ([], false)
def leB (xs ys : List Int) (n : Nat) : Bool := (List.range n).all fun i => decide (nth xs i ≤ nth ys i)
theorem leB_succ {xs ys : List Int} {n : Nat} : leB xs ys (n + 1) = (leB xs ys n && decide (nth xs n ≤ nth ys n)) := by simp [leB, List.range_succ]
theorem leB_no {xs ys : List Int} {k n : Nat} (hk : k < n) (h : ¬ nth xs k ≤ nth ys k) : leB xs ys n = false := by
  unfold leB
  rw [List.all_eq_false]
  exact ⟨k, by simpa using hk, by simpa using h⟩
def isBelowOf (xs ys : List Int) : Bool × Bool := if isPark xs && isPark ys then (decide (xs.length = ys.length) && leB xs ys xs.length, true) else (false, false)
def mixWith (xs ys : List Int) (low : Bool) : List Int := xs.zipWith (fun x y => if low then min x y else max x y) ys
def mixOf (xs ys : List Int) (low : Bool) : List Int × Bool := if isPark xs && isPark ys && decide (xs.length = ys.length) && isPark (mixWith xs ys low) then (mixWith xs ys low, true) else ([], false)
/-- The cuts: numbers j in 1 .. n - 1 with just j favourites below. -/
def isCut (xs : List Int) (j : Nat) : Bool := decide (1 ≤ j) && decide ((below xs j : Int) = j)
def cutsOf (xs : List Int) : List Int × Bool := if isPark xs then (idxs (isCut xs) xs.length, true) else ([], false)
def joinOf (xs ys : List Int) : List Int × Bool := if isPark xs && isPark ys && decide (xs.length + ys.length ≤ 8) then (xs ++ ys.map (· + (xs.length : Int)), true) else ([], false)

end Go.Proofs.Ytakadjhbomggbab
