/- Sorting by insertion, and the library's sort. -/
import Derived.Test.YtakadjhbomggbabMath1
namespace Go.Proofs.Ytakadjhbomggbab
open Go.RowKit

/-- x behind all numbers that are not greater, in a sorted list. -/
def ins (x : Int) : List Int → List Int
  | [] => [x]
  | y :: ys => if y ≤ x then y :: ins x ys else x :: y :: ys
def insSort (xs : List Int) : List Int := xs.foldl (fun out x => ins x out) []

theorem insSort_succ {xs : List Int} {k : Nat} (h : k < xs.length) : insSort (xs.take (k + 1)) = ins (nth xs k) (insSort (xs.take k)) := by
  rw [take_succ_nth h]; simp [insSort]

theorem nth_cons_succ (y : Int) (ys : List Int) (k : Nat) : nth (y :: ys) (k + 1) = nth ys k := by simp [nth]
theorem nth_cons_zero (y : Int) (ys : List Int) : nth (y :: ys) 0 = y := by simp [nth]

theorem ins_at {x : Int} : ∀ (k : Nat) (out : List Int), k ≤ out.length → (∀ j, j < k → nth out j ≤ x) → (k = out.length ∨ x < nth out k) → ins x out = out.take k ++ [x] ++ out.drop k
  | 0, [], _, _, _ => rfl
  | 0, y :: ys, _, _, h => by
    rcases h with h | h
    · simp at h
    · rw [nth_cons_zero] at h
      simp only [ins, if_neg (by omega : ¬ y ≤ x)]
      rfl
  | k + 1, [], h, _, _ => by simp at h
  | k + 1, y :: ys, hk, h, he => by
    have h0 := h 0 (by omega)
    rw [nth_cons_zero] at h0
    simp only [ins, if_pos h0]
    rw [ins_at k ys (by simp at hk; omega) (fun j hj => by have := h (j + 1) (by omega); rwa [nth_cons_succ] at this) (by rw [nth_cons_succ] at he; simpa using he)]
    simp

theorem ins_perm (x : Int) : ∀ out, (ins x out).Perm (x :: out)
  | [] => List.Perm.refl _
  | y :: ys => by
    simp only [ins]
    split
    · exact ((ins_perm x ys).cons y).trans (List.Perm.swap x y ys)
    · exact List.Perm.refl _
theorem ins_sorted (x : Int) : ∀ out, out.Pairwise (· ≤ ·) → (ins x out).Pairwise (· ≤ ·)
  | [], _ => by simp [ins]
  | y :: ys, h => by
    rw [List.pairwise_cons] at h
    simp only [ins]
    split
    · rename_i hyx
      rw [List.pairwise_cons]
      refine ⟨fun z hz => ?_, ins_sorted x ys h.2⟩
      rcases List.mem_cons.1 ((ins_perm x ys).mem_iff.1 hz) with rfl | hz
      · exact hyx
      · exact h.1 z hz
    · rename_i hyx
      rw [List.pairwise_cons]
      refine ⟨fun z hz => ?_, List.pairwise_cons.2 h⟩
      rcases List.mem_cons.1 hz with rfl | hz
      · omega
      · have := h.1 z hz; omega
theorem fold_perm : ∀ (xs out : List Int), (xs.foldl (fun out x => ins x out) out).Perm (xs ++ out)
  | [], _ => List.Perm.refl _
  | x :: xs, out => by
    simp only [List.foldl_cons, List.cons_append]
    exact (fold_perm xs _).trans (((ins_perm x out).append_left xs).trans List.perm_middle)
theorem fold_sorted : ∀ (xs out : List Int), out.Pairwise (· ≤ ·) → (xs.foldl (fun out x => ins x out) out).Pairwise (· ≤ ·)
  | [], _, h => h
  | x :: xs, out, h => by simp only [List.foldl_cons]; exact fold_sorted xs _ (ins_sorted x out h)
theorem insSort_perm (xs : List Int) : (insSort xs).Perm xs := by
  have := fold_perm xs []
  rw [List.append_nil] at this
  exact this
theorem insSort_sorted (xs : List Int) : (insSort xs).Pairwise (· ≤ ·) := fold_sorted xs [] List.Pairwise.nil
theorem length_insSort (xs : List Int) : (insSort xs).length = xs.length := (insSort_perm xs).length_eq
theorem sorted_unique {xs ys : List Int} (hx : xs.Pairwise (· ≤ ·)) (hy : ys.Pairwise (· ≤ ·)) (h : xs.Perm ys) : xs = ys :=
  h.eq_of_pairwise (le := fun a b => a ≤ b) (fun a b _ _ h1 h2 => by omega) hx hy
theorem mergeSort_insSort (xs : List Int) : (xs.mergeSort fun x y => decide (x ≤ y)) = insSort xs := by
  refine sorted_unique ?_ (insSort_sorted xs) ((List.mergeSort_perm _ _).trans (insSort_perm xs).symm)
  have := List.pairwise_mergeSort (le := fun x y : Int => decide (x ≤ y)) (by intro a b c; simp; omega) (by intro a b; simp; omega) xs
  simpa using this

/-- Each number is at most its index. -/
def fitsB (ys : List Int) (n : Nat) : Bool := (List.range n).all fun i => decide (nth ys i ≤ (i : Int))
theorem fitsB_succ {ys : List Int} {n : Nat} : fitsB ys (n + 1) = (fitsB ys n && decide (nth ys n ≤ (n : Int))) := by simp [fitsB, List.range_succ]
theorem fitsB_no {ys : List Int} {k n : Nat} (hk : k < n) (h : ¬ nth ys k ≤ (k : Int)) : fitsB ys n = false := by
  unfold fitsB
  rw [List.all_eq_false]
  exact ⟨k, by simpa using hk, by simpa using h⟩
def fitsOf (xs : List Int) : Bool × Bool := if asked xs then (fitsB (insSort xs) xs.length, true) else (false, false)
def takenOf (xs : List Int) (p : Int) : List Int × Bool := if good xs p && allPark p xs then (insSort (drive p xs), true) else ([], false)
end Go.Proofs.Ytakadjhbomggbab
