/- Sorted parking functions, one behind the other; lucky cars; what the functions come to. -/
import Derived.Test.YtakadjhbomggbaaGreatMathX
import Derived.Test.YtakadjhbomggbaaGreatMathL
namespace Go.Proofs.YtakadjhbomggbaaGreat
open Go.RowKit

/-- The lists that do not fall and go on a beginning, each number at most its index. -/
def sortL : Nat → List Int → List (List Int)
  | 0, p => [p]
  | k + 1, p => (upFrom (nth p (p.length - 1)) ((p.length : Int) + 1 - nth p (p.length - 1)).toNat).flatMap fun x => sortL k (p ++ [x])
/-- The next one, looked for from a car down. -/
def nextS (xs : List Int) : Nat → List Int × Bool
  | 0 => ([], false)
  | c + 1 => if nth xs c = (c : Int) then nextS xs c else (xs.take c ++ List.replicate (xs.length - c) (nth xs c + 1), true)
def chainB (f : List Int → List Int × Bool) : List (List Int) → Bool
  | [] => false
  | [x] => decide (f x = ([], false))
  | x :: y :: r => decide (f x = (y, true)) && chainB f (y :: r)
theorem chain_of {f : List Int → List Int × Bool} : ∀ {L : List (List Int)}, chainB f L = true → Chain f L
  | [], h => by simp [chainB] at h
  | [x], h => by
    simp [chainB] at h
    exact ⟨by simp, fun k hk => by simp at hk, by simpa using h⟩
  | x :: y :: r, h => by
    simp only [chainB, Bool.and_eq_true, decide_eq_true_eq] at h
    obtain ⟨_, h2, h3⟩ := chain_of h.2
    refine ⟨by simp, fun k hk => ?_, by simpa using h3⟩
    match k, hk with
    | 0, _ => simpa using h.1
    | k + 1, hk => simpa using h2 k (by simpa using hk)
theorem sorted_chain : ∀ n, n < 7 → chainB (fun xs => nextS xs xs.length) (sortL n []) = true ∧ (sortL n []).getD 0 [] = List.replicate n 0 ∧ (sortL n []).length ≤ 132 ∧ (sortL n []).all (fun xs => decide (xs.length = n) && allB xs 0 n) = true := by decide +kernel
def allSortedOf (n : Int) : List (List Int) × Bool := if inB n 0 6 then (sortL n.toNat [], true) else ([], false)
def countSortedOf (n : Int) : Int × Bool := if inB n 0 8 then ((chs (2 * n.toNat) n.toNat / (n.toNat + 1) : Nat), true) else (0, false)
/-- The coefficients behind i factors. -/
def lucky (n : Nat) : Nat → Nat → Nat
  | 0, l => if l = 1 then 1 else 0
  | _ + 1, 0 => 0
  | i + 1, l + 1 => (i + 1) * lucky n i (l + 1) + (n - i) * lucky n i l
theorem lucky_zero (n : Nat) : ∀ i, lucky n i 0 = 0
  | 0 => rfl
  | _ + 1 => rfl
theorem lucky_le : ∀ n, n < 9 → ∀ i, i < n → ∀ l, l < 9 → lucky n i l ≤ 4782969 := by decide +kernel
def luckyOfN (n : Int) : List Int × Bool := if inB n 1 8 then ((List.range (n.toNat + 1)).map fun (l : Nat) => (lucky n.toNat (n.toNat - 1) l : Int), true) else ([], false)
end Go.Proofs.YtakadjhbomggbaaGreat
