/- All heights, one after the other. -/
import Derived.Test.YtakadjhbomggbaaMathH
import Derived.Test.YtakadjhbomggbaaMathG
namespace Go.Proofs.Ytakadjhbomggbaa
open Go.RowKit

def lastMost (l : List Int) : Nat := (mostAt l l.length).toNat
/-- All heights that go on a list by k rows, in order. -/
def waF : Nat → List Int → List (List Int)
  | 0, l => [l]
  | k + 1, l => (List.range (lastMost l + 1)).flatMap fun (h : Nat) => waF k (l ++ [(h : Int)])
theorem waF_mem {hs : List Int} (h : hgtB hs = true) : ∀ k m, m + k = hs.length → hs ∈ waF k (hs.take m)
  | 0, m, e => by
    simp only [waF, List.mem_singleton]
    rw [List.take_of_length_le (by omega)]
  | k + 1, m, e => by
    have hb := (hgtB_iff.1 h).2 m (by omega)
    have hm : mostAt (hs.take m) (hs.take m).length = mostAt hs m := by
      rw [List.length_take, Nat.min_eq_left (by omega)]
      cases m with
      | zero => rfl
      | succ m => simp only [mostAt]; rw [nth_take (by omega)]
    simp only [waF, List.mem_flatMap, List.mem_range]
    refine ⟨(nth hs m).toNat, by unfold lastMost; rw [hm]; omega, ?_⟩
    rw [Int.toNat_of_nonneg hb.1, ← take_succ_nth (by omega)]
    exact waF_mem h k (m + 1) (by omega)
theorem all_heights {P : List Int → Bool} (hP : ∀ n, n < 9 → (waF n []).all P = true) {hs : List Int} (h : hgtB hs = true) : P hs = true := by
  have h1 := (hgtB_iff.1 h).1
  have h2 := waF_mem h hs.length 0 (by omega)
  rw [List.take_zero] at h2
  exact List.all_eq_true.1 (hP hs.length (by omega)) hs h2

/-- The next heights: the last row that may be higher by 1, and zeros behind it. -/
def nextH (hs : List Int) : Nat → List Int × Bool
  | 0 => ([], false)
  | c + 1 => if c = 0 then ([], false) else if raisedB hs c then nextH hs c else (hs.take c ++ (nth hs c + 1) :: List.replicate (hs.length - (c + 1)) 0, true)
theorem heights_chain : ∀ n, n < 7 → chainB (fun hs => nextH hs hs.length) (waF n []) = true ∧ (waF n []).getD 0 [] = List.replicate n 0 ∧ (waF n []).length ≤ 132 ∧ (waF n []).all (fun hs => decide (hs.length = n) && hgtB hs) = true := by decide +kernel
def allHeightsOf (n : Int) : List (List Int) × Bool := if inB n 0 6 then (waF n.toNat [], true) else ([], false)
end Go.Proofs.Ytakadjhbomggbaa
