/- Heights seen from the other end. -/
import Derived.Test.YtakadjhbomggbaaMathHt
namespace Go.Proofs.Ytakadjhbomggbaa
open Go.RowKit

/-- The steps of the first rows, and how many of them go right. -/
def pathTo (hs : List Int) : Nat → List Bool × Nat
  | 0 => ([], 0)
  | k + 1 => ((pathTo hs k).1 ++ List.replicate (((k : Int) - nth hs k).toNat - (pathTo hs k).2) false ++ [true], max (pathTo hs k).2 ((k : Int) - nth hs k).toNat)
def pathL (hs : List Int) : List Bool := (pathTo hs hs.length).1 ++ List.replicate (hs.length - (pathTo hs hs.length).2) false
/-- The turned heights, read from the end of the path: the path's first k steps are still to be read. -/
def turnF (p : List Bool) : Nat → List Int → Nat → List Int
  | 0, out, _ => out
  | k + 1, out, r => if p.getD k false then turnF p k out (r + 1) else turnF p k (out ++ [(out.length : Int) - (r : Int)]) r
def turnS (hs : List Int) : List Int := turnF (pathL hs) (pathL hs).length [] 0
def turnAt (hs : List Int) (row : Nat) : Int := (row : Int) - ((hs.length : Int) - (below (startsL hs) ((hs.length : Int) - (row : Int)) : Int))
def turnL (hs : List Int) : List Int := (List.range hs.length).map (turnAt hs)
def turnChk (hs : List Int) : Bool := decide (turnS hs = turnL hs) && decide ((pathL hs).length = 2 * hs.length)
theorem waF_add (k : Nat) : ∀ (j : Nat) (l : List Int), waF (j + k) l = (waF j l).flatMap (waF k)
  | 0, l => by simp [waF]
  | j + 1, l => by
    rw [show j + 1 + k = (j + k) + 1 by omega]
    simp only [waF]
    rw [List.flatMap_assoc]
    congr 1
    funext h
    exact waF_add k j _
set_option maxHeartbeats 8000000 in
theorem turn_lt7 : ∀ n, n < 7 → (waF n []).all turnChk = true := by decide +kernel
set_option maxHeartbeats 8000000 in
theorem turn_7_000 : (waF 4 [0,0,0]).all turnChk = true := by decide +kernel
set_option maxHeartbeats 8000000 in
theorem turn_7_001 : (waF 4 [0,0,1]).all turnChk = true := by decide +kernel
set_option maxHeartbeats 8000000 in
theorem turn_7_010 : (waF 4 [0,1,0]).all turnChk = true := by decide +kernel
set_option maxHeartbeats 8000000 in
theorem turn_7_011 : (waF 4 [0,1,1]).all turnChk = true := by decide +kernel
set_option maxHeartbeats 8000000 in
theorem turn_7_012 : (waF 4 [0,1,2]).all turnChk = true := by decide +kernel
set_option maxHeartbeats 8000000 in
theorem turn_8_000 : (waF 5 [0,0,0]).all turnChk = true := by decide +kernel
set_option maxHeartbeats 8000000 in
theorem turn_8_001 : (waF 5 [0,0,1]).all turnChk = true := by decide +kernel
set_option maxHeartbeats 8000000 in
theorem turn_8_010 : (waF 5 [0,1,0]).all turnChk = true := by decide +kernel
set_option maxHeartbeats 8000000 in
theorem turn_8_011 : (waF 5 [0,1,1]).all turnChk = true := by decide +kernel
set_option maxHeartbeats 8000000 in
theorem turn_8_012 : (waF 5 [0,1,2]).all turnChk = true := by decide +kernel
theorem waF_three : waF 3 [] = [[0, 0, 0], [0, 0, 1], [0, 1, 0], [0, 1, 1], [0, 1, 2]] := by decide +kernel
theorem turn_same : ∀ n, n < 9 → (waF n []).all turnChk = true := fun n hn => by
  by_cases h7 : n < 7
  · exact turn_lt7 n h7
  · rcases (show n = 7 ∨ n = 8 by omega) with rfl | rfl
    · rw [show (7 : Nat) = 3 + 4 from rfl, waF_add, waF_three]
      simp only [List.flatMap_cons, List.flatMap_nil, List.all_append, List.all_nil, turn_7_000, turn_7_001, turn_7_010, turn_7_011, turn_7_012, Bool.and_true]
    · rw [show (8 : Nat) = 3 + 5 from rfl, waF_add, waF_three]
      simp only [List.flatMap_cons, List.flatMap_nil, List.all_append, List.all_nil, turn_8_000, turn_8_001, turn_8_010, turn_8_011, turn_8_012, Bool.and_true]
theorem turnS_eq {hs : List Int} (h : hgtB hs = true) : turnS hs = turnL hs ∧ (pathL hs).length = 2 * hs.length := by
  have := all_heights turn_same h
  unfold turnChk at this
  simpa using this
def turnOf' (hs : List Int) : List Int × Bool := if hgtB hs then (turnL hs, true) else ([], false)

end Go.Proofs.Ytakadjhbomggbaa
