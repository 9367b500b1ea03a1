/- Chapter 4's plain mathematics: heights, walks, pairs. -/
import Derived.Test.YtakadjhbomggbaaMathUp
import Derived.Test.YtakadjhbomggbaaMathO
import Derived.Test.YtakadjhbomggbaaMathL
namespace Go.Proofs.Ytakadjhbomggbaa
open Go.RowKit

/-- The most that the height of a row may be. -/
def mostAt (hs : List Int) : Nat → Int
  | 0 => 0
  | i + 1 => nth hs i + 1
def hgtTo (hs : List Int) (k : Nat) : Bool := (List.range k).all fun i => inB (nth hs i) 0 (mostAt hs i)
theorem hgtTo_succ {hs : List Int} {k : Nat} : hgtTo hs (k + 1) = (hgtTo hs k && inB (nth hs k) 0 (mostAt hs k)) := by simp [hgtTo, List.range_succ]
theorem hgtTo_no {hs : List Int} {k n : Nat} (hk : k < n) (h : inB (nth hs k) 0 (mostAt hs k) = false) : hgtTo hs n = false := by
  unfold hgtTo
  rw [List.all_eq_false]
  exact ⟨k, List.mem_range.2 hk, by simp [h]⟩
theorem hgtTo_iff {hs : List Int} {k : Nat} : hgtTo hs k = true ↔ ∀ i, i < k → 0 ≤ nth hs i ∧ nth hs i ≤ mostAt hs i := by
  unfold hgtTo
  rw [List.all_eq_true]
  simp only [List.mem_range, inB_iff]
/-- Heights. -/
def hgtB (hs : List Int) : Bool := decide (hs.length ≤ 8) && hgtTo hs hs.length
theorem hgtB_iff {hs : List Int} : hgtB hs = true ↔ hs.length ≤ 8 ∧ ∀ i, i < hs.length → 0 ≤ nth hs i ∧ nth hs i ≤ mostAt hs i := by
  unfold hgtB
  rw [Bool.and_eq_true, decide_eq_true_eq, hgtTo_iff]
theorem hgt_bounds {hs : List Int} {n : Nat} (h : hgtTo hs n = true) : ∀ i, i < n → 0 ≤ nth hs i ∧ nth hs i ≤ (i : Int)
  | 0, hi => by have := hgtTo_iff.1 h 0 hi; simp only [mostAt] at this; omega
  | i + 1, hi => by
    have := hgtTo_iff.1 h (i + 1) hi
    have ih := hgt_bounds h i (by omega)
    simp only [mostAt] at this
    omega
theorem hgt_of {hs : List Int} {n : Nat} (h : hgtB hs = true) (hl : hs.length = n) : n ≤ 8 ∧ ∀ i, i < n → 0 ≤ nth hs i ∧ nth hs i ≤ (i : Int) := by
  subst hl
  have h' := h
  unfold hgtB at h
  rw [Bool.and_eq_true] at h
  exact ⟨(hgtB_iff.1 h').1, hgt_bounds h.2⟩
theorem hgtB_len {hs : List Int} {n : Nat} (hl : hs.length = n) (h8 : n ≤ 8) : hgtB hs = hgtTo hs n := by
  subst hl
  simp [hgtB, h8]
theorem hgtB_big {hs : List Int} {n : Nat} (hl : hs.length = n) (h8 : ¬ n ≤ 8) : hgtB hs = false := by
  subst hl
  simp [hgtB, h8]

/-- The rows' indices less their heights. -/
def startsTo (hs : List Int) (k : Nat) : List Int := (List.range k).map fun (i : Nat) => (i : Int) - nth hs i
def startsL (hs : List Int) : List Int := startsTo hs hs.length
theorem length_startsTo (hs : List Int) (k : Nat) : (startsTo hs k).length = k := by simp [startsTo]
theorem nth_startsTo {hs : List Int} {k i : Nat} (h : i < k) : nth (startsTo hs k) i = (i : Int) - nth hs i := by simp [nth, startsTo, h]

/-- The height of a row is 1 more than that before it. -/
def raisedB (hs : List Int) (i : Nat) : Bool := decide (0 < i) && decide (nth hs i = nth hs (i - 1) + 1)
def riseOk (hs ls : List Int) (i : Nat) : Bool := !(raisedB hs i && decide (nth ls i < nth ls (i - 1)))
def riseTo (hs ls : List Int) (k : Nat) : Bool := (List.range k).all (riseOk hs ls)
theorem riseTo_succ {hs ls : List Int} {k : Nat} : riseTo hs ls (k + 1) = (riseTo hs ls k && riseOk hs ls k) := by simp [riseTo, List.range_succ]
theorem riseTo_no {hs ls : List Int} {k n : Nat} (hk : k < n) (h : riseOk hs ls k = false) : riseTo hs ls n = false := by
  unfold riseTo
  rw [List.all_eq_false]
  exact ⟨k, List.mem_range.2 hk, by simp [h]⟩
theorem riseTo_iff {hs ls : List Int} {k : Nat} : riseTo hs ls k = true ↔ ∀ i, i < k → riseOk hs ls i = true := by
  unfold riseTo
  rw [List.all_eq_true]
  simp only [List.mem_range]
/-- A walk. -/
def walkB (hs ls : List Int) : Bool := hgtB hs && (decide (hs.length = ls.length) && (outB ls && riseTo hs ls ls.length))
theorem walkB_iff {hs ls : List Int} : walkB hs ls = true ↔ hgtB hs = true ∧ hs.length = ls.length ∧ outB ls = true ∧ riseTo hs ls ls.length = true := by
  unfold walkB
  simp only [Bool.and_eq_true, decide_eq_true_eq]

/-- The parking function of a walk, as it is filled. -/
def powTo (hs ls : List Int) : Nat → List Int
  | 0 => List.replicate ls.length 0
  | k + 1 => (powTo hs ls k).set (nth ls k).toNat ((k : Int) - nth hs k)
theorem length_powTo (hs ls : List Int) : ∀ k, (powTo hs ls k).length = ls.length
  | 0 => by simp [powTo]
  | k + 1 => by simp [powTo, length_powTo hs ls k]
def powOf (hs ls : List Int) : List Int × Bool := if walkB hs ls then (powTo hs ls ls.length, true) else ([], false)
def areaOf (hs ls : List Int) : Int × Bool := if walkB hs ls then (total hs, true) else (0, false)

/-- Two rows are a pair. -/
def pairB (hs ls : List Int) (i j : Nat) : Bool := (decide (nth hs i = nth hs j) && decide (nth ls i < nth ls j)) || (decide (nth hs i = nth hs j + 1) && decide (nth ls j < nth ls i))
def pairRow (hs ls : List Int) (i c : Nat) : List (List Int) := ((List.range c).filter fun d => pairB hs ls i (i + 1 + d)).map fun (d : Nat) => [(i : Int), ((i + 1 + d : Nat) : Int)]
theorem pairRow_succ (hs ls : List Int) (i c : Nat) : pairRow hs ls i (c + 1) = pairRow hs ls i c ++ if pairB hs ls i (i + 1 + c) then [[(i : Int), ((i + 1 + c : Nat) : Int)]] else [] := by
  unfold pairRow
  rw [List.range_succ, List.filter_append, List.map_append]
  by_cases h : pairB hs ls i (i + 1 + c) = true
  · simp [h]
  · simp [h]
theorem length_pairRow (hs ls : List Int) (i c : Nat) : (pairRow hs ls i c).length ≤ c := by
  unfold pairRow
  rw [List.length_map]
  exact Nat.le_trans (List.length_filter_le _ _) (by simp)
def pairsTo (hs ls : List Int) (k : Nat) : List (List Int) := (List.range k).flatMap fun i => pairRow hs ls i (ls.length - (i + 1))
theorem pairsTo_succ (hs ls : List Int) (k : Nat) : pairsTo hs ls (k + 1) = pairsTo hs ls k ++ pairRow hs ls k (ls.length - (k + 1)) := by simp [pairsTo, List.range_succ]
theorem length_pairsTo (hs ls : List Int) : ∀ k, (pairsTo hs ls k).length ≤ k * ls.length
  | 0 => by simp [pairsTo]
  | k + 1 => by
    have h1 := length_pairsTo hs ls k
    have h2 := length_pairRow hs ls k (ls.length - (k + 1))
    rw [pairsTo_succ, List.length_append, Nat.succ_mul]
    omega
def pairsL (hs ls : List Int) : List (List Int) := pairsTo hs ls ls.length
def pairsOfW (hs ls : List Int) : List (List Int) × Bool := if walkB hs ls then (pairsL hs ls, true) else ([], false)
def pairCountOf (hs ls : List Int) : Int × Bool := if walkB hs ls then (((pairsL hs ls).length : Int), true) else (0, false)

def touchAt (hs : List Int) (i : Nat) : Bool := decide (0 < i) && decide (nth hs i = 0)
def touchesOf (hs ls : List Int) : List Int × Bool := if walkB hs ls then (idxs (touchAt hs) hs.length, true) else ([], false)

/-- The next number that is found from k on. -/
def bnext (hs : List Int) (k : Nat) : Nat := k + below ((startsL hs).drop k) ((k : Int) + 1)
def bncF (hs : List Int) : Nat → Nat → Nat
  | 0, _ => 0
  | f + 1, k => if k < hs.length then (hs.length - bnext hs k) + bncF hs f (bnext hs k) else 0
def bounceOf (hs : List Int) : Int × Bool := if hgtB hs then ((bncF hs hs.length 0 : Int), true) else (0, false)
theorem bnext_le {hs : List Int} {k : Nat} (hk : k ≤ hs.length) : bnext hs k ≤ hs.length := by
  have := below_le ((startsL hs).drop k) ((k : Int) + 1)
  rw [List.length_drop] at this
  unfold startsL at this
  rw [length_startsTo] at this
  unfold bnext startsL
  omega
theorem bnext_gt {hs : List Int} (h : hgtB hs = true) {k : Nat} (hk : k < hs.length) : k < bnext hs k := by
  obtain ⟨_, h2⟩ := hgt_of h rfl
  have hb := h2 k hk
  have hd : (startsL hs).drop k = ((k : Int) - nth hs k) :: (startsL hs).drop (k + 1) := by
    have hl : k < (startsL hs).length := by unfold startsL; rw [length_startsTo]; exact hk
    rw [List.drop_eq_getElem_cons hl]
    congr 1
    simp only [startsL, startsTo, List.getElem_map, List.getElem_range]
  unfold bnext
  rw [hd]
  unfold below
  rw [List.countP_cons]
  have : decide ((k : Int) - nth hs k < (k : Int) + 1) = true := by simp; omega
  rw [this]
  simp
theorem bncF_le {hs : List Int} (h8 : hs.length ≤ 8) : ∀ f k, bncF hs f k ≤ 8 * f
  | 0, k => by simp [bncF]
  | f + 1, k => by
    simp only [bncF]
    split
    · have := bncF_le h8 f (bnext hs k); omega
    · omega
theorem bncF_step {hs : List Int} {f k : Nat} (hk : k < hs.length) : bncF hs (f + 1) k = (hs.length - bnext hs k) + bncF hs f (bnext hs k) := by simp only [bncF]; rw [if_pos hk]
theorem bncF_end {hs : List Int} {f k : Nat} (hk : ¬ k < hs.length) : bncF hs f k = 0 := by cases f <;> simp [bncF, hk]

/-- Walks are counted by rows: the length of the run and the count so far. -/
def runAt (hs : List Int) : Nat → Int
  | 0 => 0
  | k + 1 => if raisedB hs k then runAt hs k + 1 else 1
def clTo (hs : List Int) : Nat → Int
  | 0 => 1
  | k + 1 => clTo hs k * ((k : Int) + 1) / runAt hs (k + 1)
theorem runAt_bounds (hs : List Int) : ∀ k, 0 ≤ runAt hs k ∧ runAt hs k ≤ (k : Int)
  | 0 => by simp [runAt]
  | k + 1 => by
    have := runAt_bounds hs k
    simp only [runAt]
    split <;> omega
def facH : Nat → Nat
  | 0 => 1
  | n + 1 => (n + 1) * facH n
theorem runAt_pos (hs : List Int) (k : Nat) : 1 ≤ runAt hs (k + 1) := by
  have := runAt_bounds hs k
  simp only [runAt]
  split <;> omega
theorem clTo_bounds (hs : List Int) : ∀ k, k ≤ 8 → 0 ≤ clTo hs k ∧ clTo hs k ≤ 40320
  | 0, _ => by simp [clTo]
  | 1, _ => by simp [clTo, runAt, raisedB]
  | k + 2, hk => by
    have hall : ∀ k, 0 ≤ clTo hs k ∧ clTo hs k ≤ (facH k : Int) := by
      intro k
      induction k with
      | zero => simp [clTo, facH]
      | succ k ih =>
        have h1 := runAt_pos hs k
        have h0 : 0 ≤ clTo hs k * ((k : Int) + 1) := Int.mul_nonneg ih.1 (by omega)
        refine ⟨Int.ediv_nonneg h0 (by omega), ?_⟩
        have h2 : clTo hs k * ((k : Int) + 1) / runAt hs (k + 1) ≤ clTo hs k * ((k : Int) + 1) := Int.ediv_le_self _ h0
        have h3 : clTo hs k * ((k : Int) + 1) ≤ (facH k : Int) * ((k : Int) + 1) := Int.mul_le_mul_of_nonneg_right ih.2 (by omega)
        have h4 : ((facH (k + 1) : Nat) : Int) = (facH k : Int) * ((k : Int) + 1) := by simp only [facH]; rw [Int.natCast_mul]; rw [Int.mul_comm]; rfl
        show clTo hs k * ((k : Int) + 1) / runAt hs (k + 1) ≤ _
        omega
    have h := hall (k + 2)
    have h5 : ∀ m, m < 9 → facH m ≤ 40320 := by decide +kernel
    have := h5 (k + 2) (by omega)
    omega
def labelsOf (hs : List Int) : Int × Bool := if hgtB hs then (clTo hs hs.length, true) else (0, false)

/-- The numbers 0, 1, .. in order. -/
def firstOfW (hs : List Int) : (List Int × List Int) × Bool := if hgtB hs then ((hs, upto hs.length), true) else (([], []), false)
end Go.Proofs.Ytakadjhbomggbaa
