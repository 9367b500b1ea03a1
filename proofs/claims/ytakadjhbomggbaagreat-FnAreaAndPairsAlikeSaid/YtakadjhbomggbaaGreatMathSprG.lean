/- Walks counted by area and pairs. -/
import Derived.Test.YtakadjhbomggbaaGreatMathUp
import Derived.Test.YtakadjhbomggbaaGreatMathO
import Derived.Test.YtakadjhbomggbaaGreatMathL
import Derived.Test.YtakadjhbomggbaaGreatMathS
import Derived.Sort.LotA
import Derived.Test.YtakadjhbomggbaaGreatMath1
import Derived.Test.YtakadjhbomggbaaGreatMathSm
import Derived.Test.YtakadjhbomggbaaGreatMathP
import Derived.Test.YtakadjhbomggbaaGreatMathC
import Derived.Test.YtakadjhbomggbaaGreatMathR
import Derived.Test.YtakadjhbomggbaaGreatMathX
import Derived.Test.YtakadjhbomggbaaGreatRows2
import Derived.Test.YtakadjhbomggbaaGreatPro
import Derived.Test.YtakadjhbomggbaaGreatLawKit
import Derived.Maps.AppendAt
import Derived.Test.YtakadjhbomggbaaGreatHelp2
import Derived.Maps.OwnSet
import Derived.Maps.RangeWalk
import Derived.StillTailTactics
import Derived.Test.YtakadjhbomggbaaGreatImplC
import Derived.Test.YtakadjhbomggbaaGreatSpecN
import Derived.Test.YtakadjhbomggbaaGreatHelp
import Derived.Test.YtakadjhbomggbaaGreatSpecS
import Derived.Test.YtakadjhbomggbaaGreatShelfW
import Derived.Sort.OwnSortedInts
import Derived.Test.YtakadjhbomggbaaGreatIdx
import Derived.BigQuiet
import Derived.Test.YtakadjhbomggbaaGreatSpecD
import Derived.Test.YtakadjhbomggbaaGreatSpecA
import Derived.Test.YtakadjhbomggbaaGreatWlk
import Derived.Test.YtakadjhbomggbaaGreatSpecC
import Derived.Test.YtakadjhbomggbaaGreatSpecB
import Derived.Test.YtakadjhbomggbaaGreatSpecO
import Derived.Deep.LoopGhost
import Derived.Test.YtakadjhbomggbaaGreatSrt
import Derived.Test.YtakadjhbomggbaaGreatMathN
import Derived.Test.YtakadjhbomggbaaGreatRows3
namespace Go.Proofs.YtakadjhbomggbaaGreat
open Go.RowKit

/-- The most that the height of a row may be. -/
def mostAt (hs : List Int) : Nat → Int
  | 0 => 0
  | i + 1 => nth hs i + 1
def hgtTo (hs : List Int) (k : Nat) : Bool := (List.range k).all fun i => inB (nth hs i) 0 (mostAt hs i)
theorem hgtTo_succ {hs : List Int} {k : Nat} : hgtTo hs (k + 1) = (hgtTo hs k && inB (nth hs k) 0 (mostAt hs k)) := by simp [hgtTo, List.range_succ]
theorem hgtTo_no {hs : List Int} {k n : Nat} (hk : k < n) (h : inB (nth hs k) 0 (mostAt hs k) = false) : hgtTo hs n = false := by
  unfold hgtTo
  rw [List.all_eq_false]
  exact ⟨k, List.mem_range.2 hk, by simp [h]⟩
theorem hgtTo_iff {hs : List Int} {k : Nat} : hgtTo hs k = true ↔ ∀ i, i < k → 0 ≤ nth hs i ∧ nth hs i ≤ mostAt hs i := by
  unfold hgtTo
  rw [List.all_eq_true]
  simp only [List.mem_range, inB_iff]
/-- Heights. -/
def hgtB (hs : List Int) : Bool := decide (hs.length ≤ 8) && hgtTo hs hs.length
theorem hgtB_iff {hs : List Int} : hgtB hs = true ↔ hs.length ≤ 8 ∧ ∀ i, i < hs.length → 0 ≤ nth hs i ∧ nth hs i ≤ mostAt hs i := by
  unfold hgtB
  rw [Bool.and_eq_true, decide_eq_true_eq, hgtTo_iff]
theorem hgt_bounds {hs : List Int} {n : Nat} (h : hgtTo hs n = true) : ∀ i, i < n → 0 ≤ nth hs i ∧ nth hs i ≤ (i : Int)
  | 0, hi => by have := hgtTo_iff.1 h 0 hi; simp only [mostAt] at this; omega
  | i + 1, hi => by
    have := hgtTo_iff.1 h (i + 1) hi
    have ih := hgt_bounds h i (by omega)
    simp only [mostAt] at this
    omega
theorem hgt_of {hs : List Int} {n : Nat} (h : hgtB hs = true) (hl : hs.length = n) : n ≤ 8 ∧ ∀ i, i < n → 0 ≤ nth hs i ∧ nth hs i ≤ (i : Int) := by
  subst hl
  have h' := h
  unfold hgtB at h
  rw [Bool.and_eq_true] at h
  exact ⟨(hgtB_iff.1 h').1, hgt_bounds h.2⟩
theorem hgtB_len {hs : List Int} {n : Nat} (hl : hs.length = n) (h8 : n ≤ 8) : hgtB hs = hgtTo hs n := by
  subst hl
  simp [hgtB, h8]
theorem hgtB_big {hs : List Int} {n : Nat} (hl : hs.length = n) (h8 : ¬ n ≤ 8) : hgtB hs = false := by
  subst hl
  simp [hgtB, h8]

/-- The rows' indices less their heights. -/
def startsTo (hs : List Int) (k : Nat) : List Int := (List.range k).map fun (i : Nat) => (i : Int) - nth hs i
def startsL (hs : List Int) : List Int := startsTo hs hs.length
theorem length_startsTo (hs : List Int) (k : Nat) : (startsTo hs k).length = k := by simp [startsTo]
theorem nth_startsTo {hs : List Int} {k i : Nat} (h : i < k) : nth (startsTo hs k) i = (i : Int) - nth hs i := by simp [nth, startsTo, h]

/-- The height of a row is 1 more than that before it. -/
def raisedB (hs : List Int) (i : Nat) : Bool := decide (0 < i) && decide (nth hs i = nth hs (i - 1) + 1)
def riseOk (hs ls : List Int) (i : Nat) : Bool := !(raisedB hs i && decide (nth ls i < nth ls (i - 1)))
def riseTo (hs ls : List Int) (k : Nat) : Bool := (List.range k).all (riseOk hs ls)
theorem riseTo_succ {hs ls : List Int} {k : Nat} : riseTo hs ls (k + 1) = (riseTo hs ls k && riseOk hs ls k) := by simp [riseTo, List.range_succ]
theorem riseTo_no {hs ls : List Int} {k n : Nat} (hk : k < n) (h : riseOk hs ls k = false) : riseTo hs ls n = false := by
  unfold riseTo
  rw [List.all_eq_false]
  exact ⟨k, List.mem_range.2 hk, by simp [h]⟩
theorem riseTo_iff {hs ls : List Int} {k : Nat} : riseTo hs ls k = true ↔ ∀ i, i < k → riseOk hs ls i = true := by
  unfold riseTo
  rw [List.all_eq_true]
  simp only [List.mem_range]
/-- A walk. -/
def walkB (hs ls : List Int) : Bool := hgtB hs && (decide (hs.length = ls.length) && (outB ls && riseTo hs ls ls.length))
theorem walkB_iff {hs ls : List Int} : walkB hs ls = true ↔ hgtB hs = true ∧ hs.length = ls.length ∧ outB ls = true ∧ riseTo hs ls ls.length = true := by
  unfold walkB
  simp only [Bool.and_eq_true, decide_eq_true_eq]

/-- The parking function of a walk, as it is filled. -/
def powTo (hs ls : List Int) : Nat → List Int
  | 0 => List.replicate ls.length 0
  | k + 1 => (powTo hs ls k).set (nth ls k).toNat ((k : Int) - nth hs k)
theorem length_powTo (hs ls : List Int) : ∀ k, (powTo hs ls k).length = ls.length
  | 0 => by simp [powTo]
  | k + 1 => by simp [powTo, length_powTo hs ls k]
def powOf (hs ls : List Int) : List Int × Bool := if walkB hs ls then (powTo hs ls ls.length, true) else ([], false)
def areaOf (hs ls : List Int) : Int × Bool := if walkB hs ls then (total hs, true) else (0, false)

/-- Two rows are a pair. -/
def pairB (hs ls : List Int) (i j : Nat) : Bool := (decide (nth hs i = nth hs j) && decide (nth ls i < nth ls j)) || (decide (nth hs i = nth hs j + 1) && decide (nth ls j < nth ls i))
def pairRow (hs ls : List Int) (i c : Nat) : List (List Int) := ((List.range c).filter fun d => pairB hs ls i (i + 1 + d)).map fun (d : Nat) => [(i : Int), ((i + 1 + d : Nat) : Int)]
theorem pairRow_succ (hs ls : List Int) (i c : Nat) : pairRow hs ls i (c + 1) = pairRow hs ls i c ++ if pairB hs ls i (i + 1 + c) then [[(i : Int), ((i + 1 + c : Nat) : Int)]] else [] := by
  unfold pairRow
  rw [List.range_succ, List.filter_append, List.map_append]
  by_cases h : pairB hs ls i (i + 1 + c) = true
  · simp [h]
  · simp [h]
theorem length_pairRow (hs ls : List Int) (i c : Nat) : (pairRow hs ls i c).length ≤ c := by
  unfold pairRow
  rw [List.length_map]
  exact Nat.le_trans (List.length_filter_le _ _) (by simp)
def pairsTo (hs ls : List Int) (k : Nat) : List (List Int) := (List.range k).flatMap fun i => pairRow hs ls i (ls.length - (i + 1))
theorem pairsTo_succ (hs ls : List Int) (k : Nat) : pairsTo hs ls (k + 1) = pairsTo hs ls k ++ pairRow hs ls k (ls.length - (k + 1)) := by simp [pairsTo, List.range_succ]
theorem length_pairsTo (hs ls : List Int) : ∀ k, (pairsTo hs ls k).length ≤ k * ls.length
  | 0 => by simp [pairsTo]
  | k + 1 => by
    have h1 := length_pairsTo hs ls k
    have h2 := length_pairRow hs ls k (ls.length - (k + 1))
    rw [pairsTo_succ, List.length_append, Nat.succ_mul]
    omega
def pairsL (hs ls : List Int) : List (List Int) := pairsTo hs ls ls.length
def pairsOfW (hs ls : List Int) : List (List Int) × Bool := if walkB hs ls then (pairsL hs ls, true) else ([], false)
def pairCountOf (hs ls : List Int) : Int × Bool := if walkB hs ls then (((pairsL hs ls).length : Int), true) else (0, false)

def touchAt (hs : List Int) (i : Nat) : Bool := decide (0 < i) && decide (nth hs i = 0)
def touchesOf (hs ls : List Int) : List Int × Bool := if walkB hs ls then (idxs (touchAt hs) hs.length, true) else ([], false)

/-- The next number that is found from k on. -/
def bnext (hs : List Int) (k : Nat) : Nat := k + below ((startsL hs).drop k) ((k : Int) + 1)
def bncF (hs : List Int) : Nat → Nat → Nat
  | 0, _ => 0
  | f + 1, k => if k < hs.length then (hs.length - bnext hs k) + bncF hs f (bnext hs k) else 0
def bounceOf (hs : List Int) : Int × Bool := if hgtB hs then ((bncF hs hs.length 0 : Int), true) else (0, false)
theorem bnext_le {hs : List Int} {k : Nat} (hk : k ≤ hs.length) : bnext hs k ≤ hs.length := by
  have := below_le ((startsL hs).drop k) ((k : Int) + 1)
  rw [List.length_drop] at this
  unfold startsL at this
  rw [length_startsTo] at this
  unfold bnext startsL
  omega
theorem bnext_gt {hs : List Int} (h : hgtB hs = true) {k : Nat} (hk : k < hs.length) : k < bnext hs k := by
  obtain ⟨_, h2⟩ := hgt_of h rfl
  have hb := h2 k hk
  have hd : (startsL hs).drop k = ((k : Int) - nth hs k) :: (startsL hs).drop (k + 1) := by
    have hl : k < (startsL hs).length := by unfold startsL; rw [length_startsTo]; exact hk
    rw [List.drop_eq_getElem_cons hl]
    congr 1
    simp only [startsL, startsTo, List.getElem_map, List.getElem_range]
  unfold bnext
  rw [hd]
  unfold below
  rw [List.countP_cons]
  have : decide ((k : Int) - nth hs k < (k : Int) + 1) = true := by simp; omega
  rw [this]
  simp
theorem bncF_le {hs : List Int} (h8 : hs.length ≤ 8) : ∀ f k, bncF hs f k ≤ 8 * f
  | 0, k => by simp [bncF]
  | f + 1, k => by
    simp only [bncF]
    split
    · have := bncF_le h8 f (bnext hs k); omega
    · omega
theorem bncF_step {hs : List Int} {f k : Nat} (hk : k < hs.length) : bncF hs (f + 1) k = (hs.length - bnext hs k) + bncF hs f (bnext hs k) := by simp only [bncF]; rw [if_pos hk]
theorem bncF_end {hs : List Int} {f k : Nat} (hk : ¬ k < hs.length) : bncF hs f k = 0 := by cases f <;> simp [bncF, hk]

/-- Walks are counted by rows: the length of the run and the count so far. -/
def runAt (hs : List Int) : Nat → Int
  | 0 => 0
  | k + 1 => if raisedB hs k then runAt hs k + 1 else 1
def clTo (hs : List Int) : Nat → Int
  | 0 => 1
  | k + 1 => clTo hs k * ((k : Int) + 1) / runAt hs (k + 1)
theorem runAt_bounds (hs : List Int) : ∀ k, 0 ≤ runAt hs k ∧ runAt hs k ≤ (k : Int)
  | 0 => by simp [runAt]
  | k + 1 => by
    have := runAt_bounds hs k
    simp only [runAt]
    split <;> omega
def facH : Nat → Nat
  | 0 => 1
  | n + 1 => (n + 1) * facH n
theorem runAt_pos (hs : List Int) (k : Nat) : 1 ≤ runAt hs (k + 1) := by
  have := runAt_bounds hs k
  simp only [runAt]
  split <;> omega
theorem clTo_bounds (hs : List Int) : ∀ k, k ≤ 8 → 0 ≤ clTo hs k ∧ clTo hs k ≤ 40320
  | 0, _ => by simp [clTo]
  | 1, _ => by simp [clTo, runAt, raisedB]
  | k + 2, hk => by
    have hall : ∀ k, 0 ≤ clTo hs k ∧ clTo hs k ≤ (facH k : Int) := by
      intro k
      induction k with
      | zero => simp [clTo, facH]
      | succ k ih =>
        have h1 := runAt_pos hs k
        have h0 : 0 ≤ clTo hs k * ((k : Int) + 1) := Int.mul_nonneg ih.1 (by omega)
        refine ⟨Int.ediv_nonneg h0 (by omega), ?_⟩
        have h2 : clTo hs k * ((k : Int) + 1) / runAt hs (k + 1) ≤ clTo hs k * ((k : Int) + 1) := Int.ediv_le_self _ h0
        have h3 : clTo hs k * ((k : Int) + 1) ≤ (facH k : Int) * ((k : Int) + 1) := Int.mul_le_mul_of_nonneg_right ih.2 (by omega)
        have h4 : ((facH (k + 1) : Nat) : Int) = (facH k : Int) * ((k : Int) + 1) := by simp only [facH]; rw [Int.natCast_mul]; rw [Int.mul_comm]; rfl
        show clTo hs k * ((k : Int) + 1) / runAt hs (k + 1) ≤ _
        omega
    have h := hall (k + 2)
    have h5 : ∀ m, m < 9 → facH m ≤ 40320 := by decide +kernel
    have := h5 (k + 2) (by omega)
    omega
def labelsOf (hs : List Int) : Int × Bool := if hgtB hs then (clTo hs hs.length, true) else (0, false)

/-- The numbers 0, 1, .. in order. -/
def firstOfW (hs : List Int) : (List Int × List Int) × Bool := if hgtB hs then ((hs, upto hs.length), true) else (([], []), false)
end Go.Proofs.YtakadjhbomggbaaGreat

namespace Go.Proofs.YtakadjhbomggbaaGreat
open Go.RowKit Go.Sort

/-- The cars with favourites below x, by their favourites. -/
def carsTo (xs : List Int) : Nat → List Int
  | 0 => []
  | x + 1 => carsTo xs x ++ idxs (fun c => decide (nth xs c = (x : Int))) xs.length
def carsL (xs : List Int) : List Int := carsTo xs xs.length
theorem mem_idxsZ {f : Nat → Bool} {n : Nat} {v : Int} : v ∈ idxs f n ↔ ∃ c : Nat, c < n ∧ f c = true ∧ v = (c : Int) := by
  unfold idxs
  simp only [List.mem_map, List.mem_filter, List.mem_range]
  constructor
  · rintro ⟨c, ⟨h1, h2⟩, h3⟩; exact ⟨c, h1, h2, h3.symm⟩
  · rintro ⟨c, h1, h2, h3⟩; exact ⟨c, ⟨h1, h2⟩, h3.symm⟩
theorem mem_carsTo {xs : List Int} (h0 : ∀ c, c < xs.length → 0 ≤ nth xs c) : ∀ {x : Nat} {v : Int}, v ∈ carsTo xs x ↔ ∃ c : Nat, c < xs.length ∧ nth xs c < (x : Int) ∧ v = (c : Int)
  | 0, v => by
    simp only [carsTo, List.not_mem_nil, false_iff]
    rintro ⟨c, h1, h2, _⟩
    have := h0 c h1
    omega
  | x + 1, v => by
    simp only [carsTo, List.mem_append, mem_carsTo h0, mem_idxsZ, decide_eq_true_eq]
    constructor
    · rintro (⟨c, h1, h2, h3⟩ | ⟨c, h1, h2, h3⟩)
      · exact ⟨c, h1, by omega, h3⟩
      · exact ⟨c, h1, by omega, h3⟩
    · rintro ⟨c, h1, h2, h3⟩
      by_cases e : nth xs c = (x : Int)
      · exact .inr ⟨c, h1, e, h3⟩
      · exact .inl ⟨c, h1, by omega, h3⟩
/-- A car's place in the order. -/
def keyC (xs : List Int) (v : Int) : Int := nth xs v.toNat * 100 + v
theorem carsTo_sorted {xs : List Int} (h8 : xs.length ≤ 50) (h0 : ∀ c, c < xs.length → 0 ≤ nth xs c) : ∀ x : Nat, (carsTo xs x).Pairwise fun v w => keyC xs v < keyC xs w
  | 0 => List.Pairwise.nil
  | x + 1 => by
    simp only [carsTo]
    rw [List.pairwise_append]
    refine ⟨carsTo_sorted h8 h0 x, ?_, fun v hv w hw => ?_⟩
    · unfold idxs
      rw [List.pairwise_map]
      have hp : ((List.range xs.length).filter fun c => decide (nth xs c = (x : Int))).Pairwise (· < ·) := List.Pairwise.filter _ (List.pairwise_lt_range)
      refine hp.imp_of_mem fun {a b} ha hb hab => ?_
      simp only [List.mem_filter, decide_eq_true_eq] at ha hb
      simp only [keyC, Int.toNat_natCast]
      omega
    · obtain ⟨c, h1, h2, rfl⟩ := (mem_carsTo h0).1 hv
      obtain ⟨d, h3, h4, rfl⟩ := mem_idxsZ.1 hw
      simp only [decide_eq_true_eq] at h4
      simp only [keyC, Int.toNat_natCast]
      omega

/-! ### An insertion sort asks only of the number that it inserts -/
theorem insInner_congr {α : Type} [Inhabited α] {lt lt' : α → α → Bool} (a : Nat) : ∀ (j : Nat) (d : Array α), j < d.size → (∀ k, k < j → lt d[j]! d[k]! = lt' d[j]! d[k]!) → insInner lt a j d = insInner lt' a j d
  | 0, d, _, _ => rfl
  | j + 1, d, hj, h => by
    unfold insInner
    rw [h j (by omega)]
    split
    · refine insInner_congr a j _ (by rw [size_swp]; omega) fun k hk => ?_
      rw [swp_right d (j + 1) j (by omega), swp_other d (j + 1) j k (by omega) (by omega)]
      exact h k (by omega)
    · rfl
theorem insInner_get {α : Type} [Inhabited α] {lt : α → α → Bool} (a : Nat) : ∀ (j : Nat) (d : Array α), j < d.size → (insInner lt a j d).size = d.size ∧ (∀ k, j < k → (insInner lt a j d)[k]! = d[k]!) ∧ ∀ k, k ≤ j → ∃ k', k' ≤ j ∧ (insInner lt a j d)[k]! = d[k']!
  | 0, d, _ => ⟨rfl, fun _ _ => rfl, fun k hk => ⟨k, hk, rfl⟩⟩
  | j + 1, d, hj => by
    unfold insInner
    split
    · obtain ⟨h1, h2, h3⟩ := insInner_get (lt := lt) a j (swp d (j + 1) j) (by rw [size_swp]; omega)
      refine ⟨by rw [h1, size_swp], fun k hk => by rw [h2 k (by omega), swp_other d (j + 1) j k (by omega) (by omega)], fun k hk => ?_⟩
      by_cases e : k = j + 1
      · subst e
        rw [h2 (j + 1) (by omega), swp_left d (j + 1) j hj (by omega)]
        exact ⟨j, by omega, rfl⟩
      · obtain ⟨k', hk', e'⟩ := h3 k (by omega)
        rw [e']
        by_cases e2 : k' = j
        · subst e2
          rw [swp_right d (k' + 1) k' (by omega)]
          exact ⟨k' + 1, by omega, rfl⟩
        · rw [swp_other d (j + 1) j k' (by omega) e2]
          exact ⟨k', by omega, rfl⟩
    · exact ⟨rfl, fun _ _ => rfl, fun k hk => ⟨k, hk, rfl⟩⟩
/-- Two orders that agree where the later number is asked for first. -/
theorem insOuter_congr {m : Nat} {lt lt' : Fin (m + 1) → Fin (m + 1) → Bool} (h : ∀ x y : Fin (m + 1), y.val < x.val → lt x y = lt' x y) (b : Nat) : ∀ (f i : Nat) (d : Array (Fin (m + 1))), b - i = f → b ≤ d.size → d.size ≤ m + 1 →
    (∀ k, k < i → k < d.size → (d[k]!).val < i) → (∀ k, i ≤ k → k < d.size → (d[k]!).val = k) → insOuter lt 0 b i d = insOuter lt' 0 b i d
  | 0, i, d, hf, hb, hm, h1, h2 => by
    unfold insOuter
    rw [if_neg (by omega), if_neg (by omega)]
  | f + 1, i, d, hf, hb, hm, h1, h2 => by
    unfold insOuter
    rw [if_pos (by omega), if_pos (by omega)]
    have e : insInner lt 0 i d = insInner lt' 0 i d := insInner_congr 0 i d (by omega) fun k hk => h _ _ (by rw [h2 i (Nat.le_refl _) (by omega)]; exact h1 k hk (by omega))
    rw [e]
    obtain ⟨g1, g2, g3⟩ := insInner_get (lt := lt') 0 i d (by omega)
    refine insOuter_congr h b f (i + 1) _ (by omega) (by rw [g1]; exact hb) (by rw [g1]; exact hm) (fun k hk hs => ?_) (fun k hk hs => ?_)
    · obtain ⟨k', hk', e'⟩ := g3 k (by omega)
      rw [e']
      by_cases e2 : k' = i
      · subst e2
        rw [h2 k' (Nat.le_refl _) (by omega)]
        omega
      · have := h1 k' (by omega) (by omega)
        omega
    · rw [g2 k (by omega)]
      exact h2 k (by omega) (by rw [g1] at hs; exact hs)

/-- A permutation, in order: what a sort leaves. -/
theorem sorted_cars_list {α : Type} [Inhabited α] {lt : α → α → Bool} {ds : List α} {d' : Array α} {n : Nat} (hn : ds.length = n) (hp : PermIn 0 n ds.toArray d') (hs : SortedIn lt 0 n d') : d'.toList.Perm ds ∧ d'.toList.Pairwise (fun x y => lt y x = false) := by
  subst hn
  obtain ⟨h1, _, h3⟩ := hp
  have hsz : d'.size = ds.length := by simpa using h1
  constructor
  · have e1 : d'.extract 0 ds.length = d' := by rw [← hsz]; simp
    have e2 : ds.toArray.extract 0 ds.length = ds.toArray := by simp
    rw [e1, e2] at h3
    simpa using h3
  · rw [List.pairwise_iff_getElem]
    intro i j hi hj hij
    have := hs i j (Nat.zero_le _) hij (by simpa [hsz] using hj)
    have hi' : i < d'.size := by simpa using hi
    have hj' : j < d'.size := by simpa using hj
    rw [getElem!_pos d' j hj', getElem!_pos d' i hi'] at this
    simpa using this

def allFin (m : Nat) : List (Fin (m + 1)) := List.finRange (m + 1)
theorem allFin_get {m k : Nat} (hk : k < m + 1) : ((allFin m).toArray[k]!).val = k := by
  rw [getElem!_pos _ k (by simp [allFin]; exact hk)]
  simp [allFin]
/-- The cars in order, sorted by favourites, are those that are listed. -/
theorem sort_cars {m : Nat} {xs : List Int} (hl : xs.length = m + 1) (h8 : m + 1 ≤ 50) (hb : ∀ c, c < m + 1 → 0 ≤ nth xs c ∧ nth xs c < (m : Int) + 1) :
    (insertionSort (fun x y : Fin (m + 1) => decide (nth xs x.val < nth xs y.val)) (allFin m).toArray 0 (m + 1)).toList.map (fun i => ((i.val : Nat) : Int)) = carsL xs := by
  have hsz : (allFin m).toArray.size = m + 1 := by simp [allFin]
  have hcong : insertionSort (fun x y : Fin (m + 1) => decide (nth xs x.val < nth xs y.val)) (allFin m).toArray 0 (m + 1) = insertionSort (fun x y : Fin (m + 1) => decide (keyC xs x.val < keyC xs y.val)) (allFin m).toArray 0 (m + 1) := by
    unfold insertionSort
    refine insOuter_congr (fun x y hxy => ?_) (m + 1) m 1 _ (by omega) (by rw [hsz]; omega) (by rw [hsz]; omega) (fun k hk hs => ?_) (fun k hk hs => ?_)
    · have hx := hb x.val x.isLt
      have hy := hb y.val y.isLt
      have h1 := x.isLt
      unfold keyC
      rw [Int.toNat_natCast, Int.toNat_natCast]
      rw [decide_eq_decide]
      omega
    · rw [allFin_get (by omega)]; exact hk
    · rw [allFin_get (by omega)]
  rw [hcong]
  have hswo : SWO (fun x y : Fin (m + 1) => decide (keyC xs x.val < keyC xs y.val)) := ⟨fun x => by simp, fun x y z h1 h2 => by simp at *; omega, fun x y z h1 h2 => by simp at *; omega⟩
  obtain ⟨hp, hs⟩ := insertionSort_holds hswo (allFin m).toArray 0 (m + 1) (by omega) (by rw [hsz]; omega)
  generalize insertionSort (fun x y : Fin (m + 1) => decide (keyC xs x.val < keyC xs y.val)) (allFin m).toArray 0 (m + 1) = d' at hp hs ⊢
  have hlen : (allFin m).length = m + 1 := by simp [allFin]
  obtain ⟨q1, q2⟩ := sorted_cars_list hlen hp hs
  have h0 : ∀ c, c < xs.length → 0 ≤ nth xs c := fun c hc => (hb c (by omega)).1
  have hsorted := carsTo_sorted (by omega) h0 xs.length
  have hmem : ∀ v : Int, v ∈ carsL xs ↔ v ∈ (allFin m).map (fun i => ((i.val : Nat) : Int)) := fun v => by
    unfold carsL
    rw [mem_carsTo h0, List.mem_map]
    constructor
    · rintro ⟨c, h1, h2, rfl⟩
      exact ⟨⟨c, by omega⟩, by simp [allFin], rfl⟩
    · rintro ⟨c, _, rfl⟩
      have h1 := c.isLt
      exact ⟨c.val, by omega, by have := hb c.val h1; omega, rfl⟩
  have hnd : (carsL xs).Nodup := hsorted.imp fun {a b} hab => by rintro rfl; omega
  have hnd2 : ((allFin m).map (fun i => ((i.val : Nat) : Int))).Nodup := by
    unfold allFin
    refine List.Pairwise.map _ (fun a b hab => ?_) (List.nodup_finRange (m + 1))
    intro e
    exact hab (Fin.ext (by omega))
  have hperm : (carsL xs).Perm ((allFin m).map (fun i => ((i.val : Nat) : Int))) := (List.perm_ext_iff_of_nodup hnd hnd2).2 hmem
  have hd : (d'.toList.map (fun i => ((i.val : Nat) : Int))).Perm (carsL xs) := (q1.map _).trans hperm.symm
  refine List.Perm.eq_of_pairwise (le := fun v w => keyC xs v ≤ keyC xs w) (fun a b ha hb' h1 h2 => ?_) ?_ (hsorted.imp fun {a b} hab => by omega) hd
  · have ha' := (hmem a).1 (hd.subset ha)
    have hb'' := (hmem b).1 hb'
    simp only [List.mem_map] at ha' hb''
    obtain ⟨i, _, rfl⟩ := ha'
    obtain ⟨j, _, rfl⟩ := hb''
    have hi := hb i.val i.isLt
    have hj := hb j.val j.isLt
    have h3 := i.isLt
    have h4 := j.isLt
    unfold keyC at h1 h2
    rw [Int.toNat_natCast, Int.toNat_natCast] at h1 h2
    omega
  · rw [List.pairwise_map]
    exact q2.imp fun {a b} hab => by simp at hab; omega
theorem carsL_perm {xs : List Int} {n : Nat} (hl : xs.length = n) (h8 : n ≤ 50) (hb : ∀ c, c < n → 0 ≤ nth xs c ∧ nth xs c < (n : Int)) : (carsL xs).Perm (upto n) := by
  subst hl
  have h0 : ∀ c, c < xs.length → 0 ≤ nth xs c := fun c hc => (hb c hc).1
  have hsorted := carsTo_sorted h8 h0 xs.length
  have hnd : (carsL xs).Nodup := hsorted.imp fun {a b} hab => by rintro rfl; omega
  have hnd2 : (upto xs.length).Nodup := by
    unfold upto
    refine List.Pairwise.map _ (fun a b hab => ?_) (List.nodup_range)
    intro e
    exact hab (by omega)
  refine (List.perm_ext_iff_of_nodup hnd hnd2).2 fun v => ?_
  unfold carsL
  rw [mem_carsTo h0]
  unfold upto
  rw [List.mem_map]
  simp only [List.mem_range]
  constructor
  · rintro ⟨c, h1, _, rfl⟩; exact ⟨c, h1, rfl⟩
  · rintro ⟨c, h1, rfl⟩; exact ⟨c, h1, (hb c h1).2, rfl⟩
theorem length_carsL {xs : List Int} {n : Nat} (hl : xs.length = n) (h8 : n ≤ 50) (hb : ∀ c, c < n → 0 ≤ nth xs c ∧ nth xs c < (n : Int)) : (carsL xs).length = n := by
  rw [(carsL_perm hl h8 hb).length_eq, length_upto]
/-- The heights of cars in a row. -/
def hgtOf (xs ls : List Int) : List Int := (List.range ls.length).map fun (i : Nat) => (i : Int) - nth xs (nth ls i).toNat
theorem length_hgtOf (xs ls : List Int) : (hgtOf xs ls).length = ls.length := by simp [hgtOf]
theorem nth_hgtOf {xs ls : List Int} {i : Nat} (h : i < ls.length) : nth (hgtOf xs ls) i = (i : Int) - nth xs (nth ls i).toNat := by simp [nth, hgtOf, h]
def walkOf (xs : List Int) : (List Int × List Int) × Bool := if isPark xs then ((hgtOf xs (carsL xs), carsL xs), true) else (([], []), false)
end Go.Proofs.YtakadjhbomggbaaGreat

namespace Go.Proofs.YtakadjhbomggbaaGreat
open Go.RowKit Go.Sort

/-- The cars in order, sorted by favourites, are those that are listed. -/
theorem sort_carsP {m P : Nat} {xs : List Int} (hl : xs.length = m + 1) (h8 : m + 1 ≤ 50) (hb : ∀ c, c < m + 1 → 0 ≤ nth xs c ∧ nth xs c < (P : Int)) :
    (insertionSort (fun x y : Fin (m + 1) => decide (nth xs x.val < nth xs y.val)) (allFin m).toArray 0 (m + 1)).toList.map (fun i => ((i.val : Nat) : Int)) = carsTo xs P := by
  have hsz : (allFin m).toArray.size = m + 1 := by simp [allFin]
  have hcong : insertionSort (fun x y : Fin (m + 1) => decide (nth xs x.val < nth xs y.val)) (allFin m).toArray 0 (m + 1) = insertionSort (fun x y : Fin (m + 1) => decide (keyC xs x.val < keyC xs y.val)) (allFin m).toArray 0 (m + 1) := by
    unfold insertionSort
    refine insOuter_congr (fun x y hxy => ?_) (m + 1) m 1 _ (by omega) (by rw [hsz]; omega) (by rw [hsz]; omega) (fun k hk hs => ?_) (fun k hk hs => ?_)
    · have hx := hb x.val x.isLt
      have hy := hb y.val y.isLt
      have h1 := x.isLt
      unfold keyC
      rw [Int.toNat_natCast, Int.toNat_natCast]
      rw [decide_eq_decide]
      omega
    · rw [allFin_get (by omega)]; exact hk
    · rw [allFin_get (by omega)]
  rw [hcong]
  have hswo : SWO (fun x y : Fin (m + 1) => decide (keyC xs x.val < keyC xs y.val)) := ⟨fun x => by simp, fun x y z h1 h2 => by simp at *; omega, fun x y z h1 h2 => by simp at *; omega⟩
  obtain ⟨hp, hs⟩ := insertionSort_holds hswo (allFin m).toArray 0 (m + 1) (by omega) (by rw [hsz]; omega)
  generalize insertionSort (fun x y : Fin (m + 1) => decide (keyC xs x.val < keyC xs y.val)) (allFin m).toArray 0 (m + 1) = d' at hp hs ⊢
  have hlen : (allFin m).length = m + 1 := by simp [allFin]
  obtain ⟨q1, q2⟩ := sorted_cars_list hlen hp hs
  have h0 : ∀ c, c < xs.length → 0 ≤ nth xs c := fun c hc => (hb c (by omega)).1
  have hsorted := carsTo_sorted (by omega) h0 P
  have hmem : ∀ v : Int, v ∈ carsTo xs P ↔ v ∈ (allFin m).map (fun i => ((i.val : Nat) : Int)) := fun v => by
    rw [mem_carsTo h0, List.mem_map]
    constructor
    · rintro ⟨c, h1, h2, rfl⟩
      exact ⟨⟨c, by omega⟩, by simp [allFin], rfl⟩
    · rintro ⟨c, _, rfl⟩
      have h1 := c.isLt
      exact ⟨c.val, by omega, by have := hb c.val h1; omega, rfl⟩
  have hnd : (carsTo xs P).Nodup := hsorted.imp fun {a b} hab => by rintro rfl; omega
  have hnd2 : ((allFin m).map (fun i => ((i.val : Nat) : Int))).Nodup := by
    unfold allFin
    refine List.Pairwise.map _ (fun a b hab => ?_) (List.nodup_finRange (m + 1))
    intro e
    exact hab (Fin.ext (by omega))
  have hperm : (carsTo xs P).Perm ((allFin m).map (fun i => ((i.val : Nat) : Int))) := (List.perm_ext_iff_of_nodup hnd hnd2).2 hmem
  have hd : (d'.toList.map (fun i => ((i.val : Nat) : Int))).Perm (carsTo xs P) := (q1.map _).trans hperm.symm
  refine List.Perm.eq_of_pairwise (le := fun v w => keyC xs v ≤ keyC xs w) (fun a b ha hb' h1 h2 => ?_) ?_ (hsorted.imp fun {a b} hab => by omega) hd
  · have ha' := (hmem a).1 (hd.subset ha)
    have hb'' := (hmem b).1 hb'
    simp only [List.mem_map] at ha' hb''
    obtain ⟨i, _, rfl⟩ := ha'
    obtain ⟨j, _, rfl⟩ := hb''
    have hi := hb i.val i.isLt
    have hj := hb j.val j.isLt
    have h3 := i.isLt
    have h4 := j.isLt
    unfold keyC at h1 h2
    rw [Int.toNat_natCast, Int.toNat_natCast] at h1 h2
    omega
  · rw [List.pairwise_map]
    exact q2.imp fun {a b} hab => by simp at hab; omega
theorem carsP_perm {xs : List Int} {n P : Nat} (hl : xs.length = n) (h8 : n ≤ 50) (hb : ∀ c, c < n → 0 ≤ nth xs c ∧ nth xs c < (P : Int)) : (carsTo xs P).Perm (upto n) := by
  subst hl
  have h0 : ∀ c, c < xs.length → 0 ≤ nth xs c := fun c hc => (hb c hc).1
  have hsorted := carsTo_sorted h8 h0 P
  have hnd : (carsTo xs P).Nodup := hsorted.imp fun {a b} hab => by rintro rfl; omega
  have hnd2 : (upto xs.length).Nodup := by
    unfold upto
    refine List.Pairwise.map _ (fun a b hab => ?_) (List.nodup_range)
    intro e
    exact hab (by omega)
  refine (List.perm_ext_iff_of_nodup hnd hnd2).2 fun v => ?_
  rw [mem_carsTo h0]
  unfold upto
  rw [List.mem_map]
  simp only [List.mem_range]
  constructor
  · rintro ⟨c, h1, _, rfl⟩; exact ⟨c, h1, rfl⟩
  · rintro ⟨c, h1, rfl⟩; exact ⟨c, h1, (hb c h1).2, rfl⟩
theorem length_carsP {xs : List Int} {n P : Nat} (hl : xs.length = n) (h8 : n ≤ 50) (hb : ∀ c, c < n → 0 ≤ nth xs c ∧ nth xs c < (P : Int)) : (carsTo xs P).length = n := by
  rw [(carsP_perm hl h8 hb).length_eq, length_upto]
/-- A car behind all that are not farther, in a list of cars. -/
def insC (xs : List Int) (v : Int) : List Int → List Int
  | [] => [v]
  | u :: r => if nth xs u.toNat ≤ nth xs v.toNat then u :: insC xs v r else v :: u :: r
def fairTo (xs : List Int) : Nat → List Int
  | 0 => []
  | k + 1 => insC xs (k : Int) (fairTo xs k)
theorem insC_at {xs : List Int} {v : Int} : ∀ (k : Nat) (out : List Int), k ≤ out.length → (∀ j, j < k → nth xs (nth out j).toNat ≤ nth xs v.toNat) → (k = out.length ∨ nth xs v.toNat < nth xs (nth out k).toNat) → insC xs v out = out.take k ++ [v] ++ out.drop k
  | 0, [], _, _, _ => rfl
  | 0, y :: ys, _, _, h => by
    rcases h with h | h
    · simp at h
    · rw [nth_cons_zero] at h
      simp only [insC, if_neg (by omega : ¬ nth xs y.toNat ≤ nth xs v.toNat)]
      rfl
  | k + 1, [], h, _, _ => by simp at h
  | k + 1, y :: ys, hk, h, he => by
    have h0 := h 0 (by omega)
    rw [nth_cons_zero] at h0
    simp only [insC, if_pos h0]
    rw [insC_at k ys (by simp at hk; omega) (fun j hj => by have := h (j + 1) (by omega); rwa [nth_cons_succ] at this) (by rw [nth_cons_succ] at he; simpa using he)]
    simp
theorem insC_perm (xs : List Int) (v : Int) : ∀ out, (insC xs v out).Perm (v :: out)
  | [] => List.Perm.refl _
  | u :: r => by
    simp only [insC]
    split
    · exact ((insC_perm xs v r).cons u).trans (List.Perm.swap v u r)
    · exact List.Perm.refl _
theorem fairTo_perm (xs : List Int) : ∀ k, (fairTo xs k).Perm (upto k)
  | 0 => List.Perm.refl _
  | k + 1 => by
    have e : upto (k + 1) = upto k ++ [(k : Int)] := by simp [upto, List.range_succ]
    rw [e]
    exact ((insC_perm xs k _).trans ((fairTo_perm xs k).cons _)).trans (List.perm_append_comm (l₁ := [(k : Int)]))
theorem mem_upto {k : Nat} {v : Int} : v ∈ upto k ↔ ∃ c : Nat, c < k ∧ v = (c : Int) := by
  unfold upto
  simp only [List.mem_map, List.mem_range]
  constructor
  · rintro ⟨c, h, rfl⟩; exact ⟨c, h, rfl⟩
  · rintro ⟨c, h, rfl⟩; exact ⟨c, h, rfl⟩
theorem insC_sorted {xs : List Int} {v : Nat} (hv : v < 50) : ∀ out : List Int, (∀ u ∈ out, ∃ c : Nat, c < v ∧ u = (c : Int)) → out.Pairwise (fun a b => keyC xs a ≤ keyC xs b) → (insC xs v out).Pairwise fun a b => keyC xs a ≤ keyC xs b
  | [], _, _ => by simp [insC]
  | u :: r, hm, h => by
    obtain ⟨hu, hr⟩ := List.pairwise_cons.1 h
    simp only [insC]
    split
    · rename_i hle
      refine List.pairwise_cons.2 ⟨fun z hz => ?_, insC_sorted hv r (fun x hx => hm x (List.mem_cons_of_mem _ hx)) hr⟩
      rcases List.mem_cons.1 ((insC_perm xs v r).subset hz) with rfl | hz
      · obtain ⟨c, hc, rfl⟩ := hm u (List.mem_cons_self ..)
        unfold keyC
        simp only [Int.toNat_natCast] at *
        omega
      · exact hu z hz
    · rename_i hle
      refine List.pairwise_cons.2 ⟨fun z hz => ?_, h⟩
      have key : ∀ z ∈ u :: r, keyC xs u ≤ keyC xs z := fun z hz => by
        rcases List.mem_cons.1 hz with rfl | hz
        · exact Int.le_refl _
        · exact hu z hz
      have := key z hz
      obtain ⟨c, hc, rfl⟩ := hm u (List.mem_cons_self ..)
      unfold keyC at this ⊢
      simp only [Int.toNat_natCast] at *
      omega
theorem fairTo_sorted {xs : List Int} : ∀ k, k ≤ 50 → (fairTo xs k).Pairwise fun a b => keyC xs a ≤ keyC xs b
  | 0, _ => List.Pairwise.nil
  | k + 1, hk => insC_sorted (by omega) _ (fun u hu => mem_upto.1 ((fairTo_perm xs k).subset hu)) (fairTo_sorted k (by omega))
/-- Two lists of cars by favourites, equal ones by their numbers, are one. -/
theorem keyC_unique {xs ys zs : List Int} {n : Nat} (hn : n ≤ 50) (hy : ys.Perm (upto n)) (h : zs.Perm ys) (sy : ys.Pairwise fun a b => keyC xs a ≤ keyC xs b) (sz : zs.Pairwise fun a b => keyC xs a ≤ keyC xs b) : zs = ys := by
  refine List.Perm.eq_of_pairwise (le := fun v w => keyC xs v ≤ keyC xs w) (fun a b ha hb' h1 h2 => ?_) sz sy h
  obtain ⟨i, hi, rfl⟩ := mem_upto.1 ((h.trans hy).subset ha)
  obtain ⟨j, hj, rfl⟩ := mem_upto.1 (hy.subset hb')
  unfold keyC at h1 h2
  rw [Int.toNat_natCast, Int.toNat_natCast] at h1 h2
  omega
/-- The order by favourites: of 12 places at most. -/
def fairL (xs : List Int) : List Int := carsTo xs 12
theorem fairTo_cars {xs : List Int} {n P : Nat} (hl : xs.length = n) (h8 : n ≤ 50) (hb : ∀ c, c < n → 0 ≤ nth xs c ∧ nth xs c < (P : Int)) : fairTo xs n = carsTo xs P :=
  keyC_unique h8 (carsP_perm hl h8 hb) ((fairTo_perm xs n).trans (carsP_perm hl h8 hb).symm) ((carsTo_sorted (by omega) (fun c hc => (hb c (by omega)).1) P).imp fun h => by omega) (fairTo_sorted n h8)
theorem carsP_nth {xs : List Int} {n P : Nat} (hl : xs.length = n) (h8 : n ≤ 50) (hb : ∀ c, c < n → 0 ≤ nth xs c ∧ nth xs c < (P : Int)) {k : Nat} (hk : k < n) : ∃ c : Nat, nth (carsTo xs P) k = (c : Int) ∧ c < n := by
  have hp := carsP_perm hl h8 hb
  have hm : nth (carsTo xs P) k ∈ carsTo xs P := nth_mem (by rw [length_carsP hl h8 hb]; exact hk)
  obtain ⟨c, hc, e⟩ := mem_upto.1 (hp.subset hm)
  exact ⟨c, e, hc⟩
/-- On a street that is longer the order is the same. -/
theorem carsTo_same {xs : List Int} {n P Q : Nat} (hl : xs.length = n) (h8 : n ≤ 50) (hb : ∀ c, c < n → 0 ≤ nth xs c ∧ nth xs c < (P : Int)) (hPQ : P ≤ Q) : carsTo xs P = carsTo xs Q := by
  rw [← fairTo_cars hl h8 hb, ← fairTo_cars hl h8 (P := Q) (fun c hc => by have := hb c hc; omega)]
end Go.Proofs.YtakadjhbomggbaaGreat

namespace Go.Proofs.YtakadjhbomggbaaGreat
open Go.RowKit

def primeB (xs : List Int) : Bool := decide (0 < xs.length) && decide (idxs (isCut xs) xs.length = [])
def primeOf (xs : List Int) : Bool × Bool := if isPark xs then (primeB xs, true) else (false, false)
def cntPrimeOf (n : Int) : Int × Bool := if inB n 1 8 then ((((n.toNat - 1) ^ (n.toNat - 1) : Nat) : Int), true) else (0, false)
end Go.Proofs.YtakadjhbomggbaaGreat

namespace Go.Proofs.YtakadjhbomggbaaGreat
open Go.RowKit

def allPrimeOf (n : Int) : List (List Int) × Bool := if inB n 1 5 then ((listL n.toNat n.toNat []).filter primeB, true) else ([], false)
/-- The bounds of prime lists. -/
def pbs (n : Nat) : List Int := (List.range n).map fun (i : Nat) => ((i - 1 : Nat) : Int)
theorem length_pbs (n : Nat) : (pbs n).length = n := by simp [pbs]
theorem nth_pbs {n i : Nat} (h : i < n) : nth (pbs n) i = ((i - 1 : Nat) : Int) := by simp [nth, pbs, h]
theorem pbs_bnd (n : Nat) : Bnd (pbs n) := by
  refine ⟨?_, fun b hb => ?_⟩
  · unfold pbs
    rw [List.pairwise_map]
    exact (List.pairwise_lt_range).imp fun h => by omega
  · unfold pbs at hb
    obtain ⟨i, _, rfl⟩ := List.mem_map.1 hb
    omega
theorem prime_list : ∀ n, n < 6 → 0 < n → allB' (pbs n) = (listL n n []).filter primeB := by decide +kernel
theorem cnt_prime : ∀ n, n < 6 → 0 < n → cntB (pbs n) = (n - 1) ^ (n - 1) := by decide +kernel

/-! ### The first place of a part -/
/-- A cut, or 0. -/
def st (xs : List Int) (b : Nat) : Bool := decide (below xs (b : Int) = b)
def begF (xs : List Int) : Nat → Nat
  | 0 => 0
  | b + 1 => if b + 1 < below xs ((b + 1 : Nat) : Int) then begF xs b else b + 1
theorem begF_le (xs : List Int) : ∀ b, begF xs b ≤ b
  | 0 => Nat.le_refl _
  | b + 1 => by
    unfold begF
    split
    · exact Nat.le_succ_of_le (begF_le xs b)
    · exact Nat.le_refl _
theorem below_zero {xs : List Int} (h : ∀ x ∈ xs, 0 ≤ x) : below xs 0 = 0 := by
  unfold below
  rw [List.countP_eq_zero]
  intro x hx
  have := h x hx
  simp
  omega
theorem begF_go {xs : List Int} {b : Nat} (h : b < below xs (b : Int)) (h0 : ∀ x ∈ xs, 0 ≤ x) : 0 < b ∧ begF xs b = begF xs (b - 1) := by
  cases b with
  | zero => rw [show ((0 : Nat) : Int) = 0 from rfl, below_zero h0] at h; omega
  | succ b => exact ⟨by omega, by rw [begF, if_pos h, Nat.add_sub_cancel]⟩
theorem begF_stop {xs : List Int} {b : Nat} (h : ¬ b < below xs (b : Int)) : begF xs b = b := by
  cases b with
  | zero => rfl
  | succ b => rw [begF, if_neg h]
/-- In increasing order. -/
theorem park_sorted {xs : List Int} (h : isPark xs = true) : ∀ i, i < xs.length → 0 ≤ nth (insSort xs) i ∧ nth (insSort xs) i ≤ (i : Int) := by
  have hb := isPark_bounds h
  have h1 : ∀ x ∈ xs, 0 ≤ x := fun x hx => (hb.2 x hx).1
  have h2 := (isPark_zpark hb.1 h1).1 h
  intro i hi
  have hl := length_insSort xs
  refine ⟨h1 _ ((insSort_perm xs).subset (nth_mem (by rw [hl]; exact hi))), ?_⟩
  have := h2 i hi
  rw [Nat.sub_self, Nat.add_zero, ← below_perm (insSort_perm xs)] at this
  have h3 := (below_sorted (insSort_sorted xs) (k := i) (by rw [hl]; exact hi) ((i : Int) + 1)).1 this
  omega
theorem below_ge {xs : List Int} (h : isPark xs = true) {b : Nat} (hb : b ≤ xs.length) : b ≤ below xs (b : Int) := by
  cases b with
  | zero => exact Nat.zero_le _
  | succ b =>
    have hl := length_insSort xs
    have h1 := park_sorted h b (by omega)
    have h2 := (below_sorted (insSort_sorted xs) (k := b) (by omega) ((b : Int) + 1)).2 (by omega)
    rw [below_perm (insSort_perm xs)] at h2
    have : ((b + 1 : Nat) : Int) = (b : Int) + 1 := by omega
    rw [this]
    omega
theorem st_iff {xs : List Int} (h : isPark xs = true) {b : Nat} (hb : b ≤ xs.length) : st xs b = true ↔ ¬ b < below xs (b : Int) := by
  have := below_ge h hb
  simp only [st, decide_eq_true_eq]
  omega
theorem st_at {xs : List Int} (h : isPark xs = true) {b : Nat} (hb : b < xs.length) : st xs b = true ↔ nth (insSort xs) b = (b : Int) := by
  rw [st_iff h (by omega), ← below_perm (insSort_perm xs), below_sorted (insSort_sorted xs) (by rw [length_insSort]; exact hb)]
  have := park_sorted h b hb
  omega
theorem begF_st {xs : List Int} (h : isPark xs = true) : ∀ b, b ≤ xs.length → st xs (begF xs b) = true ∧ ∀ c, begF xs b < c → c ≤ b → st xs c = false
  | 0, _ => ⟨by
      show st xs 0 = true
      rw [st_iff h (Nat.zero_le _), show ((0 : Nat) : Int) = 0 from rfl, below_zero (fun x hx => ((isPark_bounds h).2 x hx).1)]
      omega, fun c h1 h2 => by simp [begF] at h1; omega⟩
  | b + 1, hb => by
    obtain ⟨g1, g2⟩ := begF_st h b (by omega)
    by_cases hc : b + 1 < below xs ((b + 1 : Nat) : Int)
    · rw [begF, if_pos hc]
      refine ⟨g1, fun c h1 h2 => ?_⟩
      by_cases e : c = b + 1
      · subst e
        rw [Bool.eq_false_iff]
        intro hh
        exact ((st_iff h hb).1 hh) hc
      · exact g2 c h1 (by omega)
    · rw [begF, if_neg hc]
      exact ⟨(st_iff h hb).2 hc, fun c h1 h2 => by omega⟩
theorem begF_eq {xs : List Int} (h : isPark xs = true) {a b : Nat} (hb : b ≤ xs.length) (ha : a ≤ b) (h1 : st xs a = true) (h2 : ∀ c, a < c → c ≤ b → st xs c = false) : begF xs b = a := by
  obtain ⟨g1, g2⟩ := begF_st h b hb
  have := begF_le xs b
  rcases Nat.lt_trichotomy (begF xs b) a with h3 | h3 | h3
  · rw [g2 a h3 ha] at h1; cases h1
  · exact h3
  · rw [h2 _ h3 this] at g1; cases g1

/-! ### Cars by the parts in which they are -/
def begC (xs : List Int) (c : Int) : Nat := begF xs (nth xs c.toNat).toNat
def grp (xs cars : List Int) (b : Nat) : List Int := cars.filter fun c => decide (begC xs c = b)
def partRows (xs cars : List Int) : List (List Int) := ((List.range 8).map (grp xs cars)).filter fun r => !r.isEmpty
theorem grp_snoc (xs cars : List Int) (c : Int) (b : Nat) : grp xs (cars ++ [c]) b = if begC xs c = b then grp xs cars b ++ [c] else grp xs cars b := by
  unfold grp
  rw [List.filter_append]
  by_cases h : begC xs c = b <;> simp [h]

/-! ### Parts between neighbouring cuts -/
def cutList (xs : List Int) : List Int := 0 :: (idxs (isCut xs) xs.length ++ [(xs.length : Int)])
def partAt (xs : List Int) (a b : Int) : List Int := (xs.filter fun x => decide (a ≤ x) && decide (x < b)).map (· - a)
def primeParts (xs : List Int) : List (List Int) := (List.range ((cutList xs).length - 1)).map fun k => partAt xs (nth (cutList xs) k) (nth (cutList xs) (k + 1))
def primePartsOf (xs : List Int) : List (List Int) × Bool := if isPark xs then (if xs = [] then [] else primeParts xs, true) else ([], false)
end Go.Proofs.YtakadjhbomggbaaGreat

namespace Go.Proofs.YtakadjhbomggbaaGreat
open Go.RowKit

theorem filter_lt_range (q : Nat → Bool) (n : Nat) : ∀ m, (List.range m).filter (fun b => decide (b < n) && q b) = (List.range (min m n)).filter q
  | 0 => by simp
  | m + 1 => by
    rw [List.range_succ, List.filter_append, filter_lt_range q n m]
    by_cases h : m < n
    · rw [show min (m + 1) n = m + 1 by omega, show min m n = m by omega, List.range_succ, List.filter_append]
      simp [h, List.filter_cons]
    · rw [show min (m + 1) n = min m n by omega]
      simp [h]
/-- The starts of parts. -/
def starts (xs : List Int) : List Nat := (List.range xs.length).filter (st xs)
theorem mem_starts {xs : List Int} {b : Nat} : b ∈ starts xs ↔ b < xs.length ∧ st xs b = true := by simp [starts]
theorem starts_lt (xs : List Int) : (starts xs).Pairwise (· < ·) := List.Pairwise.filter _ List.pairwise_lt_range
theorem begC_facts {xs : List Int} (h : isPark xs = true) {c : Nat} (hc : c < xs.length) : begC xs (c : Int) < xs.length ∧ st xs (begC xs (c : Int)) = true := by
  have hb := (isPark_bounds h).2 _ (nth_mem hc)
  unfold begC
  rw [Int.toNat_natCast]
  have h1 := begF_le xs (nth xs c).toNat
  exact ⟨by omega, (begF_st h _ (by omega)).1⟩
theorem start_car {xs : List Int} (h : isPark xs = true) {b : Nat} (hb : b < xs.length) (hs : st xs b = true) : ∃ c : Nat, c < xs.length ∧ nth xs c = (b : Int) ∧ begC xs (c : Int) = b := by
  have h1 := (st_at h hb).1 hs
  have h2 : (b : Int) ∈ xs := (insSort_perm xs).subset (by rw [← h1]; exact nth_mem (by rw [length_insSort]; exact hb))
  obtain ⟨c, hc, e⟩ := mem_nth h2
  refine ⟨c, hc, e, ?_⟩
  unfold begC
  rw [Int.toNat_natCast, e, Int.toNat_natCast]
  exact begF_eq h (by omega) (Nat.le_refl _) hs (fun c h1 h2 => by omega)
theorem partRows_starts {xs cars : List Int} (h : isPark xs = true) (hp : cars.Perm (upto xs.length)) : partRows xs cars = (starts xs).map (grp xs cars) := by
  have h8 := (isPark_bounds h).1
  unfold partRows starts
  rw [List.filter_map]
  congr 1
  rw [← show min 8 xs.length = xs.length by omega, ← filter_lt_range]
  refine List.filter_congr fun b _ => ?_
  simp only [Function.comp]
  rw [Bool.eq_iff_iff, Bool.and_eq_true, decide_eq_true_eq, Bool.not_eq_true', List.isEmpty_eq_false_iff]
  constructor
  · intro hne
    obtain ⟨c, hc⟩ := List.exists_mem_of_ne_nil _ hne
    unfold grp at hc
    rw [List.mem_filter, decide_eq_true_eq] at hc
    obtain ⟨i, hi, rfl⟩ := mem_upto.1 (hp.subset hc.1)
    rw [← hc.2]
    have := begC_facts h hi
    exact ⟨by omega, this.2⟩
  · rintro ⟨hb, hs⟩
    obtain ⟨c, hc, _, e⟩ := start_car h hb hs
    refine List.ne_nil_of_mem (a := (c : Int)) ?_
    unfold grp
    rw [List.mem_filter, decide_eq_true_eq]
    exact ⟨hp.symm.subset (mem_upto.2 ⟨c, hc, rfl⟩), e⟩
theorem self_upto (xs : List Int) : xs = (upto xs.length).map fun c => nth xs c.toNat := ext_nth (by simp [length_upto]) fun i hi => by
  simp [nth, upto, hi]
theorem grp_values {xs : List Int} (a : Nat) : (grp xs (upto xs.length) a).map (fun c => nth xs c.toNat) = xs.filter fun x => decide (begF xs x.toNat = a) := by
  conv => rhs; rw [self_upto xs]
  rw [List.filter_map, ← self_upto xs]
  rfl

/-! ### The cuts with both ends -/
theorem idxs_starts {xs : List Int} (h : isPark xs = true) (hn : 0 < xs.length) : (starts xs).map (fun (b : Nat) => (b : Int)) = 0 :: idxs (isCut xs) xs.length := by
  unfold starts idxs
  obtain ⟨m, hm⟩ : ∃ m, xs.length = m + 1 := ⟨xs.length - 1, by omega⟩
  have h0 : st xs 0 = true := (st_iff h (Nat.zero_le _)).2 (by rw [show ((0 : Nat) : Int) = 0 from rfl, below_zero (fun x hx => ((isPark_bounds h).2 x hx).1)]; omega)
  have h1 : isCut xs 0 = false := by simp [isCut]
  rw [hm, List.range_succ_eq_map, List.filter_cons, List.filter_cons, if_pos h0, h1, if_neg (by simp)]
  rw [List.map_cons]
  congr 2
  refine List.filter_congr fun b hb => ?_
  obtain ⟨c, _, rfl⟩ := List.mem_map.1 hb
  simp [isCut, st]
  omega
theorem cutList_starts {xs : List Int} (h : isPark xs = true) (hn : 0 < xs.length) : cutList xs = (starts xs ++ [xs.length]).map fun (b : Nat) => (b : Int) := by
  unfold cutList
  rw [List.map_append, idxs_starts h hn]
  rfl
def nthN (l : List Nat) (i : Nat) : Nat := l.getD i 0
theorem nth_cast (l : List Nat) (i : Nat) : nth (l.map fun (b : Nat) => (b : Int)) i = (nthN l i : Int) := by
  unfold nth nthN
  by_cases h : i < l.length
  · simp [h]
  · simp [h]
/-- A start and what comes behind it. -/
def ends (xs : List Int) : List Nat := starts xs ++ [xs.length]
theorem ends_lt (xs : List Int) : (ends xs).Pairwise (· < ·) := by
  unfold ends
  rw [List.pairwise_append]
  refine ⟨starts_lt xs, List.pairwise_singleton _ _, fun a ha b hb => ?_⟩
  rw [List.mem_singleton] at hb
  subst hb
  exact (mem_starts.1 ha).1
theorem nthN_lt {l : List Nat} (h : l.Pairwise (· < ·)) {i j : Nat} (hij : i < j) (hj : j < l.length) : nthN l i < nthN l j := by
  have := List.pairwise_iff_getElem.1 h i j (by omega) hj hij
  simpa [nthN, hj, show i < l.length by omega] using this
theorem ends_left {xs : List Int} {k : Nat} (hk : k < (starts xs).length) : nthN (ends xs) k = (starts xs)[k] := by
  unfold ends nthN
  simp [List.getElem?_append, hk]
/-- A number lies in a part. -/
theorem part_iff {xs : List Int} (h : isPark xs = true) {k x : Nat} (hk : k < (starts xs).length) (hx : x < xs.length) : (nthN (ends xs) k ≤ x ∧ x < nthN (ends xs) (k + 1)) ↔ begF xs x = nthN (ends xs) k := by
  have hl : (ends xs).length = (starts xs).length + 1 := by simp [ends]
  have hm : nthN (ends xs) k ∈ starts xs := by rw [ends_left hk]; exact List.getElem_mem hk
  obtain ⟨m1, m2⟩ := mem_starts.1 hm
  constructor
  · rintro ⟨h1, h2⟩
    refine begF_eq h (by omega) h1 m2 fun c hc1 hc2 => ?_
    rw [Bool.eq_false_iff]
    intro hs
    have hc : c ∈ starts xs := mem_starts.2 ⟨by omega, hs⟩
    obtain ⟨j, hj, rfl⟩ := List.getElem_of_mem hc
    rw [← ends_left hj] at hc1 hc2
    have hkj : k < j := by
      rcases Nat.lt_trichotomy k j with h3 | h3 | h3
      · exact h3
      · subst h3; omega
      · have := nthN_lt (ends_lt xs) h3 (by omega); omega
    rcases Nat.lt_or_eq_of_le (show k + 1 ≤ j from hkj) with h3 | h3
    · have := nthN_lt (ends_lt xs) h3 (by omega); omega
    · subst h3; omega
  · intro e
    have h1 := begF_le xs x
    refine ⟨by omega, ?_⟩
    obtain ⟨g1, g2⟩ := begF_st h x (by omega)
    refine Classical.byContradiction fun hge => ?_
    by_cases hk1 : k + 1 < (starts xs).length
    · have : nthN (ends xs) k < nthN (ends xs) (k + 1) := nthN_lt (ends_lt xs) (Nat.lt_succ_self k) (by omega)
      have hm' : nthN (ends xs) (k + 1) ∈ starts xs := by rw [ends_left hk1]; exact List.getElem_mem hk1
      have := g2 (nthN (ends xs) (k + 1)) (by omega) (by omega)
      rw [(mem_starts.1 hm').2] at this
      cases this
    · have : nthN (ends xs) (k + 1) = xs.length := by
        unfold ends nthN
        simp [show k + 1 = (starts xs).length by omega]
      omega
theorem primeParts_rows {xs : List Int} (h : isPark xs = true) (hn : 0 < xs.length) : primeParts xs = (starts xs).map fun a => (xs.filter fun x => decide (begF xs x.toNat = a)).map (· - (a : Int)) := by
  have hcl := cutList_starts h hn
  unfold primeParts
  apply List.ext_getElem
  · rw [hcl]; simp
  · intro i h1 h2
    have hi : i < (starts xs).length := by simpa using h2
    simp only [List.getElem_map, List.getElem_range]
    rw [hcl, nth_cast, nth_cast]
    have e1 : nthN (starts xs ++ [xs.length]) i = (starts xs)[i] := ends_left hi
    unfold partAt
    rw [← e1]
    congr 1
    refine List.filter_congr fun x hx => ?_
    have hb := (isPark_bounds h).2 x hx
    have := part_iff h hi (x := x.toNat) (by omega)
    unfold ends at this
    rw [Bool.eq_iff_iff, Bool.and_eq_true, decide_eq_true_eq, decide_eq_true_eq, decide_eq_true_eq, ← this]
    omega
/-- How many are before a part. -/
theorem grp_length {xs cars : List Int} (h : isPark xs = true) (hp : cars.Perm (upto xs.length)) {k : Nat} (hk : k < (starts xs).length) : nthN (ends xs) k + (grp xs cars (nthN (ends xs) k)).length = nthN (ends xs) (k + 1) := by
  have e1 : (grp xs cars (nthN (ends xs) k)).length = (xs.filter fun x => decide (begF xs x.toNat = nthN (ends xs) k)).length := by
    rw [← grp_values, List.length_map]
    unfold grp
    rw [← List.countP_eq_length_filter, ← List.countP_eq_length_filter]
    exact hp.countP_eq _
  have hl : (ends xs).length = (starts xs).length + 1 := by simp [ends]
  have hlt : nthN (ends xs) k < nthN (ends xs) (k + 1) := nthN_lt (ends_lt xs) (Nat.lt_succ_self k) (by omega)
  have hend : ∀ j, j < (ends xs).length → below xs ((nthN (ends xs) j : Nat) : Int) = nthN (ends xs) j := fun j hj => by
    by_cases hj1 : j < (starts xs).length
    · have hm : nthN (ends xs) j ∈ starts xs := by rw [ends_left hj1]; exact List.getElem_mem hj1
      have := (mem_starts.1 hm).2
      simp only [st, decide_eq_true_eq] at this
      omega
    · have e2 : nthN (ends xs) j = xs.length := by
        unfold ends nthN
        simp [show j = (starts xs).length by omega]
      rw [e2]
      exact below_full (fun x hx => by have := (isPark_bounds h).2 x hx; omega)
  have b1 := hend k (by omega)
  have b2 := hend (k + 1) (by omega)
  rw [e1]
  have e3 : below xs ((nthN (ends xs) (k + 1) : Nat) : Int) = below xs ((nthN (ends xs) k : Nat) : Int) + (xs.filter fun x => decide (begF xs x.toNat = nthN (ends xs) k)).length := by
    rw [← List.countP_eq_length_filter]
    unfold below
    have key : ∀ ys : List Int, (∀ x ∈ ys, x ∈ xs) → ys.countP (fun x => decide (x < ((nthN (ends xs) (k + 1) : Nat) : Int))) = ys.countP (fun x => decide (x < ((nthN (ends xs) k : Nat) : Int))) + ys.countP (fun x => decide (begF xs x.toNat = nthN (ends xs) k)) := by
      intro ys
      induction ys with
      | nil => intro _; rfl
      | cons y ys ih =>
        intro hy
        have ih := ih fun x hx => hy x (List.mem_cons_of_mem _ hx)
        have hb := (isPark_bounds h).2 y (hy y (List.mem_cons_self ..))
        have hpi := part_iff h hk (x := y.toNat) (by omega)
        rw [List.countP_cons, List.countP_cons, List.countP_cons, ih]
        by_cases q1 : y < ((nthN (ends xs) k : Nat) : Int)
        · have q2 : y < ((nthN (ends xs) (k + 1) : Nat) : Int) := by omega
          have q3 : ¬ begF xs y.toNat = nthN (ends xs) k := fun e => by have := hpi.2 e; omega
          simp [q1, q2, q3]
          omega
        · by_cases q2 : y < ((nthN (ends xs) (k + 1) : Nat) : Int)
          · have q3 : begF xs y.toNat = nthN (ends xs) k := hpi.1 (by omega)
            simp [q1, q2, q3]
            omega
          · have q3 : ¬ begF xs y.toNat = nthN (ends xs) k := fun e => by have := hpi.2 e; omega
            simp [q1, q2, q3]
    exact key xs fun x hx => hx
  omega
end Go.Proofs.YtakadjhbomggbaaGreat

namespace Go.Proofs.YtakadjhbomggbaaGreat
open Go.RowKit

/-! ### Distances on a longer street -/
theorem place_longer {p q : Int} {out : List Int} {x : Int} (hx : x ≤ p) (hpq : p ≤ q) (h : place p out x ≠ -1) : place q out x = place p out x := by
  rcases place_spec (out := out) (p := p) _ x hx rfl with ⟨e, _⟩ | ⟨a1, a2, a3, a4⟩
  · exact absurd e h
  · exact place_is a1 (by omega) a3 a4
theorem drive_longer {p q : Int} {xs : List Int} (hb : ∀ x ∈ xs, 0 ≤ x ∧ x ≤ p - 1) (hq : p ≤ q) (ha : allPark p xs = true) : ∀ k, k ≤ xs.length → drive q (xs.take k) = drive p (xs.take k)
  | 0, _ => by simp [drive]
  | k + 1, hk => by
    have h1 := drive_longer hb hq ha k (by omega)
    rw [drive_succ (by omega), drive_succ (by omega), h1]
    have hbk := hb _ (nth_mem (show k < xs.length by omega))
    have hne : place p (drive p (xs.take k)) (nth xs k) ≠ -1 := by
      intro e
      refine allPark_iff.1 ha ?_
      rw [← e]
      refine drive_take_mem (k + 1) ?_
      rw [drive_succ (by omega)]
      simp
    rw [place_longer (by omega) hq hne]
theorem dists_longer {p q : Int} {xs : List Int} (hb : ∀ x ∈ xs, 0 ≤ x ∧ x ≤ p - 1) (hq : p ≤ q) (ha : allPark p xs = true) : dists q xs = dists p xs := by
  have := drive_longer hb hq ha xs.length (Nat.le_refl _)
  rw [List.take_length] at this
  unfold dists
  rw [this]
theorem park_longer {p q : Int} {xs : List Int} (hb : ∀ x ∈ xs, 0 ≤ x ∧ x ≤ p - 1) (hq : p ≤ q) (ha : allPark p xs = true) : allPark q xs = true := by
  have := drive_longer hb hq ha xs.length (Nat.le_refl _)
  rw [List.take_length] at this
  rw [allPark_iff] at ha ⊢
  rw [this]
  exact ha
theorem dists_ge {p : Int} {xs : List Int} (hb : ∀ x ∈ xs, 0 ≤ x ∧ x ≤ p - 1) (ha : allPark p xs = true) : ∀ y ∈ dists p xs, 0 ≤ y ∧ y < p := by
  intro y hy
  obtain ⟨k, hk, rfl⟩ := mem_nth hy
  rw [length_dists] at hk
  rw [nth_dists hk]
  have hbk := hb _ (nth_mem hk)
  have h1 := drive_get (p := p) hk
  have hm : nth (drive p xs) k ∈ drive p xs := nth_mem (by rw [length_drive]; exact hk)
  have h2 := drive_bounds hb ha _ hm
  have h3 := (place_bounds (p := p) (out := drive p (xs.take k)) hbk.1).2.2
  omega
def greatL (ys : List Int) : Int := ys.foldl max 0
theorem fmax_ge : ∀ (bs : List Int) (m : Int), m ≤ bs.foldl max m ∧ ∀ b ∈ bs, b ≤ bs.foldl max m
  | [], m => by simp
  | c :: bs, m => by
    obtain ⟨h1, h2⟩ := fmax_ge bs (max m c)
    refine ⟨by simp only [List.foldl_cons]; omega, fun b hb => ?_⟩
    simp only [List.foldl_cons]
    rcases List.mem_cons.1 hb with rfl | hb
    · omega
    · exact h2 b hb
theorem fmax_mem : ∀ (bs : List Int) (m : Int), bs.foldl max m = m ∨ bs.foldl max m ∈ bs
  | [], m => by simp
  | c :: bs, m => by
    simp only [List.foldl_cons]
    rcases fmax_mem bs (max m c) with h | h
    · rw [h]
      rcases Int.le_total m c with h1 | h1
      · right; rw [Int.max_eq_right h1]; exact List.mem_cons_self ..
      · left; exact Int.max_eq_left h1
    · exact .inr (List.mem_cons_of_mem _ h)
theorem great_le {ys : List Int} {m : Int} (h0 : ∀ y ∈ ys, 0 ≤ y) (hm : 0 ≤ m) : decide (greatL ys ≤ m) = allB ys 0 m := by
  rw [Bool.eq_iff_iff, decide_eq_true_eq, allB_iff]
  constructor
  · intro h y hy
    exact ⟨h0 y hy, Int.le_trans ((fmax_ge ys 0).2 y hy) h⟩
  · intro h
    rcases fmax_mem ys 0 with e | e
    · unfold greatL; omega
    · exact (h _ e).2
theorem great_succ {ys : List Int} {k : Nat} (h : k < ys.length) : greatL (ys.take (k + 1)) = max (greatL (ys.take k)) (nth ys k) := by
  unfold greatL
  rw [take_succ_nth h, List.foldl_append]
  rfl
def unitB (xs : List Int) (m : Int) : Bool := allB (dists xs.length xs) 0 m
def isUnitOf (xs : List Int) (m : Int) : Bool × Bool := if isPark xs && inB m 0 8 then (unitB xs m, true) else (false, false)
theorem park_good {xs : List Int} (h : isPark xs = true) : good xs 12 = true ∧ allPark 12 xs = true ∧ dists 12 xs = dists xs.length xs := by
  obtain ⟨h1, h2, h3⟩ := isPark_iff.1 h
  exact ⟨good_iff.2 ⟨by omega, h1, fun x hx => by have := h2 x hx; omega⟩, park_longer h2 (by omega) h3, dists_longer h2 (by omega) h3⟩
theorem unit_great {xs : List Int} {m : Int} (h : isPark xs = true) (hm : 0 ≤ m) : decide (greatL (dists 12 xs) ≤ m) = unitB xs m := by
  obtain ⟨g1, g2, g3⟩ := park_good h
  obtain ⟨h1, h2, h3⟩ := isPark_iff.1 h
  rw [great_le (fun y hy => (dists_ge (fun x hx => by have := h2 x hx; omega) g2 y hy).1) hm, g3]
  rfl

end Go.Proofs.YtakadjhbomggbaaGreat

namespace Go.Proofs.YtakadjhbomggbaaGreat
open Go.RowKit

/-! ### Blocks -/
def addLast (L : List (List Int)) (v : Int) : List (List Int) := L.dropLast ++ [L.getLast?.getD [] ++ [v]]
def blk (xs ls : List Int) : Nat → List (List Int)
  | 0 => []
  | k + 1 => if nth xs (nth ls k).toNat = (k : Int) then blk xs ls k ++ [[nth ls k]] else addLast (blk xs ls k) (nth ls k)
theorem addLast_snoc (L : List (List Int)) (r : List Int) (v : Int) : addLast (L ++ [r]) v = L ++ [r ++ [v]] := by simp [addLast]
def unitBlocksOf (xs : List Int) : List (List Int) × Bool := if isPark xs && unitB xs 1 then (blk xs (fairL xs) xs.length, true) else ([], false)
theorem fair_bounds {xs : List Int} (h : isPark xs = true) : ∀ c, c < xs.length → 0 ≤ nth xs c ∧ nth xs c < ((12 : Nat) : Int) := fun c hc => by
  have h1 := isPark_bounds h
  have := h1.2 _ (nth_mem hc)
  omega
theorem fair_perm {xs : List Int} (h : isPark xs = true) : (fairL xs).Perm (upto xs.length) := carsP_perm rfl (by have := (isPark_bounds h).1; omega) (fair_bounds h)
theorem fair_length {xs : List Int} (h : isPark xs = true) : (fairL xs).length = xs.length := by rw [(fair_perm h).length_eq, length_upto]
theorem keyC_le {xs : List Int} {u v : Int} (hu : 0 ≤ u) (hu2 : u < 50) (hv : 0 ≤ v) (hv2 : v < 50) (h : keyC xs u ≤ keyC xs v) : nth xs u.toNat ≤ nth xs v.toNat := by
  unfold keyC at h
  omega
/-- In the order by favourites, favourites do not fall. -/
theorem fair_sorted {xs : List Int} {n P : Nat} (hl : xs.length = n) (h8 : n ≤ 50) (hb : ∀ c, c < n → 0 ≤ nth xs c ∧ nth xs c < (P : Int)) : ((carsTo xs P).map fun c => nth xs c.toNat) = insSort xs := by
  have hp := carsP_perm hl h8 hb
  refine sorted_unique ?_ (insSort_sorted xs) ?_
  · rw [List.pairwise_map]
    refine (carsTo_sorted (by omega) (fun c hc => (hb c (by omega)).1) P).imp_of_mem fun {a b} ha hb' h => ?_
    obtain ⟨i, hi, rfl⟩ := mem_upto.1 (hp.subset ha)
    obtain ⟨j, hj, rfl⟩ := mem_upto.1 (hp.subset hb')
    exact keyC_le (by omega) (by omega) (by omega) (by omega) (by omega)
  · refine (hp.map _).trans ?_
    rw [← hl, ← self_upto xs]
    exact (insSort_perm xs).symm
theorem fair_at {xs : List Int} (h : isPark xs = true) {k : Nat} (hk : k < xs.length) : nth xs (nth (fairL xs) k).toNat = nth (insSort xs) k := by
  have h8 := (isPark_bounds h).1
  rw [← fair_sorted rfl (by omega) (fair_bounds h)]
  have hl := fair_length h
  unfold fairL at hl ⊢
  generalize carsTo xs 12 = ls at *
  simp [nth, hl, hk]
theorem app_congr {α : Type} {A B C D : List α} (h1 : A = B) (h2 : C = D) : A ++ C = B ++ D := by rw [h1, h2]
set_option maxHeartbeats 1000000 in
theorem blk_step {xs : List Int} (h : isPark xs = true) : ∀ k, k ≤ xs.length → blk xs (fairL xs) k = ((List.range k).filter (st xs)).map (grp xs ((fairL xs).take k))
  | 0, _ => rfl
  | k + 1, hk => by
    have ih := blk_step h k (by omega)
    have hl := fair_length h
    have hv : (fairL xs).take (k + 1) = (fairL xs).take k ++ [nth (fairL xs) k] := take_succ_nth (by omega)
    have hs := fair_at h (k := k) (by omega)
    have hps := park_sorted h k (by omega)
    have hst := st_at h (b := k) (by omega)
    obtain ⟨c, hc, hcn⟩ := carsP_nth rfl (by have := (isPark_bounds h).1; omega) (fair_bounds h) (k := k) (by omega)
    have hc : nth (fairL xs) k = (c : Int) := hc
    rw [blk, hs, hv, List.range_succ, List.filter_append]
    have hbc : begC xs (nth (fairL xs) k) = begF xs (nth (insSort xs) k).toNat := by unfold begC; rw [hs]
    by_cases e : nth (insSort xs) k = (k : Int)
    · have hsk := hst.2 e
      rw [if_pos e, ih]
      have e1 : begC xs (nth (fairL xs) k) = k := by
        rw [hbc, e, Int.toNat_natCast]
        exact begF_stop ((st_iff h (by omega)).1 hsk)
      have e2 : ([k].filter (st xs)) = [k] := by simp [hsk]
      rw [e2, List.map_append, List.map_singleton]
      refine app_congr ?_ ?_
      · refine List.map_congr_left fun a ha => ?_
        have := List.mem_range.1 (List.mem_filter.1 ha).1
        rw [grp_snoc, if_neg (by omega)]
      · rw [grp_snoc, if_pos e1]
        have : grp xs ((fairL xs).take k) k = [] := by
          unfold grp
          rw [List.filter_eq_nil_iff]
          intro u hu
          obtain ⟨j, hj, rfl⟩ := mem_nth hu
          have hjk : j < k := by rw [List.length_take] at hj; omega
          rw [nth_take hjk]
          have h1 := fair_at h (k := j) (by omega)
          have h2 := park_sorted h j (by omega)
          have h3 := begF_le xs (nth xs (nth (fairL xs) j).toNat).toNat
          unfold begC
          simp only [decide_eq_true_eq]
          omega
        rw [this]
        rfl
    · have hsk : st xs k = false := by rw [Bool.eq_false_iff]; exact fun hh => e (hst.1 hh)
      have hk0 : 0 < k := by
        rcases Nat.eq_zero_or_pos k with rfl | h0
        · exfalso; apply e; omega
        · exact h0
      have e2 : ([k].filter (st xs)) = [] := by simp [hsk]
      rw [if_neg e, e2, List.append_nil, ih]
      have h0 : st xs 0 = true := (st_iff h (Nat.zero_le _)).2 (by rw [show ((0 : Nat) : Int) = 0 from rfl, below_zero (fun x hx => ((isPark_bounds h).2 x hx).1)]; omega)
      have hne : (List.range k).filter (st xs) ≠ [] := List.ne_nil_of_mem (a := 0) (List.mem_filter.2 ⟨List.mem_range.2 hk0, h0⟩)
      have hsp := List.dropLast_concat_getLast hne
      have hlt : ((List.range k).filter (st xs)).Pairwise (· < ·) := List.Pairwise.filter _ List.pairwise_lt_range
      have hma := List.getLast_mem hne
      have hmem : ∀ z, z < k → st xs z = true → z ∈ (List.range k).filter (st xs) := fun z h1 h2 => List.mem_filter.2 ⟨List.mem_range.2 h1, h2⟩
      have hall : ∀ z ∈ (List.range k).filter (st xs), z < k ∧ st xs z = true := fun z hz => ⟨List.mem_range.1 (List.mem_filter.1 hz).1, (List.mem_filter.1 hz).2⟩
      generalize (List.range k).filter (st xs) = F at *
      generalize F.getLast hne = a at *
      generalize F.dropLast = G at *
      subst hsp
      rw [List.pairwise_append] at hlt
      have hGa : ∀ g ∈ G, g < a := fun g hg => hlt.2.2 g hg a (by simp)
      obtain ⟨ha1, ha2⟩ := hall a hma
      have e1 : begC xs (nth (fairL xs) k) = a := by
        rw [hbc]
        have q1 := (st_at h (b := a) (by omega)).1 ha2
        have q2 := sorted_nth (insSort_sorted xs) (i := a) (j := k) (by omega) (by rw [length_insSort]; omega)
        refine begF_eq h (by omega) (by omega) ha2 fun z h1 h2 => ?_
        rw [Bool.eq_false_iff]
        intro hz
        rcases List.mem_append.1 (hmem z (by omega) hz) with h3 | h3
        · have := hGa z h3; omega
        · rw [List.mem_singleton] at h3; omega
      rw [List.map_append, List.map_singleton, addLast_snoc, List.map_append, List.map_singleton]
      refine app_congr ?_ ?_
      · refine List.map_congr_left fun g hg => ?_
        have := hGa g hg
        rw [grp_snoc, if_neg (by omega)]
      · rw [grp_snoc, if_pos e1]
theorem blk_rows {xs : List Int} (h : isPark xs = true) : blk xs (fairL xs) xs.length = partRows xs (fairL xs) := by
  rw [blk_step h _ (Nat.le_refl _), partRows_starts h (fair_perm h), List.take_of_length_le (by rw [fair_length h]; exact Nat.le_refl _)]
  rfl
end Go.Proofs.YtakadjhbomggbaaGreat

namespace Go.Proofs.YtakadjhbomggbaaGreat
open Go.RowKit

/-- The total distance: the places are those from 0 on. -/
def tot (xs : List Int) : Int := total (upto xs.length) - total xs
theorem drive_upto {xs : List Int} (h : isPark xs = true) : total (drive xs.length xs) = total (upto xs.length) := by
  obtain ⟨h1, h2, h3⟩ := isPark_iff.1 h
  have hnd := drive_nodup h2 h3
  have hbd := drive_bounds h2 h3
  have hl := length_drive (xs.length : Int) xs
  refine total_perm ?_
  have hd2 : (upto xs.length).Nodup := by
    unfold upto List.Nodup
    rw [List.pairwise_map]
    exact List.nodup_range.imp fun h e => h (by omega)
  rw [List.perm_ext_iff_of_nodup hnd hd2]
  intro z
  unfold upto
  rw [List.mem_map]
  constructor
  · intro hz
    have := hbd z hz
    exact ⟨z.toNat, by rw [List.mem_range]; omega, by omega⟩
  · rintro ⟨i, hi, rfl⟩
    rw [List.mem_range] at hi
    apply Classical.byContradiction
    intro hz
    have := nodup_le xs.length ((i : Int) :: drive xs.length xs) (List.nodup_cons.2 ⟨hz, hnd⟩) (fun x hx => by
      rcases List.mem_cons.1 hx with rfl | hx
      · omega
      · exact hbd x hx)
    simp at this
    omega
theorem dists_tot {xs : List Int} (h : isPark xs = true) : total (dists xs.length xs) = tot xs := by
  rw [total_dists, drive_upto h]
  rfl
theorem total_nonneg {ys : List Int} (h : ∀ y ∈ ys, 0 ≤ y) : 0 ≤ total ys := by
  have : ∀ (ys : List Int) (c : Int), 0 ≤ c → (∀ y ∈ ys, 0 ≤ y) → 0 ≤ ys.foldl (· + ·) c := by
    intro ys
    induction ys with
    | nil => intro c hc _; exact hc
    | cons y ys ih =>
      intro c hc hy
      have := hy y (by simp)
      exact ih (c + y) (by omega) fun z hz => hy z (by simp [hz])
  exact this ys 0 (Int.le_refl _) h
theorem dists_nonneg {xs : List Int} (h : isPark xs = true) : ∀ y ∈ dists xs.length xs, 0 ≤ y := by
  obtain ⟨h1, h2, h3⟩ := isPark_iff.1 h
  intro y hy
  obtain ⟨i, hi, rfl⟩ := mem_nth hy
  rw [length_dists] at hi
  rw [nth_dists hi]
  have := (car_at hi h2 h3).1
  omega
/-- The greatest total distance. -/
def mostD (n : Nat) : Nat := n * (n - 1) / 2
theorem total_upto' (n : Nat) : total (upto n) = (mostD n : Int) := by
  have h := total_upto n
  unfold mostD
  cases n with
  | zero => rfl
  | succ n =>
    rw [show ((n + 1 : Nat) : Int) - 1 = (n : Int) by omega, ← Int.natCast_mul] at h
    rw [Nat.add_sub_cancel]
    omega
theorem tot_bounds {xs : List Int} (h : isPark xs = true) : 0 ≤ tot xs ∧ tot xs < ((mostD xs.length + 1 : Nat) : Int) := by
  have h1 := dists_tot h
  have h2 := total_nonneg (dists_nonneg h)
  have h3 := total_nonneg fun x hx => ((isPark_bounds h).2 x hx).1
  have h4 := total_upto' xs.length
  unfold tot at *
  omega
/-- A parking function with a total distance. -/
def wit (n : Nat) (s : Int) : List Int := (List.range n).map fun (i : Nat) => max 0 (min (i : Int) (s - (i : Int) * ((i : Int) - 1) / 2))
theorem wits : ∀ n, n < 6 → ∀ d, d < mostD n + 1 → isPark (wit n ((mostD n : Int) - (d : Int))) = true ∧ tot (wit n ((mostD n : Int) - (d : Int))) = (d : Int) ∧ (wit n ((mostD n : Int) - (d : Int))).length = n := by decide +kernel
theorem mem_list {xs : List Int} {n : Nat} (h : isPark xs = true) (hn : xs.length = n) : xs ∈ listL n n [] := by
  obtain ⟨h8, hb⟩ := isPark_bounds h
  subst hn
  have hz := (isPark_zpark h8 fun x hx => (hb x hx).1).1 h
  have e := toI_toN (xs := xs) fun x hx => (hb x hx).1
  have hlt : ∀ x ∈ toN xs, x < xs.length := fun x hx => by
    obtain ⟨y, hy, rfl⟩ := List.mem_map.1 hx
    have := hb y hy
    omega
  have h1 := rk_lt (n := xs.length) (toN xs) [] (by simp [length_toN]) hlt (by rw [e]; simpa using hz)
  have h2 := at_rk (n := xs.length) (toN xs) [] (by simp [length_toN]) hlt (by rw [e]; simpa using hz)
  rw [length_toN] at h2
  rw [list_at xs.length [] (by simp), List.mem_map]
  exact ⟨rk xs.length [] (toN xs), by rw [List.mem_range]; exact h1, by rw [h2, e]; rfl⟩
/-- The total distances of all. -/
def tots (n : Nat) : List Int := (listL n n []).map tot
theorem list_parks {n : Nat} (h8 : n ≤ 8) {xs : List Int} (h : xs ∈ listL n n []) : isPark xs = true ∧ xs.length = n := by
  obtain ⟨_, _, _, hp⟩ := all_chain h8
  obtain ⟨i, hi, e⟩ := List.getElem_of_mem h
  have := hp i hi
  simpa [hi, e] using this
theorem tots_bounds {n : Nat} (h8 : n ≤ 8) : ∀ t ∈ tots n, 0 ≤ t ∧ t < ((mostD n + 1 : Nat) : Int) := by
  intro t ht
  obtain ⟨xs, hx, rfl⟩ := List.mem_map.1 ht
  obtain ⟨h1, h2⟩ := list_parks h8 hx
  have := tot_bounds h1
  rw [h2] at this
  exact this
/-- How many have each total distance. -/
def distCounts (n : Nat) : List Int := (List.range (mostD n + 1)).map fun (d : Nat) => occ (tots n) d
theorem runs_dist {n : Nat} (h5 : n ≤ 5) : runsTo (insSort (tots n)) (tots n).length = distCounts n := by
  have hperm := insSort_perm (tots n)
  have h1 := runs_all (s := insSort (tots n)) (m := mostD n + 1) (insSort_sorted _) (fun x hx => tots_bounds (by omega) x (hperm.mem_iff.1 hx))
  rw [length_insSort, occs_perm hperm] at h1
  rw [h1]
  refine occs_full fun v hv => ?_
  obtain ⟨w1, w2, w3⟩ := wits n (by omega) v hv
  exact List.mem_map.2 ⟨_, mem_list w1 w3, w2⟩
def distOfN (n : Int) : List Int × Bool := if inB n 0 5 then (distCounts n.toNat, true) else ([], false)
theorem distOfN_yes {n : Nat} (h : inB (n : Int) 0 5 = true) : distOfN n = (distCounts n, true) := by simp [distOfN, h]
theorem distOfN_no {n : Int} (h : ¬ inB n 0 5 = true) : distOfN n = ([], false) := by simp [distOfN, h]
theorem mostD_small {n : Nat} (h : n ≤ 5) : mostD n ≤ 10 := by
  have : ∀ n, n < 6 → mostD n ≤ 10 := by decide
  exact this n (by omega)
end Go.Proofs.YtakadjhbomggbaaGreat

namespace Go.Proofs.YtakadjhbomggbaaGreat
open Go.RowKit

theorem out_perm {os : List Int} {n : Nat} (h8 : n ≤ 8) (h : os.Perm (upto n)) : outB os = true := by
  have hl : os.length = n := by rw [h.length_eq]; simp [upto]
  have hnd : os.Nodup := h.nodup_iff.2 (by unfold upto; rw [List.Nodup, List.pairwise_map]; exact List.nodup_range.imp fun h e => h (by omega))
  unfold outB
  rw [Bool.and_eq_true]
  refine ⟨?_, ?_⟩
  · unfold carsB
    rw [Bool.and_eq_true, decide_eq_true_eq, allB_iff]
    refine ⟨by omega, fun x hx => ?_⟩
    obtain ⟨c, hc, rfl⟩ := mem_upto.1 (h.subset hx)
    omega
  · unfold distB
    rw [List.all_eq_true]
    intro i hi
    rw [List.mem_range] at hi
    rw [Bool.not_eq_true', Bool.eq_false_iff]
    intro hh
    have hm : nth os i ∈ os.take i := by simpa [hasB] using hh
    obtain ⟨j, hj, e⟩ := mem_nth hm
    rw [List.length_take] at hj
    have e2 : nth (os.take i) j = nth os j := by simp [nth, show j < i by omega]
    rw [e2] at e
    have h3 := List.pairwise_iff_getElem.1 hnd j i (by omega) hi (by omega)
    simp only [nth, List.getD_eq_getElem?_getD, List.getElem?_eq_getElem (show j < os.length by omega), List.getElem?_eq_getElem hi, Option.getD_some] at e
    exact h3 e
/-- The cars in order, and what their favourites are. -/
theorem cars_facts {xs : List Int} (h : isPark xs = true) : xs.length ≤ 8 ∧ (carsL xs).length = xs.length ∧ (carsL xs).Perm (upto xs.length) ∧
    (∀ k, k < xs.length → ∃ c : Nat, nth (carsL xs) k = (c : Int) ∧ c < xs.length ∧ nth xs c = nth (insSort xs) k) ∧
    (∀ k, k < xs.length → 0 ≤ nth (insSort xs) k ∧ nth (insSort xs) k ≤ (k : Int)) ∧
    (∀ i k, i < k → k < xs.length → nth (insSort xs) i ≤ nth (insSort xs) k ∧ (nth (insSort xs) i = nth (insSort xs) k → nth (carsL xs) i < nth (carsL xs) k)) := by
  obtain ⟨h8, hb⟩ := isPark_bounds h
  have hb' : ∀ c, c < xs.length → 0 ≤ nth xs c ∧ nth xs c < (xs.length : Int) := fun c hc => by have := hb _ (nth_mem hc); omega
  have hp := carsL_perm rfl (by omega) hb'
  have hl : (carsL xs).length = xs.length := length_carsL rfl (by omega) hb'
  have hs := fair_sorted rfl (by omega) hb'
  have hso := carsTo_sorted (xs := xs) (by omega) (fun c hc => (hb' c hc).1) xs.length
  have hat : ∀ k, k < xs.length → ∃ c : Nat, nth (carsL xs) k = (c : Int) ∧ c < xs.length ∧ nth xs c = nth (insSort xs) k := fun k hk => by
    have hm : nth (carsL xs) k ∈ carsL xs := nth_mem (by omega)
    obtain ⟨c, hc, e⟩ := mem_upto.1 (hp.subset hm)
    refine ⟨c, e, hc, ?_⟩
    rw [← hs]
    have e2 : nth ((carsTo xs xs.length).map fun c => nth xs c.toNat) k = nth xs (nth (carsTo xs xs.length) k).toNat := by
      have hl2 : (carsTo xs xs.length).length = xs.length := hl
      generalize carsTo xs xs.length = ls at *
      simp [nth, hl2, hk]
    rw [e2]
    show nth xs c = nth xs (nth (carsL xs) k).toNat
    rw [e, Int.toNat_natCast]
  refine ⟨h8, hl, hp, hat, park_sorted h, fun i k hik hk => ?_⟩
  refine ⟨sorted_nth (insSort_sorted xs) (by omega) (by rw [length_insSort]; exact hk), fun e => ?_⟩
  obtain ⟨c, e1, c1, c2⟩ := hat i (by omega)
  obtain ⟨d, e2, d1, d2⟩ := hat k hk
  have := List.pairwise_iff_getElem.1 hso i k (by have : (carsTo xs xs.length).length = xs.length := hl; omega) (by have : (carsTo xs xs.length).length = xs.length := hl; omega) hik
  have g1 : (carsTo xs xs.length)[i]'(by have : (carsTo xs xs.length).length = xs.length := hl; omega) = (c : Int) := by
    have := e1
    simp only [nth, carsL, List.getD_eq_getElem?_getD, List.getElem?_eq_getElem (show i < (carsTo xs xs.length).length by have : (carsTo xs xs.length).length = xs.length := hl; omega), Option.getD_some] at this
    exact this
  have g2 : (carsTo xs xs.length)[k]'(by have : (carsTo xs xs.length).length = xs.length := hl; omega) = (d : Int) := by
    have := e2
    simp only [nth, carsL, List.getD_eq_getElem?_getD, List.getElem?_eq_getElem (show k < (carsTo xs xs.length).length by have : (carsTo xs xs.length).length = xs.length := hl; omega), Option.getD_some] at this
    exact this
  rw [g1, g2] at this
  unfold keyC at this
  rw [Int.toNat_natCast, Int.toNat_natCast] at this
  rw [e1, e2]
  omega
theorem hgt_at {xs : List Int} (h : isPark xs = true) {k : Nat} (hk : k < xs.length) : nth (hgtOf xs (carsL xs)) k = (k : Int) - nth (insSort xs) k := by
  obtain ⟨h8, hl, hp, hat, -, -⟩ := cars_facts h
  obtain ⟨c, e1, c1, c2⟩ := hat k hk
  rw [nth_hgtOf (by omega), e1, Int.toNat_natCast, c2]
/-- The walk of a parking function is one. -/
theorem walk_park {xs : List Int} (h : isPark xs = true) : walkB (hgtOf xs (carsL xs)) (carsL xs) = true := by
  obtain ⟨h8, hl, hp, hat, hs, hso⟩ := cars_facts h
  have hlh : (hgtOf xs (carsL xs)).length = xs.length := by rw [length_hgtOf, hl]
  refine walkB_iff.2 ⟨hgtB_iff.2 ⟨by omega, fun i hi => ?_⟩, by rw [length_hgtOf], out_perm h8 hp, riseTo_iff.2 fun i hi => ?_⟩
  · rw [hlh] at hi
    have h1 := hs i hi
    rw [hgt_at h hi]
    cases i with
    | zero => simp only [mostAt]; omega
    | succ i =>
      have h2 := (hso i (i + 1) (by omega) hi).1
      simp only [mostAt]
      rw [hgt_at h (by omega)]
      omega
  · rw [hl] at hi
    unfold riseOk raisedB
    cases i with
    | zero => simp
    | succ i =>
      rw [Nat.add_sub_cancel, hgt_at h hi, hgt_at h (by omega)]
      have h2 := hso i (i + 1) (by omega) hi
      simp only [Bool.not_eq_true', Bool.and_eq_false_iff, decide_eq_false_iff_not]
      by_cases e : nth (insSort xs) i = nth (insSort xs) (i + 1)
      · right
        have := h2.2 e
        omega
      · left
        right
        omega
/-- A filled list at the labels that came. -/
theorem pow_at {hs ls : List Int} (ho : outB ls = true) : ∀ k, k ≤ ls.length → ∀ i, i < k → nth (powTo hs ls k) (nth ls i).toNat = (i : Int) - nth hs i
  | 0, _, i, hi => by omega
  | k + 1, hk, i, hi => by
    have hb := out_nth ho (i := k) (by omega)
    have hbi := out_nth ho (i := i) (by omega)
    simp only [powTo]
    by_cases e : i = k
    · subst e
      rw [nth_set (by rw [length_powTo]; omega), if_pos rfl]
    · have hne : (nth ls k).toNat ≠ (nth ls i).toNat := fun h2 => e (out_inj ho (by omega) (by omega) (by omega))
      rw [nth_set (by rw [length_powTo]; omega), if_neg hne]
      exact pow_at ho k (by omega) i (by omega)
/-- The parking function of its walk. -/
theorem pow_park {xs : List Int} (h : isPark xs = true) : powTo (hgtOf xs (carsL xs)) (carsL xs) (carsL xs).length = xs := by
  obtain ⟨h8, hl, hp, hat, hs, hso⟩ := cars_facts h
  have ho := out_perm h8 hp
  refine ext_nth (by rw [length_powTo, hl]) fun c hc => ?_
  rw [length_powTo, hl] at hc
  obtain ⟨k, hk, e⟩ := mem_nth (out_all ho (z := c) (by omega))
  have := pow_at (hs := hgtOf xs (carsL xs)) ho (carsL xs).length (Nat.le_refl _) k hk
  rw [e, Int.toNat_natCast] at this
  rw [this]
  obtain ⟨d, e1, d1, d2⟩ := hat k (by omega)
  rw [hgt_at h (by omega), ← d2]
  have : d = c := by omega
  rw [this]
  omega
/-- The area is the total distance. -/
theorem area_park {xs : List Int} (h : isPark xs = true) : 2 * total (hgtOf xs (carsL xs)) = (xs.length : Int) * ((xs.length : Int) - 1) - 2 * total xs ∧ total (dists xs.length xs) = total (hgtOf xs (carsL xs)) := by
  obtain ⟨h8, hl, hp, hat, hs, hso⟩ := cars_facts h
  have h1 : total (hgtOf xs (carsL xs)) = total (upto xs.length) - total (insSort xs) := by
    have hk : ∀ k, k ≤ xs.length → total ((hgtOf xs (carsL xs)).take k) = total ((upto xs.length).take k) - total ((insSort xs).take k) := by
      intro k
      induction k with
      | zero => intro _; simp [total]
      | succ k ih =>
        intro hk
        rw [total_succ (by rw [length_hgtOf, hl]; omega), total_succ (by rw [length_upto]; omega), total_succ (by rw [length_insSort]; omega), ih (by omega), hgt_at h (by omega), nth_upto (by omega)]
        omega
    have := hk xs.length (Nat.le_refl _)
    rwa [List.take_of_length_le (by rw [length_hgtOf, hl]; exact Nat.le_refl _), List.take_of_length_le (by rw [length_upto]; exact Nat.le_refl _), List.take_of_length_le (by rw [length_insSort]; exact Nat.le_refl _)] at this
  have h2 := total_perm (insSort_perm xs)
  have h3 := total_upto xs.length
  have h4 := total_dists (xs.length : Int) xs
  have h5 := drive_upto h
  refine ⟨?_, ?_⟩ <;> omega
/-- The touches are the cuts. -/
theorem touch_park {xs : List Int} (h : isPark xs = true) : idxs (touchAt (hgtOf xs (carsL xs))) xs.length = idxs (isCut xs) xs.length := by
  unfold idxs
  congr 1
  refine List.filter_congr fun i hi => ?_
  rw [List.mem_range] at hi
  unfold touchAt isCut
  rw [hgt_at h hi, Bool.eq_iff_iff]
  simp only [Bool.and_eq_true, decide_eq_true_eq]
  have h1 := st_at h hi
  have h2 := st_iff h (b := i) (by omega)
  have h3 := below_ge h (b := i) (by omega)
  constructor
  · rintro ⟨a, b⟩
    have := h2.1 (h1.2 (by omega))
    exact ⟨by omega, by omega⟩
  · rintro ⟨a, b⟩
    have := h1.1 (h2.2 (by omega))
    exact ⟨by omega, by omega⟩
theorem perm_of_out {ls : List Int} (ho : outB ls = true) : ls.Perm (upto ls.length) := by
  have hnd : ls.Nodup := List.pairwise_iff_getElem.2 fun i j hi hj hij e => by
    have := out_inj ho hi hj (by simp only [nth, List.getD_eq_getElem?_getD, List.getElem?_eq_getElem hi, List.getElem?_eq_getElem hj, Option.getD_some]; exact e)
    omega
  have hnd2 : (upto ls.length).Nodup := by unfold upto; rw [List.Nodup, List.pairwise_map]; exact List.nodup_range.imp fun h e => h (by omega)
  refine (List.perm_ext_iff_of_nodup hnd hnd2).2 fun v => ?_
  constructor
  · intro hv
    obtain ⟨i, hi, rfl⟩ := mem_nth hv
    have := out_nth ho hi
    exact mem_upto.2 ⟨(nth ls i).toNat, by omega, by omega⟩
  · intro hv
    obtain ⟨c, hc, rfl⟩ := mem_upto.1 hv
    exact out_all ho hc
/-- The parking function of a walk is one, and its walk is that walk. -/
theorem park_walk {hs ls : List Int} (hw : walkB hs ls = true) : isPark (powTo hs ls ls.length) = true ∧ carsL (powTo hs ls ls.length) = ls ∧ hgtOf (powTo hs ls ls.length) ls = hs := by
  obtain ⟨hg, hll, ho, hr⟩ := walkB_iff.1 hw
  obtain ⟨h8, hb⟩ := hgt_of hg rfl
  have hmo := (hgtB_iff.1 hg).2
  have hr' := riseTo_iff.1 hr
  obtain ⟨xs, hx⟩ : ∃ xs, powTo hs ls ls.length = xs := ⟨_, rfl⟩
  have hxl : xs.length = ls.length := by rw [← hx, length_powTo]
  have hat : ∀ k, k < ls.length → nth xs (nth ls k).toNat = (k : Int) - nth hs k := fun k hk => by rw [← hx]; exact pow_at ho _ (Nat.le_refl _) k hk
  rw [hx]
  clear hx
  have hp := perm_of_out ho
  have hbd : ∀ c, c < ls.length → 0 ≤ nth xs c ∧ nth xs c < (ls.length : Int) := fun c hc => by
    obtain ⟨k, hk, e⟩ := mem_nth (out_all ho hc)
    have h1 := hat k hk
    rw [e, Int.toNat_natCast] at h1
    have := hb k (by omega)
    omega
  -- the favourites in the order of the labels
  have hstep : ∀ k, k + 1 < ls.length → nth xs (nth ls k).toNat < nth xs (nth ls (k + 1)).toNat ∨ (nth xs (nth ls k).toNat = nth xs (nth ls (k + 1)).toNat ∧ nth ls k < nth ls (k + 1)) := fun k hk => by
    rw [hat k (by omega), hat (k + 1) hk]
    have h1 := hmo (k + 1) (by omega)
    simp only [mostAt] at h1
    have h2 := hr' (k + 1) hk
    unfold riseOk raisedB at h2
    rw [Nat.add_sub_cancel] at h2
    simp only [Bool.not_eq_true', Bool.and_eq_false_iff, decide_eq_false_iff_not] at h2
    have h3 : nth ls k ≠ nth ls (k + 1) := fun e => by have := out_inj ho (i := k) (j := k + 1) (by omega) hk e; omega
    omega
  have hall : ∀ d i, i + d + 1 < ls.length → nth xs (nth ls i).toNat < nth xs (nth ls (i + d + 1)).toNat ∨ (nth xs (nth ls i).toNat = nth xs (nth ls (i + d + 1)).toNat ∧ nth ls i < nth ls (i + d + 1)) := by
    intro d
    induction d with
    | zero => intro i hi; exact hstep i hi
    | succ d ih =>
      intro i hi
      have h1 := ih i (by omega)
      have h2 := hstep (i + d + 1) (by omega)
      have e : i + (d + 1) + 1 = i + d + 1 + 1 := by omega
      rw [e]
      omega
  have hmap : (ls.map fun v => nth xs v.toNat).Perm xs := by
    refine (hp.map _).trans ?_
    rw [← hxl, ← self_upto xs]
  have hsorted : (ls.map fun v => nth xs v.toNat).Pairwise (· ≤ ·) := by
    rw [List.pairwise_map, List.pairwise_iff_getElem]
    intro i j hi hj hij
    have h1 := hall (j - i - 1) i (by omega)
    rw [show i + (j - i - 1) + 1 = j by omega] at h1
    simp only [nth, List.getD_eq_getElem?_getD, List.getElem?_eq_getElem hi, List.getElem?_eq_getElem hj, Option.getD_some] at h1 ⊢
    omega
  have hins : insSort xs = ls.map fun v => nth xs v.toNat := sorted_unique (insSort_sorted xs) hsorted ((insSort_perm xs).trans hmap.symm)
  have hask : asked xs = true := by
    rw [asked_cars]
    refine carsB_iff.2 ⟨by omega, fun x hx => ?_⟩
    obtain ⟨c, hc, rfl⟩ := mem_nth hx
    have := hbd c (by omega)
    omega
  have hpark : isPark xs = true := by
    rw [← fits_park hask, fitsB_iff]
    intro i hi
    have e : nth (insSort xs) i = nth xs (nth ls i).toNat := by rw [hins]; simp [nth, show i < ls.length by omega]
    rw [e, hat i (by omega)]
    have := hb i (by omega)
    omega
  refine ⟨hpark, ?_, ?_⟩
  · have hcp := carsL_perm hxl (by omega) hbd
    have hso := carsTo_sorted (xs := xs) (by omega) (fun c hc => (hbd c (by omega)).1) xs.length
    symm
    refine keyC_unique (xs := xs) (n := ls.length) (by omega) hcp (hp.trans hcp.symm) (hso.imp fun {a b} h => by omega) ?_
    rw [List.pairwise_iff_getElem]
    intro i j hi hj hij
    have h1 := hall (j - i - 1) i (by omega)
    rw [show i + (j - i - 1) + 1 = j by omega] at h1
    simp only [nth, List.getD_eq_getElem?_getD, List.getElem?_eq_getElem hi, List.getElem?_eq_getElem hj, Option.getD_some] at h1
    have b1 := out_nth ho hi
    have b2 := out_nth ho hj
    simp only [nth, List.getD_eq_getElem?_getD, List.getElem?_eq_getElem hi, List.getElem?_eq_getElem hj, Option.getD_some] at b1 b2
    unfold keyC
    simp only [nth, List.getD_eq_getElem?_getD]
    omega
  · refine ext_nth (by rw [length_hgtOf, hll]) fun i hi => ?_
    rw [length_hgtOf] at hi
    rw [nth_hgtOf hi, hat i hi]
    omega
end Go.Proofs.YtakadjhbomggbaaGreat

namespace Go.Proofs.YtakadjhbomggbaaGreat
open Go.RowKit

theorem ownsRow_up {w : World} {B K : Nat} {e : TypeId} {a : Option Addr} {n cap : Nat} {us : List Value} (h : w.ownsRow B e 1 (.slice a n cap) n us) (hg : BlkGe a K) : w.ownsRow K e 1 (.slice a n cap) n us := by
  refine ⟨h.1, ?_⟩
  rcases h.2 with h2 | ⟨g, cap', cur, hv, hg', r⟩
  · exact .inl h2
  · refine .inr ⟨g, cap', cur, hv, ?_, r⟩
    simp at hv
    obtain ⟨rfl, _⟩ := hv
    exact hg _ rfl
theorem ownsRow_ge {w : World} {B : Nat} {e : TypeId} {a : Option Addr} {n cap : Nat} {us : List Value} (h : w.ownsRow B e 1 (.slice a n cap) n us) : BlkGe a B := by
  rintro p rfl
  rcases h.2 with ⟨hv, _⟩ | ⟨g, cap', cur, hv, hg', _⟩
  · simp at hv
  · simp at hv
    rw [hv.1]
    exact hg'
/-- A row lies apart from the rows so far. -/
def Aside (rs : List Rw) (a : Option Addr) : Prop := ∀ i, i < rs.length → ∀ p q, (nthR rs i).a = some p → a = some q → p.block ≠ q.block

/-- 'append(out, row)': the row lies apart from the others; what lies before K stays. -/
theorem wpList_append_rowA {ops : Array Oper} {rest : List Oper} {o : Oper} {a : Act} {Q : Exit → Act → World → Prop} (w : World) (hgd : o.guard = none) (s x : Operand)
    (ho : o.op = .call { callee := .builtin .append, args := #[s, x], argTypes := #[25, 25] })
    (B K : Nat) (a0 : Option Addr) (n cap : Nat) (rs : List Rw) (a1 : Option Addr) (m c1 : Nat) (ys : List Int) (hs : a.eval s = .slice a0 n cap) (hx : a.eval x = .slice (some ⟨w.heap.size, 0, none⟩) 1 1)
    (hown : OwnR w B a0 n cap rs) (hrow : Own w B a1 m c1 ys) (hap : Aside rs a1) (hl : n + 1 ≤ 2097152) (hge : BlkGe a0 K) (hBK : B ≤ K) (hK : K ≤ w.heap.size)
    (h : ∀ a' cap' w', OwnR w' B a' (n + 1) cap' (rs ++ [⟨a1, c1, ys⟩]) → BlkGe a' K → Below K w w' → wpList Tryz.prog ops Q rest (a.put o.dst (.slice a' (n + 1) cap')) w') :
    wpList Tryz.prog ops Q (o :: rest) a (w.alloc (.cells #[.slice a1 m c1] 31)) := by
  obtain ⟨i0, hi, hz0, hz1, hz2⟩ := info_parts Tryz.infoInts
  have hlen := hown.len
  have hm : ys.length = m := hrow.len
  refine wpList_append_own (P := Tryz.prog) _ hgd s x 25 ho K 31 i0 (.slice none 0 0) 1 24 Tryz.underlying25 hi hz0 hz1 hz2 rfl (by decide) _ n (rs.map Rw.v) hs ((ownsRow_up hown.1 hge).alloc _) ⟨w.heap.size, 0, none⟩ 1 1 [.slice a1 m c1] hx rfl (one_cellV w _ _) (by intro u hu; simp at hu; subst hu; rfl) (by unfold maxLen; omega) (by omega) (by simp; omega) ?_
  intro v' w' hown' hgrow _
  have hbw : Below K w w' := ((Below.refl K w).alloc hK _).grown hgrow (by simp; omega) (fun k hk => ((ownsRow_up hown.1 hge).lt k hk).1)
  obtain ⟨a', cap', rfl⟩ := slice_of_row hown'
  have hkeep : ∀ {aa : Option Addr} {k c : Nat} {zs : List Int} {BB : Nat}, Own w BB aa k c zs → Own w' BB aa k c zs := by
    intro aa k c zs BB hz
    refine ⟨(hz.1.alloc _).kept hgrow ?_, hz.2⟩
    cases aa with
    | none => left; rfl
    | some p =>
      right
      rcases hz.1.2 with ⟨hv, _⟩ | ⟨g1, cap1, cur1, hv1, _, hh1, _⟩
      · simp at hv
      · simp at hv1
        rcases hown.1.2 with ⟨hv2, _⟩ | ⟨g2, cap2, cur2, hv2, _, hh2, _⟩
        · simp at hv2
          rw [hv2.1]
          simp [Value.ownBlock]
        · simp at hv2
          rw [hv2.1, hv1.1]
          simp only [Value.ownBlock]
          intro e
          simp at e
          rw [e, hh2] at hh1
          simp at hh1
  have hfin : OwnR w' B a' (n + 1) cap' (rs ++ [⟨a1, c1, ys⟩]) := by
    refine ⟨by simpa [Rw.v, hm] using ownsRow_mono hown' hBK, by simp [hlen], hl, fun i hi => ?_, fun i j p q hij hj hp hq => ?_⟩
    · by_cases e : i < n
      · rw [nthR_append_left (by omega)]
        exact hkeep (hown.2.2.2.1 i e)
      · obtain rfl : i = n := by omega
        rw [nthR_append_right (by omega), hlen, Nat.sub_self, nthR_one]
        have := hkeep hrow
        rw [← hm] at this
        exact this
    · rw [nthR_append_left (by omega)] at hp
      by_cases e : j < n
      · rw [nthR_append_left (by omega)] at hq
        exact hown.2.2.2.2 i j p q hij e hp hq
      · obtain rfl : j = n := by omega
        rw [nthR_append_right (by omega), hlen, Nat.sub_self, nthR_one] at hq
        exact hap i (by omega) p q hp hq
  exact h _ _ _ hfin (ownsRow_ge hown') hbw

/-- The k-th row read. -/
theorem OwnR.row {w : World} {B : Nat} {a : Option Addr} {n cap : Nat} {rs : List Rw} (h : OwnR w B a n cap rs) {k : Nat} (hk : k < n) : Own w B (nthR rs k).a (nthR rs k).xs.length (nthR rs k).c (nthR rs k).xs := h.2.2.2.1 k hk
theorem OwnR.cellAt {w : World} {B : Nat} {a : Option Addr} {n cap : Nat} {rs : List Rw} (h : OwnR w B a n cap rs) (hn : 0 < n) : ∃ g, a = some ⟨g, 0, none⟩ ∧ B ≤ g ∧ g < w.heap.size ∧ (∀ k, k < n → w.cell? ⟨g, k, none⟩ = some (.slice (nthR rs k).a (nthR rs k).xs.length (nthR rs k).c)) ∧ ∀ k, w.frozen? ⟨g, k, none⟩ = false := by
  rcases h.1.2 with ⟨hv, h0⟩ | ⟨g, cap', cur, hv, hg, hh, hnc, hcm, hcs, htake⟩
  · omega
  · simp at hv
    obtain ⟨rfl, rfl⟩ := hv
    obtain ⟨b, off, ha, hlt, hc⟩ := h.has.2.2.2.2.1 hn
    cases ha
    exact ⟨g, rfl, hg, hlt, fun k hk => by simpa [Rw.v] using hc k hk, fun i => h.1.frozenAt i⟩
theorem numsOf_nth {rs : List Rw} {k : Nat} (h : k < rs.length) : (numsOf rs).getD k [] = (nthR rs k).xs := by simp [numsOf, nthR, h]
end Go.Proofs.YtakadjhbomggbaaGreat

namespace Go.Proofs.YtakadjhbomggbaaGreat
open Go.RowKit

/-- The rows' own block is no row's. -/
theorem hdr_ne {w : World} {B B' n cap m c : Nat} {a a2 : Option Addr} {us : List Value} {xs : List Int} (h : w.ownsRow B 31 1 (.slice a n cap) n us) (h2 : Own w B' a2 m c xs) : ∀ p q, a = some p → a2 = some q → p.block ≠ q.block := by
  rintro p q rfl rfl e
  rcases h.2 with ⟨hv, _⟩ | ⟨g1, cap1, cur1, hv1, _, hh1, _⟩
  · simp at hv
  · simp at hv1
    rcases h2.1.2 with ⟨hv2, _⟩ | ⟨g2, cap2, cur2, hv2, _, hh2, _⟩
    · simp at hv2
    · simp at hv2
      rw [hv1.1, hv2.1] at e
      simp at e
      rw [e, hh2] at hh1
      simp at hh1
theorem own_other {w w' : World} {B m c g : Nat} {a2 : Option Addr} {xs : List Int} (h : Own w B a2 m c xs) (hg : w.grownBy w' (some g)) (hne : ∀ q, a2 = some q → q.block ≠ g) : Own w' B a2 m c xs := h.kept hg (.inr hne)
theorem nthR_setB {rs : List Rw} {i j : Nat} {r : Rw} (h : i < rs.length) : nthR (rs.set i r) j = if i = j then r else nthR rs j := by
  by_cases e : i = j
  · subst e; simp [nthR, h]
  · simp [nthR, e]
/-- Behind a growth of the k-th row the rows' own cells are as they were. -/
theorem OwnR.ready {w w1 : World} {B g n cap : Nat} {rs : List Rw} (h : OwnR w B (some ⟨g, 0, none⟩) n cap rs) {k : Nat} (hk : k < n) (hg : w.grownBy w1 (Value.ownBlock (.slice (nthR rs k).a (nthR rs k).xs.length (nthR rs k).c))) :
    w1.frozen? ⟨g, k, none⟩ = false ∧ w1.cell? ⟨g, k, none⟩ = some (.slice (nthR rs k).a (nthR rs k).xs.length (nthR rs k).c) := by
  have hhdr1 : w1.ownsRow B 31 1 (.slice (some ⟨g, 0, none⟩) n cap) n (rs.map Rw.v) := by
    refine h.1.kept hg ?_
    cases e : (nthR rs k).a with
    | none => right; simp [Value.ownBlock]
    | some q =>
      right
      have := hdr_ne h.1 (h.row hk) _ _ rfl e
      simpa [Value.ownBlock] using this
  have hc := hhdr1.cellAt k (by omega)
  rw [map_nthR Rw.v (by rw [h.len]; exact hk)] at hc
  exact ⟨hhdr1.frozenAt k, hc⟩
/-- The k-th row is set anew. -/
theorem OwnR.setRow {w w1 : World} {B g n cap : Nat} {rs : List Rw} (h : OwnR w B (some ⟨g, 0, none⟩) n cap rs) {k : Nat} (hk : k < n) (hg : w.grownBy w1 (Value.ownBlock (.slice (nthR rs k).a (nthR rs k).xs.length (nthR rs k).c))) {a' : Option Addr} {m' c' : Nat} {ys : List Int} (hown' : Own w1 B a' m' c' ys)
    (hloc : Value.ownBlock (.slice a' m' c') = Value.ownBlock (.slice (nthR rs k).a (nthR rs k).xs.length (nthR rs k).c) ∨ ∃ g', Value.ownBlock (.slice a' m' c') = some g' ∧ w.heap.size ≤ g') :
    OwnR (w1.setCell ⟨g, k, none⟩ (.slice a' m' c')) B (some ⟨g, 0, none⟩) n cap (rs.set k ⟨a', c', ys⟩) ∧ w1.grownBy (w1.setCell ⟨g, k, none⟩ (.slice a' m' c')) (some g) := by
  have hl := h.len
  have hm : ys.length = m' := hown'.len
  have hrk := h.row hk
  have hhdr1 : w1.ownsRow B 31 1 (.slice (some ⟨g, 0, none⟩) n cap) n (rs.map Rw.v) := by
    refine h.1.kept hg ?_
    cases e : (nthR rs k).a with
    | none => right; simp [Value.ownBlock]
    | some q =>
      right
      have := hdr_ne h.1 hrk _ _ rfl e
      simpa [Value.ownBlock] using this
  obtain ⟨s1, s2⟩ := hhdr1.stored k (.slice a' m' c')
  -- the other rows
  have other : ∀ j, j < n → j ≠ k → Own w1 B (nthR rs j).a (nthR rs j).xs.length (nthR rs j).c (nthR rs j).xs := fun j hj hjk => by
    refine ⟨(h.row hj).1.kept hg ?_, (h.row hj).2⟩
    cases e : (nthR rs j).a with
    | none => left; rfl
    | some p =>
      right
      cases e2 : (nthR rs k).a with
      | none => simp [Value.ownBlock]
      | some q =>
        have : p.block ≠ q.block := by
          rcases Nat.lt_or_gt_of_ne hjk with h5 | h5
          · exact h.2.2.2.2 j k p q h5 hk e e2
          · exact fun e3 => h.2.2.2.2 k j q p h5 hj e2 e e3.symm
        simpa [Value.ownBlock] using this
  have newOther : ∀ j, j < n → j ≠ k → ∀ p q, (nthR rs j).a = some p → a' = some q → p.block ≠ q.block := fun j hj hjk p q hp hq => by
    subst hq
    rcases hloc with h5 | ⟨g', h5, h6⟩
    · cases e2 : (nthR rs k).a with
      | none => rw [e2] at h5; simp [Value.ownBlock] at h5
      | some q' =>
        rw [e2] at h5
        simp [Value.ownBlock] at h5
        rw [h5]
        rcases Nat.lt_or_gt_of_ne hjk with h7 | h7
        · exact h.2.2.2.2 j k p q' h7 hk hp e2
        · exact fun e3 => h.2.2.2.2 k j q' p h7 hj e2 hp e3.symm
    · simp [Value.ownBlock] at h5
      have := (h.row hj).lt p hp
      omega
  refine ⟨⟨?_, by simpa using hl, h.2.2.1, fun j hj => ?_, fun i j p q hij hj hp hq => ?_⟩, s2⟩
  · have e : (rs.set k ⟨a', c', ys⟩).map Rw.v = (rs.map Rw.v).set k (.slice a' m' c') := by
      rw [List.map_set]
      simp [Rw.v, hm]
    rw [e]
    exact s1
  · rw [nthR_setB (by omega)]
    by_cases e : k = j
    · subst e
      rw [if_pos rfl]
      simp only
      rw [hm]
      exact own_other hown' s2 fun q hq e2 => hdr_ne hhdr1 hown' _ q rfl hq e2.symm
    · rw [if_neg e]
      exact own_other (other j hj (fun h => e h.symm)) s2 fun q hq e2 => hdr_ne hhdr1 (other j hj (fun h => e h.symm)) _ q rfl hq e2.symm
  · rw [nthR_setB (by omega)] at hp hq
    by_cases e1 : k = i
    · rw [if_pos e1] at hp
      by_cases e2 : k = j
      · omega
      · rw [if_neg e2] at hq
        exact fun e3 => newOther j hj (fun h => e2 h.symm) q p hq hp e3.symm
    · rw [if_neg e1] at hp
      by_cases e2 : k = j
      · rw [if_pos e2] at hq
        exact newOther i (by omega) (fun h => e1 h.symm) p q hp hq
      · rw [if_neg e2] at hq
        exact h.2.2.2.2 i j p q hij hj hp hq
end Go.Proofs.YtakadjhbomggbaaGreat

namespace Go.Proofs.YtakadjhbomggbaaGreat
open Go.RowKit

def blkAt (bs : List (List Int)) (k : Nat) : List Int := bs.getD k []
def lenTo (bs : List (List Int)) : Nat → Nat
  | 0 => 0
  | k + 1 => lenTo bs k + (blkAt bs k).length
def flatTo (bs : List (List Int)) : Nat → List Int
  | 0 => []
  | k + 1 => flatTo bs k ++ blkAt bs k
def nonTo (bs : List (List Int)) (k : Nat) : Bool := (List.range k).all fun j => decide (0 < (blkAt bs j).length)
def plIn (f : Nat) (b ys : List Int) : Nat → List Int
  | 0 => ys
  | i + 1 => (plIn f b ys i).set (nth b i).toNat ((f : Int) + ((i - 1 : Nat) : Int))
def plTo (n : Nat) (bs : List (List Int)) : Nat → List Int
  | 0 => List.replicate n 0
  | k + 1 => plIn (lenTo bs k) (blkAt bs k) (plTo n bs k) (blkAt bs k).length
def okBl (bs : List (List Int)) : Bool := nonTo bs bs.length && outB (flatTo bs bs.length)
def placeBl (bs : List (List Int)) : List Int := plTo (lenTo bs bs.length) bs bs.length
def fromUnit (bs : List (List Int)) : List Int × Bool := if okBl bs = true ∧ unitBlocksOf (placeBl bs) = (bs, true) then (placeBl bs, true) else ([], false)
theorem blkAt_nums {rs : List Rw} {k : Nat} (h : k < rs.length) : blkAt (numsOf rs) k = (nthR rs k).xs := by
  have h1 : (numsOf rs)[k]? = some (nthR rs k).xs := map_nthR Rw.xs h
  unfold blkAt
  rw [List.getD_eq_getElem?_getD, h1]
  rfl
theorem length_flatTo (bs : List (List Int)) : ∀ k, (flatTo bs k).length = lenTo bs k
  | 0 => rfl
  | k + 1 => by rw [flatTo, lenTo, List.length_append, length_flatTo bs k]
theorem lenTo_mono (bs : List (List Int)) {k : Nat} : ∀ m, lenTo bs k ≤ lenTo bs (k + m)
  | 0 => Nat.le_refl _
  | m + 1 => Nat.le_trans (lenTo_mono bs m) (Nat.le_add_right _ _)
theorem nonTo_succ {bs : List (List Int)} {k : Nat} : nonTo bs (k + 1) = (nonTo bs k && decide (0 < (blkAt bs k).length)) := by simp [nonTo, List.range_succ]
theorem nonTo_no {bs : List (List Int)} {k m : Nat} (hk : k < m) (h : (blkAt bs k).length = 0) : nonTo bs m = false := by
  unfold nonTo
  rw [List.all_eq_false]
  exact ⟨k, by simpa using hk, by simp [h]⟩
theorem nonTo_len {bs : List (List Int)} : ∀ {k : Nat}, nonTo bs k = true → k ≤ lenTo bs k
  | 0, _ => Nat.le_refl _
  | k + 1, h => by
    rw [nonTo_succ, Bool.and_eq_true, decide_eq_true_eq] at h
    have := nonTo_len h.1
    rw [lenTo]
    omega
theorem length_plIn (f : Nat) (b ys : List Int) : ∀ i, (plIn f b ys i).length = ys.length
  | 0 => rfl
  | i + 1 => by rw [plIn, List.length_set, length_plIn f b ys i]
theorem length_plTo (n : Nat) (bs : List (List Int)) : ∀ k, (plTo n bs k).length = n
  | 0 => by simp [plTo]
  | k + 1 => by rw [plTo, length_plIn, length_plTo n bs k]
/-- Different numbers below n. -/
def preB (n : Nat) (s : List Int) : Prop := s.Nodup ∧ ∀ x ∈ s, 0 ≤ x ∧ x < (n : Int)
theorem pre_snoc {n : Nat} {s : List Int} {x : Int} (h : preB n s) (hx : 0 ≤ x ∧ x < (n : Int)) (hn : x ∉ s) : preB n (s ++ [x]) := by
  refine ⟨?_, fun y hy => ?_⟩
  · rw [List.nodup_append]
    refine ⟨h.1, by simp, fun a ha b hb => ?_⟩
    rw [List.mem_singleton] at hb
    subst hb
    rintro rfl
    exact hn ha
  · rcases List.mem_append.1 hy with hy | hy
    · exact h.2 y hy
    · rw [List.mem_singleton] at hy; subst hy; exact hx
theorem out_pre {xs : List Int} : outB xs = true ↔ xs.length ≤ 8 ∧ preB xs.length xs := by
  constructor
  · intro h
    have h1 := out_le h
    unfold outB at h
    rw [Bool.and_eq_true, carsB_iff] at h
    have h2 := nodup_take _ (Nat.le_refl _) h.2
    rw [List.take_length] at h2
    exact ⟨h1, h2, fun x hx => by have := h.1.2 x hx; omega⟩
  · rintro ⟨h1, h2, h3⟩
    unfold outB
    rw [Bool.and_eq_true, carsB_iff]
    refine ⟨⟨h1, fun x hx => by have := h3 x hx; omega⟩, ?_⟩
    unfold distB
    rw [List.all_eq_true]
    intro i hi
    rw [List.mem_range] at hi
    rw [Bool.not_eq_true', Bool.eq_false_iff]
    intro hh
    have hm : nth xs i ∈ xs.take i := by simpa [hasB] using hh
    have h4 : xs = xs.take i ++ nth xs i :: xs.drop (i + 1) := by
      conv => lhs; rw [← List.take_append_drop i xs]
      rw [List.drop_eq_getElem_cons hi]
      simp [nth, hi]
    rw [h4, List.nodup_append] at h2
    exact h2.2.2 _ hm _ List.mem_cons_self rfl
theorem flat_prefix (bs : List (List Int)) {k : Nat} : ∀ m, flatTo bs k <+: flatTo bs (k + m)
  | 0 => List.prefix_refl _
  | m + 1 => (flat_prefix bs m).trans (List.prefix_append _ _)
theorem flat_part (bs : List (List Int)) {k q : Nat} (hk : k < q) (i : Nat) : flatTo bs k ++ (blkAt bs k).take i <+: flatTo bs q := by
  have h1 : flatTo bs k ++ (blkAt bs k).take i <+: flatTo bs (k + 1) := by
    rw [flatTo]
    exact (List.prefix_append_right_inj _).2 (List.take_prefix _ _)
  have h2 := flat_prefix bs (k := k + 1) (q - (k + 1))
  rw [show k + 1 + (q - (k + 1)) = q by omega] at h2
  exact h1.trans h2
/-- Where the model and the program say no. -/
theorem from_empty {bs : List (List Int)} {k : Nat} (hk : k < bs.length) (h : (blkAt bs k).length = 0) : fromUnit bs = ([], false) := by
  unfold fromUnit
  rw [if_neg]
  rintro ⟨h1, _⟩
  unfold okBl at h1
  rw [nonTo_no hk h] at h1
  simp at h1
theorem from_long {bs : List (List Int)} {k : Nat} (hk : k < bs.length) (h : 8 < lenTo bs (k + 1)) : fromUnit bs = ([], false) := by
  unfold fromUnit
  rw [if_neg]
  rintro ⟨h1, _⟩
  unfold okBl at h1
  rw [Bool.and_eq_true, out_pre, length_flatTo] at h1
  have := lenTo_mono bs (k := k + 1) (bs.length - (k + 1))
  rw [show k + 1 + (bs.length - (k + 1)) = bs.length by omega] at this
  omega
theorem from_range {bs : List (List Int)} {k i : Nat} (hk : k < bs.length) (hi : i < (blkAt bs k).length) (h : ¬ (0 ≤ nth (blkAt bs k) i ∧ nth (blkAt bs k) i < (lenTo bs bs.length : Int))) : fromUnit bs = ([], false) := by
  unfold fromUnit
  rw [if_neg]
  rintro ⟨h1, _⟩
  unfold okBl at h1
  rw [Bool.and_eq_true, out_pre, length_flatTo] at h1
  refine h (h1.2.2.2 _ ((flat_part bs hk (i + 1)).subset ?_))
  rw [take_succ_nth hi]
  simp
theorem from_twice {bs : List (List Int)} {k i : Nat} (hk : k < bs.length) (hi : i < (blkAt bs k).length) (h : nth (blkAt bs k) i ∈ flatTo bs k ++ (blkAt bs k).take i) : fromUnit bs = ([], false) := by
  unfold fromUnit
  rw [if_neg]
  rintro ⟨h1, _⟩
  unfold okBl at h1
  rw [Bool.and_eq_true, out_pre] at h1
  have h2 := (flat_part bs hk (i + 1)).sublist.nodup h1.2.2.1
  rw [take_succ_nth hi, ← List.append_assoc, List.nodup_append] at h2
  exact h2.2.2 _ h _ (List.mem_singleton_self _) rfl
theorem from_other {bs : List (List Int)} (h : ¬ unitBlocksOf (placeBl bs) = (bs, true)) : fromUnit bs = ([], false) := by
  unfold fromUnit
  rw [if_neg]
  rintro ⟨_, h1⟩
  exact h h1
theorem from_yes {bs : List (List Int)} (h0 : nonTo bs bs.length = true) (h8 : lenTo bs bs.length ≤ 8) (hp : preB (lenTo bs bs.length) (flatTo bs bs.length)) (h : unitBlocksOf (placeBl bs) = (bs, true)) : fromUnit bs = (placeBl bs, true) := by
  unfold fromUnit
  rw [if_pos]
  refine ⟨?_, h⟩
  unfold okBl
  rw [h0, Bool.true_and, out_pre, length_flatTo]
  exact ⟨h8, hp⟩
theorem blks_same {bs ls : List (List Int)} (hl : ls.length = bs.length) (h : ∀ j, j < bs.length → blkAt bs j = blkAt ls j) : ls = bs := by
  apply List.ext_getElem hl
  intro i h1 h2
  have := h i h2
  unfold blkAt at this
  simp [List.getD_eq_getElem?_getD, h1, h2] at this
  exact this.symm
end Go.Proofs.YtakadjhbomggbaaGreat

namespace Go.Proofs.YtakadjhbomggbaaGreat
open Go.RowKit Go.Maps

/-- A value in the map is told by itself. -/
def rv (v : Value) : Option (DataW Value × List MemPlace) := some (.held v, [])
theorem Tryz.keyLaw : Keyed Tryz.prog 3 := int_keyed Tryz.underlying3
theorem Tryz.zeroInts (w : World) : (zeroValue 31).run Tryz.prog w = .ok (.slice none 0 0) w := by kernel_rfl
theorem Tryz.keyInt (x : Nat) (h : x < 100) : keyOf Tryz.prog 3 (.int .i64 (x : Int)) = some (.int .i64 (x : Int)) := keyOf_int_mk Tryz.underlying3 (WalkArith.wf_i64 (by omega))

/-- The map in block b has for the number x, if at all, the value f x. -/
def PM (w : World) (b : Nat) (f : Nat → Option Value) (cnt : Nat) : Prop :=
  ∃ D : DataW Value, w.ownsMap Tryz.prog 3 rv b cnt D ∧ Maps.size D = cnt ∧ (∀ kl, Maps.has D kl = true → ∃ x : Nat, x < 8 ∧ kl = .int .i64 (x : Int)) ∧ (∀ x : Nat, x < 8 → Maps.has D (.int .i64 (x : Int)) = (f x).isSome) ∧ ∀ x : Nat, x < 8 → D.atKey (.int .i64 (x : Int)) (.held (.slice none 0 0)) = .held ((f x).getD (.slice none 0 0))

theorem keyLit_int (x : Nat) (h : x < 100) : WideAt.IsKeyLit (.int .i64 (x : Int)) := Tryz.keyLaw.key (Tryz.keyInt x h)
theorem owns_tight {w : World} {b n : Nat} {D : DataW Value} (h : w.ownsMap Tryz.prog 3 rv b n D) : w.ownsMap Tryz.prog 3 rv b (Maps.size D) D := by
  obtain ⟨es, clock, hb, F, _, rfl⟩ := h
  exact ⟨es, clock, hb, F, by simp [Maps.size, length_sorted], rfl⟩
theorem PM.made (w : World) : PM (w.alloc (.map #[] 0)) w.heap.size (fun _ => none) 0 :=
  ⟨.map [], World.ownsMap_made w _ _ _, rfl, fun kl h => by simp [Maps.has] at h, fun x _ => rfl, fun x _ => by simp [DataW.atKey]⟩
theorem PM.lt {w : World} {b cnt : Nat} {f : Nat → Option Value} (h : PM w b f cnt) : b < w.heap.size := by obtain ⟨D, h1, _⟩ := h; exact h1.lt
theorem PM.kept {w w' : World} {b cnt : Nat} {f : Nat → Option Value} {row : Option Nat} (h : PM w b f cnt) (hg : w.grownBy w' row) (hne : some b ≠ row) : PM w' b f cnt := by
  obtain ⟨D, h1, h2⟩ := h
  exact ⟨D, h1.kept hg hne, h2⟩
theorem PM.below {w w' : World} {b cnt B : Nat} {f : Nat → Option Value} (h : PM w b f cnt) (hb : Below B w w') (hlt : b < B) : PM w' b f cnt := by
  obtain ⟨D, ⟨es, clock, hh, r⟩, h2⟩ := h
  exact ⟨D, ⟨es, clock, (hb.block b hlt).trans hh, r⟩, h2⟩
def upd {α : Type} (f : Nat → α) (x : Nat) (v : α) : Nat → α := fun y => if y = x then v else f y
theorem litNe {x y : Nat} (h : x ≠ y) : Lit.int .i64 (x : Int) ≠ Lit.int .i64 (y : Int) := by
  intro e
  injection e with _ e
  omega
theorem PM.congr {w : World} {b cnt cnt' : Nat} {f g : Nat → Option Value} (h : PM w b f cnt) (hc : cnt = cnt') (hf : ∀ x, x < 8 → f x = g x) : PM w b g cnt' := by
  subst hc
  obtain ⟨D, h1, h2, h3, h4, h5⟩ := h
  exact ⟨D, h1, h2, h3, fun x hx => by rw [h4 x hx, hf x hx], fun x hx => by rw [h5 x hx, hf x hx]⟩

/-! ### The parts in the map -/
def valF (G : Nat → List Int) (r : Nat → Rw) (x : Nat) : Option Value := if G x = [] then none else some (r x).v
def keysG (G : Nat → List Int) : List Nat := (List.range 8).filter fun x => !(G x).isEmpty
/-- The map in block b has, for each number x, the row r x with the cars G x, if there are any; rows lie from block B on, apart from each other. -/
def PartsR (w : World) (b B : Nat) (G : Nat → List Int) (r : Nat → Rw) : Prop :=
  PM w b (valF G r) (keysG G).length ∧ b < B ∧ (∀ x, x < 8 → G x ≠ [] → (r x).xs = G x ∧ Own w B (r x).a (r x).xs.length (r x).c (r x).xs) ∧
  ∀ x y, x < 8 → y < 8 → x ≠ y → G x ≠ [] → G y ≠ [] → ∀ p q, (r x).a = some p → (r y).a = some q → p.block ≠ q.block
theorem keysG_le (G : Nat → List Int) : (keysG G).length ≤ 8 := by
  unfold keysG
  exact Nat.le_trans (List.length_filter_le _ _) (by simp)
theorem keysG_upd (G : Nat → List Int) {x : Nat} (hx : x < 8) (ys : List Int) :
    (keysG (upd G x ys)).length + (if G x = [] then 0 else 1) = (keysG G).length + (if ys = [] then 0 else 1) := by
  have key : ∀ l : List Nat, l.Nodup → (l.filter fun y => !(upd G x ys y).isEmpty).length + (if x ∈ l ∧ G x ≠ [] then 1 else 0) = (l.filter fun y => !(G y).isEmpty).length + (if x ∈ l ∧ ys ≠ [] then 1 else 0) := by
    intro l
    induction l with
    | nil => intro _; simp
    | cons z l ih =>
      intro hn
      obtain ⟨hz, hn⟩ := List.nodup_cons.1 hn
      have ih := ih hn
      by_cases e : z = x
      · subst e
        have e1 : (l.filter fun y => !(upd G z ys y).isEmpty) = l.filter fun y => !(G y).isEmpty := List.filter_congr fun y hy => by
          have : y ≠ z := fun e => hz (e ▸ hy)
          simp [upd, this]
        rw [List.filter_cons, List.filter_cons, e1]
        by_cases g1 : G z = [] <;> by_cases g2 : ys = [] <;> simp [upd, g1, g2]
      · have e1 : upd G x ys z = G z := by simp [upd, e]
        have e2 : (x ∈ z :: l) ↔ x ∈ l := by simp [Ne.symm e]
        rw [List.filter_cons, List.filter_cons, e1]
        simp only [e2]
        split
        · simp only [List.length_cons]
          omega
        · omega
  have := key (List.range 8) List.nodup_range
  have hm : x ∈ List.range 8 := by simpa using hx
  unfold keysG
  by_cases g1 : G x = [] <;> by_cases g2 : ys = [] <;> simp [hm, g1, g2] at this ⊢ <;> omega
theorem parts_made (w : World) : PartsR (w.alloc (.map #[] 0)) w.heap.size (w.heap.size + 1) (fun _ => []) (fun _ => Rw.none') :=
  ⟨(PM.made w).congr rfl (fun x _ => by simp [valF]), by omega, fun x _ h => absurd rfl h, fun x y _ _ _ h => absurd rfl h⟩
theorem PartsR.below {w w' : World} {b B K : Nat} {G : Nat → List Int} {r : Nat → Rw} (h : PartsR w b B G r) (hb : Below K w w') (hK : w.heap.size ≤ K) : PartsR w' b B G r := by
  obtain ⟨h1, h2, h3, h4⟩ := h
  exact ⟨h1.below hb (Nat.lt_of_lt_of_le h1.lt hK), h2, fun x hx hg => ⟨(h3 x hx hg).1, (h3 x hx hg).2.below hb hK⟩, h4⟩
/-- .. where what lies before K stays, and the map and its rows lie there. -/
theorem PartsR.belowB {w w' : World} {b B K : Nat} {G : Nat → List Int} {r : Nat → Rw} (h : PartsR w b B G r) (hb : Below K w w') (hbK : b < K) (hr : ∀ x, x < 8 → G x ≠ [] → BlkLt (r x).a K) : PartsR w' b B G r := by
  obtain ⟨h1, h2, h3, h4⟩ := h
  exact ⟨h1.below hb hbK, h2, fun x hx hg => ⟨(h3 x hx hg).1, (h3 x hx hg).2.belowB hb (hr x hx hg)⟩, h4⟩
theorem turned_own {w w' : World} {b B n cap : Nat} {a : Option Addr} {xs : List Int} (h : Own w B a n cap xs) (ht : w.grownBy w' (some b)) (hb : b < B) : Own w' B a n cap xs := h.kept ht (.inl hb)
theorem turned_rows {w w' : World} {b B n cap : Nat} {a : Option Addr} {rs : List Rw} (h : OwnR w B a n cap rs) (ht : w.grownBy w' (some b)) (hb : b < B) : OwnR w' B a n cap rs := by
  refine ⟨h.1.kept ht ?_, h.2.1, h.2.2.1, fun i hi => (h.2.2.2.1 i hi).kept ht (.inl hb), h.2.2.2.2⟩
  cases a with
  | none => left; rfl
  | some p =>
    right
    have := (h.1.lt p.block rfl).1
    simp [Value.ownBlock]
    omega

/-! ### At the operations -/
section
variable (w : World) {ops : Array Oper} {rest : List Oper} {o : Oper} {a : Act} {Q : Exit → Act → World → Prop}
/-- 'append(out, y)' of one number, with where the new slice lies. -/
theorem wpList_append_int_at (hgd : o.guard = none) (s x : Operand)
    (ho : o.op = .call { callee := .builtin .append, args := #[s, x], argTypes := #[31, 31] })
    (B : Nat) (a0 : Option Addr) (n cap : Nat) (xs : List Int) (y : Int) (hs : a.eval s = .slice a0 n cap) (hx : a.eval x = .slice (some ⟨w.heap.size, 0, none⟩) 1 1)
    (hown : Own w B a0 n cap xs) (hl : n + 1 ≤ 2097152) (hB : B ≤ w.heap.size)
    (h : ∀ a' cap' w', Own w' B a' (n + 1) cap' (xs ++ [y]) → w.grownBy w' (Value.ownBlock (.slice a0 n cap)) → (Value.ownBlock (.slice a' (n + 1) cap') = Value.ownBlock (.slice a0 n cap) ∨ ∃ g, Value.ownBlock (.slice a' (n + 1) cap') = some g ∧ w.heap.size ≤ g) →
      wpList Tryz.prog ops Q rest (a.put o.dst (.slice a' (n + 1) cap')) w') :
    wpList Tryz.prog ops Q (o :: rest) a (w.alloc (.cells #[.int .i64 y] 3)) := by
  obtain ⟨i0, hi, hz0, hz1, hz2⟩ := info_parts Tryz.infoInt
  have hlen := hown.len
  refine wpList_append_own_at (P := Tryz.prog) _ hgd s x 31 ho B 3 i0 (.int .i64 0) 1 8 Tryz.underlying31 hi hz0 hz1 hz2 rfl (by decide) _ n (xs.map (Value.int .i64)) hs (hown.1.alloc _) ⟨w.heap.size, 0, none⟩ 1 1 [.int .i64 y] hx rfl (cell_one_new _ _ _) (by intro u hu; simp at hu; subst hu; rfl) (by unfold maxLen; omega) (by omega) (by simp; omega) ?_
  intro v' w' hown' hgrow _ hloc
  obtain ⟨a', cap', rfl, ho'⟩ := own_of_row (xs := xs ++ [y]) hown' (by simp [hlen]) (by simp) (by simp; omega)
  exact h _ _ _ ho' ((World.grownBy_alloc _ _ _).trans hgrow) (hloc.imp id (fun h => ⟨_, h, by simp⟩))
end
end Go.Proofs.YtakadjhbomggbaaGreat

namespace Go.Proofs.YtakadjhbomggbaaGreat
open Go.RowKit

set_option maxHeartbeats 400000 in
theorem cBelow_any (a : Option Addr) (n cap : Nat) (xs : List Int) (p : Int) (w : World) (h : Has w a n cap xs) :
    Calls Tryz.prog 39 #[.slice a n cap, .int .i64 p] w fun e w' => e = .returned (.int .i64 (below xs p)) ∧ w = w' := by
  obtain ⟨h0, h1, h2, h3, h4⟩ := h
  go_enter Tryz.func39, Tryz.ntmps39
  go_wp2_with fail
  go_loop [5, 10] (fun c i => ∃ k : Nat, k ≤ n ∧ i = .int .i64 k ∧ c = .int .i64 (below (xs.take k) p)) (fun _ i => n - (intOf i).toNat)
  case atStart => exact ⟨0, Nat.zero_le _, rfl, rfl⟩
  case round =>
    obtain ⟨k, hk, rfl, rfl⟩ := hrel
    by_cases hlt : k < n
    · obtain ⟨b, off, rfl, hb, hc⟩ := h4 (by omega)
      have hck := hc k hlt
      clear hc h4
      have hle := below_le (xs.take k) p
      have hsn := below_succ (k := k) (xs := xs) (by omega) p
      simp only [List.length_take] at hle
      have HS := hid hsn
      clear hsn
      have hle2 : below (xs.take k) p ≤ n := by omega
      clear hle
      by_cases hp : nth xs k < p
      · go_wp2_with fail
        go_round
        case rel => exact ⟨k + 1, by omega, by go_num, by rw [HS.out, if_pos hp]; go_num⟩
        case measure => simp [intOf]; omega
      · go_wp2_with fail
        go_round
        case rel => exact ⟨k + 1, by omega, by go_num, by rw [HS.out, if_neg (by omega)]; go_num⟩
        case measure => simp [intOf]; omega
    · obtain rfl : k = n := by omega
      go_wp2_with fail
      go_ret
      exact ⟨ret_int (by rw [List.take_of_length_le (by omega)]), rfl⟩

end Go.Proofs.YtakadjhbomggbaaGreat

namespace Go.Proofs.YtakadjhbomggbaaGreat
open Go.RowKit Go.Maps

theorem grp_step {xs cs : List Int} {k c : Nat} (hk : k < cs.length) (hc : nth cs k = (c : Int)) (x : Nat) : grp xs (cs.take (k + 1)) x = upd (fun x => grp xs (cs.take k) x) (begC xs c) (grp xs (cs.take k) (begC xs c) ++ [(c : Int)]) x := by
  rw [take_succ_nth hk, hc, grp_snoc]
  unfold upd
  by_cases e : begC xs (c : Int) = x
  · rw [if_pos e, if_pos e.symm, e]
  · rw [if_neg e, if_neg (fun h => e h.symm)]
end Go.Proofs.YtakadjhbomggbaaGreat

namespace Go.Proofs.YtakadjhbomggbaaGreat
open Go.RowKit Go.Maps

/-- The least of the keys that have come, or 8. -/
def FirstK (D : DataW Value) (left : Lit → Bool) (f : Int) : Prop :=
  (0 ≤ f ∧ f ≤ 8) ∧ (f = 8 ∨ ∃ x : Nat, x < 8 ∧ f = (x : Int) ∧ Maps.has D (.int .i64 (x : Int)) = true ∧ left (.int .i64 (x : Int)) = false) ∧ ∀ x : Nat, x < 8 → Maps.has D (.int .i64 (x : Int)) = true → left (.int .i64 (x : Int)) = false → f ≤ (x : Int)
theorem FirstK.step {D : DataW Value} {left : Lit → Bool} {f : Int} (h : FirstK D left f) {x : Nat} (hx : x < 8) (hh : Maps.has D (.int .i64 (x : Int)) = true) : FirstK D (fun z => left z && !z.sameKey (.int .i64 (x : Int))) (min f (x : Int)) := by
  obtain ⟨h0, h1, h2⟩ := h
  have hs : (Lit.int .i64 (x : Int)).sameKey (.int .i64 (x : Int)) = true := WideAt.sameKey_self (keyLit_int x (by omega))
  refine ⟨by omega, ?_, fun z hz hhz hl => ?_⟩
  · rcases Int.le_total f (x : Int) with hle | hle
    · rw [Int.min_eq_left hle]
      rcases h1 with rfl | ⟨y, y1, y2, y3, y4⟩
      · exact .inl rfl
      · exact .inr ⟨y, y1, y2, y3, by simp [y4]⟩
    · rw [Int.min_eq_right hle]
      exact .inr ⟨x, hx, rfl, hh, by simp [hs]⟩
  · by_cases e : left (.int .i64 (z : Int)) = false
    · have := h2 z hz hhz e
      omega
    · rw [Bool.not_eq_false] at e
      simp only [e, Bool.true_and, Bool.not_eq_false'] at hl
      by_cases ez : z = x
      · subst ez; omega
      · rw [sameKey_ne (litNe ez)] at hl
        cases hl
theorem FirstK.done {D : DataW Value} {left : Lit → Bool} {f : Int} (h : FirstK D left f) (hl : ∀ kl, left kl = false) {m : Nat} (hm : m < 8) (hh : Maps.has D (.int .i64 (m : Int)) = true) (hmin : ∀ x, x < m → Maps.has D (.int .i64 (x : Int)) = false) : f = (m : Int) := by
  obtain ⟨h0, h1, h2⟩ := h
  have h3 := h2 m hm hh (hl _)
  rcases h1 with rfl | ⟨y, y1, y2, y3, y4⟩
  · omega
  · rcases Nat.lt_or_ge y m with hlt | hge
    · rw [hmin y hlt] at y3; cases y3
    · omega
theorem isSome_valF (G : Nat → List Int) (r : Nat → Rw) (x : Nat) : (valF G r x).isSome = !(G x).isEmpty := by
  unfold valF
  by_cases e : G x = []
  · simp [e]
  · rw [if_neg e]; simp [e]
theorem PartsR.taken {w w' : World} {b B : Nat} {G : Nat → List Int} {r : Nat → Rw} (h : PartsR w b B G r) {m : Nat} (hm : m < 8) (hG : G m ≠ []) {cnt : Nat} (hp : PM w' b (upd (valF G r) m none) cnt) (hc : cnt = (keysG G).length - 1) (ht : w.grownBy w' (some b)) : PartsR w' b B (upd G m []) r := by
  obtain ⟨h1, h2, h3, h4⟩ := h
  have hu : ∀ x, upd G m [] x ≠ [] → x ≠ m ∧ G x ≠ [] := fun x hx => by
    by_cases e : x = m
    · simp [upd, e] at hx
    · simp only [upd, if_neg e] at hx
      exact ⟨e, hx⟩
  refine ⟨hp.congr ?_ (fun x hx => ?_), h2, fun x hx hg => ?_, fun x y hx hy hxy hgx hgy => h4 x y hx hy hxy (hu x hgx).2 (hu y hgy).2⟩
  · have := keysG_upd G hm []
    rw [if_neg hG, if_pos rfl] at this
    omega
  · by_cases e : x = m
    · subst e; simp [upd, valF]
    · simp [upd, valF, e]
  · obtain ⟨e1, e2⟩ := hu x hg
    have := h3 x hx e2
    rw [show upd G m [] x = G x by simp [upd, e1]]
    exact ⟨this.1, turned_own this.2 ht h2⟩

end Go.Proofs.YtakadjhbomggbaaGreat

namespace Go.Proofs.YtakadjhbomggbaaGreat
open Go.RowKit Go.Maps

theorem keysG_mem {G : Nat → List Int} {x : Nat} : x ∈ keysG G ↔ x < 8 ∧ G x ≠ [] := by simp [keysG]
theorem keysG_sorted (G : Nat → List Int) : (keysG G).Pairwise (· < ·) := List.Pairwise.filter _ List.pairwise_lt_range
/-- What is left when the first k are taken. -/
def leftG (G : Nat → List Int) (k : Nat) : Nat → List Int := fun x => if x ∈ (keysG G).take k then [] else G x
theorem leftG_zero (G : Nat → List Int) : leftG G 0 = G := by funext x; simp [leftG]
theorem leftG_keys (G : Nat → List Int) (k : Nat) : keysG (leftG G k) = (keysG G).drop k := by
  have h1 : keysG (leftG G k) = (keysG G).filter fun x => decide (x ∉ (keysG G).take k) := by
    unfold keysG
    rw [List.filter_filter]
    refine List.filter_congr fun x _ => ?_
    unfold leftG keysG
    by_cases e : x ∈ ((List.range 8).filter fun x => !(G x).isEmpty).take k
    · simp [e]
    · simp [e]
  rw [h1]
  have hs := keysG_sorted G
  conv => lhs; arg 2; rw [← List.take_append_drop k (keysG G)]
  rw [List.filter_append]
  have e1 : ((keysG G).take k).filter (fun x => decide (x ∉ (keysG G).take k)) = [] := by
    rw [List.filter_eq_nil_iff]
    intro x hx
    simp [hx]
  have e2 : ((keysG G).drop k).filter (fun x => decide (x ∉ (keysG G).take k)) = (keysG G).drop k := by
    rw [List.filter_eq_self]
    intro x hx
    simp only [decide_eq_true_eq]
    intro hx2
    rw [← List.take_append_drop k (keysG G), List.pairwise_append] at hs
    have := hs.2.2 x hx2 x hx
    omega
  rw [e1, e2]
  rfl
theorem partRows_keys (xs cs : List Int) : (keysG (fun x => grp xs cs x)).map (fun x => grp xs cs x) = partRows xs cs := by
  unfold keysG partRows
  rw [List.filter_map]
  rfl
def keyAt (G : Nat → List Int) (k : Nat) : Nat := (keysG G).getD k 0
theorem keyAt_mem {G : Nat → List Int} {k : Nat} (h : k < (keysG G).length) : keyAt G k ∈ keysG G := by simp [keyAt, h]
theorem drop_keyAt {G : Nat → List Int} {k : Nat} (h : k < (keysG G).length) : (keysG G).drop k = keyAt G k :: (keysG G).drop (k + 1) := by
  rw [List.drop_eq_getElem_cons h]; simp [keyAt, h]
theorem leftG_least {G : Nat → List Int} {k : Nat} (h : k < (keysG G).length) : keyAt G k < 8 ∧ leftG G k (keyAt G k) ≠ [] ∧ ∀ x, x < keyAt G k → leftG G k x = [] := by
  have hk := leftG_keys G k
  rw [drop_keyAt h] at hk
  have hs := keysG_sorted (leftG G k)
  have hm : keyAt G k ∈ keysG (leftG G k) := by rw [hk]; exact List.mem_cons_self ..
  obtain ⟨h1, h2⟩ := keysG_mem.1 hm
  refine ⟨h1, h2, fun x hx => Classical.byContradiction fun hne => ?_⟩
  have hx' : x ∈ keysG (leftG G k) := keysG_mem.2 ⟨by omega, hne⟩
  rw [hk] at hs hx'
  rcases List.mem_cons.1 hx' with rfl | hx'
  · omega
  · have := (List.pairwise_cons.1 hs).1 x hx'
    omega
theorem take_keyAt {G : Nat → List Int} {k : Nat} (h : k < (keysG G).length) : (keysG G).take (k + 1) = (keysG G).take k ++ [keyAt G k] := by
  rw [List.take_succ_eq_append_getElem h]; simp [keyAt, h]
theorem leftG_succ {G : Nat → List Int} {k : Nat} (h : k < (keysG G).length) : upd (leftG G k) (keyAt G k) [] = leftG G (k + 1) := by
  funext x
  unfold leftG upd
  rw [take_keyAt h]
  simp only [List.mem_append, List.mem_singleton]
  by_cases e : x = keyAt G k
  · simp [e]
  · by_cases e2 : x ∈ (keysG G).take k <;> simp [e, e2]
theorem keyAt_ne {G : Nat → List Int} {i k : Nat} (hik : i < k) (h : k < (keysG G).length) : keyAt G i ≠ keyAt G k := by
  have := List.pairwise_iff_getElem.1 (keysG_sorted G) i k (by omega) h hik
  simp only [keyAt, List.getD_eq_getElem?_getD, List.getElem?_eq_getElem h, List.getElem?_eq_getElem (show i < (keysG G).length by omega), Option.getD_some]
  omega
/-- The rows in order. -/
def rowsG (G : Nat → List Int) (r : Nat → Rw) (k : Nat) : List Rw := ((keysG G).take k).map r
theorem length_rowsG {G : Nat → List Int} {r : Nat → Rw} {k : Nat} (h : k ≤ (keysG G).length) : (rowsG G r k).length = k := by simp [rowsG]; omega
theorem rowsG_succ {G : Nat → List Int} {r : Nat → Rw} {k : Nat} (h : k < (keysG G).length) : rowsG G r (k + 1) = rowsG G r k ++ [r (keyAt G k)] := by simp [rowsG, take_keyAt h]
theorem rowsG_at {G : Nat → List Int} {r : Nat → Rw} {i k : Nat} (hi : i < k) (h : k ≤ (keysG G).length) : nthR (rowsG G r k) i = r (keyAt G i) := by
  have h1 : i < (keysG G).length := by omega
  simp [nthR, rowsG, keyAt, hi, h1]
theorem rowsG_aside {G : Nat → List Int} {r : Nat → Rw} {k : Nat} (h : k < (keysG G).length) (hap : ∀ x y, x < 8 → y < 8 → x ≠ y → G x ≠ [] → G y ≠ [] → ∀ p q, (r x).a = some p → (r y).a = some q → p.block ≠ q.block) : Aside (rowsG G r k) (r (keyAt G k)).a := by
  intro i hi p q hp hq
  rw [length_rowsG (by omega)] at hi
  rw [rowsG_at hi (by omega)] at hp
  obtain ⟨a1, a2⟩ := keysG_mem.1 (keyAt_mem (G := G) (k := i) (by omega))
  obtain ⟨b1, b2⟩ := keysG_mem.1 (keyAt_mem h)
  exact hap _ _ a1 b1 (keyAt_ne hi h) a2 b2 p q hp hq
theorem nums_rowsG {G : Nat → List Int} {r : Nat → Rw} (hr : ∀ x, x < 8 → G x ≠ [] → (r x).xs = G x) : numsOf (rowsG G r (keysG G).length) = (keysG G).map G := by
  unfold numsOf rowsG
  rw [List.take_length, List.map_map]
  refine List.map_congr_left fun x hx => ?_
  obtain ⟨h1, h2⟩ := keysG_mem.1 hx
  exact hr x h1 h2

/-- Rows from B on; what lies before b stays. -/
def PostParts (B b : Nat) (w : World) (ls : List (List Int)) (e : Ending) (w' : World) : Prop := ∃ a q cap rs, e = .returned (.slice a q cap) ∧ OwnR w' B a q cap rs ∧ numsOf rs = ls ∧ Below b w w'
end Go.Proofs.YtakadjhbomggbaaGreat

namespace Go.Proofs.YtakadjhbomggbaaGreat
open Go.RowKit

def greatOf (xs : List Int) (p : Int) : Int × Bool := if good xs p && allPark p xs then (greatL (dists p xs), true) else (0, false)
theorem great_bounds {ys : List Int} (h : ∀ i, i < ys.length → 0 ≤ nth ys i ∧ nth ys i ≤ 12) : ∀ k, k ≤ ys.length → 0 ≤ greatL (ys.take k) ∧ greatL (ys.take k) ≤ 12
  | 0, _ => by simp [greatL]
  | k + 1, hk => by
    have := great_bounds h k (by omega)
    have := h k (by omega)
    rw [great_succ (by omega)]
    omega
end Go.Proofs.YtakadjhbomggbaaGreat

namespace Go.Proofs.YtakadjhbomggbaaGreat
open Go.RowKit

/-! ### Unit ones -/
/-! ### Unit ones -/
theorem dists12 {xs : List Int} (h : isPark xs = true) : distsOf xs 12 = (dists 12 xs, true) := by
  obtain ⟨g1, g2, _⟩ := park_good h
  simp [distsOf, g1, g2]
theorem isCarNumber9_any (m : Int) (w : World) : Calls Tryz.prog 41 #[.int .i64 m] w fun e w' => e = .returned (.bool (inB m 0 8)) ∧ w = w' := by
  by_cases h1 : 0 ≤ m
  · by_cases h2 : m ≤ 8
    · have HR : Hid (inB m 0 8 = true) := hid (inB_iff.2 ⟨h1, h2⟩)
      go_enter Tryz.func41, Tryz.ntmps41
      go_wp2_with fail
      go_ret
      exact ⟨ret_bool HR.out.symm, rfl⟩
    · have HR : Hid (inB m 0 8 = false) := hid (inB_not.2 (by omega))
      go_enter Tryz.func41, Tryz.ntmps41
      go_wp2_with fail
      go_ret
      exact ⟨ret_bool HR.out.symm, rfl⟩
  · have HR : Hid (inB m 0 8 = false) := hid (inB_not.2 (by omega))
    go_enter Tryz.func41, Tryz.ntmps41
    go_wp2_with fail
    go_ret
    exact ⟨ret_bool HR.out.symm, rfl⟩
end Go.Proofs.YtakadjhbomggbaaGreat

namespace Go.Proofs.YtakadjhbomggbaaGreat
open Go.RowKit

theorem fold_order {p : Int} {xs ys : List Int} (h : xs.Perm ys) : ∀ out : List Int, (∀ x ∈ xs, 0 ≤ x ∧ x ≤ p) →
    (xs.foldl (fun out x => out ++ [place p out x]) out).Perm (ys.foldl (fun out x => out ++ [place p out x]) out) := by
  induction h with
  | nil => exact fun _ _ => List.Perm.refl _
  | cons x _ ih => exact fun out hb => ih _ fun z hz => hb z (List.mem_cons_of_mem _ hz)
  | swap x y l =>
    intro out hb
    simp only [List.foldl_cons]
    exact fold_perm2 l _ _ (fun z hz => (hb z (by simp [hz])).2) (two_perm (hb y (by simp)) (hb x (by simp)))
  | trans h1 _ ih1 ih2 => exact fun out hb => (ih1 out hb).trans (ih2 out fun z hz => hb z (h1.symm.subset hz))
theorem drive_order {p : Int} {xs ys : List Int} (h : xs.Perm ys) (hb : ∀ x ∈ xs, 0 ≤ x ∧ x ≤ p) : (drive p xs).Perm (drive p ys) := fold_order h [] hb
theorem allPark_order {p : Int} {xs ys : List Int} (h : xs.Perm ys) (hb : ∀ x ∈ xs, 0 ≤ x ∧ x ≤ p) : allPark p xs = allPark p ys := by
  rw [Bool.eq_iff_iff, allPark_iff, allPark_iff, (drive_order h hb).mem_iff]
theorem good_order {p : Int} {xs ys : List Int} (h : xs.Perm ys) : good xs p = good ys p := by
  rw [Bool.eq_iff_iff, good_iff, good_iff, h.length_eq]
  simp only [h.mem_iff]
def reordL (xs os : List Int) : List Int := os.map fun c => nth xs c.toNat
theorem length_reord (xs os : List Int) : (reordL xs os).length = os.length := by simp [reordL]
theorem nth_reord {xs os : List Int} {k : Nat} (h : k < os.length) : nth (reordL xs os) k = nth xs (nth os k).toNat := by simp [reordL, nth, h]
theorem reord_succ {xs os : List Int} {k : Nat} (h : k < os.length) : (reordL xs os).take (k + 1) = (reordL xs os).take k ++ [nth xs (nth os k).toNat] := by
  rw [take_succ_nth (by rw [length_reord]; exact h), nth_reord h]
theorem self_upto9 (xs : List Int) : (upto xs.length).map (fun c => nth xs c.toNat) = xs := (ext_nth (by simp [length_upto]) fun i hi => by
  simp [nth, upto, hi]).symm
theorem reord_perm {xs os : List Int} (h : os.Perm (upto xs.length)) : (reordL xs os).Perm xs := by
  have := h.map fun c => nth xs c.toNat
  rw [self_upto9] at this
  exact this
theorem good_le {xs : List Int} {p : Int} (h : good xs p = true) : ∀ x ∈ xs, 0 ≤ x ∧ x ≤ p := fun x hx => by have := (good_iff.1 h).2.2 x hx; omega
theorem good12 {xs : List Int} {p : Int} {n : Nat} (h : good xs p = true) (hl : xs.length = n) : n ≤ 8 ∧ ∀ c, c < n → 0 ≤ nth xs c ∧ nth xs c < ((12 : Nat) : Int) := by
  obtain ⟨h1, h2, h3⟩ := good_iff.1 h
  exact ⟨by omega, fun c hc => by have := h3 _ (nth_mem (xs := xs) (i := c) (by omega)); omega⟩
/-- All park in any order. -/
theorem reord_park {xs os : List Int} {p : Int} (h : (good xs p && allPark p xs) = true) (ho : os.Perm (upto xs.length)) : (good (reordL xs os) p && allPark p (reordL xs os)) = true := by
  obtain ⟨h1, h2⟩ := Bool.and_eq_true_iff.1 h
  rw [Bool.and_eq_true, good_order (reord_perm ho), allPark_order (reord_perm ho) fun x hx => good_le h1 x ((reord_perm ho).subset hx)]
  exact ⟨h1, h2⟩
def fairOf (xs : List Int) (p : Int) : List Int × Bool := if good xs p && allPark p xs then (fairL xs, true) else ([], false)
def leastGr (xs : List Int) (p : Int) : Int × Bool := if good xs p && allPark p xs then (greatL (dists p (reordL xs (fairL xs))), true) else (0, false)
def reorderOf (xs os : List Int) : List Int × Bool := if good xs 12 && decide (os.length = xs.length) && outB os then (reordL xs os, true) else ([], false)
end Go.Proofs.YtakadjhbomggbaaGreat

namespace Go.Proofs.YtakadjhbomggbaaGreat
open Go.RowKit

end Go.Proofs.YtakadjhbomggbaaGreat

namespace Go.Proofs.YtakadjhbomggbaaGreat
open Go.RowKit

theorem fairTo_nth (xs : List Int) {k j : Nat} (h : j < k) : ∃ c : Nat, c < k ∧ nth (fairTo xs k) j = (c : Int) := by
  have hl : (fairTo xs k).length = k := by rw [(fairTo_perm xs k).length_eq, length_upto]
  exact mem_upto.1 ((fairTo_perm xs k).subset (nth_mem (by omega)))
/-! ### Favourites in another order -/
theorem fair_cars {xs : List Int} {n : Nat} (hl : xs.length = n) (h8 : n ≤ 8) (hb : ∀ c, c < n → 0 ≤ nth xs c ∧ nth xs c < ((12 : Nat) : Int)) {k : Nat} (hk : k < n) : ∃ c : Nat, c < n ∧ nth (fairL xs) k = (c : Int) := by
  obtain ⟨c, h1, h2⟩ := carsP_nth hl (by omega) hb hk
  exact ⟨c, h2, h1⟩
theorem reord_good {xs os : List Int} {p : Int} {n : Nat} (hl : xs.length = n) (h : (good xs p && allPark p xs) = true) (ho : os.Perm (upto n)) : n ≤ 8 ∧ p ≤ 12 ∧ ∀ i, i < n → 0 ≤ nth (reordL xs os) i ∧ nth (reordL xs os) i ≤ p - 1 := by
  subst hl
  obtain ⟨h1, _⟩ := Bool.and_eq_true_iff.1 (reord_park h ho)
  have hle : (reordL xs os).length = xs.length := by rw [length_reord, ho.length_eq, length_upto]
  obtain ⟨g1, g2, g3, g4⟩ := good_nth h1 hle
  exact ⟨g1, g3, g4⟩
end Go.Proofs.YtakadjhbomggbaaGreat

namespace Go.Proofs.YtakadjhbomggbaaGreat
open Go.RowKit Go.Sort

/-- A slice of the call's own of cells of one kind. -/
def OwnE (E : TypeId) (w : World) (B : Nat) (a : Option Addr) (n cap : Nat) (us : List Value) : Prop := w.ownsRow B E 1 (.slice a n cap) n us ∧ us.length = n ∧ n ≤ 2097152
theorem OwnE.below {E : TypeId} {w w' : World} {B K : Nat} {a : Option Addr} {n cap : Nat} {us : List Value} (h : OwnE E w B a n cap us) (hb : Go.RowKit.Below K w w') (hB : w.heap.size ≤ K) : OwnE E w' B a n cap us := by
  obtain ⟨⟨h1, h2⟩, h3⟩ := h
  refine ⟨⟨h1, ?_⟩, h3⟩
  rcases h2 with h2 | ⟨g, cap', cur, hv, hg, hh, r⟩
  · exact .inl h2
  · exact .inr ⟨g, cap', cur, hv, hg, by rw [hb.block g (by have := (Array.getElem?_eq_some_iff.1 hh).1; omega)]; exact hh, r⟩
theorem OwnE.cell {E : TypeId} {w : World} {B g n cap : Nat} {us : List Value} (h : OwnE E w B (some ⟨g, 0, none⟩) n cap us) {i : Nat} (hi : i < n) : w.cell? ⟨g, i, none⟩ = us[i]? := h.1.cellAt i (by omega)
theorem OwnE.lt {E : TypeId} {w : World} {B g n cap : Nat} {us : List Value} (h : OwnE E w B (some ⟨g, 0, none⟩) n cap us) : B ≤ g ∧ g < w.heap.size := h.1.lt g rfl

theorem holds_of_cells {α : Type} [Inhabited α] {enc : α → Value} {w : World} {g : Nat} {cur : Array Value} {e : TypeId} {ds : List α} (hb : w.heap[g]? = some (.cells cur e (0, 0))) (ht : cur.toList.take ds.length = ds.map enc) : Go.Sort.Holds enc w g 0 ds.toArray := by
  intro j hj
  have hj' : j < ds.length := by simpa using hj
  refine ⟨?_, by simp [World.frozen?, hb]⟩
  have h1 : (cur.toList.take ds.length)[j]? = (ds.map enc)[j]? := by rw [ht]
  rw [List.getElem?_take_of_lt hj'] at h1
  simp only [World.cell?, hb, Nat.zero_add]
  simp only [Option.isSome_none, Bool.false_eq_true, if_false]
  rw [← Array.getElem?_toList, h1]
  simp [hj']
theorem heap_sortedE {α : Type} [Inhabited α] (enc : α → Value) {w : World} {g n : Nat} {os : Array Obj} {cur : Array Value} {e : TypeId} {fr : Nat × Nat} (d : Array α) (hb : w.heap[g]? = some (.cells cur e fr)) :
    (grow (putRow enc (Sort.ahead w n) g 0 d) os).heap[g]? = some (.cells (putCells enc 0 d cur) e fr) := by
  have hg : g < w.heap.size := (Array.getElem?_eq_some_iff.1 hb).1
  rw [heap_grow_old _ _ (by simpa using hg)]
  simp [putRow, mapBlock, Sort.ahead, Array.getElem?_modify, hb, onCells]
theorem grownBy_sortedE {α : Type} [Inhabited α] (enc : α → Value) {w : World} {g n : Nat} {os : Array Obj} (d : Array α) : w.grownBy (grow (putRow enc (Sort.ahead w n) g 0 d) os) (some g) := by
  refine ⟨rfl, rfl, rfl, by simp, fun k hk hne => ?_⟩
  rw [heap_grow_old _ _ (by simpa using hk)]
  have : g ≠ k := fun e => hne (by rw [e])
  simp [putRow, mapBlock, Sort.ahead, Array.getElem?_modify, this]
theorem take_putCellsE {α : Type} [Inhabited α] (enc : α → Value) (cur : Array Value) (ts : List α) (h : ts.length ≤ cur.size) : (putCells enc 0 ts.toArray cur).toList.take ts.length = ts.map enc := by
  apply List.ext_getElem?
  intro j
  by_cases hj : j < ts.length
  · rw [List.getElem?_take_of_lt hj, Array.getElem?_toList]
    simp [putCells, hj, show j < cur.size by omega]
  · rw [List.getElem?_take_eq_none (by omega), List.getElem?_eq_none (by simp; omega)]
theorem toArr {α : Type} (d : Array α) : d.toList.toArray = d := by simp
/-- A permutation, in order: what a sort leaves. -/
theorem sorted_list {α : Type} [Inhabited α] {lt : α → α → Bool} {ds : List α} {d' : Array α} (hp : PermIn 0 ds.length ds.toArray d') (hs : SortedIn lt 0 ds.length d') : d'.toList.Perm ds ∧ d'.toList.Pairwise (fun x y => lt y x = false) := by
  obtain ⟨h1, _, h3⟩ := hp
  have hsz : d'.size = ds.length := by simpa using h1
  constructor
  · have e1 : d'.extract 0 ds.length = d' := by rw [← hsz]; simp
    have e2 : ds.toArray.extract 0 ds.length = ds.toArray := by simp
    rw [e1, e2] at h3
    simpa using h3
  · rw [List.pairwise_iff_getElem]
    intro i j hi hj hij
    have := hs i j (Nat.zero_le _) hij (by simpa [hsz] using hj)
    have hi' : i < d'.size := by simpa using hi
    have hj' : j < d'.size := by simpa using hj
    rw [getElem!_pos d' j hj', getElem!_pos d' i hi'] at this
    simpa using this

/-- The order of integers, as a comparison tells it. -/
def cmpI (x y : Int) : Int := if x < y then -1 else if y < x then 1 else 0
theorem ltOf_cmpI (x y : Int) : ltOf cmpI x y = decide (x < y) := by
  unfold ltOf cmpI
  by_cases h : x < y
  · simp [h]
  · by_cases h2 : y < x
    · simp [h, h2]
    · simp [h, h2]
theorem swo_cmpI : SWO (ltOf cmpI) := ⟨fun x => by simp [ltOf_cmpI], fun x y z h1 h2 => by simp [ltOf_cmpI] at *; omega, fun x y z h1 h2 => by simp [ltOf_cmpI] at *; omega⟩

theorem wishes_sorted {ds : List Int} {d' : Array Int} (hp : PermIn 0 ds.length ds.toArray d') (hs : SortedIn (ltOf cmpI) 0 ds.length d') : d'.toList = insSort ds := by
  obtain ⟨h1, h2⟩ := sorted_list hp hs
  refine sorted_unique (h2.imp fun {x y} h => ?_) (insSort_sorted ds) (h1.trans (insSort_perm ds).symm)
  simp [ltOf_cmpI] at h
  omega

end Go.Proofs.YtakadjhbomggbaaGreat

namespace Go.Proofs.YtakadjhbomggbaaGreat
open Go.RowKit Go.Sort

theorem isNaNJ_any (x : Int) (w : World) : Calls Tryz.prog 74 #[.int .i64 x] w fun e w' => e = .returned (.bool false) ∧ w = w' := by
  have hx : (x != x) = false := by simp
  go_enter Tryz.func74, Tryz.ntmps74
  go_wp2_with fail
  go_ret
  exact ⟨rfl, rfl⟩
set_option maxHeartbeats 400000 in
theorem compareJ_any (x y : Int) (w : World) : Calls Tryz.prog 61 #[.int .i64 x, .int .i64 y] w fun e w' => e = .returned (.int .i64 (cmpI x y)) ∧ w = w' := by
  by_cases h1 : x < y
  · have HR : Hid (cmpI x y = -1) := hid (by simp [cmpI, h1])
    go_enter Tryz.func61, Tryz.ntmps61
    go_wp2_with (go_at_call 74; refine (isNaNJ_any _ _).mono ?_; rintro e w' ⟨rfl, rfl⟩)
    go_ret
    exact ⟨ret_int HR.out.symm, rfl⟩
  · by_cases h2 : y < x
    · have HR : Hid (cmpI x y = 1) := hid (by simp [cmpI, h1, h2])
      go_enter Tryz.func61, Tryz.ntmps61
      go_wp2_with (go_at_call 74; refine (isNaNJ_any _ _).mono ?_; rintro e w' ⟨rfl, rfl⟩)
      go_ret
      exact ⟨ret_int HR.out.symm, rfl⟩
    · have HR : Hid (cmpI x y = 0) := hid (by simp [cmpI, h1, h2])
      go_enter Tryz.func61, Tryz.ntmps61
      go_wp2_with (go_at_call 74; refine (isNaNJ_any _ _).mono ?_; rintro e w' ⟨rfl, rfl⟩)
      go_ret
      exact ⟨ret_int HR.out.symm, rfl⟩

theorem wcmp_any (bx : Nat) (a : Option Addr) (n cap : Nat) (xs : List Int) (x y : Nat) (w : World) (hbx : w.cell? ⟨bx, 0, none⟩ = some (.slice a n cap)) (h : Has w a n cap xs) (hx : x < n) (hy : y < n) :
    Calls Tryz.prog 70 #[.int .i64 (x : Int), .int .i64 (y : Int), .pointer (some ⟨bx, 0, none⟩)] w fun e w' => e = .returned (.int .i64 (cmpI (nth xs x) (nth xs y))) ∧ Quiet w w' := by
  obtain ⟨b, off, rfl, hb, hc⟩ := h.2.2.2.2 (by omega)
  have c1 := hc x hx
  have c2 := hc y hy
  have z1 : (x : Int) < (n : Int) := by omega
  have z2 : (y : Int) < (n : Int) := by omega
  have z3 : (0 : Int) ≤ (x : Int) := by omega
  have z4 : (0 : Int) ≤ (y : Int) := by omega
  have cq : ∀ j, Calls Tryz.prog 61 #[.int .i64 (nth xs x), .int .i64 (nth xs y)] (w.drewN j) fun e w'' => e = .returned (.int .i64 (cmpI (nth xs x) (nth xs y))) ∧ w'' = w.drewN j := fun j => (compareJ_any _ _ _).mono fun e w'' ⟨he, hw⟩ => ⟨he, hw.symm⟩
  have CQ := hid cq
  clear hc cq
  go_enter Tryz.func70, Tryz.ntmps70
  go_wp2_with fail
  go_quiet ((go_at_call 61; exact Calls.quiet_of_same (CQ.out _)))
  go_wp2_with fail
  go_ret
  exact ⟨rfl, ⟨_, rfl⟩⟩

def encF (m : Nat) (i : Fin (m + 1)) : Value := .int .i64 ((i.val : Nat) : Int)
theorem allFin_enc (m : Nat) : (allFin m).map (encF m) = (upto (m + 1)).map (Value.int .i64) := by
  unfold allFin upto encF
  apply List.ext_getElem
  · simp
  · intro i h1 h2
    simp

set_option maxHeartbeats 1000000 in
theorem insCars_any (B g m cap bx : Nat) (al : Option Addr) (cl : Nat) (xs : List Int) (w : World) (h8 : m + 1 ≤ 8) (hl : xs.length = m + 1) (hbd : ∀ c, c < m + 1 → 0 ≤ nth xs c ∧ nth xs c < (m : Int) + 1)
    (h : Own w B (some ⟨g, 0, none⟩) (m + 1) cap (upto (m + 1))) (hx : Has w al (m + 1) cl xs) (hal : ∀ p, al = some p → p.block ≠ g) (hbx : w.cell? ⟨bx, 0, none⟩ = some (.slice al (m + 1) cl)) (hbg : bx ≠ g) :
    Calls Tryz.prog 93 #[.slice (some ⟨g, 0, none⟩) (m + 1) cap, .int .i64 0, .int .i64 ((m + 1 : Nat) : Int), .func (.func 70) #[] #[.pointer (some ⟨bx, 0, none⟩)]] w fun e w' =>
      e = .returned (.tuple #[]) ∧ Own w' B (some ⟨g, 0, none⟩) (m + 1) cap (carsL xs) ∧ w.grownBy w' (some g) := by
  have hown := h
  obtain ⟨⟨h1, h2⟩, h3, h4⟩ := h
  rcases h2 with ⟨hv, _⟩ | ⟨g', cap', cur, hv, hg, hh, hnc, hcm, hcs, htake⟩
  · simp at hv
  · simp at hv
    obtain ⟨rfl, rfl⟩ := hv
    have hlen : (allFin m).length = m + 1 := by simp [allFin]
    have hH : Holds (encF m) w g 0 (allFin m).toArray := holds_of_cells hh (by rw [hlen, allFin_enc]; simpa using htake)
    have hlt : g < w.heap.size := (Array.getElem?_eq_some_iff.1 hh).1
    have eg : ∀ args w, (callFunc 70 args).run Tryz.prog w = .ok (.enter 70 args) w := by intro args w; go_simp
    have hcmp : CmpReads Tryz.prog 70 #[.pointer (some ⟨bx, 0, none⟩)] (encF m) (fun x y => cmpI (nth xs x.val) (nth xs y.val)) g 0 (allFin m).toArray.size w := by
      intro q os dk _ x y
      have hgr : w.grownBy (sortWorld (encF m) w g 0 q dk os) (some g) := grownBy_sortedE (encF m) dk
      have hx' := hx.kept hgr hal
      have hb' : (sortWorld (encF m) w g 0 q dk os).cell? ⟨bx, 0, none⟩ = some (.slice al (m + 1) cl) := hgr.cell hbx (by simpa using hbg)
      refine (wcmp_any bx al (m + 1) cl xs x.val y.val _ hb' hx' x.isLt y.isLt).mono ?_
      rintro e w' ⟨rfl, q2, rfl⟩
      exact ⟨rfl, q2, rfl⟩
    have hs := Tryz.insertionSortCmpFunc_one_f93 (encF m) (fun _ => rfl) (fun x y => cmpI (nth xs x.val) (nth xs y.val)) 70 #[.pointer (some ⟨bx, 0, none⟩)] g 0 cap 0 (m + 1) (allFin m).toArray w eg hcmp hH (Nat.zero_le _) (by simp [allFin]) (by simp [allFin]; omega)
    have hsz : (allFin m).toArray.size = m + 1 := by simp [allFin]
    simp only [hsz] at hs
    refine hs.mono ?_
    rintro e w' ⟨rfl, q, rfl⟩
    rw [← sortWorld_none]
    have hlt' : (ltOf fun x y : Fin (m + 1) => cmpI (nth xs x.val) (nth xs y.val)) = fun x y => decide (nth xs x.val < nth xs y.val) := by
      funext x y
      have := ltOf_cmpI (nth xs x.val) (nth xs y.val)
      simpa [ltOf] using this
    have hsort := sort_cars hl (by omega) hbd
    rw [← hlt'] at hsort
    generalize insertionSort (ltOf fun x y : Fin (m + 1) => cmpI (nth xs x.val) (nth xs y.val)) (allFin m).toArray 0 (m + 1) = d' at hsort ⊢
    have hcl : (carsL xs).length = m + 1 := length_carsL hl (by omega) (fun c hc => by have := hbd c hc; omega)
    have hdl : d'.toList.length = m + 1 := by
      have h5 := congrArg List.length hsort
      rw [List.length_map, hcl] at h5
      exact h5
    have henc : d'.toList.map (encF m) = (carsL xs).map (Value.int .i64) := by
      rw [← hsort, List.map_map]
      rfl
    refine ⟨rfl, ⟨⟨by simp [hcl], .inr ⟨g, cap, _, rfl, hg, heap_sortedE _ d' hh, hnc, hcm, by simpa [putCells] using hcs, ?_⟩⟩, hcl, h4⟩, grownBy_sortedE _ d'⟩
    rw [Nat.mul_one, ← henc]
    have := take_putCellsE (encF m) cur d'.toList (by omega)
    rw [toArr, hdl] at this
    exact this

set_option maxHeartbeats 400000 in
theorem insNone_any (a : Option Addr) (cap : Nat) (fv : Value) (w : World) :
    Calls Tryz.prog 93 #[.slice a 0 cap, .int .i64 0, .int .i64 0, fv] w fun e w' => e = .returned (.tuple #[]) ∧ w' = w := by
  go_enter Tryz.func93, Tryz.ntmps93
  go_wp2
  refine wp_loop_rounds 1 ?_
  rw [rounds_succ]
  go_wp2
  all_goals first | (exfalso; omega) | (go_end0; exact ⟨rfl, rfl⟩)

set_option maxHeartbeats 1000000 in
theorem stableCars_any (B m g cap bx : Nat) (al : Option Addr) (cl : Nat) (xs : List Int) (w : World) (h8 : m + 1 ≤ 8) (hl : xs.length = m + 1) (hbd : ∀ c, c < m + 1 → 0 ≤ nth xs c ∧ nth xs c < (m : Int) + 1)
    (h : Own w B (some ⟨g, 0, none⟩) (m + 1) cap (upto (m + 1))) (hx : Has w al (m + 1) cl xs) (hal : ∀ p, al = some p → p.block ≠ g) (hbx : w.cell? ⟨bx, 0, none⟩ = some (.slice al (m + 1) cl)) (hbg : bx ≠ g) :
    Calls Tryz.prog 69 #[.slice (some ⟨g, 0, none⟩) (m + 1) cap, .func (.func 70) #[] #[.pointer (some ⟨bx, 0, none⟩)]] w fun e w' =>
      e = .returned (.tuple #[]) ∧ Own w' B (some ⟨g, 0, none⟩) (m + 1) cap (carsL xs) ∧ w.grownBy w' (some g) := by
  have hins := insCars_any B g m cap bx al cl xs w h8 hl hbd h hx hal hbx hbg
  have HI := hid hins
  clear hins h hx hal hbx hbg hbd
  have hst : Calls Tryz.prog 78 #[.slice (some ⟨g, 0, none⟩) (m + 1) cap, .int .i64 ((m + 1 : Nat) : Int), .func (.func 70) #[] #[.pointer (some ⟨bx, 0, none⟩)]] w fun e w' =>
      e = .returned (.tuple #[]) ∧ Own w' B (some ⟨g, 0, none⟩) (m + 1) cap (carsL xs) ∧ w.grownBy w' (some g) := by
    have hn1 : ¬ (20 : Int) ≤ ((m + 1 : Nat) : Int) := by omega
    have hn2 : ¬ (20 : Int) < ((m + 1 : Nat) : Int) := by omega
    go_enter Tryz.func78, Tryz.ntmps78
    go_wp2
    refine wp_loop_rounds 1 ?_
    rw [rounds_succ]
    go_wp2_with (go_at_call 93; refine HI.out.mono ?_; rintro e w1 ⟨rfl, hq1, hq2⟩)
    refine wp_loop_rounds 1 ?_
    rw [rounds_succ]
    go_wp2
    all_goals first | (exfalso; omega) | (go_end0; exact ⟨rfl, hq1, hq2⟩)
  go_enter Tryz.func69, Tryz.ntmps69
  go_wp2_with fail
  refine hst.mono ?_
  rintro e w1 ⟨rfl, hq1, hq2⟩
  go_wp2_with fail
  go_end0
  exact ⟨rfl, hq1, hq2⟩

set_option maxHeartbeats 1000000 in
theorem stableNone_any (a : Option Addr) (cap : Nat) (fv : Value) (w : World) :
    Calls Tryz.prog 69 #[.slice a 0 cap, fv] w fun e w' => e = .returned (.tuple #[]) ∧ w' = w := by
  have hst : Calls Tryz.prog 78 #[.slice a 0 cap, .int .i64 0, fv] w fun e w' => e = .returned (.tuple #[]) ∧ w' = w := by
    go_enter Tryz.func78, Tryz.ntmps78
    go_wp2
    refine wp_loop_rounds 1 ?_
    rw [rounds_succ]
    go_wp2_with (go_at_call 93; refine (insNone_any _ _ _ _).mono ?_; rintro e w1 ⟨rfl, rfl⟩)
    refine wp_loop_rounds 1 ?_
    rw [rounds_succ]
    go_wp2
    all_goals first | (exfalso; omega) | (go_end0; exact ⟨rfl, rfl⟩)
  go_enter Tryz.func69, Tryz.ntmps69
  go_wp2_with fail
  refine hst.mono ?_
  rintro e w1 ⟨rfl, rfl⟩
  go_wp2_with fail
  go_end0
  exact ⟨rfl, rfl⟩
end Go.Proofs.YtakadjhbomggbaaGreat

namespace Go.Proofs.YtakadjhbomggbaaGreat
open Go.RowKit Go.Sort

theorem BlkLt.mono9 {a : Option Addr} {K K' : Nat} (h : BlkLt a K) (hK : K ≤ K') : BlkLt a K' := fun p hp => Nat.lt_of_lt_of_le (h p hp) hK
theorem BlkLt.ne9 {a : Option Addr} {K g : Nat} (h : BlkLt a K) (hg : K ≤ g) : ∀ p, a = some p → p.block ≠ g := fun p hp e => by have := h p hp; omega
theorem cars_of_none {xs : List Int} (h : xs.length = 0) {P : Nat} : carsTo xs P = [] := by
  obtain rfl := List.eq_nil_of_length_eq_zero h
  induction P with
  | zero => rfl
  | succ P ih => simp [carsTo, ih, idxs]
set_option maxHeartbeats 1000000 in
theorem insCarsP_any (P B g m cap bx : Nat) (al : Option Addr) (cl : Nat) (xs : List Int) (w : World) (h8 : m + 1 ≤ 8) (hl : xs.length = m + 1) (hbd : ∀ c, c < m + 1 → 0 ≤ nth xs c ∧ nth xs c < (P : Int))
    (h : Own w B (some ⟨g, 0, none⟩) (m + 1) cap (upto (m + 1))) (hx : Has w al (m + 1) cl xs) (hal : ∀ p, al = some p → p.block ≠ g) (hbx : w.cell? ⟨bx, 0, none⟩ = some (.slice al (m + 1) cl)) (hbg : bx ≠ g) :
    Calls Tryz.prog 93 #[.slice (some ⟨g, 0, none⟩) (m + 1) cap, .int .i64 0, .int .i64 ((m + 1 : Nat) : Int), .func (.func 70) #[] #[.pointer (some ⟨bx, 0, none⟩)]] w fun e w' =>
      e = .returned (.tuple #[]) ∧ Own w' B (some ⟨g, 0, none⟩) (m + 1) cap (carsTo xs P) ∧ w.grownBy w' (some g) := by
  have hown := h
  obtain ⟨⟨h1, h2⟩, h3, h4⟩ := h
  rcases h2 with ⟨hv, _⟩ | ⟨g', cap', cur, hv, hg, hh, hnc, hcm, hcs, htake⟩
  · simp at hv
  · simp at hv
    obtain ⟨rfl, rfl⟩ := hv
    have hlen : (allFin m).length = m + 1 := by simp [allFin]
    have hH : Holds (encF m) w g 0 (allFin m).toArray := holds_of_cells hh (by rw [hlen, allFin_enc]; simpa using htake)
    have hlt : g < w.heap.size := (Array.getElem?_eq_some_iff.1 hh).1
    have eg : ∀ args w, (callFunc 70 args).run Tryz.prog w = .ok (.enter 70 args) w := by intro args w; go_simp
    have hcmp : CmpReads Tryz.prog 70 #[.pointer (some ⟨bx, 0, none⟩)] (encF m) (fun x y => cmpI (nth xs x.val) (nth xs y.val)) g 0 (allFin m).toArray.size w := by
      intro q os dk _ x y
      have hgr : w.grownBy (sortWorld (encF m) w g 0 q dk os) (some g) := grownBy_sortedE (encF m) dk
      have hx' := hx.kept hgr hal
      have hb' : (sortWorld (encF m) w g 0 q dk os).cell? ⟨bx, 0, none⟩ = some (.slice al (m + 1) cl) := hgr.cell hbx (by simpa using hbg)
      refine (wcmp_any bx al (m + 1) cl xs x.val y.val _ hb' hx' x.isLt y.isLt).mono ?_
      rintro e w' ⟨rfl, q2, rfl⟩
      exact ⟨rfl, q2, rfl⟩
    have hs := Tryz.insertionSortCmpFunc_one_f93 (encF m) (fun _ => rfl) (fun x y => cmpI (nth xs x.val) (nth xs y.val)) 70 #[.pointer (some ⟨bx, 0, none⟩)] g 0 cap 0 (m + 1) (allFin m).toArray w eg hcmp hH (Nat.zero_le _) (by simp [allFin]) (by simp [allFin]; omega)
    have hsz : (allFin m).toArray.size = m + 1 := by simp [allFin]
    simp only [hsz] at hs
    refine hs.mono ?_
    rintro e w' ⟨rfl, q, rfl⟩
    rw [← sortWorld_none]
    have hlt' : (ltOf fun x y : Fin (m + 1) => cmpI (nth xs x.val) (nth xs y.val)) = fun x y => decide (nth xs x.val < nth xs y.val) := by
      funext x y
      have := ltOf_cmpI (nth xs x.val) (nth xs y.val)
      simpa [ltOf] using this
    have hsort := sort_carsP hl (by omega) hbd
    rw [← hlt'] at hsort
    generalize insertionSort (ltOf fun x y : Fin (m + 1) => cmpI (nth xs x.val) (nth xs y.val)) (allFin m).toArray 0 (m + 1) = d' at hsort ⊢
    have hcl : (carsTo xs P).length = m + 1 := length_carsP hl (by omega) hbd
    have hdl : d'.toList.length = m + 1 := by
      have h5 := congrArg List.length hsort
      rw [List.length_map, hcl] at h5
      exact h5
    have henc : d'.toList.map (encF m) = (carsTo xs P).map (Value.int .i64) := by
      rw [← hsort, List.map_map]
      rfl
    refine ⟨rfl, ⟨⟨by simp [hcl], .inr ⟨g, cap, _, rfl, hg, heap_sortedE _ d' hh, hnc, hcm, by simpa [putCells] using hcs, ?_⟩⟩, hcl, h4⟩, grownBy_sortedE _ d'⟩
    rw [Nat.mul_one, ← henc]
    have := take_putCellsE (encF m) cur d'.toList (by omega)
    rw [toArr, hdl] at this
    exact this

set_option maxHeartbeats 1000000 in
theorem stableCarsP_any (P B m g cap bx : Nat) (al : Option Addr) (cl : Nat) (xs : List Int) (w : World) (h8 : m + 1 ≤ 8) (hl : xs.length = m + 1) (hbd : ∀ c, c < m + 1 → 0 ≤ nth xs c ∧ nth xs c < (P : Int))
    (h : Own w B (some ⟨g, 0, none⟩) (m + 1) cap (upto (m + 1))) (hx : Has w al (m + 1) cl xs) (hal : ∀ p, al = some p → p.block ≠ g) (hbx : w.cell? ⟨bx, 0, none⟩ = some (.slice al (m + 1) cl)) (hbg : bx ≠ g) :
    Calls Tryz.prog 69 #[.slice (some ⟨g, 0, none⟩) (m + 1) cap, .func (.func 70) #[] #[.pointer (some ⟨bx, 0, none⟩)]] w fun e w' =>
      e = .returned (.tuple #[]) ∧ Own w' B (some ⟨g, 0, none⟩) (m + 1) cap (carsTo xs P) ∧ w.grownBy w' (some g) := by
  have hins := insCarsP_any P B g m cap bx al cl xs w h8 hl hbd h hx hal hbx hbg
  have HI := hid hins
  clear hins h hx hal hbx hbg hbd
  have hst : Calls Tryz.prog 78 #[.slice (some ⟨g, 0, none⟩) (m + 1) cap, .int .i64 ((m + 1 : Nat) : Int), .func (.func 70) #[] #[.pointer (some ⟨bx, 0, none⟩)]] w fun e w' =>
      e = .returned (.tuple #[]) ∧ Own w' B (some ⟨g, 0, none⟩) (m + 1) cap (carsTo xs P) ∧ w.grownBy w' (some g) := by
    have hn1 : ¬ (20 : Int) ≤ ((m + 1 : Nat) : Int) := by omega
    have hn2 : ¬ (20 : Int) < ((m + 1 : Nat) : Int) := by omega
    go_enter Tryz.func78, Tryz.ntmps78
    go_wp2
    refine wp_loop_rounds 1 ?_
    rw [rounds_succ]
    go_wp2_with (go_at_call 93; refine HI.out.mono ?_; rintro e w1 ⟨rfl, hq1, hq2⟩)
    refine wp_loop_rounds 1 ?_
    rw [rounds_succ]
    go_wp2
    all_goals first | (exfalso; omega) | (go_end0; exact ⟨rfl, hq1, hq2⟩)
  go_enter Tryz.func69, Tryz.ntmps69
  go_wp2_with fail
  refine hst.mono ?_
  rintro e w1 ⟨rfl, hq1, hq2⟩
  go_wp2_with fail
  go_end0
  exact ⟨rfl, hq1, hq2⟩

/-- The stable sort of the cars in order. -/
theorem sortCarsP_any (P B n : Nat) (a al : Option Addr) (cap cl bx : Nat) (xs : List Int) (w : World) (h8 : n ≤ 8) (hl : xs.length = n) (hbd : ∀ c, c < n → 0 ≤ nth xs c ∧ nth xs c < (P : Int)) (hBw : B ≤ w.heap.size)
    (h : Own w B a n cap (upto n)) (hx : Has w al n cl xs) (hal : 0 < n → BlkLt al B) (hbx : w.cell? ⟨bx, 0, none⟩ = some (.slice al n cl)) (hbg : bx < B) :
    Calls Tryz.prog 69 #[.slice a n cap, .func (.func 70) #[] #[.pointer (some ⟨bx, 0, none⟩)]] w fun e w' =>
      e = .returned (.tuple #[]) ∧ Own w' B a n cap (carsTo xs P) ∧ Below B w w' := by
  by_cases hn : n = 0
  · subst hn
    refine (stableNone_any _ _ _ _).mono ?_
    rintro e w1 ⟨rfl, rfl⟩
    exact ⟨rfl, by rw [cars_of_none hl]; exact h, Below.refl _ _⟩
  · obtain ⟨m, rfl⟩ : ∃ m, n = m + 1 := ⟨n - 1, by omega⟩
    obtain ⟨g, rfl, hg1, hg2, _, _⟩ := h.opened (by omega)
    refine (stableCarsP_any P B m g cap bx al cl xs w h8 hl hbd h hx ((hal (by omega)).ne9 hg1) hbx (by omega)).mono ?_
    rintro e w1 ⟨rfl, ho, hgr⟩
    exact ⟨rfl, ho, below_grown hgr hBw (fun k hk => by simp at hk; omega)⟩

set_option maxHeartbeats 1000000 in
theorem carsByP_any (P : Nat) (a : Option Addr) (n cap : Nat) (xs : List Int) (w : World) (h : Has w a n cap xs) (h8 : n ≤ 8) (hbd : ∀ c, c < n → 0 ≤ nth xs c ∧ nth xs c < (P : Int)) :
    Calls Tryz.prog 51 #[.slice a n cap] w fun e w' => ∃ a2 c2, e = .returned (.slice a2 n c2) ∧ Own w' w.heap.size a2 n c2 (carsTo xs P) ∧ Below w.heap.size w w' := by
  have HL := hid h.len
  have HBD := hid hbd
  have hle := h.le
  clear hbd
  go_enter Tryz.func51, Tryz.ntmps51
  go_wp2_with fail
  generalize hW : w.alloc (.cells #[.slice a n cap] 31) = W
  have hbW : Below w.heap.size w W := by rw [← hW]; exact (Below.refl _ w).alloc (Nat.le_refl _) _
  have hsz : W.heap.size = w.heap.size + 1 := by rw [← hW]; simp
  have hbx : W.cell? ⟨w.heap.size, 0, none⟩ = some (.slice a n cap) := by rw [← hW, World.cell?_alloc_at _ _ _ _ rfl]; rfl
  clear hW
  refine (indices_any n _ (by omega)).mono ?_
  rintro e w2 ⟨a2, c2, rfl, own2, st⟩
  have hs2 := st.size
  replace hbx : w2.cell? ⟨w.heap.size, 0, none⟩ = some (.slice a n cap) := by rw [st.cell (p := ⟨w.heap.size, 0, none⟩) (by simp; omega)]; exact hbx
  have hb2 := hbW.trans (st.mono hbW.size)
  clear st hbW
  go_wp2_with fail
  refine (sortCarsP_any P W.heap.size n a2 a c2 cap w.heap.size xs w2 h8 HL.out HBD.out hs2 own2 (h.below hb2 (Nat.le_refl _)) (fun hn => (h.lt hn).mono9 (by omega)) hbx (by omega)).mono ?_
  rintro e w3 ⟨rfl, own3, st⟩
  have hb3 := hb2.trans (st.mono (by omega))
  clear st hb2 own2
  go_wp2_with fail
  go_ret
  exact ⟨_, _, rfl, own3.mono (by omega), hb3⟩
end Go.Proofs.YtakadjhbomggbaaGreat

namespace Go.Proofs.YtakadjhbomggbaaGreat
open Go.RowKit Go.Maps

theorem blocks_yes {xs : List Int} (h : isPark xs = true) (hu : unitB xs 1 = true) : unitBlocksOf xs = (blk xs (fairL xs) xs.length, true) := by simp [unitBlocksOf, h, hu]
theorem blocks_no {xs : List Int} (h : ¬ (isPark xs = true ∧ unitB xs 1 = true)) : unitBlocksOf xs = ([], false) := by
  unfold unitBlocksOf
  rw [if_neg (by simpa using h)]
theorem nums_addLast {rs : List Rw} {a : Option Addr} {c : Nat} {v : Int} {q : Nat} (hq : rs.length = q + 1) : numsOf (rs.set q ⟨a, c, (nthR rs q).xs ++ [v]⟩) = addLast (numsOf rs) v := by
  obtain ⟨ss, r, rfl⟩ : ∃ ss r, rs = ss ++ [r] := ⟨rs.dropLast, rs.getLast (by intro e; subst e; simp at hq), (List.dropLast_concat_getLast _).symm⟩
  have hs : ss.length = q := by simpa using hq
  have e1 : nthR (ss ++ [r]) q = r := by rw [nthR_append_right (by omega), hs, Nat.sub_self, nthR_one]
  rw [e1]
  have e2 : (ss ++ [r]).set q ⟨a, c, r.xs ++ [v]⟩ = ss ++ [⟨a, c, r.xs ++ [v]⟩] := by
    rw [List.set_append_right _ _ (by omega), hs, Nat.sub_self]
    rfl
  rw [e2]
  simp only [numsOf, List.map_append, List.map_singleton]
  rw [addLast_snoc]
theorem blk_start {xs ls : List Int} {k : Nat} (h : nth xs (nth ls k).toNat = (k : Int)) : addLast (blk xs ls k ++ [[]]) (nth ls k) = blk xs ls (k + 1) := by
  rw [addLast_snoc, blk, if_pos h]
  rfl
theorem blk_on {xs ls : List Int} {k : Nat} (h : ¬ nth xs (nth ls k).toNat = (k : Int)) : addLast (blk xs ls k) (nth ls k) = blk xs ls (k + 1) := by rw [blk, if_neg h]
theorem length_blk {xs ls : List Int} : ∀ k, (blk xs ls k).length ≤ k ∧ (0 < k → 0 < (blk xs ls k).length)
  | 0 => ⟨Nat.le_refl _, fun h => absurd h (by omega)⟩
  | k + 1 => by
    obtain ⟨h1, _⟩ := length_blk (xs := xs) (ls := ls) k
    rw [blk]
    split
    · simp; omega
    · simp only [addLast, List.length_append, List.length_dropLast, List.length_singleton]
      rcases Nat.eq_zero_or_pos k with rfl | h0
      · simp [blk]
      · have := (length_blk (xs := xs) (ls := ls) k).2 h0
        omega

theorem row_blk {xs ls : List Int} : ∀ (k : Nat) (r : List Int), r ∈ blk xs ls k → r.length ≤ k
  | 0, r, h => by simp [blk] at h
  | k + 1, r, h => by
    rw [blk] at h
    split at h
    · rcases List.mem_append.1 h with h | h
      · have := row_blk k r h; omega
      · rw [List.mem_singleton] at h; subst h; simp
    · unfold addLast at h
      rcases List.mem_append.1 h with h | h
      · have := row_blk k r (List.dropLast_subset _ h); omega
      · rw [List.mem_singleton] at h
        subst h
        cases e : (blk xs ls k).getLast? with
        | none => simp
        | some r' =>
          have := row_blk k r' (List.mem_of_getLast? e)
          simp
          omega
end Go.Proofs.YtakadjhbomggbaaGreat

namespace Go.Proofs.YtakadjhbomggbaaGreat
open Go.RowKit

end Go.Proofs.YtakadjhbomggbaaGreat

namespace Go.Proofs.YtakadjhbomggbaaGreat
open Go.RowKit

theorem HasR.rowAt {w W : World} {a : Option Addr} {q cap : Nat} {rs : List Rw} {bs : List (List Int)} (h : HasR w a q cap rs) (hb : Below w.heap.size w W) (hbs : numsOf rs = bs) {k : Nat} (hk : k < q) :
    ∃ b off ak ck, a = some ⟨b, off, none⟩ ∧ W.cell? ⟨b, off + k, none⟩ = some (.slice ak (blkAt bs k).length ck) ∧ Has w ak (blkAt bs k).length ck (blkAt bs k) := by
  obtain ⟨r0, r1, r2, r3, r4, -⟩ := h.below hb (Nat.le_refl _)
  have r5 := h.2.2.2.2.2
  obtain ⟨b, off, rfl, _, hc⟩ := r4 (by omega)
  have h3 := hc k hk
  have h4 := r5 k hk
  unfold Rw.v at h3
  subst hbs
  rw [blkAt_nums (by omega)]
  exact ⟨_, _, _, _, rfl, h3, h4⟩
theorem pred_max (i : Nat) : max ((i : Int) - 1) 0 = ((i - 1 : Nat) : Int) := by omega

end Go.Proofs.YtakadjhbomggbaaGreat

namespace Go.Proofs.YtakadjhbomggbaaGreat
open Go.RowKit

/-- 'make([][]int, n)'. -/
theorem wpList_make_rowsN {ops : Array Oper} {rest : List Oper} {o : Oper} {a : Act} {Q : Exit → Act → World → Prop} (w : World) (hgd : o.guard = none) (l c : Operand) (ho : o.op = Op.makeSlice 25 l c)
    (n : Nat) (hl : a.eval l = .int .i64 (n : Int)) (hc : a.eval c = .int .i64 (n : Int)) (hn : n ≤ 2097152)
    (h : ∀ w', OwnR w' w.heap.size (some ⟨w.heap.size, 0, none⟩) n n (List.replicate n ⟨none, 0, []⟩) → Below w.heap.size w w' → wpList Tryz.prog ops Q rest (a.put o.dst (.slice (some ⟨w.heap.size, 0, none⟩) n n)) w') :
    wpList Tryz.prog ops Q (o :: rest) a w := by
  obtain ⟨i0, hi, hz0, hz1, hz2⟩ := info_parts Tryz.infoInts
  refine wpList_make_full (P := Tryz.prog) w hgd l c 25 ho w.heap.size 31 i0 (.slice none 0 0) 1 Tryz.underlying25 hi hz0 hz1 .i64 .i64 n n n hl hc rfl rfl (by rw [hz2]; omega) (by unfold maxLen; omega) (Nat.le_refl _) ?_
  intro w' hown hgrow
  have hr : ∀ i, i < n → nthR (List.replicate n (⟨none, 0, []⟩ : Rw)) i = ⟨none, 0, []⟩ := fun i hi => by simp [nthR, hi]
  have e : (madeCells (Value.slice none 0 0).cells (n * 1)).toList = (List.replicate n (⟨none, 0, []⟩ : Rw)).map Rw.v := by
    rw [show (Value.slice none 0 0).cells = #[Value.slice none 0 0] from rfl, toList_madeCells_one]
    simp [Rw.v]
  rw [e] at hown
  refine h _ ⟨hown, by simp, hn, fun i hi => ?_, fun i j p q hij hj hp _ => ?_⟩ (below_grown hgrow (Nat.le_refl _) (by simp))
  · rw [hr i hi]
    exact Own.nil _ _
  · rw [hr i (by omega)] at hp
    cases hp
theorem grown_none {w w' : World} (h : Below w.heap.size w w') : w.grownBy w' none := ⟨h.os, h.tape, h.output, h.size, fun i hi _ => h.block i hi⟩
theorem numsOf_set (rs : List Rw) (k : Nat) (r : Rw) : numsOf (rs.set k r) = (numsOf rs).set k r.xs := by simp [numsOf]
/-- The first k of some lists, then empty ones. -/
def firstR (bs : List (List Int)) (n : Nat) : Nat → List (List Int)
  | 0 => List.replicate n []
  | k + 1 => (firstR bs n k).set k (blkAt bs k)
theorem length_firstR (bs : List (List Int)) (n : Nat) : ∀ k, (firstR bs n k).length = n
  | 0 => by simp [firstR]
  | k + 1 => by rw [firstR, List.length_set, length_firstR bs n k]
theorem firstR_at (bs : List (List Int)) (n : Nat) : ∀ k j, j < n → (firstR bs n k)[j]? = some (if j < k then blkAt bs j else [])
  | 0, j, hj => by simp [firstR, hj]
  | k + 1, j, hj => by
    rw [firstR, List.getElem?_set, length_firstR, firstR_at bs n k j hj]
    by_cases e : k = j
    · subst e; simp [hj]
    · rw [if_neg e]
      by_cases e2 : j < k
      · rw [if_pos e2, if_pos (by omega)]
      · rw [if_neg e2, if_neg (by omega)]
theorem firstR_all {bs : List (List Int)} {n : Nat} (hl : bs.length = n) : firstR bs n n = bs := by
  apply List.ext_getElem?
  intro j
  by_cases hj : j < n
  · rw [firstR_at bs n n j hj, if_pos hj]
    unfold blkAt
    rw [List.getD_eq_getElem?_getD, List.getElem?_eq_getElem (by omega)]
    rfl
  · rw [List.getElem?_eq_none (by rw [length_firstR]; omega), List.getElem?_eq_none (by omega)]

/-! ### The argument as it came in -/
def RawR (w : World) (a : Option Addr) (len cap : Nat) (A : Nat → Option Addr) (L C : Nat → Nat) (Z : Nat → List Int) : Prop :=
  (a = none ∧ len = 0 ∧ cap = 0) ∨ ∃ x : Addr, a = some x ∧ len ≤ cap ∧ cap ≤ maxLen ∧ ∀ r, r < cap → w.cell? (x.add r) = some (.slice (A r) (L r) (C r)) ∧ L r ≤ C r ∧ C r ≤ maxLen ∧ (Z r).length = C r ∧
    (∀ n ∈ Z r, (Lit.int .i64 n).wf = true) ∧ (A r = none → C r = 0) ∧ ∀ a', A r = some a' → ∀ c, c < C r → w.cell? (a'.add c) = some (.int .i64 ((Z r).getD c 0))
theorem RawR.at {w : World} {a : Option Addr} {len cap : Nat} {A : Nat → Option Addr} {L C : Nat → Nat} {Z : Nat → List Int} (h : RawR w a len cap A L C Z) (h0 : 0 < len) :
    ∃ b off, a = some ⟨b, off, none⟩ ∧ b < w.heap.size ∧ len ≤ cap ∧ cap ≤ maxLen ∧ ∀ r, r < len → w.cell? ⟨b, off + r, none⟩ = some (.slice (A r) (L r) (C r)) ∧ L r ≤ C r ∧ C r ≤ maxLen := by
  rcases h with ⟨_, rfl, _⟩ | ⟨x, rfl, h1, h2, h3⟩
  · omega
  · obtain ⟨b, off, spot⟩ := x
    have hc := (h3 0 (by omega)).1
    have hspot : spot = none := by simpa [Addr.add] using World.cell?_spot hc
    subst hspot
    refine ⟨b, off, rfl, by have := World.block_lt_of_cell? w _ hc; simpa [Addr.add] using this, h1, h2, fun r hr => ?_⟩
    obtain ⟨k1, k2, k3, _⟩ := h3 r (by omega)
    have e : (⟨b, off, none⟩ : Addr).add r = ⟨b, off + r, none⟩ := by unfold Addr.add; split <;> simp_all
    rw [e] at k1
    exact ⟨k1, k2, k3⟩
theorem hasR_of_raw {w : World} {a : Option Addr} {len cap : Nat} {A : Nat → Option Addr} {L C : Nat → Nat} {Z : Nat → List Int} (h : RawR w a len cap A L C Z) (hl : len ≤ 1048576) (hL : ∀ r, r < len → L r ≤ 1048576) : ∃ rs, HasR w a len cap rs := by
  have hcap : len ≤ cap ∧ cap ≤ maxLen := by
    rcases h with ⟨_, rfl, rfl⟩ | ⟨x, _, h1, h2, _⟩
    · exact ⟨Nat.le_refl _, by unfold maxLen; omega⟩
    · exact ⟨h1, h2⟩
  have hx : ∀ r, ∃ xs, r < len → Has w (A r) (L r) (C r) xs := fun r => by
    by_cases hr : r < len
    · rcases h with ⟨_, rfl, _⟩ | ⟨x, rfl, h1, h2, h3⟩
      · omega
      · obtain ⟨k1, k2, k3, k4, k5, k6, k7⟩ := h3 r (by omega)
        have := has_of_row (w := w) (a := A r) (len := L r) (cap := C r) (zs := Z r) (by
          cases hA : A r with
          | none =>
            have hC := k6 hA
            left
            exact ⟨rfl, by omega, hC, List.eq_nil_of_length_eq_zero (by omega)⟩
          | some a' =>
            right
            exact ⟨a', rfl, k2, k3, k4, fun i hi => k7 a' hA i (by omega), k5⟩) (hL r hr)
        obtain ⟨xs, hxs⟩ := this
        exact ⟨xs, fun _ => hxs⟩
    · exact ⟨[], fun e => absurd e hr⟩
  obtain ⟨X, hX⟩ := Classical.axiomOfChoice hx
  have hn : ∀ i, i < len → nthR ((List.range len).map fun r => (⟨A r, C r, X r⟩ : Rw)) i = ⟨A i, C i, X i⟩ := fun i hi => by simp [nthR, hi]
  refine ⟨(List.range len).map fun r => ⟨A r, C r, X r⟩, by simp, hcap.1, hcap.2, by omega, fun h0 => ?_, fun i hi => ?_⟩
  · obtain ⟨b, off, ha, hb, _, _, hc⟩ := h.at h0
    refine ⟨b, off, ha, hb, fun i hi => ?_⟩
    rw [hn i hi, (hc i hi).1]
    simp only [Rw.v]
    rw [(hX i hi).len]
  · rw [hn i hi]
    have := hX i hi
    rw [(hX i hi).len]
    exact this
def SzP (v len : Nat) (w : World) (e : Ending) (w' : World) : Prop := w = w' ∧ ((e = .returned (.int .i64 (-1)) ∧ v < len) ∨ (e = .returned (.int .i64 ((v - len : Nat) : Int)) ∧ len ≤ v))
/-- What szIntSS comes to. -/
def SzR (len : Nat) (L : Nat → Nat) (w : World) (e : Ending) (w' : World) : Prop := w = w' ∧ ((∃ v : Int, e = .returned (.int .i64 v) ∧ v < 0) ∨ ∃ v : Nat, e = .returned (.int .i64 (v : Int)) ∧ len ≤ 1048576 ∧ ∀ r, r < len → L r ≤ 1048576)
end Go.Proofs.YtakadjhbomggbaaGreat

namespace Go.Proofs.YtakadjhbomggbaaGreat
open Go.RowKit

/-- A local array of eight cells: what each holds. -/
structure Arr (w : World) (blk : Nat) (f : Nat → Value) : Prop where
  cell : ∀ z, z < 8 → w.cell? ⟨blk, z, none⟩ = some (f z)
  free : ∀ z, w.frozen? ⟨blk, z, none⟩ = false
theorem eight {v : Value} {z : Nat} (h : z < 8) : (#[v, v, v, v, v, v, v, v] : Array Value)[z]? = some v := by
  rcases (show z = 0 ∨ z = 1 ∨ z = 2 ∨ z = 3 ∨ z = 4 ∨ z = 5 ∨ z = 6 ∨ z = 7 by omega) with rfl | rfl | rfl | rfl | rfl | rfl | rfl | rfl <;> rfl
theorem arr_new (w : World) (v : Value) (t : TypeId) : Arr (w.alloc (.cells #[v, v, v, v, v, v, v, v] t)) w.heap.size fun _ => v :=
  ⟨fun z hz => by rw [World.cell?_alloc_at _ _ _ _ rfl, eight hz], fun z => by rw [World.frozen?_alloc_at _ _ _ _ rfl]⟩
theorem Arr.set {w : World} {blk : Nat} {f : Nat → Value} (h : Arr w blk f) {z : Nat} (hz : z < 8) (v : Value) : Arr (w.setCell ⟨blk, z, none⟩ v) blk fun y => if y = z then v else f y := by
  refine ⟨fun y hy => ?_, fun y => by rw [World.frozen?_setCell]; exact h.free y⟩
  by_cases e : y = z
  · subst e
    rw [World.cell?_setCell_same _ _ _ (h.cell y hy), if_pos rfl]
  · rw [World.cell?_setCell_other _ _ _ _ (by intro hh; injection hh with _ h5 _; exact e h5.symm), if_neg e]
    exact h.cell y hy
theorem Arr.congr {w : World} {blk : Nat} {f g : Nat → Value} (h : Arr w blk f) (e : ∀ z, z < 8 → g z = f z) : Arr w blk g := ⟨fun z hz => by rw [e z hz]; exact h.cell z hz, h.free⟩
theorem has_take_succ {xs : List Int} {k : Nat} (h : k < xs.length) (z : Int) : hasB (xs.take (k + 1)) z = (hasB (xs.take k) z || decide (z = nth xs k)) := by
  rw [Bool.eq_iff_iff]
  simp [hasB, take_succ_nth h]
theorem Arr.below {w w' : World} {blk B : Nat} {f : Nat → Value} (h : Arr w blk f) (hb : Below B w w') (hB : blk < B) : Arr w' blk f :=
  ⟨fun z hz => by rw [hb.cell (p := ⟨blk, z, none⟩) hB]; exact h.cell z hz, fun z => by rw [hb.frozen (p := ⟨blk, z, none⟩) hB]; exact h.free z⟩

set_option maxHeartbeats 800000 in
theorem isOutcome_any (a : Option Addr) (n cap : Nat) (xs : List Int) (w : World) (h : Has w a n cap xs) :
    Calls Tryz.prog 53 #[.slice a n cap] w (PostBool w (outB xs)) := by
  have hlen := h.len
  by_cases hg : carsB xs n = true
  · have HR : Hid (outB xs = distB xs n) := hid (by simp [outB, hlen, hg])
    have g1 : n ≤ 8 := by have := (carsB_iff.1 hg).1; omega
    have g4 : ∀ i, i < n → 0 ≤ nth xs i ∧ nth xs i ≤ (n : Int) - 1 := fun i hi => (carsB_iff.1 hg).2 _ (nth_mem (by omega))
    have HL := hid hlen
    have HG := hid hg
    clear hg hlen
    go_enter Tryz.func53, Tryz.ntmps53
    go_wp2_with (go_at_call 66; refine (areCarsBelow_any _ _ _ _ _ _ h).mono ?_; rintro e w' ⟨rfl, rfl⟩; rw [HG.out])
    have A0 := arr_new w (.bool false) 88
    have B0 : Below w.heap.size w (w.alloc (.cells #[.bool false, .bool false, .bool false, .bool false, .bool false, .bool false, .bool false, .bool false] 88)) := (Below.refl _ _).alloc (Nat.le_refl _) _
    go_loopw [13] (fun i wr => ∃ k : Nat, k ≤ n ∧ i = .int .i64 k ∧ Arr wr w.heap.size (fun z => .bool (hasB (xs.take k) z)) ∧ Hid (distB xs k = true) ∧ Below w.heap.size w wr) (fun i _ => n - (intOf i).toNat)
    case atStart => exact ⟨0, Nat.zero_le _, rfl, A0.congr (fun z _ => by simp [hasB]), hid rfl, B0⟩
    case round =>
      obtain ⟨k, hk, rfl, HA, HD, hb⟩ := hrel
      clear A0 B0
      by_cases hlt : k < n
      · obtain ⟨b, off, rfl, hbb, hc⟩ := h.2.2.2.2 (by omega)
        have hck : wr.cell? ⟨b, off + k, none⟩ = some (.int .i64 (nth xs k)) := by rw [hb.cell (p := ⟨b, off + k, none⟩) hbb]; exact hc k hlt
        obtain ⟨hx0, hx1⟩ := g4 k hlt
        obtain ⟨v, hv⟩ : ∃ v : Nat, nth xs k = (v : Int) := ⟨_, (Int.toNat_of_nonneg hx0).symm⟩
        have hac := HA.cell v (by omega)
        have haf := HA.free v
        rw [hv] at hck hx0 hx1
        have HV := hid hv
        clear hc g4 hv
        by_cases hq : hasB (xs.take k) v = true
        · have HN := hid (distB_no (n := n) hlt (by rw [HV.out]; exact hq))
          rw [hq] at hac
          clear hq
          go_wp2_with fail
          go_ret
          exact postBool (by rw [HR.out, HN.out]) hb
        · have hq' := Bool.eq_false_iff.2 hq
          have HQ := hid hq'
          rw [hq'] at hac
          clear hq hq'
          go_wp2_with fail
          go_roundw
          case rel =>
            refine ⟨k + 1, by omega, by go_num, (HA.set (z := v) (by omega) (.bool true)).congr (fun z hz => ?_), hid (by rw [distB_succ, HD.out, HV.out, HQ.out]; rfl), hb.setCell (by simp) _⟩
            rw [has_take_succ (by rw [HL.out]; omega), HV.out]
            by_cases e : z = v
            · subst e; simp
            · have e' : ¬ (z : Int) = (v : Int) := by omega
              simp [e, e']
          case measure => simp [intOf]; omega
      · obtain rfl : k = n := by omega
        go_wp2_with fail
        go_ret
        exact postBool (by rw [HR.out, HD.out]) hb
  · have HR : Hid (outB xs = false) := hid (by simp [outB, hlen, hg])
    have HG := hid hg
    clear hg
    go_enter Tryz.func53, Tryz.ntmps53
    go_wp2_with (go_at_call 66; refine (areCarsBelow_any _ _ _ _ _ _ h).mono ?_; rintro e w' ⟨rfl, rfl⟩; rw [Bool.eq_false_iff.2 HG.out])
    go_ret
    exact postBool HR.out.symm (Below.refl _ _)

/-- What the array of cars holds, behind the first k cars. -/
def carAt (xs : List Int) : Nat → Nat → Int
  | 0, _ => 0
  | k + 1, z => if nth xs k = (z : Int) then (k : Int) else carAt xs k z
theorem carAt_at {xs : List Int} (h : outB xs = true) {j : Nat} (hj : j < xs.length) {v : Nat} (hv : nth xs j = (v : Int)) : ∀ k, j < k → k ≤ xs.length → carAt xs k v = (j : Int)
  | 0, h1, _ => by omega
  | k + 1, h1, h2 => by
    simp only [carAt]
    by_cases e : nth xs k = (v : Int)
    · have := out_inj h (i := k) (j := j) (by omega) hj (by rw [e, hv])
      rw [if_pos e]; omega
    · rw [if_neg e]
      have hne : j ≠ k := by rintro rfl; exact e hv
      exact carAt_at h hj hv k (by omega) (by omega)
/-- The car at a place is an earlier one exactly if the place is among the earlier places. -/
theorem carAt_lt {xs : List Int} (h : outB xs = true) {i v : Nat} (hi : i < xs.length) (hv : v < xs.length) : carAt xs xs.length v < (i : Int) ↔ (v : Int) ∈ xs.take i := by
  obtain ⟨j, hj, e⟩ := mem_nth (out_all h hv)
  rw [carAt_at h hj e xs.length hj (Nat.le_refl _), ← e, out_before h hi hj]
  omega
theorem carAt_bounds (xs : List Int) (z : Nat) : ∀ k, 0 ≤ carAt xs k z ∧ carAt xs k z ≤ (k : Int)
  | 0 => by simp [carAt]
  | k + 1 => by
    have := carAt_bounds xs z k
    simp only [carAt]
    split <;> omega

end Go.Proofs.YtakadjhbomggbaaGreat

namespace Go.Proofs.YtakadjhbomggbaaGreat
open Go.RowKit

set_option maxHeartbeats 400000 in
theorem areHeights_any (a : Option Addr) (n cap : Nat) (hs : List Int) (w : World) (h : Has w a n cap hs) :
    Calls Tryz.prog 52 #[.slice a n cap] w fun e w' => e = .returned (.bool (hgtB hs)) ∧ w = w' := by
  have hl := h.len
  have hle := h.le
  by_cases h8 : n ≤ 8
  · have HE := hid (hgtB_len hl h8)
    clear hl
    go_enter Tryz.func52, Tryz.ntmps52
    go_wp2_with fail
    go_loop [3, 11] (fun p i => ∃ (k : Nat) (L : Int), k ≤ n ∧ i = .int .i64 k ∧ p = .int .i64 L ∧ Hid (L = mostAt hs k) ∧ 0 ≤ L ∧ L ≤ 9 ∧ Hid (hgtTo hs k = true)) (fun _ i => n - (intOf i).toNat)
    case atStart => exact ⟨0, 0, Nat.zero_le _, rfl, rfl, hid rfl, by omega, by omega, hid rfl⟩
    case round =>
      obtain ⟨k, L, hk, rfl, rfl, HL, hL1, hL2, HT⟩ := hrel
      by_cases hlt : k < n
      · obtain ⟨b, off, rfl, hb, hc⟩ := h.2.2.2.2 (by omega)
        have hck := hc k hlt
        clear hc
        by_cases h1 : nth hs k < 0
        · have HN : Hid (hgtTo hs n = false) := hid (hgtTo_no hlt (by rw [inB_not]; omega))
          go_wp2_with fail
          go_ret
          exact ⟨ret_bool (by rw [HE.out, HN.out]), rfl⟩
        · by_cases h2 : L < nth hs k
          · have HN : Hid (hgtTo hs n = false) := hid (hgtTo_no hlt (by rw [inB_not, ← HL.out]; omega))
            go_wp2_with fail
            go_ret
            exact ⟨ret_bool (by rw [HE.out, HN.out]), rfl⟩
          · have HT2 : Hid (hgtTo hs (k + 1) = true) := hid (by rw [hgtTo_succ, HT.out, ← HL.out, inB_iff.2 ⟨by omega, by omega⟩]; rfl)
            have hq := (hgt_bounds HT2.out) k (by omega)
            go_wp2_with fail
            go_round
            case rel => exact ⟨k + 1, _, by omega, by go_num, rfl, hid rfl, by omega, by omega, HT2⟩
            case measure => simp [intOf]; omega
      · obtain rfl : k = n := by omega
        go_wp2_with fail
        go_ret
        exact ⟨ret_bool (by rw [HE.out, HT.out]), rfl⟩
  · have HE := hid (hgtB_big hl h8)
    go_enter Tryz.func52, Tryz.ntmps52
    go_wp2_with fail
    go_ret
    exact ⟨ret_bool HE.out.symm, rfl⟩

set_option maxHeartbeats 400000 in
theorem isRaised_any (a : Option Addr) (n cap : Nat) (hs : List Int) (k : Nat) (w : World) (h : Has w a n cap hs) (hk : k < n) (hb : ∀ i, i < n → 0 ≤ nth hs i ∧ nth hs i ≤ 100) :
    Calls Tryz.prog 40 #[.slice a n cap, .int .i64 k] w fun e w' => e = .returned (.bool (raisedB hs k)) ∧ Quiet w w' := by
  obtain ⟨b, off, rfl, hbb, hc⟩ := h.2.2.2.2 (by omega)
  have hle := h.le
  match k, hk with
  | 0, hk =>
    go_enter Tryz.func40, Tryz.ntmps40
    go_wp2_with fail
    go_quiet (fail)
    go_wp2_with fail
    go_ret
    exact ⟨ret_bool rfl, ⟨_, rfl⟩⟩
  | k + 1, hk =>
    have hc1 := hc (k + 1) hk
    have hc0 := hc k (by omega)
    have hb0 := hb k (by omega)
    have he : ((k + 1 : Nat) : Int) - 1 = (k : Int) := by omega
    have hp : (0 : Int) < ((k + 1 : Nat) : Int) := by omega
    by_cases hr : nth hs (k + 1) = nth hs k + 1
    · have HR : Hid (raisedB hs (k + 1) = true) := hid (by simp [raisedB, hr])
      have hbe : (nth hs (k + 1) == nth hs k + 1) = true := by simp [hr]
      clear hr hc hb
      go_enter Tryz.func40, Tryz.ntmps40
      go_wp2_with fail
      go_quiet (fail)
      go_wp2_with fail
      go_ret
      exact ⟨ret_bool HR.out.symm, ⟨_, rfl⟩⟩
    · have HR : Hid (raisedB hs (k + 1) = false) := hid (by simp [raisedB, hr])
      have hbe : (nth hs (k + 1) == nth hs k + 1) = false := by simp [hr]
      clear hr hc hb
      go_enter Tryz.func40, Tryz.ntmps40
      go_wp2_with fail
      go_quiet (fail)
      go_wp2_with fail
      go_ret
      exact ⟨ret_bool HR.out.symm, ⟨_, rfl⟩⟩
/-! ### Walks -/
theorem walk_no1 {hs ls : List Int} (h : hgtB hs = false) : walkB hs ls = false := by simp [walkB, h]
theorem walk_no2 {hs ls : List Int} {n m : Nat} (hl : hs.length = n) (hl' : ls.length = m) (h : n ≠ m) : walkB hs ls = false := by
  subst hl hl'
  simp [walkB, h]
theorem walk_no3 {hs ls : List Int} (h : outB ls = false) : walkB hs ls = false := by simp [walkB, h]
theorem walk_no4 {hs ls : List Int} {n : Nat} (hl : ls.length = n) (h : riseTo hs ls n = false) : walkB hs ls = false := by subst hl; simp [walkB, h]
theorem walk_yes {hs ls : List Int} {n : Nat} (hl : hs.length = n) (hl' : ls.length = n) (h : hgtB hs = true) (ho : outB ls = true) (hr : riseTo hs ls n = true) : walkB hs ls = true := by
  subst hl'
  rw [walkB_iff]
  exact ⟨h, hl, ho, hr⟩
theorem out_no1 {ls : List Int} {n : Nat} (hl : ls.length = n) (h : allB ls 0 ((n : Int) - 1) = false) : outB ls = false := by subst hl; simp [outB, carsB, h]
theorem out_no2 {ls : List Int} {n : Nat} (hl : ls.length = n) (h : distB ls n = false) : outB ls = false := by subst hl; simp [outB, h]
theorem out_yes {ls : List Int} {n : Nat} (hl : ls.length = n) (h8 : n ≤ 8) (h : allB ls 0 ((n : Int) - 1) = true) (hd : distB ls n = true) : outB ls = true := by subst hl; simp [outB, carsB, h, hd, h8]
theorem rise_first (hs ls : List Int) : riseOk hs ls 0 = true := by simp [riseOk, raisedB]
theorem rise_flat {hs ls : List Int} {k : Nat} (h : ¬ nth hs (k + 1) = nth hs k + 1) : riseOk hs ls (k + 1) = true := by simp [riseOk, raisedB, h]
theorem rise_up {hs ls : List Int} {k : Nat} (h : ¬ nth ls (k + 1) < nth ls k) : riseOk hs ls (k + 1) = true := by simp [riseOk]; right; omega
theorem rise_down {hs ls : List Int} {k : Nat} (h : nth hs (k + 1) = nth hs k + 1) (h' : nth ls (k + 1) < nth ls k) : riseOk hs ls (k + 1) = false := by simp [riseOk, raisedB, h, h']

end Go.Proofs.YtakadjhbomggbaaGreat

namespace Go.Proofs.YtakadjhbomggbaaGreat
open Go.RowKit

/-- What 'rowsOf' comes to. -/
def RowsPost (w : World) (hs ls : List Int) (a b : Option Addr) (n cap m cap' : Nat) (e : Ending) (w' : World) : Prop :=
  ((walkB hs ls = true ∧ e = .returned (.tuple #[.agg #[.slice a n cap, .slice b m cap'], .bool true])) ∨ (walkB hs ls = false ∧ e = .returned (.tuple #[.agg #[.slice none 0 0, .slice none 0 0], .bool false]))) ∧ Below w.heap.size w w'
theorem rowsPost_no {w w' : World} {hs ls : List Int} {a b : Option Addr} {n cap m cap' : Nat} (h : walkB hs ls = false) (hb : Below w.heap.size w w') : RowsPost w hs ls a b n cap m cap' (.returned (.tuple #[.agg #[.slice none 0 0, .slice none 0 0], .bool false])) w' := ⟨.inr ⟨h, rfl⟩, hb⟩
theorem rowsPost_yes {w w' : World} {hs ls : List Int} {a b : Option Addr} {n cap m cap' : Nat} (h : walkB hs ls = true) (hb : Below w.heap.size w w') : RowsPost w hs ls a b n cap m cap' (.returned (.tuple #[.agg #[.slice a n cap, .slice b m cap'], .bool true])) w' := ⟨.inl ⟨h, rfl⟩, hb⟩

set_option maxHeartbeats 2000000 in
theorem rowsOf_any (a b : Option Addr) (n cap m cap' : Nat) (hs ls : List Int) (w : World) (h : Has w a n cap hs) (h' : Has w b m cap' ls) :
    Calls Tryz.prog 24 #[.agg #[.slice a n cap, .slice b m cap']] w (RowsPost w hs ls a b n cap m cap') := by
  have HL := hid h.len
  have HL' := hid h'.len
  have hle := h.le
  have hle' := h'.le
  by_cases hg : hgtB hs = true
  · have HG := hid hg
    have h8 := (hgt_of hg h.len).1
    have HBD := hid (hgt_of hg h.len).2
    clear hg
    by_cases hnm : n = m
    · have hbe : ((n : Int) != (m : Int)) = false := by simp [hnm]
      subst hnm
      go_enter Tryz.func24, Tryz.ntmps24
      go_wp2_with fail
      generalize hW : ((((w.alloc (.cells #[.slice a n cap, .slice b n cap'] 43)).alloc (.cells #[.slice none 0 0, .slice none 0 0] 48)).alloc (.cells #[.slice a n cap, .slice b n cap'] 48))) = W
      have hbW : Below w.heap.size w W := by rw [← hW]; exact (((Below.refl _ w).alloc (Nat.le_refl _) _).alloc (by simp) _).alloc (by simp; omega) _
      have hsz : W.heap.size = w.heap.size + 3 := by rw [← hW]; simp
      have B1 : BoxAt W w.heap.size (.slice a n cap) (.slice b n cap') := by rw [← hW]; exact ((boxAt_new _ _ _ _).alloc _).alloc _
      have B2 : BoxAt W (w.heap.size + 1) (.slice none 0 0) (.slice none 0 0) := by rw [← hW]; have := (boxAt_new (w.alloc (.cells #[.slice a n cap, .slice b n cap'] 43)) (.slice none 0 0) (.slice none 0 0) 48).alloc (.cells #[.slice a n cap, .slice b n cap'] 48); simpa using this
      have B3 : BoxAt W (w.heap.size + 1 + 1) (.slice a n cap) (.slice b n cap') := by rw [← hW]; have := boxAt_new ((w.alloc (.cells #[.slice a n cap, .slice b n cap'] 43)).alloc (.cells #[.slice none 0 0, .slice none 0 0] 48)) (.slice a n cap) (.slice b n cap') 48; simpa using this
      have hW1 := h.below hbW (Nat.le_refl _)
      have hW2 := h'.below hbW (Nat.le_refl _)
      clear hW
      obtain ⟨_, _, _, _⟩ := id B3
      obtain ⟨_, _, _, _⟩ := id B1
      refine (areHeights_any _ _ _ _ _ hW1).mono ?_
      rintro e w' ⟨rfl, rfl⟩
      rw [HG.out]
      go_wp2_with fail
      refine (isOutcome_any _ _ _ _ _ hW2).mono ?_
      rintro e w1 ⟨rfl, st⟩
      have s1 := st.size
      replace B2 := B2.below st (by omega)
      replace B3 := B3.below st (by omega)
      replace hW1 := hW1.below st (Nat.le_refl _)
      replace hW2 := hW2.below st (Nat.le_refl _)
      replace hbW := hbW.trans (st.mono (by omega))
      clear st hsz B1
      by_cases ho : outB ls = true
      · rw [ho]
        have HO := hid ho
        clear ho h h'
        obtain ⟨_, _, _, _⟩ := id B3
        go_wp2_with fail
        go_loopw [35] (fun i wr => ∃ k : Nat, k ≤ n ∧ i = .int .i64 k ∧ Hid (riseTo hs ls k = true) ∧ Quiet w1 wr) (fun i _ => n - (intOf i).toNat)
        case atStart => exact ⟨0, Nat.zero_le _, rfl, hid rfl, ⟨0, rfl⟩⟩
        case round =>
          obtain ⟨k, hk, rfl, HR, HQ⟩ := hrel
          have hbq : Below w.heap.size w wr := by obtain ⟨q, hq⟩ := HQ; rw [hq]; exact below_drewN hbW _
          have hq1 : Has wr a n cap hs := by obtain ⟨q, hq⟩ := HQ; rw [hq]; exact hW1
          have hq2 : Has wr b n cap' ls := by obtain ⟨q, hq⟩ := HQ; rw [hq]; exact hW2
          have C3 : BoxAt wr (w.heap.size + 1 + 1) (.slice a n cap) (.slice b n cap') := by obtain ⟨q, hq⟩ := HQ; rw [hq]; exact ⟨B3.c0, B3.c1, B3.f0, B3.f1⟩
          have C2 : BoxAt wr (w.heap.size + 1) (.slice none 0 0) (.slice none 0 0) := by obtain ⟨q, hq⟩ := HQ; rw [hq]; exact ⟨B2.c0, B2.c1, B2.f0, B2.f1⟩
          by_cases hlt : k < n
          · obtain ⟨b2, off2, rfl, hbb2, hc2⟩ := hq2.2.2.2.2 (by omega)
            have hck : wr.cell? ⟨b2, off2 + k, none⟩ = some (.int .i64 (nth ls k)) := hc2 k hlt
            obtain ⟨_, _, _, _⟩ := id C3
            go_wp2_with fail
            refine (isRaised_any _ _ _ _ k _ hq1 hlt (fun i hi => by have := HBD.out i hi; omega)).mono ?_
            rintro e w2 ⟨rfl, HQ2⟩
            have HQ3 : Quiet w1 w2 := by obtain ⟨q, hq⟩ := HQ; obtain ⟨q2, hq2⟩ := HQ2; rw [hq2, hq]; exact ⟨_, by rw [World.drewN_drewN]⟩
            have D3 : BoxAt w2 (w.heap.size + 1 + 1) (.slice a n cap) (.slice (some ⟨b2, off2, none⟩) n cap') := by obtain ⟨q, hq⟩ := HQ2; rw [hq]; exact ⟨C3.c0, C3.c1, C3.f0, C3.f1⟩
            have D2 : BoxAt w2 (w.heap.size + 1) (.slice none 0 0) (.slice none 0 0) := by obtain ⟨q, hq⟩ := HQ2; rw [hq]; exact ⟨C2.c0, C2.c1, C2.f0, C2.f1⟩
            have hb2 : Below w.heap.size w w2 := by obtain ⟨q, hq⟩ := HQ2; rw [hq]; exact below_drewN hbq _
            have hc2' : ∀ i, i < n → w2.cell? ⟨b2, off2 + i, none⟩ = some (.int .i64 (nth ls i)) := by obtain ⟨q, hq⟩ := HQ2; rw [hq]; exact hc2
            clear hc2 hck hq1 hq2 hbq C2 HQ HQ2
            by_cases hr : raisedB hs k = true
            · rw [hr]
              have hk0 : 0 < k := by simp [raisedB] at hr; omega
              have he : (k : Int) - 1 = ((k - 1 : Nat) : Int) := by omega
              have c1 := hc2' (k - 1) (by omega)
              obtain ⟨_, _, _, _⟩ := id D3
              by_cases hd : nth ls k < nth ls (k - 1)
              · have HN : Hid (walkB hs ls = false) := hid (walk_no4 HL'.out (riseTo_no hlt (by simp [riseOk, hr, hd])))
                clear hr hc2'
                have B2f := (D2.set0 (z := .slice none 0 0)).set1 (z := .slice none 0 0)
                obtain ⟨_, _, _, _⟩ := id D2
                go_wp2_with fail
                obtain ⟨_, _, _, _⟩ := id B2f
                refine bodyPost_ret (v := .tuple #[.agg #[.slice none 0 0, .slice none 0 0], .bool false]) (by simp [results, Tryz.results24, go_sem, *]) rfl (rowsPost_no HN.out ((hb2.setCell (by simp) _).setCell (by simp) _))
              · have HR2 : Hid (riseTo hs ls (k + 1) = true) := hid (by rw [riseTo_succ, HR.out]; simp [riseOk, hd])
                clear hr hc2'
                go_wp2_with fail
                go_roundw
                case rel => exact ⟨k + 1, by omega, by go_num, HR2, HQ3⟩
                case measure => simp [intOf]; omega
            · rw [Bool.eq_false_iff.2 hr]
              have HR2 : Hid (riseTo hs ls (k + 1) = true) := hid (by rw [riseTo_succ, HR.out]; simp [riseOk, hr])
              clear hr hc2'
              go_wp2_with fail
              go_roundw
              case rel => exact ⟨k + 1, by omega, by go_num, HR2, HQ3⟩
              case measure => simp [intOf]; omega
          · obtain rfl : k = n := by omega
            have HY : Hid (walkB hs ls = true) := hid (walk_yes HL.out HL'.out HG.out HO.out HR.out)
            have C2f := (C2.set0 (z := .slice a k cap)).set1 (z := .slice b k cap')
            obtain ⟨_, _, _, _⟩ := id C2
            obtain ⟨_, _, _, _⟩ := id C3
            go_wp2_with fail
            obtain ⟨_, _, _, _⟩ := id C2f
            refine bodyPost_ret (v := .tuple #[.agg #[.slice a k cap, .slice b k cap'], .bool true]) (by simp [results, Tryz.results24, go_sem, *]) rfl (rowsPost_yes HY.out ((hbq.setCell (by simp) _).setCell (by simp) _))
      · rw [Bool.eq_false_iff.2 ho]
        have HN := hid (walk_no3 (hs := hs) (Bool.eq_false_iff.2 ho))
        clear ho
        obtain ⟨_, _, _, _⟩ := id B3
        have B2f := (B2.set0 (z := .slice none 0 0)).set1 (z := .slice none 0 0)
        obtain ⟨_, _, _, _⟩ := id B2
        go_wp2_with fail
        obtain ⟨_, _, _, _⟩ := id B2f
        refine bodyPost_ret (v := .tuple #[.agg #[.slice none 0 0, .slice none 0 0], .bool false]) (by simp [results, Tryz.results24, go_sem, *]) rfl (rowsPost_no HN.out ((hbW.setCell (by simp) _).setCell (by simp) _))
    · have HN := hid (walk_no2 (hs := hs) (ls := ls) HL.out HL'.out hnm)
      have hbe : ((n : Int) != (m : Int)) = true := by simp; omega
      go_enter Tryz.func24, Tryz.ntmps24
      go_wp2_with fail
      generalize hW : ((((w.alloc (.cells #[.slice a n cap, .slice b m cap'] 43)).alloc (.cells #[.slice none 0 0, .slice none 0 0] 48)).alloc (.cells #[.slice a n cap, .slice b m cap'] 48))) = W
      have hbW : Below w.heap.size w W := by rw [← hW]; exact (((Below.refl _ w).alloc (Nat.le_refl _) _).alloc (by simp) _).alloc (by simp; omega) _
      have hsz : W.heap.size = w.heap.size + 3 := by rw [← hW]; simp
      have B1 : BoxAt W w.heap.size (.slice a n cap) (.slice b m cap') := by rw [← hW]; exact ((boxAt_new _ _ _ _).alloc _).alloc _
      have B2 : BoxAt W (w.heap.size + 1) (.slice none 0 0) (.slice none 0 0) := by rw [← hW]; have := (boxAt_new (w.alloc (.cells #[.slice a n cap, .slice b m cap'] 43)) (.slice none 0 0) (.slice none 0 0) 48).alloc (.cells #[.slice a n cap, .slice b m cap'] 48); simpa using this
      have B3 : BoxAt W (w.heap.size + 1 + 1) (.slice a n cap) (.slice b m cap') := by rw [← hW]; have := boxAt_new ((w.alloc (.cells #[.slice a n cap, .slice b m cap'] 43)).alloc (.cells #[.slice none 0 0, .slice none 0 0] 48)) (.slice a n cap) (.slice b m cap') 48; simpa using this
      have hW1 := h.below hbW (Nat.le_refl _)
      have hW2 := h'.below hbW (Nat.le_refl _)
      clear hW
      obtain ⟨_, _, _, _⟩ := id B3
      obtain ⟨_, _, _, _⟩ := id B1
      refine (areHeights_any _ _ _ _ _ hW1).mono ?_
      rintro e w' ⟨rfl, rfl⟩
      rw [HG.out]
      have B2f := (B2.set0 (z := .slice none 0 0)).set1 (z := .slice none 0 0)
      obtain ⟨_, _, _, _⟩ := id B2
      go_wp2_with fail
      obtain ⟨_, _, _, _⟩ := id B2f
      refine bodyPost_ret (v := .tuple #[.agg #[.slice none 0 0, .slice none 0 0], .bool false]) (by simp [results, Tryz.results24, go_sem, *]) rfl (rowsPost_no HN.out ((hbW.setCell (by simp) _).setCell (by simp) _))
  · have HG := hid (Bool.eq_false_iff.2 hg)
    have HN := hid (walk_no1 (ls := ls) (Bool.eq_false_iff.2 hg))
    clear hg
    go_enter Tryz.func24, Tryz.ntmps24
    go_wp2_with fail
    generalize hW : ((((w.alloc (.cells #[.slice a n cap, .slice b m cap'] 43)).alloc (.cells #[.slice none 0 0, .slice none 0 0] 48)).alloc (.cells #[.slice a n cap, .slice b m cap'] 48))) = W
    have hbW : Below w.heap.size w W := by rw [← hW]; exact (((Below.refl _ w).alloc (Nat.le_refl _) _).alloc (by simp) _).alloc (by simp; omega) _
    have hsz : W.heap.size = w.heap.size + 3 := by rw [← hW]; simp
    have B1 : BoxAt W w.heap.size (.slice a n cap) (.slice b m cap') := by rw [← hW]; exact ((boxAt_new _ _ _ _).alloc _).alloc _
    have B2 : BoxAt W (w.heap.size + 1) (.slice none 0 0) (.slice none 0 0) := by rw [← hW]; have := (boxAt_new (w.alloc (.cells #[.slice a n cap, .slice b m cap'] 43)) (.slice none 0 0) (.slice none 0 0) 48).alloc (.cells #[.slice a n cap, .slice b m cap'] 48); simpa using this
    have B3 : BoxAt W (w.heap.size + 1 + 1) (.slice a n cap) (.slice b m cap') := by rw [← hW]; have := boxAt_new ((w.alloc (.cells #[.slice a n cap, .slice b m cap'] 43)).alloc (.cells #[.slice none 0 0, .slice none 0 0] 48)) (.slice a n cap) (.slice b m cap') 48; simpa using this
    have hW1 := h.below hbW (Nat.le_refl _)
    have hW2 := h'.below hbW (Nat.le_refl _)
    clear hW
    obtain ⟨_, _, _, _⟩ := id B3
    obtain ⟨_, _, _, _⟩ := id B1
    refine (areHeights_any _ _ _ _ _ hW1).mono ?_
    rintro e w' ⟨rfl, rfl⟩
    rw [HG.out]
    have B2f := (B2.set0 (z := .slice none 0 0)).set1 (z := .slice none 0 0)
    obtain ⟨_, _, _, _⟩ := id B2
    go_wp2_with fail
    obtain ⟨_, _, _, _⟩ := id B2f
    refine bodyPost_ret (v := .tuple #[.agg #[.slice none 0 0, .slice none 0 0], .bool false]) (by simp [results, Tryz.results24, go_sem, *]) rfl (rowsPost_no HN.out ((hbW.setCell (by simp) _).setCell (by simp) _))

end Go.Proofs.YtakadjhbomggbaaGreat

namespace Go.Proofs.YtakadjhbomggbaaGreat
open Go.RowKit

/-- Rows handed back. -/
def RowsRet (w : World) (ls : List (List Int)) (e : Ending) (w' : World) : Prop := ∃ a q cap rs, e = .returned (.slice a q cap) ∧ OwnR w' w.heap.size a q cap rs ∧ numsOf rs = ls ∧ Below w.heap.size w w'
theorem own_lit2 (w : World) (B : Nat) (x y : Int) (hB : B ≤ w.heap.size) : Own (w.alloc (.cells #[.int .i64 x, .int .i64 y] 3)) B (some ⟨w.heap.size, 0, none⟩) 2 2 [x, y] :=
  ⟨World.ownsRow_lit w #[.int .i64 x, .int .i64 y] 2 hB (by unfold maxLen; omega) (by simp), by simp⟩
/-- 'append(out, []int{x, y})'. -/
theorem wpList_append_lit2 {ops : Array Oper} {rest : List Oper} {o : Oper} {a : Act} {Q : Exit → Act → World → Prop} (w : World) (hgd : o.guard = none) (s x : Operand)
    (ho : o.op = .call { callee := .builtin .append, args := #[s, x], argTypes := #[25, 25] })
    (B : Nat) (a0 : Option Addr) (n cap : Nat) (rs : List Rw) (x1 y1 : Int) (hs : a.eval s = .slice a0 n cap) (hx : a.eval x = .slice (some ⟨w.heap.size + 1, 0, none⟩) 1 1)
    (hown : OwnR w B a0 n cap rs) (hl : n + 1 ≤ 2097152) (hB : B ≤ w.heap.size)
    (h : ∀ a' cap' w' rs', numsOf rs' = numsOf rs ++ [[x1, y1]] → OwnR w' B a' (n + 1) cap' rs' → Below B w w' → wpList Tryz.prog ops Q rest (a.put o.dst (.slice a' (n + 1) cap')) w') :
    wpList Tryz.prog ops Q (o :: rest) a ((w.alloc (.cells #[.int .i64 x1, .int .i64 y1] 3)).alloc (.cells #[.slice (some ⟨w.heap.size, 0, none⟩) 2 2] 31)) := by
  have hsz : (w.alloc (.cells #[.int .i64 x1, .int .i64 y1] 3)).heap.size = w.heap.size + 1 := by simp
  refine wpList_append_row w (w.alloc (.cells #[.int .i64 x1, .int .i64 y1] 3)) hgd s x ho B a0 n cap rs _ _ _ _ hs (by rw [hsz]; exact hx) hown ((Below.refl _ _).alloc (Nat.le_refl _) _) (own_lit2 _ _ _ _ (Nat.le_refl _)) hl hB ?_
  intro a' cap' w' hown' hb'
  exact h _ _ _ _ (by simp [numsOf]) hown' (((Below.refl _ _).alloc hB _).trans hb')

/-- 'append(out, row)', with what is kept: w0: the world in which the rows so far were complete; the new row is younger. -/
theorem wpList_append_row_k {ops : Array Oper} {rest : List Oper} {o : Oper} {a : Act} {Q : Exit → Act → World → Prop} (w0 w : World) (hgd : o.guard = none) (s x : Operand)
    (ho : o.op = .call { callee := .builtin .append, args := #[s, x], argTypes := #[25, 25] })
    (B : Nat) (a0 : Option Addr) (n cap : Nat) (rs : List Rw) (a1 : Option Addr) (m c1 : Nat) (ys : List Int) (hs : a.eval s = .slice a0 n cap) (hx : a.eval x = .slice (some ⟨w.heap.size, 0, none⟩) 1 1)
    (hown : OwnR w0 B a0 n cap rs) (hb : Below w0.heap.size w0 w) (hrow : Own w w0.heap.size a1 m c1 ys) (hl : n + 1 ≤ 2097152) (hB : B ≤ w0.heap.size)
    (h : ∀ a' cap' w', OwnR w' B a' (n + 1) cap' (rs ++ [⟨a1, c1, ys⟩]) → Below B w w' → (∀ {aa : Option Addr} {k c : Nat} {zs : List Int} {BB : Nat}, Own w BB aa k c zs → Own w' BB aa k c zs) → (w.alloc (.cells #[.slice a1 m c1] 31)).grownBy w' (Value.slice a0 n cap).ownBlock → wpList Tryz.prog ops Q rest (a.put o.dst (.slice a' (n + 1) cap')) w') :
    wpList Tryz.prog ops Q (o :: rest) a (w.alloc (.cells #[.slice a1 m c1] 31)) := by
  obtain ⟨i0, hi, hz0, hz1, hz2⟩ := info_parts Tryz.infoInts
  have hlen := hown.len
  have hm : ys.length = m := hrow.len
  have hsz := hb.size
  have hownw := hown.below hb (Nat.le_refl _)
  refine wpList_append_own (P := Tryz.prog) _ hgd s x 25 ho B 31 i0 (.slice none 0 0) 1 24 Tryz.underlying25 hi hz0 hz1 hz2 rfl (by decide) _ n (rs.map Rw.v) hs (hownw.1.alloc _) ⟨w.heap.size, 0, none⟩ 1 1 [.slice a1 m c1] hx rfl (one_cellV w _ _) (by intro u hu; simp at hu; subst hu; rfl) (by unfold maxLen; omega) (by omega) (by simp; omega) ?_
  intro v' w' hown' hgrow _
  have hbw : Below B w w' := ((Below.refl B w).alloc (by omega) _).grown hgrow (by simp; omega) (fun k hk => (hownw.1.lt k hk).1)
  obtain ⟨a', cap', rfl⟩ := slice_of_row hown'
  -- rows lie in blocks that the append has not written: they hold integers, the slice's own block slices
  have hkeep : ∀ {aa : Option Addr} {k c : Nat} {zs : List Int} {BB : Nat}, Own w BB aa k c zs → Own w' BB aa k c zs := by
    intro aa k c zs BB hz
    refine ⟨(hz.1.alloc _).kept hgrow ?_, hz.2⟩
    cases aa with
    | none => left; rfl
    | some p =>
      right
      rcases hz.1.2 with ⟨hv, _⟩ | ⟨g1, cap1, cur1, hv1, _, hh1, _⟩
      · simp at hv
      · simp at hv1
        rcases hownw.1.2 with ⟨hv2, _⟩ | ⟨g2, cap2, cur2, hv2, _, hh2, _⟩
        · simp at hv2
          rw [hv2.1]
          simp [Value.ownBlock]
        · simp at hv2
          rw [hv2.1, hv1.1]
          simp only [Value.ownBlock]
          intro e
          simp at e
          rw [e, hh2] at hh1
          simp at hh1
  have hfin : OwnR w' B a' (n + 1) cap' (rs ++ [⟨a1, c1, ys⟩]) := by
    have hge := hrow.ge
    refine ⟨by simpa [Rw.v, hm] using hown', by simp [hlen], hl, fun i hi => ?_, fun i j p q hij hj hp hq => ?_⟩
    · by_cases e : i < n
      · rw [nthR_append_left (by omega)]
        exact hkeep (hownw.2.2.2.1 i e)
      · obtain rfl : i = n := by omega
        rw [nthR_append_right (by omega), hlen, Nat.sub_self, nthR_one]
        have := (hkeep hrow).mono hB
        rw [← hm] at this
        exact this
    · rw [nthR_append_left (by omega)] at hp
      by_cases e : j < n
      · rw [nthR_append_left (by omega)] at hq
        exact hown.2.2.2.2 i j p q hij e hp hq
      · obtain rfl : j = n := by omega
        rw [nthR_append_right (by omega), hlen, Nat.sub_self, nthR_one] at hq
        have h1 := hown.lt.2 i (by omega) p hp
        have h2 := hge q hq
        omega
  exact h _ _ _ hfin hbw hkeep hgrow

/-- 'append(out, []int{x, y})', with what is kept. -/
theorem wpList_append_lit2k {ops : Array Oper} {rest : List Oper} {o : Oper} {a : Act} {Q : Exit → Act → World → Prop} (w : World) (hgd : o.guard = none) (s x : Operand)
    (ho : o.op = .call { callee := .builtin .append, args := #[s, x], argTypes := #[25, 25] })
    (B : Nat) (a0 : Option Addr) (n cap : Nat) (rs : List Rw) (x1 y1 : Int) (hs : a.eval s = .slice a0 n cap) (hx : a.eval x = .slice (some ⟨w.heap.size + 1, 0, none⟩) 1 1)
    (hown : OwnR w B a0 n cap rs) (hl : n + 1 ≤ 2097152) (hB : B ≤ w.heap.size)
    (h : ∀ a' cap' w' rs', numsOf rs' = numsOf rs ++ [[x1, y1]] → OwnR w' B a' (n + 1) cap' rs' → Below B w w' → (∀ {aa : Option Addr} {k c : Nat} {zs : List Int} {BB : Nat}, Own w BB aa k c zs → Own w' BB aa k c zs) → ((w.alloc (.cells #[.int .i64 x1, .int .i64 y1] 3)).alloc (.cells #[.slice (some ⟨w.heap.size, 0, none⟩) 2 2] 31)).grownBy w' (Value.slice a0 n cap).ownBlock → wpList Tryz.prog ops Q rest (a.put o.dst (.slice a' (n + 1) cap')) w') :
    wpList Tryz.prog ops Q (o :: rest) a ((w.alloc (.cells #[.int .i64 x1, .int .i64 y1] 3)).alloc (.cells #[.slice (some ⟨w.heap.size, 0, none⟩) 2 2] 31)) := by
  have hsz : (w.alloc (.cells #[.int .i64 x1, .int .i64 y1] 3)).heap.size = w.heap.size + 1 := by simp
  refine wpList_append_row_k w (w.alloc (.cells #[.int .i64 x1, .int .i64 y1] 3)) hgd s x ho B a0 n cap rs _ _ _ _ hs (by rw [hsz]; exact hx) hown ((Below.refl _ _).alloc (Nat.le_refl _) _) (own_lit2 _ _ _ _ (Nat.le_refl _)) hl hB ?_
  intro a' cap' w' hown' hb' hk hg
  exact h _ _ _ _ (by simp [numsOf]) hown' (((Below.refl _ _).alloc hB _).trans hb') (fun hz => hk (hz.below ((Below.refl w.heap.size w).alloc (Nat.le_refl _) _) (Nat.le_refl _))) hg
end Go.Proofs.YtakadjhbomggbaaGreat

namespace Go.Proofs.YtakadjhbomggbaaGreat
open Go.RowKit

theorem pair_yes1 {hs ls : List Int} {i j : Nat} (h1 : nth hs i = nth hs j) (h2 : nth ls i < nth ls j) : pairB hs ls i j = true := by simp [pairB, h1, h2]
theorem pair_no1 {hs ls : List Int} {i j : Nat} (h1 : nth hs i = nth hs j) (h2 : ¬ nth ls i < nth ls j) : pairB hs ls i j = false := by
  simp only [pairB, h1, decide_true, Bool.true_and, decide_eq_false h2, Bool.false_or, Bool.and_eq_false_iff, decide_eq_false_iff_not]
  left; omega
theorem pair_yes2 {hs ls : List Int} {i j : Nat} (h1 : nth hs i = nth hs j + 1) (h2 : nth ls j < nth ls i) : pairB hs ls i j = true := by simp [pairB, h1, h2]
theorem pair_no2 {hs ls : List Int} {i j : Nat} (h1 : nth hs i = nth hs j + 1) (h2 : ¬ nth ls j < nth ls i) : pairB hs ls i j = false := by
  have : ¬ nth hs i = nth hs j := by omega
  simp [pairB, this, h2]
theorem pair_no3 {hs ls : List Int} {i j : Nat} (h1 : ¬ nth hs i = nth hs j) (h2 : ¬ nth hs i = nth hs j + 1) : pairB hs ls i j = false := by simp [pairB, h1, h2]
theorem prow_yes {hs ls : List Int} {i c : Nat} (h : pairB hs ls i (i + 1 + c) = true) : pairRow hs ls i (c + 1) = pairRow hs ls i c ++ [[(i : Int), ((i + 1 + c : Nat) : Int)]] := by rw [pairRow_succ, if_pos h]
theorem prow_no {hs ls : List Int} {i c : Nat} (h : pairB hs ls i (i + 1 + c) = false) : pairRow hs ls i (c + 1) = pairRow hs ls i c := by rw [pairRow_succ, if_neg (by rw [h]; decide), List.append_nil]

set_option maxHeartbeats 1000000 in
theorem arePair_any (a b : Option Addr) (n cap cap' : Nat) (hs ls : List Int) (i j : Nat) (w : World) (h : Has w a n cap hs) (h' : Has w b n cap' ls) (hi : i < n) (hj : j < n) (h8 : n ≤ 8) (hbd : ∀ i, i < n → 0 ≤ nth hs i ∧ nth hs i ≤ (i : Int)) :
    Calls Tryz.prog 54 #[.agg #[.slice a n cap, .slice b n cap'], .int .i64 i, .int .i64 j] w fun e w' => e = .returned (.bool (pairB hs ls i j)) ∧ Below w.heap.size w w' := by
  have hbW : Below w.heap.size w (w.alloc (.cells #[.slice a n cap, .slice b n cap'] 48)) := (Below.refl _ w).alloc (Nat.le_refl _) _
  have g1 := h.below hbW (Nat.le_refl _)
  have g2 := h'.below hbW (Nat.le_refl _)
  have B1 := boxAt_new w (.slice a n cap) (.slice b n cap') 48
  have q1 := hbd i hi
  have q2 := hbd j hj
  obtain ⟨b1, off1, rfl, hbb1, hc1⟩ := g1.2.2.2.2 (by omega)
  obtain ⟨b2, off2, rfl, hbb2, hc2⟩ := g2.2.2.2.2 (by omega)
  have c1 := hc1 i hi
  have c2 := hc1 j hj
  have c3 := hc2 i hi
  have c4 := hc2 j hj
  obtain ⟨x1, x2, x3, x4⟩ := id B1
  have z1 : (0 : Int) ≤ (i : Int) := by omega
  have z2 : (0 : Int) ≤ (j : Int) := by omega
  have z3 : (i : Int) < (n : Int) := by omega
  have z4 : (j : Int) < (n : Int) := by omega
  clear hc1 hc2 g1 g2 hbd h h' B1
  generalize hW : w.alloc (.cells #[.slice (some ⟨b1, off1, none⟩) n cap, .slice (some ⟨b2, off2, none⟩) n cap'] 48) = W at *
  by_cases e0 : nth hs i = nth hs j
  · have d0 : nth hs i - nth hs j = 0 := by omega
    by_cases l1 : nth ls i < nth ls j
    · have HR := hid (pair_yes1 e0 l1)
      clear e0
      have hsub : (nth hs i - nth hs j) = 0 := d0
      go_enter Tryz.func54, Tryz.ntmps54
      go_wp2_with fail
      go_quiet (fail)
      go_wp2_with fail
      go_quiet (fail)
      go_wp2_with fail
      go_ret
      exact ⟨ret_bool HR.out.symm, below_drewN (below_drewN hbW _) _⟩
    · have HR := hid (pair_no1 e0 l1)
      have HD := hid (decide_eq_false l1)
      clear e0
      have hsub : (nth hs i - nth hs j) = 0 := d0
      go_enter Tryz.func54, Tryz.ntmps54
      go_wp2_with fail
      go_quiet (fail)
      go_wp2_with fail
      go_quiet (fail)
      go_wp2_with fail
      go_ret
      exact ⟨ret_bool (HD.out.trans HR.out.symm), below_drewN (below_drewN hbW _) _⟩
  · by_cases e1 : nth hs i = nth hs j + 1
    · have d0 : nth hs i - nth hs j = 1 := by omega
      by_cases l1 : nth ls j < nth ls i
      · have HR := hid (pair_yes2 e1 l1)
        clear e0 e1
        have hsub : (nth hs i - nth hs j) = 1 := d0
        go_enter Tryz.func54, Tryz.ntmps54
        go_wp2_with fail
        go_quiet (fail)
        go_wp2_with fail
        go_quiet (fail)
        go_wp2_with fail
        go_ret
        exact ⟨ret_bool HR.out.symm, below_drewN (below_drewN hbW _) _⟩
      · have HR := hid (pair_no2 e1 l1)
        have HD := hid (decide_eq_false l1)
        clear e0 e1
        have hsub : (nth hs i - nth hs j) = 1 := d0
        go_enter Tryz.func54, Tryz.ntmps54
        go_wp2_with fail
        go_quiet (fail)
        go_wp2_with fail
        go_quiet (fail)
        go_wp2_with fail
        go_ret
        exact ⟨ret_bool (HD.out.trans HR.out.symm), below_drewN (below_drewN hbW _) _⟩
    · have HR := hid (pair_no3 (ls := ls) e0 e1)
      have d0 : ¬ nth hs i - nth hs j = 0 := by omega
      have d1 : ¬ nth hs i - nth hs j = 1 := by omega
      have hbe0 : (nth hs i - nth hs j == 0) = false := by simp; omega
      have hbe1 : (nth hs i - nth hs j == 1) = false := by simp; omega
      clear e0 e1
      go_enter Tryz.func54, Tryz.ntmps54
      go_wp2_with fail
      go_quiet (fail)
      go_wp2_with fail
      go_ret
      exact ⟨ret_bool HR.out.symm, below_drewN hbW _⟩

set_option maxHeartbeats 4000000 in
theorem pairs_any (a b : Option Addr) (n cap cap' : Nat) (hs ls : List Int) (w : World) (h : Has w a n cap hs) (h' : Has w b n cap' ls) (h8 : n ≤ 8) (hbd : ∀ i, i < n → 0 ≤ nth hs i ∧ nth hs i ≤ (i : Int)) :
    Calls Tryz.prog 26 #[.agg #[.slice a n cap, .slice b n cap']] w (RowsRet w (pairsL hs ls)) := by
  have HL' := hid h'.len
  have HBD := hid hbd
  have hbW : Below w.heap.size w (w.alloc (.cells #[.slice a n cap, .slice b n cap'] 48)) := (Below.refl _ w).alloc (Nat.le_refl _) _
  have B1 := boxAt_new w (.slice a n cap) (.slice b n cap') 48
  have G1 := hid h
  have G2 := hid h'
  clear hbd h h'
  go_enter Tryz.func26, Tryz.ntmps26
  go_wp2_with fail
  generalize w.alloc (.cells #[.slice a n cap, .slice b n cap'] 48) = W at *
  go_loopw [3, 9] (fun o i wr => ∃ (k q : Nat) (a' : Option Addr) (cq : Nat) (rs : List Rw), k ≤ n ∧ q ≤ 8 * k ∧ i = .int .i64 k ∧ o = .slice a' q cq ∧ OwnR wr (w.heap.size + 1) a' q cq rs ∧ Hid (numsOf rs = pairsTo hs ls k) ∧ BoxAt wr w.heap.size (.slice a n cap) (.slice b n cap') ∧ Below w.heap.size w wr) (fun _ i _ => n - (intOf i).toNat)
  case atStart => exact ⟨0, 0, none, 0, [], Nat.zero_le _, Nat.zero_le _, rfl, rfl, OwnR.nil _ _, hid rfl, B1, hbW⟩
  case round =>
    obtain ⟨wo, rfl⟩ : ∃ wo : World, wo = wr := ⟨_, rfl⟩
    obtain ⟨k, q, a', cq, rs, hk, hq, rfl, rfl, hown, HN, BX, hb⟩ := hrel
    clear B1 hbW
    by_cases hlt : k < n
    · obtain ⟨x1, x2, x3, x4⟩ := id BX
      go_wp2_with fail
      clear x1 x2 x3 x4
      go_loopw [3, 5] (fun o jv wr => ∃ (j c q : Nat) (a' : Option Addr) (cq : Nat) (rs : List Rw), j ≤ n ∧ Hid (j = k + 1 + c) ∧ q ≤ 8 * k + c ∧ jv = .int .i64 (j : Int) ∧ o = .slice a' q cq ∧ OwnR wr (w.heap.size + 1) a' q cq rs ∧ Hid (numsOf rs = pairsTo hs ls k ++ pairRow hs ls k c) ∧ BoxAt wr w.heap.size (.slice a n cap) (.slice b n cap') ∧ Below w.heap.size w wr) (fun _ jv _ => n - (intOf jv).toNat)
      case atStart => exact ⟨k + 1, 0, q, a', cq, rs, by omega, hid rfl, by omega, by go_num, rfl, hown, hid (by rw [HN.out]; simp [pairRow]), BX, hb⟩
      case round =>
        obtain ⟨j, c, q1, a1, cq1, rs1, hkc, HJ, hq1, rfl, rfl, hown1, HN1, BX1, hb1⟩ := hrel
        have hjc : c ≤ 8 := by have := HJ.out; omega
        clear hown BX hb HN
        by_cases hlc : j < n
        · obtain ⟨x1, x2, x3, x4⟩ := id BX1
          go_wp2_with fail
          refine (arePair_any _ _ _ _ _ _ _ k j _ (G1.out.below hb1 (Nat.le_refl _)) (G2.out.below hb1 (Nat.le_refl _)) hlt hlc h8 HBD.out).mono ?_
          rintro e w2 ⟨rfl, st⟩
          have hown2 := hown1.below st (Nat.le_refl _)
          have BX2 := BX1.below st (boxAt_lt BX1)
          have hb2 := hb1.trans (st.mono hb1.size)
          clear st hown1 BX1 x1 x2 x3 x4
          by_cases hp : pairB hs ls k j = true
          · rw [hp]
            have HP : Hid (pairRow hs ls k (c + 1) = pairRow hs ls k c ++ [[(k : Int), (j : Int)]]) := hid (by have e := HJ.out; subst e; exact prow_yes hp)
            clear hp
            go_wp2_with (at_builtin; refine wpList_append_lit2 w2 rfl _ _ rfl (w.heap.size + 1) _ _ _ _ _ _ rfl rfl hown2 (by omega) (boxAt_lt BX2) ?_; intro a3 cap3 w3 rs3 hn3 hown3 hb3)
            have BX3 := BX2.below hb3 (by omega)
            go_roundw
            case rel => exact ⟨j + 1, c + 1, q1 + 1, a3, cap3, rs3, by omega, hid (by have := HJ.out; omega), by omega, by go_num, rfl, hown3, hid (by rw [hn3, HN1.out, HP.out, List.append_assoc]), BX3, hb2.trans (hb3.mono (Nat.le_succ _))⟩
            case measure => simp [intOf]; omega
          · rw [Bool.eq_false_iff.2 hp]
            have HP : Hid (pairRow hs ls k (c + 1) = pairRow hs ls k c) := hid (by have e := HJ.out; subst e; exact prow_no (Bool.eq_false_iff.2 hp))
            clear hp
            go_wp2_with fail
            go_roundw
            case rel => exact ⟨j + 1, c + 1, q1, a1, cq1, rs1, by omega, hid (by have := HJ.out; omega), by omega, by go_num, rfl, hown2, hid (by rw [HN1.out, HP.out]), BX2, hb2⟩
            case measure => simp [intOf]; omega
        · have hjn : j = n := by omega
          have hcn : Hid (c = n - (k + 1)) := hid (by have := HJ.out; omega)
          have HS : Hid (numsOf rs1 = pairsTo hs ls (k + 1)) := hid (by rw [HN1.out, pairsTo_succ, hcn.out, HL'.out])
          obtain ⟨x1, x2, x3, x4⟩ := id BX1
          go_wp2_with fail
          go_roundw
          case rel => exact ⟨k + 1, q1, a1, cq1, rs1, by omega, by have := hcn.out; omega, by go_num, rfl, hown1, HS, BX1, hb1⟩
          case measure => simp [intOf]; omega
    · obtain rfl : k = n := by omega
      have HS : Hid (numsOf rs = pairsL hs ls) := hid (by rw [HN.out]; unfold pairsL; rw [HL'.out])
      go_wp2_with fail
      go_ret
      exact ⟨a', q, cq, rs, rfl, hown.mono (Nat.le_succ _), HS.out, hb⟩

set_option maxHeartbeats 4000000 in
theorem waPairs_any (a b : Option Addr) (n cap cap' : Nat) (hs ls : List Int) (w : World) (h : Has w a n cap hs) (h' : Has w b n cap' ls) (h8 : n ≤ 8) (hbd : ∀ i, i < n → 0 ≤ nth hs i ∧ nth hs i ≤ (i : Int)) :
    Calls Tryz.prog 32 #[.agg #[.slice a n cap, .slice b n cap']] w (RowsRet w (pairsL hs ls)) := by
  have HL' := hid h'.len
  have HBD := hid hbd
  have hbW : Below w.heap.size w (w.alloc (.cells #[.slice a n cap, .slice b n cap'] 43)) := (Below.refl _ w).alloc (Nat.le_refl _) _
  have B1 := boxAt_new w (.slice a n cap) (.slice b n cap') 43
  have G1 := hid h
  have G2 := hid h'
  clear hbd h h'
  go_enter Tryz.func32, Tryz.ntmps32
  go_wp2_with fail
  generalize w.alloc (.cells #[.slice a n cap, .slice b n cap'] 43) = W at *
  go_loopw [3, 10] (fun o i wr => ∃ (k q : Nat) (a' : Option Addr) (cq : Nat) (rs : List Rw), k ≤ n ∧ q ≤ 8 * k ∧ i = .int .i64 k ∧ o = .slice a' q cq ∧ OwnR wr (w.heap.size + 1) a' q cq rs ∧ Hid (numsOf rs = pairsTo hs ls k) ∧ BoxAt wr w.heap.size (.slice a n cap) (.slice b n cap') ∧ Below w.heap.size w wr) (fun _ i _ => n - (intOf i).toNat)
  case atStart => exact ⟨0, 0, none, 0, [], Nat.zero_le _, Nat.zero_le _, rfl, rfl, OwnR.nil _ _, hid rfl, B1, hbW⟩
  case round =>
    obtain ⟨wo, rfl⟩ : ∃ wo : World, wo = wr := ⟨_, rfl⟩
    obtain ⟨k, q, a', cq, rs, hk, hq, rfl, rfl, hown, HN, BX, hb⟩ := hrel
    clear B1 hbW
    by_cases hlt : k < n
    · obtain ⟨x1, x2, x3, x4⟩ := id BX
      go_wp2_with fail
      clear x1 x2 x3 x4
      go_loopw [3, 5] (fun o jv wr => ∃ (j c q : Nat) (a' : Option Addr) (cq : Nat) (rs : List Rw), j ≤ n ∧ Hid (j = k + 1 + c) ∧ q ≤ 8 * k + c ∧ jv = .int .i64 (j : Int) ∧ o = .slice a' q cq ∧ OwnR wr (w.heap.size + 1) a' q cq rs ∧ Hid (numsOf rs = pairsTo hs ls k ++ pairRow hs ls k c) ∧ BoxAt wr w.heap.size (.slice a n cap) (.slice b n cap') ∧ Below w.heap.size w wr) (fun _ jv _ => n - (intOf jv).toNat)
      case atStart => exact ⟨k + 1, 0, q, a', cq, rs, by omega, hid rfl, by omega, by go_num, rfl, hown, hid (by rw [HN.out]; simp [pairRow]), BX, hb⟩
      case round =>
        obtain ⟨j, c, q1, a1, cq1, rs1, hkc, HJ, hq1, rfl, rfl, hown1, HN1, BX1, hb1⟩ := hrel
        have hjc : c ≤ 8 := by have := HJ.out; omega
        clear hown BX hb HN
        by_cases hlc : j < n
        · obtain ⟨x1, x2, x3, x4⟩ := id BX1
          have g1 := G1.out.below hb1 (Nat.le_refl _)
          have g2 := G2.out.below hb1 (Nat.le_refl _)
          obtain ⟨b1, off1, rfl, hbb1, hc1⟩ := g1.2.2.2.2 (by omega)
          obtain ⟨b2, off2, rfl, hbb2, hc2⟩ := g2.2.2.2.2 (by omega)
          have c1 := hc1 k hlt
          have c2 := hc1 j hlc
          have c3 := hc2 k hlt
          have c4 := hc2 j hlc
          have q1' := HBD.out k hlt
          have q2' := HBD.out j hlc
          have z1 : (0 : Int) ≤ (k : Int) := by omega
          have z2 : (0 : Int) ≤ (j : Int) := by omega
          have z3 : (k : Int) < (n : Int) := by omega
          have z4 : (j : Int) < (n : Int) := by omega
          have HOW : Hid (∀ q, OwnR (wr.drewN q) (w.heap.size + 1) a1 q1 cq1 rs1) := hid (fun q => hown1)
          have HBX : Hid (∀ q, BoxAt (wr.drewN q) w.heap.size (.slice (some ⟨b1, off1, none⟩) n cap) (.slice (some ⟨b2, off2, none⟩) n cap')) := hid (fun q => ⟨BX1.c0, BX1.c1, BX1.f0, BX1.f1⟩)
          have HBB : Hid (∀ q, Below w.heap.size w (wr.drewN q)) := hid (fun q => below_drewN hb1 q)
          clear hc1 hc2 g1 g2 hown1 BX1 hb1
          by_cases e0 : nth hs k = nth hs j
          · have b0 : (nth hs k == nth hs j) = true := by simp [e0]
            by_cases l1 : nth ls k < nth ls j
            · have d1 : decide (nth ls k < nth ls j) = true := by simp [l1]
              have HP : Hid (pairRow hs ls k (c + 1) = pairRow hs ls k c ++ [[(k : Int), (j : Int)]]) := hid (by have e := HJ.out; subst e; exact prow_yes (pair_yes1 e0 l1))
              clear e0
              go_wp2_with fail
              go_quiet (fail)
              go_wp2_with fail
              go_quiet (fail)
              try simp only [World.drewN_drewN]
              go_wp2_with (at_builtin; refine wpList_append_lit2 _ rfl _ _ rfl (w.heap.size + 1) _ _ _ _ _ _ rfl rfl (HOW.out _) (by omega) (boxAt_lt (HBX.out _)) ?_; intro a3 cap3 w3 rs3 hn3 hown3 hb3)
              have BX3 := (HBX.out _).below hb3 (by omega)
              go_roundw
              case rel => exact ⟨j + 1, c + 1, q1 + 1, a3, cap3, rs3, by omega, hid (by have := HJ.out; omega), by omega, by go_num, rfl, hown3, hid (by rw [hn3, HN1.out, HP.out, List.append_assoc]), BX3, (HBB.out _).trans (hb3.mono (Nat.le_succ _))⟩
              case measure => simp [intOf]; omega
            · have d1 : decide (nth ls k < nth ls j) = false := by simp; omega
              have b1' : (nth hs k == nth hs j + 1) = false := by simp; omega
              have HP : Hid (pairRow hs ls k (c + 1) = pairRow hs ls k c) := hid (by have e := HJ.out; subst e; exact prow_no (pair_no1 e0 l1))
              clear e0
              go_wp2_with fail
              go_quiet (fail)
              go_wp2_with fail
              go_quiet (fail)
              try simp only [World.drewN_drewN]
              go_wp2_with fail
              go_roundw
              case rel => exact ⟨j + 1, c + 1, q1, a1, cq1, rs1, by omega, hid (by have := HJ.out; omega), by omega, by go_num, rfl, (HOW.out _), hid (by rw [HN1.out, HP.out]), (HBX.out _), (HBB.out _)⟩
              case measure => simp [intOf]; omega
          · have b0 : (nth hs k == nth hs j) = false := by simp [e0]
            by_cases e1 : nth hs k = nth hs j + 1
            · have b1' : (nth hs k == nth hs j + 1) = true := by simp [e1]
              by_cases l1 : nth ls j < nth ls k
              · have d1 : decide (nth ls j < nth ls k) = true := by simp [l1]
                have HP : Hid (pairRow hs ls k (c + 1) = pairRow hs ls k c ++ [[(k : Int), (j : Int)]]) := hid (by have e := HJ.out; subst e; exact prow_yes (pair_yes2 e1 l1))
                clear e0 e1
                go_wp2_with fail
                go_quiet (fail)
                go_wp2_with fail
                go_quiet (fail)
                try simp only [World.drewN_drewN]
                go_wp2_with (at_builtin; refine wpList_append_lit2 _ rfl _ _ rfl (w.heap.size + 1) _ _ _ _ _ _ rfl rfl (HOW.out _) (by omega) (boxAt_lt (HBX.out _)) ?_; intro a3 cap3 w3 rs3 hn3 hown3 hb3)
                have BX3 := (HBX.out _).below hb3 (by omega)
                go_roundw
                case rel => exact ⟨j + 1, c + 1, q1 + 1, a3, cap3, rs3, by omega, hid (by have := HJ.out; omega), by omega, by go_num, rfl, hown3, hid (by rw [hn3, HN1.out, HP.out, List.append_assoc]), BX3, (HBB.out _).trans (hb3.mono (Nat.le_succ _))⟩
                case measure => simp [intOf]; omega
              · have d1 : decide (nth ls j < nth ls k) = false := by simp; omega
                have HP : Hid (pairRow hs ls k (c + 1) = pairRow hs ls k c) := hid (by have e := HJ.out; subst e; exact prow_no (pair_no2 e1 l1))
                clear e0 e1
                go_wp2_with fail
                go_quiet (fail)
                go_wp2_with fail
                go_quiet (fail)
                try simp only [World.drewN_drewN]
                go_wp2_with fail
                go_roundw
                case rel => exact ⟨j + 1, c + 1, q1, a1, cq1, rs1, by omega, hid (by have := HJ.out; omega), by omega, by go_num, rfl, (HOW.out _), hid (by rw [HN1.out, HP.out]), (HBX.out _), (HBB.out _)⟩
                case measure => simp [intOf]; omega
            · have b1' : (nth hs k == nth hs j + 1) = false := by simp [e1]
              have HP : Hid (pairRow hs ls k (c + 1) = pairRow hs ls k c) := hid (by have e := HJ.out; subst e; exact prow_no (pair_no3 e0 e1))
              clear e0 e1
              go_wp2_with fail
              go_quiet (fail)
              go_wp2_with fail
              go_quiet (fail)
              try simp only [World.drewN_drewN]
              go_wp2_with fail
              go_roundw
              case rel => exact ⟨j + 1, c + 1, q1, a1, cq1, rs1, by omega, hid (by have := HJ.out; omega), by omega, by go_num, rfl, (HOW.out _), hid (by rw [HN1.out, HP.out]), (HBX.out _), (HBB.out _)⟩
              case measure => simp [intOf]; omega
        · have hjn : j = n := by omega
          have hcn : Hid (c = n - (k + 1)) := hid (by have := HJ.out; omega)
          have HS : Hid (numsOf rs1 = pairsTo hs ls (k + 1)) := hid (by rw [HN1.out, pairsTo_succ, hcn.out, HL'.out])
          obtain ⟨x1, x2, x3, x4⟩ := id BX1
          go_wp2_with fail
          go_roundw
          case rel => exact ⟨k + 1, q1, a1, cq1, rs1, by omega, by have := hcn.out; omega, by go_num, rfl, hown1, HS, BX1, hb1⟩
          case measure => simp [intOf]; omega
    · obtain rfl : k = n := by omega
      have HS : Hid (numsOf rs = pairsL hs ls) := hid (by rw [HN.out]; unfold pairsL; rw [HL'.out])
      go_wp2_with fail
      go_ret
      exact ⟨a', q, cq, rs, rfl, hown.mono (Nat.le_succ _), HS.out, hb⟩
end Go.Proofs.YtakadjhbomggbaaGreat

namespace Go.Proofs.YtakadjhbomggbaaGreat
open Go.RowKit

/-- The first k numbers are the starts. -/
def StAt (hs ys : List Int) (k : Nat) : Prop := ∀ i, i < k → nth ys i = (i : Int) - nth hs i
theorem st_all {hs ys : List Int} {n : Nat} (h : StAt hs ys n) (hl : ys.length = n) : ys = startsTo hs n := ext_nth (by rw [hl, length_startsTo]) fun i hi => by rw [h i (by omega), nth_startsTo (by omega)]
theorem st_step {hs ys : List Int} {k n : Nat} (h : StAt hs ys k) (hl : ys.length = n) (hk : k < n) : StAt hs (ys.set k ((k : Int) - nth hs k)) (k + 1) := fun i hi => by
  rw [nth_set (by omega)]
  split
  · subst_vars; rfl
  · exact h i (by omega)

set_option maxHeartbeats 1000000 in
theorem starts_any (a : Option Addr) (n cap : Nat) (hs : List Int) (w : World) (h : Has w a n cap hs) (h8 : n ≤ 8) (hbd : ∀ i, i < n → 0 ≤ nth hs i ∧ nth hs i ≤ (i : Int)) :
    Calls Tryz.prog 38 #[.slice a n cap] w fun e w' => ∃ a' cap', e = .returned (.slice a' n cap') ∧ Own w' w.heap.size a' n cap' (startsTo hs n) ∧ Below w.heap.size w w' := by
  have HB := hid hbd
  clear hbd
  go_enter Tryz.func38, Tryz.ntmps38
  go_wp2_with (at_make; refine wpList_make_ints _ rfl _ _ rfl n rfl rfl (by omega) ?_; intro a' cap' w1 hown1 hb1)
  go_loopw [11] (fun i wr => ∃ (k : Nat) (ys : List Int), k ≤ n ∧ i = .int .i64 k ∧ Own wr w.heap.size a' n cap' ys ∧ Hid (StAt hs ys k) ∧ Below w.heap.size w wr) (fun i _ => n - (intOf i).toNat)
  case atStart => exact ⟨0, _, Nat.zero_le _, rfl, hown1, hid (fun i hi => by omega), hb1⟩
  case round =>
    obtain ⟨k, ys, hk, rfl, hown, HS, hb⟩ := hrel
    clear hown1 hb1
    by_cases hlt : k < n
    · obtain ⟨g, rfl, hg1, hg2, hg3, hg4⟩ := hown.opened (by omega)
      obtain ⟨b, off, rfl, hbb, hc⟩ := h.2.2.2.2 (by omega)
      have hck : wr.cell? ⟨b, off + k, none⟩ = some (.int .i64 (nth hs k)) := by rw [hb.cell (p := ⟨b, off + k, none⟩) hbb]; exact hc k hlt
      have hbn := HB.out k hlt
      have hgx := hg3 k hlt
      have hgf := hg4 k
      obtain ⟨s1, s2⟩ := hown.set k ((k : Int) - nth hs k)
      have HS2 := hid (st_step HS.out hown.len hlt)
      have hb2 := hb.setCell (p := ⟨g, k, none⟩) hg1 (.int .i64 ((k : Int) - nth hs k))
      clear hc hg3 hg4
      go_wp2_with fail
      go_roundw
      case rel => exact ⟨k + 1, _, by omega, by go_num, s1, HS2, hb2⟩
      case measure => simp [intOf]; omega
    · obtain rfl : k = n := by omega
      have HE := hid (st_all HS.out hown.len)
      go_wp2_with fail
      go_ret
      exact ⟨_, _, rfl, by rw [← HE.out]; exact hown, hb⟩
theorem powTo_step {hs ls : List Int} {k u : Nat} (hu : nth ls k = (u : Int)) : powTo hs ls (k + 1) = (powTo hs ls k).set u ((k : Int) - nth hs k) := by simp only [powTo]; rw [hu, Int.toNat_natCast]
theorem pow_zero {hs ls : List Int} {n : Nat} (hl : ls.length = n) : powTo hs ls 0 = List.replicate n 0 := by subst hl; rfl

end Go.Proofs.YtakadjhbomggbaaGreat

namespace Go.Proofs.YtakadjhbomggbaaGreat
open Go.RowKit


theorem implAreHeights_any (a : Option Addr) (n cap : Nat) (hs : List Int) (w : World) (h : Has w a n cap hs) :
    Calls Tryz.prog 37 #[.slice a n cap] w (PostBool w (hgtB hs)) := by
  go_enter Tryz.func37, Tryz.ntmps37
  go_wp2_with fail
  refine (areHeights_any _ _ _ _ _ h).mono ?_
  rintro e w' ⟨rfl, rfl⟩
  go_wp2_with fail
  go_ret
  exact postBool rfl (Below.refl _ _)

theorem run_up {hs : List Int} {k : Nat} (h : nth hs (k + 1) = nth hs k + 1) : runAt hs (k + 1 + 1) = runAt hs (k + 1) + 1 := by simp [runAt, raisedB, h]
theorem run_flat {hs : List Int} {k : Nat} (h : ¬ nth hs (k + 1) = nth hs k + 1) : runAt hs (k + 1 + 1) = 1 := by simp [runAt, raisedB, h]
theorem run_one (hs : List Int) : runAt hs 1 = 1 := by simp [runAt, raisedB]
theorem cl_step (hs : List Int) (k : Nat) {r : Int} (h : runAt hs (k + 1) = r) : clTo hs (k + 1) = clTo hs k * ((k : Int) + 1) / r := by simp only [clTo]; rw [h]

theorem bnext_loop {hs : List Int} {n k i : Nat} (hl : hs.length = n) (hk : k ≤ i) (hi : i < n) : below (((startsL hs).drop k).take (i + 1 - k)) ((k : Int) + 1) = below (((startsL hs).drop k).take (i - k)) ((k : Int) + 1) + if (i : Int) - nth hs i ≤ (k : Int) then 1 else 0 := by
  subst hl
  have hlen : (startsL hs).length = hs.length := by unfold startsL; rw [length_startsTo]
  rw [show i + 1 - k = (i - k) + 1 by omega, below_succ (by rw [List.length_drop, hlen]; omega)]
  have e : nth ((startsL hs).drop k) (i - k) = (i : Int) - nth hs i := by
    have : nth ((startsL hs).drop k) (i - k) = nth (startsL hs) (k + (i - k)) := by simp [nth]
    rw [this, show k + (i - k) = i by omega]
    exact nth_startsTo hi
  rw [e]
  by_cases h : (i : Int) - nth hs i ≤ (k : Int)
  · rw [if_pos h, if_pos (by omega)]
  · rw [if_neg h, if_neg (by omega)]
theorem bnext_full {hs : List Int} {n k : Nat} (hl : hs.length = n) : k + below (((startsL hs).drop k).take (n - k)) ((k : Int) + 1) = bnext hs k := by
  subst hl
  unfold bnext
  rw [List.take_of_length_le]
  rw [List.length_drop]
  unfold startsL
  rw [length_startsTo]
  exact Nat.le_refl _
theorem bnext_facts {hs : List Int} {n k : Nat} (hg : hgtB hs = true) (hl : hs.length = n) (hk : k < n) : k < bnext hs k ∧ bnext hs k ≤ n := by
  subst hl
  exact ⟨bnext_gt hg hk, bnext_le (by omega)⟩
theorem bnc_step {hs : List Int} {n f k : Nat} (hl : hs.length = n) (hk : k < n) : bncF hs (f + 1) k = (n - bnext hs k) + bncF hs f (bnext hs k) := by subst hl; exact bncF_step hk
theorem bnc_end {hs : List Int} {n f k : Nat} (hl : hs.length = n) (hk : ¬ k < n) : bncF hs f k = 0 := by subst hl; exact bncF_end hk
theorem bounce_le {hs : List Int} {n : Nat} (hl : hs.length = n) (h8 : n ≤ 8) : bncF hs n 0 ≤ 64 := by
  have := bncF_le (hs := hs) (by omega) n 0
  omega

set_option maxHeartbeats 1000000 in
theorem implBounce_any (a : Option Addr) (n cap : Nat) (hs : List Int) (w : World) (h : Has w a n cap hs) :
    Calls Tryz.prog 14 #[.slice a n cap] w (PostInt w (bounceOf hs)) := by
  have HL := hid h.len
  have hle := h.le
  by_cases hg : hgtB hs = true
  · have HR : Hid (bounceOf hs = ((bncF hs hs.length 0 : Int), true)) := hid (by simp only [bounceOf]; rw [if_pos hg])
    have HG := hid hg
    obtain ⟨h8, hbd⟩ := hgt_of hg h.len
    have HBD := hid hbd
    clear hg hbd
    go_enter Tryz.func14, Tryz.ntmps14
    go_wp2_with fail
    refine (implAreHeights_any _ _ _ _ _ h).mono ?_
    rintro e w1 ⟨rfl, st1⟩
    rw [HG.out]
    go_wp2_with fail
    refine (starts_any _ _ _ _ _ (h.below st1 (Nat.le_refl _)) h8 HBD.out).mono ?_
    rintro e w2 ⟨a2, c2, rfl, hown2, st2⟩
    have hbw := st1.trans (st2.mono st1.size)
    have HB8 := hid (bounce_le HL.out h8)
    have hcap := hown2.has.2.1
    clear st1 st2
    go_wp2_with fail
    go_loop [5, 6] (fun s kv => ∃ (k f S : Nat), k ≤ n ∧ n ≤ k + f ∧ kv = .int .i64 k ∧ s = .int .i64 (S : Int) ∧ Hid (S + bncF hs f k = bncF hs n 0)) (fun _ kv => n - (intOf kv).toNat)
    case atStart => exact ⟨0, n, 0, Nat.zero_le _, by omega, rfl, rfl, hid (by omega)⟩
    case round =>
      obtain ⟨k, f, S, hk, hf, rfl, rfl, HS⟩ := hrel
      by_cases hlt : k < n
      · obtain ⟨f, rfl⟩ : ∃ g, f = g + 1 := ⟨f - 1, by omega⟩
        have hbn := bnext_facts HG.out HL.out hlt
        have hst := bnc_step (f := f) HL.out hlt
        obtain ⟨g, rfl, hg1, hg2, hg3, hg4⟩ := hown2.opened (by omega)
        have hd := hown2.has.drop (k := k) (by omega)
        rw [Nat.zero_add] at hd
        have hS : S ≤ 64 := by have := HS.out; have := HB8.out; omega
        have HE : Hid (((k : Int) + (below ((startsTo hs n).drop k) ((k : Int) + 1) : Int)) = ((bnext hs k : Nat) : Int)) := hid (by unfold bnext startsL; rw [HL.out]; omega)
        have HB2 : Hid (((S : Int) + ((n : Int) - ((bnext hs k : Nat) : Int))) = ((S + (n - bnext hs k) : Nat) : Int)) := hid (by omega)
        have HS2 : Hid ((S + (n - bnext hs k)) + bncF hs f (bnext hs k) = bncF hs n 0) := hid (by have := HS.out; rw [hst] at this; omega)
        have hkb : (below ((startsTo hs n).drop k) ((k : Int) + 1) : Int) ≤ 8 ∧ 0 ≤ (below ((startsTo hs n).drop k) ((k : Int) + 1) : Int) := by have := HE.out; omega
        clear hst hg3 hg4
        generalize hZ : bnext hs k = z at *
        clear hZ
        go_wp2_with fail
        refine (countBelow_any _ _ _ _ ((k : Int) + 1) _ hd).mono ?_
        rintro e w' ⟨rfl, rfl⟩
        go_wp2_with fail
        go_round
        case rel => exact ⟨z, f, S + (n - z), by omega, by omega, by rw [← HE.out], by rw [← HB2.out, ← HE.out], HS2⟩
        case measure => simp [intOf]; have := HE.out; omega
      · have hz := bnc_end (f := f) HL.out hlt
        have HF : Hid (bounceOf hs = ((S : Int), true)) := hid (by rw [HR.out]; have := HS.out; rw [hz] at this; rw [HL.out, ← this]; rfl)
        go_wp2_with fail
        go_ret2
        exact postInt HF.out hbw
  · have HR : Hid (bounceOf hs = (0, false)) := hid (by simp only [bounceOf]; rw [if_neg hg])
    have HG := hid (Bool.eq_false_iff.2 hg)
    clear hg
    go_enter Tryz.func14, Tryz.ntmps14
    go_wp2_with fail
    refine (implAreHeights_any _ _ _ _ _ h).mono ?_
    rintro e w1 ⟨rfl, st1⟩
    rw [HG.out]
    go_wp2_with fail
    go_ret2
    exact postInt HR.out st1

end Go.Proofs.YtakadjhbomggbaaGreat

namespace Go.Proofs.YtakadjhbomggbaaGreat
open Go.RowKit

theorem nth_replicate0' (n i : Nat) : nth (List.replicate n 0) i = 0 := by
  simp [nth, List.getElem?_replicate]
  split <;> rfl
/-- The parent of a node. -/
def par (ps : List Int) (v : Int) : Int := nth ps (v.toNat - 1)
/-- Where k steps up lead; the root stays. -/
def up (ps : List Int) (v : Int) : Nat → Int
  | 0 => v
  | k + 1 => if up ps v k = 0 then 0 else par ps (up ps v k)
/-- The first k that are above a node. -/
def upTo (ps : List Int) (v : Int) (k : Nat) : List Int := (List.range k).map fun j => up ps v (j + 1)
theorem upTo_succ (ps : List Int) (v : Int) (k : Nat) : upTo ps v (k + 1) = upTo ps v k ++ [up ps v (k + 1)] := by simp [upTo, List.range_succ]
theorem length_upTo (ps : List Int) (v : Int) (k : Nat) : (upTo ps v k).length = k := by simp [upTo]
theorem up_succ {ps : List Int} {v : Int} {k : Nat} (h : up ps v k ≠ 0) : up ps v (k + 1) = par ps (up ps v k) := by simp [up, h]
theorem up_zero {ps : List Int} {v : Int} {k : Nat} (h : up ps v k = 0) : ∀ m, k ≤ m → up ps v m = 0
  | 0, hm => by obtain rfl : k = 0 := by omega
                exact h
  | m + 1, hm => by
    by_cases e : k = m + 1
    · subst e; exact h
    · have := up_zero h m (by omega)
      simp [up, this]
theorem up_add (ps : List Int) (v : Int) (k : Nat) : ∀ m, up ps v (k + m) = up ps (up ps v k) m
  | 0 => rfl
  | m + 1 => by rw [← Nat.add_assoc]; simp only [up]; rw [up_add ps v k m]

/-- The numbers are those of a tree's parents: within bounds, and from each node they lead to the root. -/
def treeB (ps : List Int) : Bool := decide (ps.length ≤ 8) && (allB ps 0 ps.length && (List.range ps.length).all fun i => decide (up ps ((i : Int) + 1) ps.length = 0))
theorem treeB_iff {ps : List Int} : treeB ps = true ↔ ps.length ≤ 8 ∧ (∀ x ∈ ps, 0 ≤ x ∧ x ≤ (ps.length : Int)) ∧ ∀ i, i < ps.length → up ps ((i : Int) + 1) ps.length = 0 := by
  simp only [treeB, Bool.and_eq_true, decide_eq_true_eq, allB_iff, List.all_eq_true, List.mem_range]
theorem treeB_cars (ps : List Int) (n : Nat) (hn : ps.length = n) : treeB ps = (carsB ps ((n : Int) + 1) && (List.range n).all fun i => decide (up ps ((i : Int) + 1) n = 0)) := by
  subst hn
  simp only [treeB, carsB, Bool.and_assoc, show ((ps.length : Int) + 1 - 1) = ps.length by omega]
theorem treeB_no {ps : List Int} {i : Nat} (hi : i < ps.length) (h : up ps ((i : Int) + 1) ps.length ≠ 0) : treeB ps = false := by
  rw [← Bool.not_eq_true, treeB_iff]
  exact fun hh => h (hh.2.2 i hi)
theorem treeB_nil : treeB [] = true := by decide

structure Tree (ps : List Int) (n : Nat) : Prop where
  len : ps.length = n
  le : n ≤ 8
  nthB : ∀ i, i < n → 0 ≤ nth ps i ∧ nth ps i ≤ (n : Int)
  top : ∀ i, i < n → up ps ((i : Int) + 1) n = 0
theorem tree_of {ps : List Int} {n : Nat} (h : treeB ps = true) (hn : ps.length = n) : Tree ps n := by
  obtain ⟨h1, h2, h3⟩ := treeB_iff.1 h
  subst hn
  exact ⟨rfl, h1, fun i hi => h2 _ (nth_mem hi), h3⟩
theorem Tree.b {ps : List Int} {n : Nat} (h : Tree ps n) : treeB ps = true := by
  obtain ⟨rfl, h1, h2, h3⟩ := h
  rw [treeB_iff]
  refine ⟨h1, fun x hx => ?_, h3⟩
  obtain ⟨i, hi, rfl⟩ := mem_nth hx
  exact h2 i hi
theorem Tree.par {ps : List Int} {n : Nat} (h : Tree ps n) {v : Int} (h1 : 1 ≤ v) (h2 : v ≤ n) : 0 ≤ Go.Proofs.YtakadjhbomggbaaGreat.par ps v ∧ Go.Proofs.YtakadjhbomggbaaGreat.par ps v ≤ n := by
  exact h.nthB _ (by omega)
theorem Tree.root {ps : List Int} {n : Nat} (h : Tree ps n) {v : Int} (h1 : 0 ≤ v) (h2 : v ≤ n) : up ps v n = 0 := by
  by_cases e : v = 0
  · subst e; exact up_zero (k := 0) rfl n (by omega)
  · have := h.top (v.toNat - 1) (by omega)
    rwa [show (((v.toNat - 1 : Nat) : Int) + 1) = v by omega] at this
theorem Tree.up_bounds {ps : List Int} {n : Nat} (h : Tree ps n) {v : Int} (h1 : 0 ≤ v) (h2 : v ≤ n) : ∀ k, 0 ≤ up ps v k ∧ up ps v k ≤ n
  | 0 => ⟨h1, h2⟩
  | k + 1 => by
    obtain ⟨h3, h4⟩ := Tree.up_bounds h h1 h2 k
    by_cases e : up ps v k = 0
    · simp [up, e]
    · rw [up_succ e]; exact h.par (by omega) h4

/-- How many steps lead from a node to the root. -/
def depG (ps : List Int) (v : Int) : Nat → Nat → Nat
  | 0, k => k
  | f + 1, k => if up ps v k = 0 then k else depG ps v f (k + 1)
def dep (ps : List Int) (v : Int) : Nat := depG ps v ps.length 0
theorem depG_is {ps : List Int} {v : Int} {d : Nat} (h : up ps v d = 0) (h' : ∀ j, j < d → up ps v j ≠ 0) : ∀ f k, k ≤ d → d ≤ k + f → depG ps v f k = d
  | 0, k, h1, h2 => by simp only [depG]; omega
  | f + 1, k, h1, h2 => by
    by_cases e : k = d
    · subst e; simp [depG, h]
    · simp only [depG, if_neg (h' k (by omega))]
      exact depG_is h h' f (k + 1) (by omega) (by omega)
theorem dep_is {ps : List Int} {v : Int} {d : Nat} (h : up ps v d = 0) (h' : ∀ j, j < d → up ps v j ≠ 0) (hd : d ≤ ps.length) : dep ps v = d := depG_is h h' _ _ (by omega) (by omega)
theorem least_zero {ps : List Int} {v : Int} : ∀ m, up ps v m = 0 → ∃ d, d ≤ m ∧ up ps v d = 0 ∧ ∀ j, j < d → up ps v j ≠ 0
  | 0, h => ⟨0, by omega, h, by omega⟩
  | m + 1, h => by
    by_cases e : up ps v m = 0
    · obtain ⟨d, h1, h2⟩ := least_zero m e
      exact ⟨d, by omega, h2⟩
    · refine ⟨m + 1, by omega, h, fun j hj hz => ?_⟩
      exact e (up_zero hz m (by omega))
theorem Tree.dep {ps : List Int} {n : Nat} (h : Tree ps n) {v : Int} (h1 : 0 ≤ v) (h2 : v ≤ n) : up ps v (Go.Proofs.YtakadjhbomggbaaGreat.dep ps v) = 0 ∧ (∀ j, j < Go.Proofs.YtakadjhbomggbaaGreat.dep ps v → up ps v j ≠ 0) ∧ Go.Proofs.YtakadjhbomggbaaGreat.dep ps v ≤ n := by
  obtain ⟨d, hd, h3, h4⟩ := least_zero n (h.root h1 h2)
  rw [dep_is h3 h4 (by rw [h.len]; exact hd)]
  exact ⟨h3, h4, hd⟩
theorem Tree.dep_par {ps : List Int} {n : Nat} (h : Tree ps n) {v : Int} (h1 : 1 ≤ v) (h2 : v ≤ n) : Go.Proofs.YtakadjhbomggbaaGreat.dep ps v = Go.Proofs.YtakadjhbomggbaaGreat.dep ps (Go.Proofs.YtakadjhbomggbaaGreat.par ps v) + 1 := by
  obtain ⟨p1, p2⟩ := h.par h1 h2
  obtain ⟨d1, d2, d3⟩ := h.dep p1 p2
  have e1 : up ps v 1 = Go.Proofs.YtakadjhbomggbaaGreat.par ps v := by simp [up, show v ≠ 0 by omega]
  have hs : ∀ k, up ps v (k + 1) = up ps (Go.Proofs.YtakadjhbomggbaaGreat.par ps v) k := fun k => by rw [Nat.add_comm, up_add, e1]
  obtain ⟨f1, f2, f3⟩ := h.dep (v := v) (by omega) h2
  have hne : Go.Proofs.YtakadjhbomggbaaGreat.dep ps v ≠ 0 := fun e => by
    rw [e] at f1
    simp [up] at f1
    omega
  obtain ⟨k, hk⟩ : ∃ k, Go.Proofs.YtakadjhbomggbaaGreat.dep ps v = k + 1 := ⟨Go.Proofs.YtakadjhbomggbaaGreat.dep ps v - 1, by omega⟩
  rw [hk] at f1 f2 f3 ⊢
  rw [hs] at f1
  rcases Nat.lt_trichotomy k (Go.Proofs.YtakadjhbomggbaaGreat.dep ps (Go.Proofs.YtakadjhbomggbaaGreat.par ps v)) with hlt | he | hgt
  · exact absurd f1 (d2 k hlt)
  · omega
  · have := f2 (Go.Proofs.YtakadjhbomggbaaGreat.dep ps (Go.Proofs.YtakadjhbomggbaaGreat.par ps v) + 1) (by omega)
    rw [hs] at this
    exact absurd d1 this
/-- What is above a node, in order, the root last. -/
def abv (ps : List Int) (v : Int) : List Int := upTo ps v (dep ps v)

/-! ### Children, neighbours, degrees -/
def nodesTo (xs : List Int) (x : Int) (k : Nat) : List Int := ((List.range k).filter fun i => decide (nth xs i = x)).map fun (i : Nat) => (i : Int) + 1
def nodesW (xs : List Int) (x : Int) : List Int := nodesTo xs x xs.length
theorem nodesTo_zero (xs : List Int) (x : Int) : nodesTo xs x 0 = [] := rfl
theorem nodesTo_yes {xs : List Int} {x : Int} {k : Nat} (h : nth xs k = x) : nodesTo xs x (k + 1) = nodesTo xs x k ++ [(k : Int) + 1] := by simp [nodesTo, List.range_succ, h]
theorem nodesTo_no {xs : List Int} {x : Int} {k : Nat} (h : nth xs k ≠ x) : nodesTo xs x (k + 1) = nodesTo xs x k := by simp [nodesTo, List.range_succ, h]
theorem length_nodesTo (xs : List Int) (x : Int) (k : Nat) : (nodesTo xs x k).length ≤ k := by
  unfold nodesTo
  rw [List.length_map]
  exact Nat.le_trans (List.length_filter_le _ _) (by simp)
theorem mem_nodesTo {xs : List Int} {x v : Int} {k : Nat} : v ∈ nodesTo xs x k ↔ ∃ i, i < k ∧ nth xs i = x ∧ v = (i : Int) + 1 := by
  simp only [nodesTo, List.mem_map, List.mem_filter, List.mem_range, decide_eq_true_eq]
  constructor
  · rintro ⟨i, ⟨h1, h2⟩, rfl⟩; exact ⟨i, h1, h2, rfl⟩
  · rintro ⟨i, h1, h2, rfl⟩; exact ⟨i, ⟨h1, h2⟩, rfl⟩
theorem mem_nodesW {xs : List Int} {x v : Int} : v ∈ nodesW xs x ↔ 1 ≤ v ∧ v ≤ xs.length ∧ par xs v = x := by
  unfold nodesW
  rw [mem_nodesTo]
  constructor
  · rintro ⟨i, h1, h2, rfl⟩
    exact ⟨by omega, by omega, by unfold par; rw [show ((i : Int) + 1).toNat - 1 = i by omega]; exact h2⟩
  · rintro ⟨h1, h2, h3⟩
    exact ⟨v.toNat - 1, by omega, h3, by omega⟩
theorem nodup_nodesTo (xs : List Int) (x : Int) : ∀ k, (nodesTo xs x k).Nodup
  | 0 => by simp [nodesTo]
  | k + 1 => by
    by_cases h : nth xs k = x
    · rw [nodesTo_yes h, List.nodup_append]
      refine ⟨nodup_nodesTo xs x k, by simp, fun a ha b hb => ?_⟩
      obtain ⟨i, h1, _, rfl⟩ := mem_nodesTo.1 ha
      simp at hb
      omega
    · rw [nodesTo_no h]; exact nodup_nodesTo xs x k
theorem nodesTo_count {xs : List Int} (x : Int) : ∀ k, k ≤ xs.length → (nodesTo xs x k).length = (xs.take k).count x
  | 0, _ => by simp [nodesTo]
  | k + 1, h => by
    have ih := nodesTo_count (xs := xs) x k (by omega)
    rw [take_succ_nth (by omega), List.count_append]
    by_cases e : nth xs k = x
    · rw [nodesTo_yes e]; simp [ih, e]
    · rw [nodesTo_no e]; simp [ih, e]
theorem nodesW_count (xs : List Int) (x : Int) : (nodesW xs x).length = xs.count x := by
  unfold nodesW
  rw [nodesTo_count x _ (Nat.le_refl _), List.take_length]

/-- How many neighbours a node has. -/
def deg (ps : List Int) (v : Nat) : Nat := (if v = 0 then 0 else 1) + ps.count (v : Int)
def degL (ps : List Int) : List Int := (List.range (ps.length + 1)).map fun (v : Nat) => (deg ps v : Int)
theorem length_degL (ps : List Int) : (degL ps).length = ps.length + 1 := by simp [degL]
theorem nth_degL {ps : List Int} {v : Nat} (h : v ≤ ps.length) : nth (degL ps) v = (deg ps v : Int) := by
  simp [nth, degL, show v < ps.length + 1 by omega]
/-- The neighbours, the parent first. -/
def near (ps : List Int) (v : Int) : List Int := (if v = 0 then [] else [par ps v]) ++ nodesW ps v
theorem length_near (ps : List Int) (v : Nat) : (near ps v).length = deg ps v := by
  unfold near deg
  rw [List.length_append, nodesW_count]
  by_cases h : v = 0
  · subst h; simp
  · simp [h]
/-- Degrees as they are counted, behind k nodes. -/
def degTo (ps : List Int) (k : Nat) (v : Nat) : Nat := (if 1 ≤ v ∧ v ≤ k then 1 else 0) + (ps.take k).count (v : Int)
theorem degTo_all {ps : List Int} {v : Nat} (h : v ≤ ps.length) : degTo ps ps.length v = deg ps v := by
  unfold degTo deg
  rw [List.take_length]
  by_cases e : v = 0
  · subst e; simp
  · rw [if_pos (by omega), if_neg e]
theorem degTo_succ {ps : List Int} {k : Nat} (h : k < ps.length) (v : Nat) : degTo ps (k + 1) v = degTo ps k v + (if nth ps k = (v : Int) then 1 else 0) + (if v = k + 1 then 1 else 0) := by
  unfold degTo
  rw [take_succ_nth h, List.count_append]
  have : [nth ps k].count (v : Int) = if nth ps k = (v : Int) then 1 else 0 := by
    by_cases e : nth ps k = (v : Int) <;> simp [e]
  rw [this]
  generalize (if nth ps k = (v : Int) then 1 else 0) = q
  by_cases e : v = k + 1
  · subst e; rw [if_pos (by omega), if_neg (by omega), if_pos rfl]; omega
  · rw [if_neg e]
    by_cases e2 : 1 ≤ v ∧ v ≤ k
    · rw [if_pos (by omega), if_pos e2]; omega
    · rw [if_neg (by omega), if_neg e2]; omega
theorem degTo_le {ps : List Int} (k v : Nat) (h : ps.length ≤ 8) : degTo ps k v ≤ 9 := by
  unfold degTo
  have h1 : (ps.take k).count (v : Int) ≤ (ps.take k).length := List.count_le_length
  have h2 : (ps.take k).length ≤ ps.length := by simp; omega
  split <;> omega

/-- The leaves. -/
def leavesL (ps : List Int) : List Int := nodesW (List.drop 1 (degL ps)) 1
end Go.Proofs.YtakadjhbomggbaaGreat

namespace Go.Proofs.YtakadjhbomggbaaGreat
open Go.RowKit

/-- The breadth order, as far as the first k are looked at. -/
def bfs (ps : List Int) : Nat → List Int
  | 0 => [0]
  | k + 1 => bfs ps k ++ if k < (bfs ps k).length then nodesW ps (nth (bfs ps k) k) else []
def brOrder (ps : List Int) : List Int := bfs ps (ps.length + 1)
theorem nth_left {xs ys : List Int} {i : Nat} (h : i < xs.length) : nth (xs ++ ys) i = nth xs i := nth_append_left h
theorem bfs_step {ps : List Int} {k : Nat} (h : k < (bfs ps k).length) : bfs ps (k + 1) = bfs ps k ++ nodesW ps (nth (bfs ps k) k) := by simp [bfs, h]
theorem bfs_grows (ps : List Int) (k : Nat) : ∀ m, ∃ t, bfs ps (k + m) = bfs ps k ++ t
  | 0 => ⟨[], by simp⟩
  | m + 1 => by
    obtain ⟨t, ht⟩ := bfs_grows ps k m
    refine ⟨t ++ if k + m < (bfs ps (k + m)).length then nodesW ps (nth (bfs ps (k + m)) (k + m)) else [], ?_⟩
    rw [← Nat.add_assoc, ← List.append_assoc, ← ht]
    rfl
theorem bfs_pos (ps : List Int) (k : Nat) : 0 < (bfs ps k).length := by
  obtain ⟨t, ht⟩ := bfs_grows ps 0 k
  rw [Nat.zero_add] at ht
  rw [ht]; simp [bfs]
theorem bfs_first (ps : List Int) (k : Nat) : nth (bfs ps k) 0 = 0 := by
  obtain ⟨t, ht⟩ := bfs_grows ps 0 k
  rw [Nat.zero_add] at ht
  rw [ht]; simp [bfs, nth]
theorem bfs_nth {ps : List Int} {k m i : Nat} (hkm : k ≤ m) (hi : i < (bfs ps k).length) : nth (bfs ps m) i = nth (bfs ps k) i := by
  obtain ⟨t, ht⟩ := bfs_grows ps k (m - k)
  rw [show k + (m - k) = m by omega] at ht
  rw [ht, nth_left hi]
theorem bfs_len_mono {ps : List Int} {k m : Nat} (hkm : k ≤ m) : (bfs ps k).length ≤ (bfs ps m).length := by
  obtain ⟨t, ht⟩ := bfs_grows ps k (m - k)
  rw [show k + (m - k) = m by omega] at ht
  rw [ht]; simp
theorem bfs_mem {ps : List Int} {v : Int} : ∀ k, v ∈ bfs ps k → v = 0 ∨ (1 ≤ v ∧ v ≤ ps.length ∧ ∃ j, j < k ∧ j < (bfs ps k).length ∧ par ps v = nth (bfs ps k) j)
  | 0, h => by simp [bfs] at h; exact .inl h
  | k + 1, h => by
    have hl : (bfs ps k).length ≤ (bfs ps (k + 1)).length := bfs_len_mono (Nat.le_succ k)
    by_cases hk : k < (bfs ps k).length
    · rw [bfs_step hk, List.mem_append] at h
      rcases h with h | h
      · rcases bfs_mem k h with h | ⟨h1, h2, j, h3, h4, h5⟩
        · exact .inl h
        · exact .inr ⟨h1, h2, j, by omega, by omega, by rw [bfs_nth (Nat.le_succ k) h4]; exact h5⟩
      · obtain ⟨h1, h2, h3⟩ := mem_nodesW.1 h
        exact .inr ⟨h1, h2, k, by omega, by omega, by rw [bfs_nth (Nat.le_succ k) hk]; exact h3⟩
    · have e : bfs ps (k + 1) = bfs ps k := by simp [bfs, hk]
      rw [e] at h ⊢
      rcases bfs_mem k h with h | ⟨h1, h2, j, h3, h4, h5⟩
      · exact .inl h
      · exact .inr ⟨h1, h2, j, by omega, h4, h5⟩
theorem nth_inj {xs : List Int} (h : xs.Nodup) {i j : Nat} (hi : i < xs.length) (hj : j < xs.length) (e : nth xs i = nth xs j) : i = j := by
  simp [nth, hi, hj] at e
  exact (List.getElem_inj h).1 e
theorem bfs_nodup (ps : List Int) : ∀ k, (bfs ps k).Nodup
  | 0 => by simp [bfs]
  | k + 1 => by
    by_cases hk : k < (bfs ps k).length
    · rw [bfs_step hk, List.nodup_append]
      refine ⟨bfs_nodup ps k, nodup_nodesTo _ _ _, fun a ha b hb => ?_⟩
      rintro rfl
      obtain ⟨h1, h2, h3⟩ := mem_nodesW.1 hb
      rcases bfs_mem k ha with h | ⟨_, _, j, h4, h5, h6⟩
      · omega
      · have := nth_inj (bfs_nodup ps k) h5 hk (by rw [← h6, h3])
        omega
    · have e : bfs ps (k + 1) = bfs ps k := by simp [bfs, hk]
      rw [e]; exact bfs_nodup ps k
theorem bfs_bounds {ps : List Int} {v : Int} {k : Nat} (h : v ∈ bfs ps k) : 0 ≤ v ∧ v ≤ ps.length := by
  rcases bfs_mem k h with h | ⟨h1, h2, _⟩ <;> omega
theorem bfs_len (ps : List Int) (k : Nat) : (bfs ps k).length ≤ ps.length + 1 :=
  nodup_le _ _ (bfs_nodup ps k) fun x hx => by have := bfs_bounds hx; omega
theorem bfs_end {ps : List Int} {k : Nat} (h : (bfs ps k).length ≤ k) : ∀ m, bfs ps (k + m) = bfs ps k
  | 0 => rfl
  | m + 1 => by
    have ih := bfs_end h m
    rw [← Nat.add_assoc]
    have : ¬ k + m < (bfs ps (k + m)).length := by rw [ih]; omega
    rw [ih] at this
    simp only [bfs, ih, if_neg this, List.append_nil]
theorem bfs_done {ps : List Int} {k : Nat} (h : (bfs ps k).length ≤ k) : bfs ps k = brOrder ps := by
  unfold brOrder
  rcases Nat.le_total k (ps.length + 1) with hk | hk
  · have := bfs_end h (ps.length + 1 - k)
    rw [show k + (ps.length + 1 - k) = ps.length + 1 by omega] at this
    exact this.symm
  · have := bfs_end (k := ps.length + 1) (bfs_len ps _) (k - (ps.length + 1))
    rw [show ps.length + 1 + (k - (ps.length + 1)) = k by omega] at this
    exact this
theorem br_child {ps : List Int} {v : Int} (h1 : 1 ≤ v) (h2 : v ≤ ps.length) (h : par ps v ∈ brOrder ps) : v ∈ brOrder ps := by
  obtain ⟨j, hj, e⟩ := mem_nth h
  have hl := bfs_len ps (ps.length + 1)
  have hj' : j < (bfs ps (ps.length + 1)).length := hj
  by_cases hjj : j < (bfs ps j).length
  · have : v ∈ bfs ps (j + 1) := by
      rw [bfs_step hjj, List.mem_append]
      refine .inr (mem_nodesW.2 ⟨h1, h2, ?_⟩)
      rw [← e]
      exact bfs_nth (by omega) hjj
    obtain ⟨t, ht⟩ := bfs_grows ps (j + 1) (ps.length + 1 - (j + 1))
    rw [show j + 1 + (ps.length + 1 - (j + 1)) = ps.length + 1 by omega] at ht
    show v ∈ bfs ps (ps.length + 1)
    rw [ht]; simp [this]
  · have := bfs_done (ps := ps) (k := j) (by omega)
    have h3 : (brOrder ps).length = (bfs ps j).length := by rw [this]
    omega
theorem br_all {ps : List Int} {n : Nat} (h : Tree ps n) : ∀ (d : Nat) (v : Int), 0 ≤ v → v ≤ n → dep ps v = d → v ∈ brOrder ps
  | d, v, h1, h2, hd => by
    by_cases e : v = 0
    · subst e
      rw [← bfs_first ps (ps.length + 1)]
      exact nth_mem (bfs_pos _ _)
    · have hp := h.dep_par (v := v) (by omega) h2
      obtain ⟨p1, p2⟩ := h.par (v := v) (by omega) h2
      match d, hd with
      | 0, hd => omega
      | d + 1, hd => exact br_child (by omega) (by rw [h.len]; exact h2) (br_all h d _ p1 p2 (by omega))
theorem nodup_ge : ∀ (m : Nat) (xs : List Int), (∀ v : Nat, v < m → (v : Int) ∈ xs) → m ≤ xs.length
  | 0, _, _ => by omega
  | m + 1, xs, h => by
    have h1 := h m (by omega)
    have hl := List.length_erase_of_mem h1
    have hp := List.length_pos_of_mem h1
    have := nodup_ge m (xs.erase (m : Int)) (fun v hv => by
      have h2 := h v (by omega)
      have h3 : (v : Int) ≠ (m : Int) := by omega
      exact (List.mem_erase_of_ne h3).2 h2)
    omega
theorem br_length {ps : List Int} {n : Nat} (h : Tree ps n) : (brOrder ps).length = n + 1 := by
  have h1 := bfs_len ps (ps.length + 1)
  have h2 := nodup_ge (n + 1) (brOrder ps) (fun v hv => br_all h _ _ (by omega) (by omega) rfl)
  rw [h.len] at h1
  unfold brOrder at h2 ⊢
  rw [h.len] at h2 ⊢
  omega

/-- The index of a number in a list. -/
def plc : List Int → Int → Nat
  | [], _ => 0
  | y :: l, x => if y = x then 0 else plc l x + 1
theorem plc_is {x : Int} : ∀ {l : List Int} {k : Nat}, k < l.length → nth l k = x → (∀ j, j < k → nth l j ≠ x) → plc l x = k
  | [], _, h, _, _ => by simp at h
  | y :: l, 0, _, h, _ => by simp [nth] at h; simp [plc, h]
  | y :: l, k + 1, h1, h2, h3 => by
    have h4 := h3 0 (by omega)
    simp [nth] at h4
    simp only [plc, if_neg h4]
    rw [plc_is (l := l) (k := k) (by simpa using h1) (by simpa [nth] using h2) (fun j hj => by simpa [nth] using h3 (j + 1) (by omega))]
theorem plc_mem {x : Int} : ∀ {l : List Int}, x ∈ l → plc l x < l.length ∧ nth l (plc l x) = x ∧ ∀ j, j < plc l x → nth l j ≠ x
  | [], h => by simp at h
  | y :: l, h => by
    by_cases e : y = x
    · simp [plc, e, nth]
    · have hm : x ∈ l := by simpa [Ne.symm e] using h
      obtain ⟨h1, h2, h3⟩ := plc_mem hm
      simp only [plc, if_neg e]
      refine ⟨by simp; omega, by simpa [nth] using h2, fun j hj => ?_⟩
      cases j with
      | zero => simpa [nth] using e
      | succ j => simpa [nth] using h3 j (by omega)
/-- The parking function of a tree. -/
def potL (ps : List Int) : List Int := ps.map fun p => (plc (brOrder ps) p : Int)
theorem length_potL (ps : List Int) : (potL ps).length = ps.length := by simp [potL]
theorem nth_potL {ps : List Int} {i : Nat} (h : i < ps.length) : nth (potL ps) i = (plc (brOrder ps) (nth ps i) : Int) := by simp [nth, potL, h]
theorem potL_succ {ps : List Int} {k : Nat} (h : k < ps.length) : (potL ps).take (k + 1) = (potL ps).take k ++ [(plc (brOrder ps) (nth ps k) : Int)] := by
  rw [take_succ_nth (by rw [length_potL]; exact h), nth_potL h]

/-! ### The tree of a parking function -/
def tpo (xs : List Int) : Nat → List Int
  | 0 => [0]
  | k + 1 => tpo xs k ++ nodesW xs k
theorem below_step (xs : List Int) (k : Int) : below xs (k + 1) = below xs k + xs.count k := by
  induction xs with
  | nil => rfl
  | cons x xs ih =>
    unfold below at *
    rw [List.countP_cons, List.countP_cons, List.count_cons, ih]
    by_cases e : x = k
    · subst e
      rw [if_pos (by simp; omega), if_neg (by simp), if_pos (by simp)]; omega
    · by_cases e2 : x < k
      · rw [if_pos (by simp; omega), if_pos (by simp; omega), if_neg (by simp; omega)]; omega
      · rw [if_neg (by simp; omega), if_neg (by simp; omega), if_neg (by simp; omega)]; omega
theorem below_none {xs : List Int} (h : ∀ x ∈ xs, 0 ≤ x) : below xs 0 = 0 := by
  unfold below
  rw [List.countP_eq_zero]
  intro x hx
  have := h x hx
  simp; omega
theorem length_tpo {xs : List Int} (h : ∀ x ∈ xs, 0 ≤ x) : ∀ k : Nat, (tpo xs k).length = 1 + below xs k
  | 0 => by
    have := below_none h
    simp [tpo, this]
  | k + 1 => by
    have h1 := length_tpo h k
    have h2 := below_step xs k
    simp only [tpo, List.length_append, nodesW_count]
    rw [show ((k + 1 : Nat) : Int) = (k : Int) + 1 by omega, h2]
    omega
theorem park_below_ge {xs : List Int} (h : isPark xs = true) : ∀ k : Nat, k ≤ xs.length → k ≤ below xs k := fun k hk => by
  obtain ⟨h1, h2, h3⟩ := isPark_iff.1 h
  have hf := from_below xs k
  by_cases e : k < xs.length
  · have := (park_iff h2).1 h3 k (by omega)
    omega
  · obtain rfl : k = xs.length := by omega
    have : from' xs xs.length = 0 := by
      unfold from'
      rw [List.countP_eq_zero]
      intro x hx
      have := h2 x hx
      simp; omega
    omega
theorem tpo_grows (xs : List Int) (k : Nat) : ∀ m, ∃ t, tpo xs (k + m) = tpo xs k ++ t
  | 0 => ⟨[], by simp⟩
  | m + 1 => by
    obtain ⟨t, ht⟩ := tpo_grows xs k m
    exact ⟨t ++ nodesW xs (k + m : Nat), by rw [← Nat.add_assoc, ← List.append_assoc, ← ht]; rfl⟩
theorem tpo_nth {xs : List Int} {k m i : Nat} (hkm : k ≤ m) (hi : i < (tpo xs k).length) : nth (tpo xs m) i = nth (tpo xs k) i := by
  obtain ⟨t, ht⟩ := tpo_grows xs k (m - k)
  rw [show k + (m - k) = m by omega] at ht
  rw [ht, nth_left hi]
theorem length_tpo_park {xs : List Int} (h : isPark xs = true) {k : Nat} (hk : k ≤ xs.length) : k < (tpo xs k).length ∧ (tpo xs k).length ≤ xs.length + 1 := by
  have h1 := length_tpo (xs := xs) (fun x hx => ((isPark_iff.1 h).2.1 x hx).1) k
  have h2 := park_below_ge h k hk
  have h3 := below_le xs k
  omega
/-- The tree of a parking function. -/
def tpL (xs : List Int) : List Int := xs.map fun x => nth (tpo xs xs.length) x.toNat
theorem length_tpL (xs : List Int) : (tpL xs).length = xs.length := by simp [tpL]
theorem nth_tpL {xs : List Int} {i : Nat} (h : i < xs.length) : nth (tpL xs) i = nth (tpo xs xs.length) (nth xs i).toNat := by simp [nth, tpL, h]
/-- What the model has laid behind round k and the first i cars. -/
def TpAt (xs ys : List Int) (k i : Nat) : Prop := ∀ j, j < xs.length → nth ys j = if nth xs j < k ∨ (nth xs j = k ∧ j < i) then nth (tpL xs) j else 0
theorem tpAt_zero {xs : List Int} (h : ∀ x ∈ xs, 0 ≤ x) : TpAt xs (List.replicate xs.length 0) 0 0 := fun j hj => by
  have := h _ (nth_mem hj)
  rw [if_neg (by omega)]
  simp [nth, List.getElem?_replicate]
  split <;> rfl
theorem tpAt_no {xs ys : List Int} {k i : Nat} (h : TpAt xs ys k i) (hx : nth xs i ≠ k) : TpAt xs ys k (i + 1) := fun j hj => by
  rw [h j hj]
  by_cases e : j = i
  · subst e
    by_cases e2 : nth xs j < k
    · rw [if_pos (.inl e2), if_pos (.inl e2)]
    · rw [if_neg (by omega), if_neg (by omega)]
  · by_cases e2 : nth xs j < k ∨ (nth xs j = k ∧ j < i)
    · rw [if_pos e2, if_pos (by omega)]
    · rw [if_neg e2, if_neg (by omega)]
theorem tpAt_yes {xs ys : List Int} {k i : Nat} (hp : isPark xs = true) (h : TpAt xs ys k i) (hi : i < xs.length) (hl : ys.length = xs.length) (hx : nth xs i = k) {t : List Int} : TpAt xs (ys.set i (nth (tpo xs k ++ t) k)) k (i + 1) := fun j hj => by
  have hb := (isPark_iff.1 hp).2.1 _ (nth_mem hi)
  rw [nth_set (by omega)]
  by_cases e : i = j
  · subst e
    rw [if_pos rfl, if_pos (by omega), nth_tpL hi, hx, Int.toNat_natCast]
    have h1 := (length_tpo_park hp (k := k) (by omega)).1
    rw [nth_left h1]
    exact (tpo_nth (by omega) h1).symm
  · rw [if_neg e, h j hj]
    by_cases e2 : nth xs j < k ∨ (nth xs j = k ∧ j < i)
    · rw [if_pos e2, if_pos (by omega)]
    · rw [if_neg e2, if_neg (by omega)]
theorem tpAt_next {xs ys : List Int} {k : Nat} (h : TpAt xs ys k xs.length) : TpAt xs ys (k + 1) 0 := fun j hj => by
  rw [h j hj]
  by_cases e2 : nth xs j < k ∨ (nth xs j = k ∧ j < xs.length)
  · rw [if_pos e2, if_pos (by omega)]
  · rw [if_neg e2, if_neg (by omega)]
theorem tpAt_all {xs ys : List Int} {k : Nat} (hp : isPark xs = true) (hl : ys.length = xs.length) (hk : xs.length ≤ k) (h : TpAt xs ys k 0) : ys = tpL xs :=
  ext_nth (by rw [hl, length_tpL]) fun j hj => by
    have hb := (isPark_iff.1 hp).2.1 _ (nth_mem (xs := xs) (i := j) (by omega))
    rw [h j (by omega), if_pos (by omega)]
end Go.Proofs.YtakadjhbomggbaaGreat

namespace Go.Proofs.YtakadjhbomggbaaGreat
open Go.RowKit

theorem tree_fin {ps : List Int} {n : Nat} (hn : ps.length = n) (h8 : n ≤ 8) (hb : allB ps 0 n = true) (h : ∀ i, i < n → up ps ((i : Int) + 1) n = 0) : treeB ps = true := by
  subst hn
  rw [treeB_iff]
  exact ⟨h8, allB_iff.1 hb, h⟩
theorem tree_bad {ps : List Int} {n : Nat} (hn : ps.length = n) (h : ¬ n ≤ 8 ∨ allB ps 0 n = false) : treeB ps = false := by
  subst hn
  unfold treeB
  rcases h with h | h
  · simp [h]
  · simp [h]
theorem up_bound {ps : List Int} {n : Nat} (hn : ps.length = n) (hb : allB ps 0 n = true) {i : Nat} (hi : i < n) : ∀ s, 0 ≤ up ps ((i : Int) + 1) s ∧ up ps ((i : Int) + 1) s ≤ n
  | 0 => by simp only [up]; omega
  | s + 1 => by
    obtain ⟨h1, h2⟩ := up_bound hn hb hi s
    by_cases e : up ps ((i : Int) + 1) s = 0
    · simp only [up, e, if_true]; omega
    · rw [up_succ e]
      exact allB_nth hb (by omega)

end Go.Proofs.YtakadjhbomggbaaGreat

namespace Go.Proofs.YtakadjhbomggbaaGreat
open Go.RowKit

/-- The greatest number of 1..m that passes, 0 if there is none. -/
def grt (f : Int → Bool) : Nat → Int
  | 0 => 0
  | m + 1 => if f ((m : Int) + 1) then (m : Int) + 1 else grt f m
theorem grt_is {f : Int → Bool} {x : Nat} (h1 : 1 ≤ x) (hf : f x = true) : ∀ m, x ≤ m → (∀ v : Nat, x < v → v ≤ m → f v = false) → grt f m = x
  | 0, h, _ => by omega
  | m + 1, h, hn => by
    by_cases e : x = m + 1
    · subst e
      have hf' : f ((m : Int) + 1) = true := by exact_mod_cast hf
      simp [grt, hf']
    · have := hn (m + 1) (by omega) (by omega)
      have h' : f ((m : Int) + 1) = false := by exact_mod_cast this
      simp only [grt, h']
      exact grt_is h1 hf m (by omega) (fun v h2 h3 => hn v h2 (by omega))
theorem grt_ex {f : Int → Bool} : ∀ m : Nat, (∃ v : Nat, 1 ≤ v ∧ v ≤ m ∧ f v = true) → ∃ x : Nat, 1 ≤ x ∧ x ≤ m ∧ f x = true ∧ grt f m = x ∧ ∀ v : Nat, x < v → v ≤ m → f v = false
  | 0, ⟨v, h1, h2, _⟩ => by omega
  | m + 1, ⟨v, h1, h2, h3⟩ => by
    by_cases e : f ((m : Int) + 1) = true
    · exact ⟨m + 1, by omega, by omega, by exact_mod_cast e, by simp [grt, e], by intro v h4 h5; omega⟩
    · have hv : v ≠ m + 1 := fun hh => e (by subst hh; exact_mod_cast h3)
      obtain ⟨x, q1, q2, q3, q4, q5⟩ := grt_ex m ⟨v, h1, by omega, h3⟩
      refine ⟨x, q1, by omega, q3, by simp [grt, e, q4], fun v h4 h5 => ?_⟩
      by_cases e2 : v = m + 1
      · subst e2; simpa using e
      · exact q5 v h4 (by omega)

/-- How many children of a node are left. -/
def kids (ps g : List Int) (v : Int) : Nat := (nodesW ps v).countP fun u => !hasB g u
theorem kids_zero {ps g : List Int} {v : Int} : kids ps g v = 0 ↔ ∀ u : Int, 1 ≤ u → u ≤ ps.length → par ps u = v → u ∈ g := by
  unfold kids
  rw [List.countP_eq_zero]
  constructor
  · intro h u h1 h2 h3
    have := h u (mem_nodesW.2 ⟨h1, h2, h3⟩)
    simpa [hasB] using this
  · intro h u hu
    obtain ⟨h1, h2, h3⟩ := mem_nodesW.1 hu
    simpa [hasB] using h u h1 h2 h3
theorem countP_snoc {u : Int} {g : List Int} (hu : u ∉ g) : ∀ {l : List Int}, l.Nodup → l.countP (fun x => !hasB g x) = l.countP (fun x => !hasB (g ++ [u]) x) + if u ∈ l then 1 else 0
  | [], _ => rfl
  | y :: l, h => by
    have ih := countP_snoc hu (List.nodup_cons.1 h).2
    have hy := (List.nodup_cons.1 h).1
    rw [List.countP_cons, List.countP_cons, ih]
    by_cases e : y = u
    · subst e
      simp [hasB, hu, hy]
    · have e' : ¬ u = y := fun h => e h.symm
      have e1 : hasB (g ++ [u]) y = hasB g y := by simp [hasB, e]
      have e2 : (u ∈ y :: l) ↔ u ∈ l := by simp [e']
      rw [e1]
      simp only [e2]
      omega
theorem kids_snoc {ps g : List Int} {u : Int} (hu : u ∉ g) (h1 : 1 ≤ u) (h2 : u ≤ ps.length) (v : Int) : kids ps g v = kids ps (g ++ [u]) v + if par ps u = v then 1 else 0 := by
  unfold kids
  rw [countP_snoc hu (l := nodesW ps v) (nodup_nodesTo _ _ _)]
  congr 1
  by_cases e : par ps u = v
  · rw [if_pos (mem_nodesW.2 ⟨h1, h2, e⟩), if_pos e]
  · rw [if_neg (fun h => e (mem_nodesW.1 h).2.2), if_neg e]
theorem kids_le (ps g : List Int) (v : Int) : kids ps g v ≤ ps.length := Nat.le_trans List.countP_le_length (length_nodesTo _ _ _)
theorem kids_nil (ps : List Int) (v : Int) : kids ps [] v = ps.count v := by
  unfold kids
  rw [← nodesW_count, List.countP_eq_length]
  simp [hasB]

/-- A leaf among those that are left. -/
def lf (ps g : List Int) (v : Int) : Bool := !hasB g v && decide (kids ps g v = 0)
theorem lf_iff {ps g : List Int} {v : Int} : lf ps g v = true ↔ v ∉ g ∧ kids ps g v = 0 := by simp [lf, hasB]
/-- Those that are taken away, in order. -/
def pruG (ps : List Int) : Nat → List Int
  | 0 => []
  | k + 1 => pruG ps k ++ [grt (lf ps (pruG ps k)) ps.length]
/-- Nodes are taken away below first. -/
structure Gone (ps : List Int) (g : List Int) (k : Nat) : Prop where
  len : g.length = k
  mem : ∀ v ∈ g, (1 : Int) ≤ v ∧ v ≤ ps.length
  nodup : g.Nodup
  down : ∀ u : Int, 1 ≤ u → u ≤ ps.length → par ps u ∈ g → u ∈ g
theorem gone_nil (ps : List Int) : Gone ps [] 0 := ⟨rfl, by simp, by simp, by simp⟩
theorem left_ex {n : Nat} {g : List Int} (h : g.length < n) : ∃ v : Nat, 1 ≤ v ∧ v ≤ n ∧ (v : Int) ∉ g := by
  apply Classical.byContradiction
  intro hh
  have h2 := nodup_ge n (g.map fun x => x - 1) (fun v hv => by
    have h1 : ((v + 1 : Nat) : Int) ∈ g := Classical.byContradiction fun h3 => hh ⟨v + 1, by omega, by omega, h3⟩
    exact List.mem_map.2 ⟨_, h1, by omega⟩)
  simp at h2
  omega
theorem leaf_ex {ps g : List Int} {n : Nat} (ht : Tree ps n) : ∀ (d : Nat) (v : Nat), 1 ≤ v → v ≤ n → (v : Int) ∉ g → n - dep ps v = d → ∃ x : Nat, 1 ≤ x ∧ x ≤ n ∧ lf ps g x = true
  | d, v, h1, h2, h3, hd => by
    by_cases hk : kids ps g v = 0
    · exact ⟨v, h1, h2, lf_iff.2 ⟨h3, hk⟩⟩
    · rw [kids_zero] at hk
      obtain ⟨u, hu⟩ := Classical.not_forall.1 hk
      have hu1 : 1 ≤ u := Classical.byContradiction fun h => hu fun a => absurd a h
      have hu2 : u ≤ ps.length := Classical.byContradiction fun h => hu fun _ a => absurd a h
      have hu3 : par ps u = v := Classical.byContradiction fun h => hu fun _ _ a => absurd a h
      have hu4 : u ∉ g := fun h => hu fun _ _ _ => h
      rw [ht.len] at hu2
      have h4 := ht.dep_par hu1 hu2
      have h5 := (ht.dep (v := u) (by omega) hu2).2.2
      rw [hu3] at h4
      match d, hd with
      | 0, hd => omega
      | d + 1, hd => exact leaf_ex ht d u.toNat (by omega) (by omega) (by rw [Int.toNat_of_nonneg (by omega)]; exact hu4) (by rw [Int.toNat_of_nonneg (by omega)]; omega)
theorem gone_step {ps g : List Int} {n k : Nat} (ht : Tree ps n) (hg : Gone ps g k) (hk : k < n) :
    ∃ x : Nat, 1 ≤ x ∧ x ≤ n ∧ lf ps g x = true ∧ grt (lf ps g) n = x ∧ (∀ v : Nat, x < v → v ≤ n → lf ps g v = false) ∧ Gone ps (g ++ [(x : Int)]) (k + 1) := by
  obtain ⟨v, h1, h2, h3⟩ := left_ex (n := n) (g := g) (by rw [hg.len]; exact hk)
  obtain ⟨x, q1, q2, q3, q4, q5⟩ := grt_ex n (leaf_ex ht _ v h1 h2 h3 rfl)
  obtain ⟨q6, q7⟩ := lf_iff.1 q3
  refine ⟨x, q1, q2, q3, q4, q5, ⟨by simp [hg.len], fun v hv => ?_, ?_, fun u u1 u2 u3 => ?_⟩⟩
  · rcases List.mem_append.1 hv with hv | hv
    · exact hg.mem v hv
    · simp at hv; subst hv; rw [ht.len]; omega
  · rw [List.nodup_append]
    exact ⟨hg.nodup, by simp, fun a ha b hb => by simp at hb; subst hb; rintro rfl; exact q6 ha⟩
  · rcases List.mem_append.1 u3 with u3 | u3
    · simp [hg.down u u1 u2 u3]
    · simp at u3
      have := kids_zero.1 q7 u u1 u2 u3
      simp [this]
theorem pruG_gone {ps : List Int} {n : Nat} (ht : Tree ps n) : ∀ k, k ≤ n → Gone ps (pruG ps k) k
  | 0, _ => gone_nil ps
  | k + 1, h => by
    obtain ⟨x, _, _, _, q, _, r⟩ := gone_step ht (pruG_gone ht k (by omega)) (by omega)
    simp only [pruG]
    rw [ht.len, q]
    exact r
/-- The word of a tree, as far as it is made. -/
def pruW (ps : List Int) (k : Nat) : List Int := (pruG ps k).map (par ps)
def pruOf (ps : List Int) : List Int := pruW ps (ps.length - 1)
theorem pruW_succ (ps : List Int) (k : Nat) : pruW ps (k + 1) = pruW ps k ++ [par ps (grt (lf ps (pruG ps k)) ps.length)] := by simp [pruW, pruG]
theorem length_pruG (ps : List Int) : ∀ k, (pruG ps k).length = k
  | 0 => rfl
  | k + 1 => by simp [pruG, length_pruG ps k]
theorem length_pruW (ps : List Int) (k : Nat) : (pruW ps k).length = k := by simp [pruW, length_pruG]
/-- The neighbours that are left. -/
def leftL (xs g : List Int) : List Int := xs.filter fun u => !hasB g u
theorem left_near {ps g : List Int} {n k v : Nat} (ht : Tree ps n) (hg : Gone ps g k) (h1 : 1 ≤ v) (h2 : v ≤ n) (h3 : (v : Int) ∉ g) :
    leftL (near ps v) g = par ps v :: leftL (nodesW ps v) g ∧ (leftL (near ps v) g).length = 1 + kids ps g v := by
  have h4 : par ps (v : Int) ∉ g := fun h => h3 (hg.down _ (by omega) (by rw [ht.len]; omega) h)
  have e : leftL (near ps v) g = par ps v :: leftL (nodesW ps v) g := by
    unfold near
    rw [if_neg (by omega)]
    simp [leftL, hasB, h4]
  refine ⟨e, ?_⟩
  rw [e]
  unfold kids leftL
  rw [List.length_cons, ← List.countP_eq_length_filter]
  omega

/-- The degrees of those that are left. -/
def degAt (ps g : List Int) (v : Nat) : Nat := if hasB g v = true then 0 else (if v = 0 then 0 else 1) + kids ps g v
theorem degAt_nil (ps : List Int) (v : Nat) : degAt ps [] v = deg ps v := by simp [degAt, deg, hasB, kids_nil]
theorem degAt_leaf {ps g : List Int} {v : Nat} (h : 1 ≤ v) : degAt ps g v = 1 ↔ lf ps g v = true := by
  rw [lf_iff]
  unfold degAt
  by_cases e : (v : Int) ∈ g
  · simp [hasB, e]
  · have : ¬ v = 0 := by omega
    simp [hasB, e, this]
theorem degAt_step {ps g : List Int} {n k x p v : Nat} (ht : Tree ps n) (hg : Gone ps g k) (h1 : 1 ≤ x) (h2 : x ≤ n) (h3 : lf ps g x = true) (hp : par ps x = (p : Int)) :
    degAt ps (g ++ [(x : Int)]) v = if v = p then degAt ps g p - 1 else if v = x then 0 else degAt ps g v := by
  obtain ⟨q1, q2⟩ := lf_iff.1 h3
  have hs := kids_snoc (ps := ps) q1 (by omega) (by rw [ht.len]; omega) (v : Int)
  rw [hp] at hs
  have hpg : (p : Int) ∉ g := fun h => q1 (hg.down _ (by omega) (by rw [ht.len]; omega) (by rw [hp]; exact h))
  have hpx : p ≠ x := fun e => by
    subst e
    have := kids_zero.1 q2 p (by omega) (by rw [ht.len]; omega) hp
    exact q1 this
  by_cases e : v = p
  · subst e
    rw [if_pos rfl] at hs ⊢
    have e2 : ¬ (v : Int) = (x : Int) := by omega
    simp only [degAt, hasB, List.mem_append, List.mem_singleton, hpg, e2, or_false, decide_false, Bool.false_eq_true, if_false]
    omega
  · rw [if_neg e]
    rw [if_neg (by omega)] at hs
    by_cases e2 : v = x
    · subst e2; simp [degAt, hasB]
    · rw [if_neg e2]
      have e3 : ¬ (v : Int) = (x : Int) := by omega
      simp only [degAt, hasB, List.mem_append, List.mem_singleton, e3, or_false]
      rw [hs]; simp
theorem degAt_pos {ps g : List Int} {n k x p : Nat} (ht : Tree ps n) (hg : Gone ps g k) (h1 : 1 ≤ x) (h2 : x ≤ n) (h3 : lf ps g x = true) (hp : par ps x = (p : Int)) : 1 ≤ degAt ps g p ∧ p ≠ x ∧ p ≤ n := by
  obtain ⟨q1, q2⟩ := lf_iff.1 h3
  have hs := kids_snoc (ps := ps) q1 (by omega) (by rw [ht.len]; omega) (p : Int)
  rw [hp, if_pos rfl] at hs
  have hpg : (p : Int) ∉ g := fun h => q1 (hg.down _ (by omega) (by rw [ht.len]; omega) (by rw [hp]; exact h))
  have hpx : p ≠ x := fun e => by
    subst e
    exact q1 (kids_zero.1 q2 p (by omega) (by rw [ht.len]; omega) hp)
  have hb := ht.par (v := x) (by omega) (by omega)
  refine ⟨?_, hpx, by rw [hp] at hb; omega⟩
  simp only [degAt, hasB, hpg, decide_false, Bool.false_eq_true, if_false]
  omega
theorem degAt_le {ps g : List Int} {v : Nat} (h : ps.length ≤ 8) : degAt ps g v ≤ 9 := by
  have := kids_le ps g v
  unfold degAt
  split
  · omega
  · split <;> omega
end Go.Proofs.YtakadjhbomggbaaGreat

namespace Go.Proofs.YtakadjhbomggbaaGreat
open Go.RowKit

/-- A number put into a list, unless it is there. -/
def putL : List Int → Int → List Int
  | [], x => [x]
  | y :: l, x => if y < x then y :: putL l x else if y = x then y :: l else x :: y :: l
theorem putL_at {x : Int} : ∀ (j : Nat) (l : List Int), j ≤ l.length → (∀ t, t < j → nth l t < x) → (j = l.length ∨ x ≤ nth l j) → putL l x = if j < l.length ∧ nth l j = x then l else l.take j ++ [x] ++ l.drop j
  | 0, [], _, _, _ => by simp [putL]
  | 0, y :: l, _, _, h => by
    rcases h with h | h
    · simp at h
    · simp only [nth, List.getD_cons_zero] at h ⊢
      have h1 : ¬ y < x := by omega
      by_cases e : y = x
      · simp [putL, e]
      · simp [putL, h1, e]
  | j + 1, [], h, _, _ => by simp at h
  | j + 1, y :: l, h1, h2, h3 => by
    have h0 := h2 0 (by omega)
    simp only [nth, List.getD_cons_zero] at h0
    have ih := putL_at (x := x) j l (by simpa using h1) (fun t ht => by simpa [nth] using h2 (t + 1) (by omega)) (by simpa [nth] using h3)
    simp only [putL, if_pos h0, ih]
    have e1 : (j + 1 < (y :: l).length ∧ nth (y :: l) (j + 1) = x) ↔ (j < l.length ∧ nth l j = x) := by simp [nth]
    by_cases e : j < l.length ∧ nth l j = x
    · rw [if_pos e, if_pos (e1.2 e)]
    · rw [if_neg e, if_neg (fun hh => e (e1.1 hh))]
      simp
theorem putL_perm {x : Int} : ∀ {l : List Int}, x ∉ l → (putL l x).Perm (x :: l)
  | [], _ => by simp [putL]
  | y :: l, h => by
    simp only [List.mem_cons, not_or] at h
    have hyx : ¬ y = x := fun e => h.1 e.symm
    by_cases e : y < x
    · simp only [putL, if_pos e]
      exact ((putL_perm h.2).cons y).trans (List.Perm.swap x y l)
    · simp only [putL, if_neg e, if_neg hyx]
      exact List.Perm.refl _
theorem length_putL (l : List Int) (x : Int) : (putL l x).length ≤ l.length + 1 := by
  induction l with
  | nil => simp [putL]
  | cons y l ih =>
    simp only [putL]
    split
    · simpa using ih
    · split <;> simp
end Go.Proofs.YtakadjhbomggbaaGreat

namespace Go.Proofs.YtakadjhbomggbaaGreat
open Go.RowKit

/-- The neighbours, behind the first k nodes. -/
def nearTo (ps : List Int) (v : Int) : Nat → List Int
  | 0 => if v = 0 then [] else [par ps v]
  | k + 1 => if nth ps k = v then putL (nearTo ps v k) ((k : Int) + 1) else nearTo ps v k
def nearP (ps : List Int) (v : Int) : List Int := nearTo ps v ps.length
theorem length_nearTo (ps : List Int) (v : Int) : ∀ k, (nearTo ps v k).length ≤ k + 1
  | 0 => by simp only [nearTo]; split <;> simp
  | k + 1 => by
    have ih := length_nearTo ps v k
    simp only [nearTo]
    split
    · have := length_putL (nearTo ps v k) ((k : Int) + 1); omega
    · omega
theorem nearTo_perm {ps : List Int} {n : Nat} (ht : Tree ps n) {v : Int} (h1 : 0 ≤ v) (h2 : v ≤ n) : ∀ k, k ≤ n → (nearTo ps v k).Perm ((if v = 0 then [] else [par ps v]) ++ nodesTo ps v k)
  | 0, _ => by simp [nearTo, nodesTo_zero]
  | k + 1, hk => by
    have ih := nearTo_perm ht h1 h2 k (by omega)
    by_cases e : nth ps k = v
    · rw [nodesTo_yes e]
      simp only [nearTo, if_pos e]
      have hp : par ps ((k : Int) + 1) = v := by unfold par; rw [show ((k : Int) + 1).toNat - 1 = k by omega]; exact e
      have hd := ht.dep_par (v := (k : Int) + 1) (by omega) (by omega)
      rw [hp] at hd
      have hn : ((k : Int) + 1) ∉ nearTo ps v k := fun hm => by
        rw [ih.mem_iff, List.mem_append] at hm
        rcases hm with hm | hm
        · by_cases e0 : v = 0
          · simp [e0] at hm
          · simp [e0] at hm
            have hd2 := ht.dep_par (v := v) (by omega) h2
            rw [← hm] at hd2
            omega
        · obtain ⟨i, h3, _, h4⟩ := mem_nodesTo.1 hm
          omega
      refine (putL_perm hn).trans ((ih.cons _).trans ?_)
      rw [← List.append_assoc]
      exact (List.perm_append_singleton _ _).symm
    · rw [nodesTo_no e]
      simp only [nearTo, if_neg e]
      exact ih
theorem nearP_perm {ps : List Int} {n : Nat} (ht : Tree ps n) {v : Int} (h1 : 0 ≤ v) (h2 : v ≤ n) : (nearP ps v).Perm (near ps v) := by
  unfold nearP near nodesW
  rw [ht.len]
  exact nearTo_perm ht h1 h2 n (Nat.le_refl _)
theorem length_nearP {ps : List Int} {n v : Nat} (ht : Tree ps n) (h2 : v ≤ n) : (nearP ps v).length = deg ps v := by
  rw [(nearP_perm ht (by omega) (by omega)).length_eq, length_near]
theorem leftP {ps g : List Int} {n k v : Nat} (ht : Tree ps n) (hg : Gone ps g k) (h1 : 1 ≤ v) (h2 : v ≤ n) :
    (hasB g v = false ∧ (leftL (nearP ps v) g).length = 1) ↔ lf ps g v = true := by
  rw [lf_iff, hasB_not]
  have hp : (leftL (nearP ps v) g).Perm (leftL (near ps v) g) := (nearP_perm ht (by omega) (by omega)).filter _
  constructor
  · rintro ⟨h3, h4⟩
    have := (left_near ht hg h1 h2 h3).2
    rw [← hp.length_eq] at this
    exact ⟨h3, by omega⟩
  · rintro ⟨h3, h4⟩
    have := (left_near ht hg h1 h2 h3).2
    rw [← hp.length_eq] at this
    exact ⟨h3, by omega⟩
theorem leftP_one {ps g : List Int} {n k v : Nat} (ht : Tree ps n) (hg : Gone ps g k) (h1 : 1 ≤ v) (h2 : v ≤ n) (h : lf ps g v = true) : leftL (nearP ps v) g = [par ps v] := by
  have h3 := (lf_iff.1 h).1
  have hl := ((leftP ht hg h1 h2).2 h).2
  have hp : (leftL (nearP ps v) g).Perm (leftL (near ps v) g) := (nearP_perm ht (by omega) (by omega)).filter _
  have hm : par ps v ∈ leftL (nearP ps v) g := by
    rw [hp.mem_iff, (left_near ht hg h1 h2 h3).1]; simp
  match he : leftL (nearP ps v) g, hl, hm with
  | [y], _, hm => simp at hm; rw [hm]
theorem length_leftL (xs g : List Int) : (leftL xs g).length ≤ xs.length := List.length_filter_le _ _
theorem leftL_succ {xs g : List Int} {k : Nat} (h : k < xs.length) : leftL (xs.take (k + 1)) g = leftL (xs.take k) g ++ if hasB g (nth xs k) = true then [] else [nth xs k] := by
  unfold leftL
  rw [take_succ_nth h, List.filter_append]
  congr 1
  by_cases e : hasB g (nth xs k) = true <;> simp [e]
end Go.Proofs.YtakadjhbomggbaaGreat

namespace Go.Proofs.YtakadjhbomggbaaGreat
open Go.RowKit

theorem own_lit1 (w : World) (B : Nat) (x : Int) (hB : B ≤ w.heap.size) : Own (w.alloc (.cells #[.int .i64 x] 3)) B (some ⟨w.heap.size, 0, none⟩) 1 1 [x] :=
  ⟨World.ownsRow_lit w #[.int .i64 x] 1 hB (by unfold maxLen; omega) (by simp), by simp⟩

end Go.Proofs.YtakadjhbomggbaaGreat

namespace Go.Proofs.YtakadjhbomggbaaGreat
open Go.RowKit

end Go.Proofs.YtakadjhbomggbaaGreat

namespace Go.Proofs.YtakadjhbomggbaaGreat
open Go.RowKit

def brOf (xs : List Int) : List Int × Bool := if treeB xs then (brOrder xs, true) else ([], false)
def tpOf (xs : List Int) : List Int × Bool := if isPark xs then (tpL xs, true) else ([], false)
def potOf (xs : List Int) : List Int × Bool := if treeB xs then (potL xs, true) else ([], false)
def degOf (xs : List Int) : List Int × Bool := if treeB xs then (degL xs, true) else ([], false)
def leavesOf (xs : List Int) : List Int × Bool := if treeB xs then (leavesL xs, true) else ([], false)

/-- What lies in a block below K is left in peace. -/
theorem own_kept {w w' : World} {B K g n cap : Nat} {xs : List Int} (h : Own w B (some ⟨g, 0, none⟩) n cap xs) (hb : Below K w w') (hg : g < K) : Own w' B (some ⟨g, 0, none⟩) n cap xs := by
  obtain ⟨⟨h1, h2⟩, h3⟩ := h
  refine ⟨⟨h1, ?_⟩, h3⟩
  rcases h2 with h2 | ⟨g', cap', cur, hv, hg', hh, r⟩
  · exact .inl h2
  · have hv' := hv
    simp at hv'
    obtain ⟨rfl, _⟩ := hv'
    exact .inr ⟨g, cap', cur, hv, hg', by rw [hb.block g hg]; exact hh, r⟩

end Go.Proofs.YtakadjhbomggbaaGreat

namespace Go.Proofs.YtakadjhbomggbaaGreat
open Go.RowKit

theorem degL_succ {xs : List Int} {v : Nat} (h : v ≤ xs.length) : (degL xs).take (v + 1) = (degL xs).take v ++ [(deg xs v : Int)] := by
  rw [take_succ_nth (by rw [length_degL]; omega), nth_degL h]
theorem deg_le {xs : List Int} (v : Nat) (h : xs.length ≤ 8) : deg xs v ≤ 9 := by
  unfold deg
  have : xs.count (v : Int) ≤ xs.length := List.count_le_length
  split <;> omega

theorem leaves_nth {xs : List Int} {k : Nat} (h : k < xs.length) : nth (List.drop 1 (degL xs)) k = (deg xs (k + 1) : Int) := by
  rw [nth_dropP, Nat.add_comm, nth_degL (by omega)]

end Go.Proofs.YtakadjhbomggbaaGreat

namespace Go.Proofs.YtakadjhbomggbaaGreat
open Go.RowKit

/-- How often a node is above one of the first k nodes. -/
def belC (xs : List Int) : Nat → Nat → Nat
  | 0, _ => 0
  | k + 1, v => belC xs k v + (abv xs ((k : Int) + 1)).count (v : Int)
def belL (xs : List Int) : List Int := (List.range (xs.length + 1)).map fun (v : Nat) => (belC xs xs.length v : Int)
def belOf (xs : List Int) : List Int × Bool := if treeB xs then (belL xs, true) else ([], false)
theorem length_belL (xs : List Int) : (belL xs).length = xs.length + 1 := by simp [belL]
theorem nth_belL {xs : List Int} {v : Nat} (h : v ≤ xs.length) : nth (belL xs) v = (belC xs xs.length v : Int) := by simp [nth, belL, show v < xs.length + 1 by omega]
/-- The numbers, behind the first k nodes and q of what is above the next one. -/
structure BelAt (xs ys : List Int) (m k q : Nat) : Prop where
  len : xs.length < m ∧ ys.length = m
  val : ∀ v : Nat, v < m → nth ys v = ((belC xs k v + (upTo xs ((k : Int) + 1) q).count (v : Int) : Nat) : Int)
  small : ∀ v : Nat, v < m → nth ys v ≤ ((8 * k + q : Nat) : Int)
theorem belAt_zero {xs : List Int} {m : Nat} (h : xs.length < m) : BelAt xs (List.replicate m 0) m 0 0 :=
  ⟨⟨h, by simp⟩, fun v _ => by rw [nth_replicate0']; simp [belC, upTo], fun v _ => by rw [nth_replicate0']; omega⟩
theorem belAt_pos {xs ys : List Int} {m k q : Nat} (h : BelAt xs ys m k q) {v : Nat} (hv : v < m) : 0 ≤ nth ys v := by
  rw [h.val v hv]; omega
theorem belAt_step {xs ys : List Int} {m k q u : Nat} (h : BelAt xs ys m k q) (hu : u < m) (hx : up xs ((k : Int) + 1) (q + 1) = (u : Int)) : BelAt xs (ys.set u (nth ys u + 1)) m k (q + 1) := by
  have hc : ∀ v : Nat, (upTo xs ((k : Int) + 1) (q + 1)).count (v : Int) = (upTo xs ((k : Int) + 1) q).count (v : Int) + if u = v then 1 else 0 := fun v => by
    rw [upTo_succ, List.count_append, hx]
    congr 1
    by_cases e : u = v
    · subst e; simp
    · have : ¬ (u : Int) = (v : Int) := by omega
      simp [e, this]
  refine ⟨⟨h.len.1, by simp [h.len.2]⟩, fun v hv => ?_, fun v hv => ?_⟩
  · rw [nth_set (by rw [h.len.2]; exact hu), hc v]
    by_cases e : u = v
    · subst e; rw [if_pos rfl, if_pos rfl, h.val u hv]; omega
    · rw [if_neg e, if_neg e, h.val v hv]; omega
  · rw [nth_set (by rw [h.len.2]; exact hu)]
    have h1 := h.small u hu
    have h2 := h.small v hv
    split <;> omega
theorem belAt_next {xs ys : List Int} {m k q : Nat} (h : BelAt xs ys m k q) (hq : q ≤ 8) (hd : dep xs ((k : Int) + 1) = q) : BelAt xs ys m (k + 1) 0 := by
  refine ⟨h.len, fun v hv => ?_, fun v hv => ?_⟩
  · rw [h.val v hv]
    have e : abv xs ((k : Int) + 1) = upTo xs ((k : Int) + 1) q := by unfold abv; rw [hd]
    simp only [belC, e]
    simp [upTo]
  · have := h.small v hv
    omega
theorem belAt_all {xs ys : List Int} {m : Nat} (h : BelAt xs ys m xs.length 0) : ys.take (xs.length + 1) = belL xs :=
  ext_nth (by rw [List.length_take, h.len.2, length_belL]; have := h.len.1; omega) fun v hv => by
    rw [List.length_take, h.len.2] at hv
    have hl := h.len.1
    rw [nth_take (by omega), h.val v (by omega), nth_belL (by omega)]
    simp [upTo]
end Go.Proofs.YtakadjhbomggbaaGreat

namespace Go.Proofs.YtakadjhbomggbaaGreat
open Go.RowKit

set_option maxHeartbeats 400000 in
theorem cloneT_any (a : Option Addr) (n cap : Nat) (xs : List Int) (w : World) (h : Has w a n cap xs) :
    Calls Tryz.prog 91 #[.slice a n cap] w fun e w' => ∃ a' cap', e = .returned (.slice a' n cap') ∧ Own w' w.heap.size a' n cap' xs ∧ Below w.heap.size w w' := by
  have hle := h.le
  have hb0 : Below w.heap.size w (w.alloc (.cells #[] 3)) := (Below.refl _ _).alloc (Nat.le_refl _) _
  have qn : ∀ (w : World) (a : Option Addr) (n c n' c' : Nat), (binOp .eql 31 (.slice a n c) (.slice none n' c')).run Tryz.prog w = .ok (.bool a.isNone) w := fun w a n c n' c' => Lib.run_eql_slice_nil w _ _ a n c n' c' Tryz.underlying31
  cases a with
  | none =>
    have hn : n = 0 := by
      apply Classical.byContradiction
      intro hne
      obtain ⟨b, off, hbo, _⟩ := h.2.2.2.2 (by omega)
      cases hbo
    subst hn
    have hx : xs = [] := List.eq_nil_of_length_eq_zero h.len
    subst hx
    go_enter Tryz.func91, Tryz.ntmps91
    go_wp2_with fail
    go_ret
    exact ⟨_, _, rfl, Own.nil _ _, Below.refl _ _⟩
  | some p =>
    go_enter Tryz.func91, Tryz.ntmps91
    go_wp2_with (at_builtin; refine wpList_append_ints _ rfl _ _ rfl w.heap.size _ _ _ _ _ _ [] xs rfl rfl (own_lit0 w _ (Nat.le_refl _)) (h.below hb0 (Nat.le_refl _)) (by omega) (by simp) ?_; intro a2 n2 cap2 w2 hn2 hown2 hb2)
    go_ret
    obtain rfl : n2 = n := by omega
    exact ⟨_, _, rfl, by simpa using hown2, hb0.trans hb2⟩

def depL (xs : List Int) : List Int := (List.range xs.length).map fun (i : Nat) => (dep xs ((i : Int) + 1) : Int)
def depOf (xs : List Int) : List Int × Bool := if treeB xs then (depL xs, true) else ([], false)
theorem length_depL (xs : List Int) : (depL xs).length = xs.length := by simp [depL]
theorem nth_depL {xs : List Int} {i : Nat} (h : i < xs.length) : nth (depL xs) i = (dep xs ((i : Int) + 1) : Int) := by simp [nth, depL, h]
theorem depL_succ {xs : List Int} {k : Nat} (h : k < xs.length) : (depL xs).take (k + 1) = (depL xs).take k ++ [(dep xs ((k : Int) + 1) : Int)] := by
  rw [take_succ_nth (by rw [length_depL]; exact h), nth_depL h]
theorem length_abv (xs : List Int) (v : Int) : (abv xs v).length = dep xs v := by simp [abv, length_upTo]

theorem nth_upTo {xs : List Int} {v : Int} {k j : Nat} (h : j < k) : nth (upTo xs v k) j = up xs v (j + 1) := by simp [nth, upTo, h]
theorem nth_abv {xs : List Int} {v : Int} {j : Nat} (h : j < dep xs v) : nth (abv xs v) j = up xs v (j + 1) := nth_upTo h

end Go.Proofs.YtakadjhbomggbaaGreat

namespace Go.Proofs.YtakadjhbomggbaaGreat
open Go.RowKit

theorem run_up2 {hs : List Int} {k : Nat} (h0 : 0 < k) (h : nth hs k = nth hs (k - 1) + 1) : runAt hs (k + 1) = runAt hs k + 1 := by simp [runAt, raisedB, h, h0]
theorem run_flat2 {hs : List Int} {k : Nat} (_h0 : 0 < k) (h : ¬ nth hs k = nth hs (k - 1) + 1) : runAt hs (k + 1) = 1 := by simp [runAt, raisedB, h]

set_option maxHeartbeats 2000000 in
theorem implLabels_any (a : Option Addr) (n cap : Nat) (hs : List Int) (w : World) (h : Has w a n cap hs) :
    Calls Tryz.prog 15 #[.slice a n cap] w (PostInt w (labelsOf hs)) := by
  have HL := hid h.len
  have hle := h.le
  by_cases hg : hgtB hs = true
  · have HR : Hid (labelsOf hs = (clTo hs hs.length, true)) := hid (by simp only [labelsOf]; rw [if_pos hg])
    have HG := hid hg
    obtain ⟨h8, hbd⟩ := hgt_of hg h.len
    have HBD := hid hbd
    clear hg hbd
    go_enter Tryz.func15, Tryz.ntmps15
    go_wp2_with fail
    refine (implAreHeights_any _ _ _ _ _ h).mono ?_
    rintro e w1 ⟨rfl, st1⟩
    rw [HG.out]
    have hbw0 := st1
    go_wp2_with fail
    go_loopw [4, 5, 12] (fun c r i wr => ∃ (k : Nat) (C R : Int), k ≤ n ∧ i = .int .i64 k ∧ c = .int .i64 C ∧ r = .int .i64 R ∧ Hid (clTo hs k = C) ∧ Hid (runAt hs k = R) ∧ Below w.heap.size w wr) (fun _ _ i _ => n - (intOf i).toNat)
    case atStart => exact ⟨0, 1, 0, Nat.zero_le _, rfl, rfl, rfl, hid rfl, hid rfl, st1⟩
    case round =>
      obtain ⟨k, C, R, hk, rfl, rfl, rfl, HC, HRU, hb⟩ := hrel
      clear hbw0 st1
      have hC : 0 ≤ C ∧ C ≤ 40320 := by have := clTo_bounds hs k (by omega); rw [HC.out] at this; exact this
      have hRb : 0 ≤ R ∧ R ≤ (k : Int) := by have := runAt_bounds hs k; rw [HRU.out] at this; exact this
      have hm0 : 0 ≤ C * ((k : Int) + 1) := Int.mul_nonneg hC.1 (by omega)
      have hm1 : C * ((k : Int) + 1) ≤ 40320 * 9 := Int.le_trans (Int.mul_le_mul_of_nonneg_right hC.2 (by omega)) (Int.mul_le_mul_of_nonneg_left (by omega) (by omega))
      by_cases hlt : k < n
      · go_wp2_with fail
        refine (isRaised_any _ _ _ _ k _ (h.below hb (Nat.le_refl _)) hlt (fun i hi => by have := HBD.out i hi; omega)).mono ?_
        rintro e w2 ⟨rfl, q2, rfl⟩
        have hb2 : Below w.heap.size w (wr.drewN q2) := below_drewN hb _
        by_cases hr : raisedB hs k = true
        · rw [hr]
          have HR2 : Hid (runAt hs (k + 1) = R + 1) := hid (by simp only [runAt]; rw [if_pos hr, HRU.out])
          have hd0 : 0 ≤ C * ((k : Int) + 1) / (R + 1) := Int.ediv_nonneg hm0 (by omega)
          have hd1 : C * ((k : Int) + 1) / (R + 1) ≤ C * ((k : Int) + 1) := Int.ediv_le_self _ hm0
          have htd : (C * ((k : Int) + 1)).tdiv (R + 1) = C * ((k : Int) + 1) / (R + 1) := Int.tdiv_eq_ediv_of_nonneg hm0
          have hr1 : 1 ≤ (R + 1) := by omega
          have HC2 := hid (cl_step hs k HR2.out)
          rw [HC.out] at HC2
          clear hr
          go_wp2_with fail
          go_roundw
          case rel => exact ⟨k + 1, _, R + 1, by omega, by go_num, rfl, rfl, hid (by rw [HC2.out]), HR2, hb2⟩
          case measure => simp [intOf]; omega
        · rw [Bool.eq_false_iff.2 hr]
          have HR2 : Hid (runAt hs (k + 1) = 1) := hid (by simp only [runAt]; rw [if_neg hr])
          have HC2 : Hid (clTo hs (k + 1) = C * ((k : Int) + 1)) := hid (by rw [cl_step hs k HR2.out, HC.out, Int.ediv_one])
          clear hr
          go_wp2_with fail
          go_roundw
          case rel => exact ⟨k + 1, _, 1, by omega, by go_num, rfl, rfl, HC2, HR2, hb2⟩
          case measure => simp [intOf]; omega
      · obtain rfl : k = n := by omega
        go_wp2_with fail
        go_ret2
        exact postInt (HR.out.trans (by rw [HL.out, HC.out])) hb
  · have HR : Hid (labelsOf hs = (0, false)) := hid (by simp only [labelsOf]; rw [if_neg hg])
    have HG := hid (Bool.eq_false_iff.2 hg)
    clear hg
    go_enter Tryz.func15, Tryz.ntmps15
    go_wp2_with fail
    refine (implAreHeights_any _ _ _ _ _ h).mono ?_
    rintro e w1 ⟨rfl, st1⟩
    rw [HG.out]
    go_wp2_with fail
    go_ret2
    exact postInt HR.out st1

/-- A walk and a bool. -/
def PostWalk (w : World) (r : (List Int × List Int) × Bool) (e : Ending) (w' : World) : Prop :=
  ∃ a n c b m d, e = .returned (.tuple #[.agg #[.slice a n c, .slice b m d], .bool r.2]) ∧ Own w' w.heap.size a n c r.1.1 ∧ Own w' w.heap.size b m d r.1.2 ∧ Apart2 a b ∧ Below w.heap.size w w'
theorem postWalk {w w' : World} {r : (List Int × List Int) × Bool} {xs ys : List Int} {ok : Bool} {a b : Option Addr} {n c m d : Nat} (hr : r = ((xs, ys), ok)) (h : Own w' w.heap.size a n c xs) (h' : Own w' w.heap.size b m d ys) (hap : Apart2 a b) (hb : Below w.heap.size w w') :
    PostWalk w r (.returned (.tuple #[.agg #[.slice a n c, .slice b m d], .bool ok])) w' := by subst hr; exact ⟨_, _, _, _, _, _, rfl, h, h', hap, hb⟩
theorem postWalk_no {w w' : World} {r : (List Int × List Int) × Bool} (hr : r = (([], []), false)) (hb : Below w.heap.size w w') : PostWalk w r (.returned (.tuple #[.agg #[.slice none 0 0, .slice none 0 0], .bool false])) w' :=
  postWalk hr (Own.nil _ _) (Own.nil _ _) (apart_none _) hb

/-- The first k numbers are their indices. -/
def IxAt (ys : List Int) (k : Nat) : Prop := ∀ i, i < k → nth ys i = (i : Int)
theorem ix_all {ys : List Int} {n : Nat} (h : IxAt ys n) (hl : ys.length = n) : ys = upto n := ext_nth (by rw [hl, length_upto]) fun i hi => by rw [h i (by omega), nth_upto (by omega)]
theorem ix_step {ys : List Int} {k n : Nat} (h : IxAt ys k) (hl : ys.length = n) (hk : k < n) : IxAt (ys.set k (k : Int)) (k + 1) := fun i hi => by
  rw [nth_set (by omega)]
  split
  · subst_vars; rfl
  · exact h i (by omega)
set_option maxHeartbeats 1000000 in
theorem indicesOf_any (n : Nat) (w : World) (hn : n ≤ 1000) :
    Calls Tryz.prog 65 #[.int .i64 n] w fun e w' => ∃ a' cap', e = .returned (.slice a' n cap') ∧ Own w' w.heap.size a' n cap' (upto n) ∧ Below w.heap.size w w' := by
  go_enter Tryz.func65, Tryz.ntmps65
  go_wp2_with (at_make; refine wpList_make_ints _ rfl _ _ rfl n rfl rfl (by omega) ?_; intro a' cap' w1 hown1 hb1)
  go_loopw [9] (fun i wr => ∃ (k : Nat) (ys : List Int), k ≤ n ∧ i = .int .i64 k ∧ Own wr w.heap.size a' n cap' ys ∧ Hid (IxAt ys k) ∧ Below w.heap.size w wr) (fun i _ => n - (intOf i).toNat)
  case atStart => exact ⟨0, _, Nat.zero_le _, rfl, hown1, hid (fun i hi => by omega), hb1⟩
  case round =>
    obtain ⟨k, ys, hk, rfl, hown, HS, hb⟩ := hrel
    clear hown1 hb1
    by_cases hlt : k < n
    · obtain ⟨g, rfl, hg1, hg2, hg3, hg4⟩ := hown.opened (by omega)
      have hgx := hg3 k hlt
      have hgf := hg4 k
      obtain ⟨s1, s2⟩ := hown.set k (k : Int)
      have HS2 := hid (ix_step HS.out hown.len hlt)
      have hb2 := hb.setCell (p := ⟨g, k, none⟩) hg1 (.int .i64 (k : Int))
      clear hg3 hg4
      go_wp2_with fail
      go_roundw
      case rel => exact ⟨k + 1, _, by omega, by go_num, s1, HS2, hb2⟩
      case measure => simp [intOf]; omega
    · obtain rfl : k = n := by omega
      have HE := hid (ix_all HS.out hown.len)
      go_wp2_with fail
      go_ret
      exact ⟨_, _, rfl, by rw [← HE.out]; exact hown, hb⟩

theorem Own.setNe {w : World} {B g i n cap : Nat} {a : Option Addr} {xs : List Int} (h : Own w B a n cap xs) (hg : ∀ p, a = some p → p.block ≠ g) (u : Value) : Own (w.setCell ⟨g, i, none⟩ u) B a n cap xs := by
  refine ⟨?_, h.2⟩
  have h1 := h.1
  refine ⟨by simpa using h1.1, ?_⟩
  rcases h1.2 with h2 | ⟨k, cap', cur, hv, hk, hh, r⟩
  · exact .inl h2
  · refine .inr ⟨k, cap', cur, hv, hk, ?_, r⟩
    simp at hv
    have := hg _ hv.1
    rw [Below.heap_setCell _ _ _ _ (by simpa using this)]
    exact hh
theorem BlkLt.mono {a : Option Addr} {K K' : Nat} (h : BlkLt a K) (hK : K ≤ K') : BlkLt a K' := fun p hp => Nat.lt_of_lt_of_le (h p hp) hK
theorem BlkLt.ne {a : Option Addr} {K g : Nat} (h : BlkLt a K) (hg : K ≤ g) : ∀ p, a = some p → p.block ≠ g := fun p hp e => by have := h p hp; omega
theorem BlkGe.ne {a : Option Addr} {K g : Nat} (h : BlkGe a K) (hg : g < K) : ∀ p, a = some p → p.block ≠ g := fun p hp e => by have := h p hp; omega

end Go.Proofs.YtakadjhbomggbaaGreat

namespace Go.Proofs.YtakadjhbomggbaaGreat
open Go.RowKit

def spH (xs : List Int) : List Int := hgtOf xs (carsL xs)
def spA (xs : List Int) : Nat := (total (spH xs)).toNat
def spQ (xs : List Int) : Nat := (pairsL (spH xs) (carsL xs)).length
def rowT (tb : List (List Int)) (a : Nat) : List Int := tb.getD a []
/-- One more with a and b. -/
def incAt (tb : List (List Int)) (a b : Nat) : List (List Int) := tb.set a ((rowT tb a).set b (nth (rowT tb a) b + 1))
def spTo (m : Nat) (L : List (List Int)) : Nat → List (List Int)
  | 0 => List.replicate m (List.replicate m 0)
  | k + 1 => incAt (spTo m L k) (spA (rowT L k)) (spQ (rowT L k))
def spM (n : Nat) : Nat := n * (n - 1) / 2 + 1
def spreadOf (n : Int) : List (List Int) × Bool := if inB n 0 4 then (spTo (spM n.toNat) (listL n.toNat n.toNat []) (listL n.toNat n.toNat []).length, true) else ([], false)
def spChk (n : Nat) (xs : List Int) : Bool := isPark xs && (decide (xs.length = n) && (decide (spA xs < spM n) && decide (spQ xs < spM n)))
set_option maxHeartbeats 4000000 in
theorem sp_all : ∀ n, n < 5 → (listL n n []).all (spChk n) = true ∧ (listL n n []).length ≤ 125 ∧ spM n ≤ 7 := by decide +kernel
theorem sp_at {n k : Nat} (hn : n < 5) (hk : k < (listL n n []).length) : isPark (rowT (listL n n []) k) = true ∧ (rowT (listL n n []) k).length = n ∧ spA (rowT (listL n n []) k) < spM n ∧ spQ (rowT (listL n n []) k) < spM n := by
  have h := List.all_eq_true.1 (sp_all n hn).1 (rowT (listL n n []) k) (by unfold rowT; rw [List.getD_eq_getElem?_getD, List.getElem?_eq_getElem hk]; exact List.getElem_mem hk)
  unfold spChk at h
  simp only [Bool.and_eq_true, decide_eq_true_eq] at h
  exact ⟨h.1, h.2.1, h.2.2.1, h.2.2.2⟩
/-- Sizes and bounds of a table. -/
def TbB (m k : Nat) (tb : List (List Int)) : Prop := tb.length = m ∧ ∀ a, a < m → (rowT tb a).length = m ∧ ∀ b, b < m → 0 ≤ nth (rowT tb a) b ∧ nth (rowT tb a) b ≤ (k : Int)
theorem tbB_start (m : Nat) : TbB m 0 (List.replicate m (List.replicate m 0)) := by
  refine ⟨by simp, fun a ha => ?_⟩
  have e : rowT (List.replicate m (List.replicate m (0 : Int))) a = List.replicate m 0 := by simp [rowT, ha]
  rw [e]
  exact ⟨by simp, fun b hb => by simp [nth, hb]⟩
theorem tbB_inc {m k a b : Nat} {tb : List (List Int)} (h : TbB m k tb) (ha : a < m) (hb : b < m) : TbB m (k + 1) (incAt tb a b) := by
  obtain ⟨h1, h2⟩ := h
  refine ⟨by simp [incAt, h1], fun c hc => ?_⟩
  have e : rowT (incAt tb a b) c = if a = c then (rowT tb a).set b (nth (rowT tb a) b + 1) else rowT tb c := by
    unfold incAt rowT
    rw [List.getD_eq_getElem?_getD, List.getElem?_set]
    split
    · rw [if_pos (by omega)]; rfl
    · rfl
  rw [e]
  obtain ⟨h3, h4⟩ := h2 a ha
  split
  · refine ⟨by simp [h3], fun d hd => ?_⟩
    rw [nth_set (by omega)]
    split
    · have := h4 b hb; omega
    · have := h4 d hd; omega
  · obtain ⟨h5, h6⟩ := h2 c hc
    exact ⟨h5, fun d hd => by have := h6 d hd; omega⟩
/-- A number of one row is stored. -/
theorem OwnR.setIn {w : World} {B g n cap : Nat} {rs : List Rw} (h : OwnR w B (some ⟨g, 0, none⟩) n cap rs) {k : Nat} (hk : k < n) {gr : Nat} (ha : (nthR rs k).a = some ⟨gr, 0, none⟩) (j : Nat) (y : Int) :
    OwnR (w.setCell ⟨gr, j, none⟩ (.int .i64 y)) B (some ⟨g, 0, none⟩) n cap (rs.set k ⟨(nthR rs k).a, (nthR rs k).c, (nthR rs k).xs.set j y⟩) := by
  have hrow := h.row hk
  have hdr := hdr_ne h.1 hrow _ _ rfl ha
  obtain ⟨h1, h2, h3, h4, h5⟩ := h
  have hv : (rs.set k ⟨(nthR rs k).a, (nthR rs k).c, (nthR rs k).xs.set j y⟩).map Rw.v = rs.map Rw.v := by
    apply List.ext_getElem?
    intro i
    by_cases hi : i < rs.length
    · rw [map_nthR _ (by simpa using hi), map_nthR _ hi, nthR_setB (by omega)]
      split
      · subst_vars; simp [Rw.v]
      · rfl
    · rw [List.getElem?_eq_none (by simp; omega), List.getElem?_eq_none (by simp; omega)]
  refine ⟨?_, by simp [h2], h3, fun i hi => ?_, fun i i' p q hii hi' hp hq => ?_⟩
  · rw [hv]
    obtain ⟨g1, g2⟩ := h1
    refine ⟨g1, ?_⟩
    rcases g2 with g2 | ⟨g', cap', cur, hv', hg, hh, r⟩
    · exact .inl g2
    · have hv2 := hv'
      simp at hv2
      obtain ⟨rfl, rfl⟩ := hv2
      exact .inr ⟨g, cap, cur, hv', hg, (Below.heap_setCell w ⟨gr, j, none⟩ _ g (show g ≠ gr from hdr)).trans hh, r⟩
  · rw [nthR_setB (by omega)]
    split
    · subst_vars
      rw [ha] at hrow ⊢
      have := (hrow.set j y).1
      simpa using this
    · rename_i hne
      have hr := h4 i hi
      refine hr.kept (g := gr) ?_ (.inr fun p hp => ?_)
      · rw [ha] at hrow; exact (hrow.set j y).2
      · rcases Nat.lt_or_gt_of_ne hne with hlt | hgt
        · exact fun e => h5 k i _ _ hlt hi ha hp e.symm
        · exact h5 i k _ _ hgt hk hp ha
  · rw [nthR_setB (by omega)] at hp hq
    refine h5 i i' p q hii hi' ?_ ?_
    · split at hp
      · subst_vars; exact hp
      · exact hp
    · split at hq
      · subst_vars; exact hq
      · exact hq
/-- In numbers. -/
theorem numsOf_inc {rs : List Rw} {tb : List (List Int)} (h : numsOf rs = tb) {a b : Nat} (ha : a < rs.length) : numsOf (rs.set a ⟨(nthR rs a).a, (nthR rs a).c, (nthR rs a).xs.set b (nth (nthR rs a).xs b + 1)⟩) = incAt tb a b := by
  rw [numsOf_set, h]
  have e : (nthR rs a).xs = rowT tb a := by rw [← h]; exact (numsOf_nth ha).symm
  rw [e]
  rfl
end Go.Proofs.YtakadjhbomggbaaGreat

