/- Counts by total distances: the program's functions, by their contracts. -/
import Derived.Test.YtfjeadnakbdkjaaGreatMathG
import Derived.Test.YtfjeadnakbdkjaaGreatSpecS
import Derived.StillTailTactics
import Derived.IntWalk
import Derived.Test.YtfjeadnakbdkjaaGreatMathX
import Derived.Test.YtfjeadnakbdkjaaGreatHelp2
import Derived.Test.YtfjeadnakbdkjaaGreatMathP
import Derived.Test.YtfjeadnakbdkjaaGreatMathR
import Derived.Test.YtfjeadnakbdkjaaGreatSpecC
import Derived.Test.YtfjeadnakbdkjaaGreatImplC
import Derived.Test.YtfjeadnakbdkjaaGreatSpecD
import Derived.Test.YtfjeadnakbdkjaaGreatSpecO
import Derived.Test.YtfjeadnakbdkjaaGreatSortF
import Derived.Test.YtfjeadnakbdkjaaGreatShelf
import Derived.Test.YtfjeadnakbdkjaaGreatLawKit
import Derived.Sort.OwnSortedInts
import Derived.Test.YtfjeadnakbdkjaaGreatMathSm
import Derived.Test.YtfjeadnakbdkjaaGreatBase
import Derived.Laws.CopyOwn
import Derived.BigQuiet
import Derived.Test.YtfjeadnakbdkjaaGreatHelp
namespace Go.Proofs.YtfjeadnakbdkjaaGreat
open Go.RowKit

theorem chs_70 : ∀ n, n < 9 → ∀ i, i < 9 → chs n i ≤ 70 := by decide +kernel
/-- The table of those that have chosen: k kinds are done, of the next one M. -/
def Next (c : Nat → Bool) (v : Nat → Nat) (L k M : Nat) (zs : List Int) : Prop :=
  ∀ s, s ≤ L → nth zs s = if c s = true then ((chs L s * (sumTo (fun j => chs s j * v j) k + if k ≤ s ∧ s < k + M then chs s k * v k else 0) : Nat) : Int) else 0
/-- A table. -/
def Tab (v : Nat → Nat) (L : Nat) (ys : List Int) : Prop := ∀ s, s ≤ L → nth ys s = ((chs L s * v s : Nat) : Int)
theorem nth_replicate0 (n i : Nat) : nth (List.replicate n 0) i = 0 := by
  simp only [nth, List.getD_eq_getElem?_getD, List.getElem?_replicate]
  split <;> rfl
theorem next_zero (c : Nat → Bool) (v : Nat → Nat) (L : Nat) : Next c v L 0 0 (List.replicate (L + 1) 0) := fun s _ => by
  rw [nth_replicate0]
  simp [sumTo]
theorem next_skip {c : Nat → Bool} {v : Nat → Nat} {L k M : Nat} {zs : List Int} (h : Next c v L k M zs) (hc : c (k + M) = false) : Next c v L k (M + 1) zs := fun s hs => by
  rw [h s hs]
  by_cases e : s = k + M
  · subst e; simp [hc]
  · have : (k ≤ s ∧ s < k + M) = (k ≤ s ∧ s < k + (M + 1)) := by apply propext; omega
    simp only [this]
theorem next_store {c : Nat → Bool} {v : Nat → Nat} {L k M : Nat} {ys zs : List Int} (h : Next c v L k M zs) (hy : Tab v L ys) (hl : zs.length = L + 1) (h8 : L ≤ 8) (hkM : k + M ≤ L) (hc : c (k + M) = true) :
    Next c v L k (M + 1) (zs.set (k + M) (nth zs (k + M) + nth ys k * (chs (L - k) M : Int))) := fun s hs => by
  rw [nth_set (by omega)]
  by_cases e : k + M = s
  · rw [if_pos e, h _ hkM, hy k (by omega), if_pos hc, if_neg (by omega), if_pos (by rw [← e]; exact hc), if_pos (by omega)]
    subst e
    have := chs_chs L (by omega) (k + M) (by omega) k (by omega) (by omega) (by omega)
    rw [show k + M - k = M by omega] at this
    rw [Nat.add_zero, Nat.mul_add, ← Nat.mul_assoc (chs L (k + M)) (chs (k + M) k), ← this]
    simp only [Int.natCast_mul, Int.natCast_add]
    rw [Int.mul_right_comm]
  · rw [if_neg e, h s hs]
    have : (k ≤ s ∧ s < k + M) = (k ≤ s ∧ s < k + (M + 1)) := by apply propext; omega
    simp only [this]
theorem next_done {c : Nat → Bool} {v : Nat → Nat} {L k M : Nat} {zs : List Int} (h : Next c v L k M zs) (hM : L < k + M) : Next c v L (k + 1) 0 zs := fun s hs => by
  rw [h s hs, if_neg (by omega : ¬ (k + 1 ≤ s ∧ s < k + 1 + 0)), Nat.add_zero, sumTo]
  by_cases e : k ≤ s
  · rw [if_pos (show k ≤ s ∧ s < k + M from ⟨e, by omega⟩)]
  · rw [if_neg (show ¬ (k ≤ s ∧ s < k + M) by omega), chs_big s k (by omega), Nat.zero_mul]
theorem sum_past {v : Nat → Nat} {s : Nat} : ∀ L, s ≤ L → sumTo (fun j => chs s j * v j) (L + 1) = sumTo (fun j => chs s j * v j) (s + 1)
  | L, h => by
    obtain ⟨d, rfl⟩ : ∃ d, L = s + d := ⟨L - s, by omega⟩
    induction d with
    | zero => rfl
    | succ d ih =>
      rw [show s + (d + 1) + 1 = (s + d + 1) + 1 from rfl, sumTo, ih (by omega), chs_big s (s + d + 1) (by omega), Nat.zero_mul, Nat.add_zero]
theorem next_final {c : Nat → Bool} {v : Nat → Nat} {L : Nat} {zs : List Int} (h : Next c v L (L + 1) 0 zs) : Tab (fun s => if c s = true then sumTo (fun j => chs s j * v j) (s + 1) else 0) L zs := fun s hs => by
  rw [h s hs, if_neg (by omega : ¬ (L + 1 ≤ s ∧ s < L + 1 + 0)), Nat.add_zero, sum_past L hs]
  split <;> simp [*]
theorem tab_le {v : Nat → Nat} {L : Nat} {ys : List Int} (h : Tab v L ys) (h8 : L ≤ 8) (hv : ∀ s, s ≤ 8 → v s ≤ 16777216) {s : Nat} (hs : s ≤ L) : 0 ≤ nth ys s ∧ nth ys s ≤ 1174405120 := by
  rw [h s hs]
  have := Nat.mul_le_mul (chs_70 L (by omega) s (by omega)) (hv s (by omega))
  omega
theorem next_le {c : Nat → Bool} {v : Nat → Nat} {L k M : Nat} {zs : List Int} (h : Next c v L k M zs) (h8 : L ≤ 8) (hk : k ≤ L) (hv : ∀ s, s ≤ 8 → v s ≤ 16777216) {s : Nat} (hs : s ≤ L) : 0 ≤ nth zs s ∧ nth zs s ≤ 1000000000000 := by
  rw [h s hs]
  split
  · have h1 : sumTo (fun j => chs s j * v j) k ≤ sumTo (fun _ => 1174405120) k := sumTo_le fun i hi => by
      have := Nat.mul_le_mul (chs_70 s (by omega) i (by omega)) (hv i (by omega))
      omega
    have h2 : ∀ k, sumTo (fun _ => 1174405120) k = k * 1174405120 := by
      intro k
      induction k with
      | zero => rfl
      | succ k ih => simp only [sumTo]; rw [ih]; omega
    rw [h2] at h1
    have h3 : k * 1174405120 ≤ 8 * 1174405120 := Nat.mul_le_mul_right _ (by omega)
    have h4 : (if k ≤ s ∧ s < k + M then chs s k * v k else 0) ≤ 1174405120 := by
      split
      · have := Nat.mul_le_mul (chs_70 s (by omega) k (by omega)) (hv k (by omega))
        omega
      · omega
    have := Nat.mul_le_mul (chs_70 L (by omega) s (by omega)) (Nat.add_le_add (Nat.le_trans h1 h3) h4)
    omega
  · omega
theorem prod_le {v : Nat → Nat} {L : Nat} {ys : List Int} (h : Tab v L ys) (h8 : L ≤ 8) (hv : ∀ s, s ≤ 8 → v s ≤ 16777216) {s : Nat} (hs : s ≤ L) {n k : Nat} (hn : n ≤ 8) (hk : k ≤ 8) :
    0 ≤ nth ys s * (chs n k : Int) ∧ nth ys s * (chs n k : Int) ≤ 1000000000000 := by
  rw [h s hs]
  have := Nat.mul_le_mul (Nat.mul_le_mul (chs_70 L (by omega) s (by omega)) (hv s (by omega))) (chs_70 n (by omega) k (by omega))
  rw [← Int.natCast_mul]
  omega
theorem V_le8 (b : Nat → Nat) {P : Nat} (hP : P ≤ 8) : ∀ s, s ≤ 8 → V b P s ≤ 16777216 := fun s hs => by
  refine Nat.le_trans (V_le b P (by omega) s (by omega)) ?_
  have : ∀ P, P < 9 → ∀ s, s < 9 → P ^ s ≤ 16777216 := by decide +kernel
  exact this P (by omega) s (by omega)
theorem tab_step {b : Nat → Nat} {P L : Nat} {zs : List Int} (h : Next (fun s => decide (P < b P + s)) (V b P) L (L + 1) 0 zs) : Tab (V b (P + 1)) L zs := fun s hs => by
  rw [next_final h s hs]
  simp only [V, decide_eq_true_eq]
/-- A first table. -/
theorem tab_first (b : Nat → Nat) (L : Nat) : Tab (V b 0) L ((List.replicate (L + 1) 0).set 0 1) := fun s _ => by
  rw [nth_set (by simp)]
  by_cases e : s = 0
  · subst e; simp [V, chs_zero]
  · rw [if_neg (by omega), nth_replicate0]
    simp [V, e]
theorem below_upto {xs : List Int} {n : Nat} (h0 : ∀ i, i < n → 0 ≤ nth xs i) (hn : xs.length = n) : below xs 0 = 0 := by
  unfold below
  rw [List.countP_eq_zero]
  intro x hx
  obtain ⟨i, hi, rfl⟩ := mem_nth hx
  have := h0 i (by omega)
  simp
  omega
theorem pow_small : ∀ b, b < 14 → ∀ k, k < 9 → b ^ k ≤ 815730721 := by decide +kernel
end Go.Proofs.YtfjeadnakbdkjaaGreat

namespace Go.Proofs.YtfjeadnakbdkjaaGreat
open Go.RowKit

theorem street_small : ∀ c, c < 9 → ∀ p, p < 13 → 1 ≤ c → c ≤ p → (p + 1 - c) * (p + 1) ^ (c - 1) ≤ 815730721 := by decide +kernel

theorem chs_times : ∀ n, n < 17 → ∀ i, i < n → chs n i * (n - i) ≤ 205920 := by decide +kernel

end Go.Proofs.YtfjeadnakbdkjaaGreat

namespace Go.Proofs.YtfjeadnakbdkjaaGreat
open Go.RowKit

/-- How many favourites there are up to a place. -/
def upB (xs : List Int) (P : Nat) : Nat := below xs ((P : Int) + 1)
theorem upB_le (xs : List Int) (P : Nat) : upB xs P ≤ xs.length := below_le _ _
theorem N_upB (xs : List Int) (n : Nat) : N xs n = V (upB xs) n (n - xs.length) := rfl
/-- Those that are asked for at a place, among the first. -/
theorem count_at {xs : List Int} {P k : Nat} (h : k < xs.length) : (below (xs.take (k + 1)) ((P : Int) + 1) : Int) - below (xs.take (k + 1)) P = (below (xs.take k) ((P : Int) + 1) : Int) - below (xs.take k) P + if nth xs k = P then 1 else 0 := by
  rw [below_succ h, below_succ h]
  split <;> split <;> split <;> omega
theorem below_mono (xs : List Int) (P : Int) : below xs P ≤ below xs (P + 1) := by
  unfold below
  exact List.countP_mono_left fun x _ h => by simp at *; omega

end Go.Proofs.YtfjeadnakbdkjaaGreat

namespace Go.Proofs.YtfjeadnakbdkjaaGreat
open Go.RowKit

/-- The rank of the first k numbers. -/
def rkTo (xs : List Int) (n k : Nat) : Nat := rk n [] (toN (xs.take k))
/-- What the first j choices of the next number add. -/
def rkAt (xs : List Int) (n k j : Nat) : Nat := sumTo (fun y => N (xs.take k ++ [(y : Int)]) n) j
/-- What the first j choices behind p are. -/
def rkAtP (p : List Int) (n j : Nat) : Nat := sumTo (fun y => N (p ++ [(y : Int)]) n) j
theorem rkAtP_succ (p : List Int) (n j : Nat) : rkAtP p n (j + 1) = rkAtP p n j + N (p ++ [(j : Int)]) n := rfl
theorem rkTo_zero (xs : List Int) (n : Nat) : rkTo xs n 0 = 0 := rfl
theorem rkTo_succ {xs : List Int} {n k x : Nat} (h0 : ∀ y ∈ xs, 0 ≤ y) (hk : k < xs.length) (hx : nth xs k = (x : Int)) : rkTo xs n (k + 1) = rkTo xs n k + rkAt xs n k x := by
  unfold rkTo rkAt
  rw [take_succ_nth hk, hx]
  have e : toN (xs.take k ++ [(x : Int)]) = toN (xs.take k) ++ [x] := by simp [toN]
  rw [e, rk_append, toI_toN fun y hy => h0 y (List.mem_of_mem_take hy)]
  simp [rk]
theorem rkAt_succ (xs : List Int) (n k j : Nat) : rkAt xs n k (j + 1) = rkAt xs n k j + N (xs.take k ++ [(j : Int)]) n := rfl
theorem rkAt_le {xs : List Int} {n k : Nat} (hn : n ≤ 8) : ∀ j, j ≤ 8 → rkAt xs n k j ≤ j * 16777216
  | 0, _ => by simp [rkAt, sumTo]
  | j + 1, h => by
    have := rkAt_le (xs := xs) (n := n) (k := k) hn j (by omega)
    have := N_le (p := xs.take k ++ [(j : Int)]) hn
    rw [rkAt_succ]
    omega
theorem rkTo_le {xs : List Int} {n : Nat} (hn : n ≤ 8) (h0 : ∀ y ∈ xs, 0 ≤ y ∧ y ≤ 8) : ∀ k, k ≤ xs.length → rkTo xs n k ≤ k * 134217728
  | 0, _ => by simp [rkTo, toN, rk]
  | k + 1, h => by
    have ih := rkTo_le hn h0 k (by omega)
    have hx := h0 _ (nth_mem (xs := xs) (i := k) (by omega))
    rw [rkTo_succ (x := (nth xs k).toNat) (fun y hy => (h0 y hy).1) (by omega) (by omega)]
    have := rkAt_le (xs := xs) (k := k) hn (nth xs k).toNat (by omega)
    omega
theorem rankOf_yes {xs : List Int} (h : isPark xs = true) : rankOf xs = ((rkTo xs xs.length xs.length : Int), true) := by
  simp [rankOf, h, rkTo]
theorem rankOf_no {xs : List Int} (h : ¬ isPark xs = true) : rankOf xs = (0, false) := by simp [rankOf, h]
theorem parks_nth {xs : List Int} {n : Nat} (h : isPark xs = true) (hn : xs.length = n) : n ≤ 8 ∧ (∀ i, i < n → 0 ≤ nth xs i ∧ nth xs i ≤ 7 ∧ nth xs i < n) ∧ (∀ x ∈ xs, 0 ≤ x ∧ x ≤ 8) := by
  obtain ⟨h1, h2⟩ := isPark_bounds h
  refine ⟨by omega, fun i hi => ?_, fun x hx => by have := h2 x hx; omega⟩
  have := h2 _ (nth_mem (xs := xs) (i := i) (by omega))
  omega
theorem rk_lt_cnt {xs : List Int} (h : isPark xs = true) : rk xs.length [] (toN xs) < cnt xs.length := by
  obtain ⟨h1, h2⟩ := isPark_bounds h
  have h3 := (isPark_zpark h1 fun x hx => (h2 x hx).1).1 h
  have e := toI_toN (xs := xs) fun x hx => (h2 x hx).1
  have := rk_lt (n := xs.length) (toN xs) [] (by simp [length_toN]) (fun x hx => by
    obtain ⟨y, hy, rfl⟩ := List.mem_map.1 hx
    have := h2 y hy
    omega) (by rw [e]; simpa using h3)
  rw [N_nil h1] at this
  exact this
theorem rkTo_all {xs : List Int} {n : Nat} (h : xs.length = n) : rkTo xs n n = rk n [] (toN xs) := by
  unfold rkTo
  rw [List.take_of_length_le (by omega)]
end Go.Proofs.YtfjeadnakbdkjaaGreat

namespace Go.Proofs.YtfjeadnakbdkjaaGreat
open Go.RowKit

/-- A list and one number more. -/
theorem nth_snoc_nonneg {ys : List Int} {k j : Nat} (hl : ys.length = k) (h : ∀ i, i < k → 0 ≤ nth ys i) : ∀ i, i < k + 1 → 0 ≤ nth (ys ++ [(j : Int)]) i := by
  intro i hi
  by_cases e : i < k
  · rw [nth_append_left (by omega)]; exact h i e
  · obtain rfl : i = ys.length := by omega
    rw [nth_append_at]; omega

end Go.Proofs.YtfjeadnakbdkjaaGreat

namespace Go.Proofs.YtfjeadnakbdkjaaGreat
open Go.RowKit

/-- What is left to choose behind p, at r. -/
def AtLeft (n R : Nat) (p : List Int) (k r : Nat) : Prop := r < N p n ∧ toI (atL n n [] R) = p ++ toI (atL n (n - k) p r)
theorem atLeft_first {n R : Nat} (hn : n ≤ 8) (hR : R < cnt n) : AtLeft n R [] 0 R := ⟨by rw [N_nil hn]; exact hR, by simp⟩
theorem atLeft_step {n R k r x ρ : Nat} {p : List Int} (h : AtLeft n R p k r) (hk : k < n) (hp : p.length = k) (h1 : r = rkAtP p n x + ρ) (h2 : ρ < N (p ++ [(x : Int)]) n) : AtLeft n R (p ++ [(x : Int)]) (k + 1) ρ := by
  refine ⟨h2, ?_⟩
  rw [h.2, show n - k = (n - (k + 1)) + 1 by omega, at_step ⟨h1, h2⟩ (by omega) h.1, snoc_toI]
theorem atLeft_room {n R k r y ρ : Nat} {p : List Int} (h : AtLeft n R p k r) (hk : k < n) (hp : p.length = k) (h1 : r = rkAtP p n y + ρ) : y < n := by
  have h2 := h.1
  rw [N_split (by omega)] at h2
  apply Classical.byContradiction
  intro hn
  have := sumTo_mono (fun y => N (p ++ [(y : Int)]) n) (show n ≤ y by omega)
  unfold rkAtP at h1
  omega

theorem atOf_yes {n R : Nat} (hn : n ≤ 8) (hR : R < cnt n) : atOf n R = (toI (atL n n [] R), true) := by
  have h1 : inB (n : Int) 0 8 = true := inB_iff.2 ⟨by omega, by omega⟩
  have h2 : inB (R : Int) 0 ((cnt n : Int) - 1) = true := inB_iff.2 ⟨by omega, by omega⟩
  simp only [atOf, Int.toNat_natCast, h1, h2, Bool.and_true, if_true]
theorem atOf_no1 {n r : Int} (h : ¬ inB n 0 8 = true) : atOf n r = ([], false) := by simp [atOf, h]
theorem atOf_no2 {n : Nat} {r : Int} (h : ¬ inB r 0 ((cnt n : Int) - 1) = true) : atOf n r = ([], false) := by simp [atOf, h]

theorem nextOf_yes {xs : List Int} {n : Nat} (h : isPark xs = true) (hn : xs.length = n) : nextOf xs = atOf n ((rkTo xs n n : Int) + 1) := by
  rw [rkTo_all hn]
  subst hn
  simp [nextOf, h]
theorem nextOf_no {xs : List Int} (h : ¬ isPark xs = true) : nextOf xs = ([], false) := by simp [nextOf, h]

/-- One number, written out. -/
theorem has_lit1 (w : World) (y : Int) : Has (w.alloc (.cells #[.int .i64 y] 3)) (some ⟨w.heap.size, 0, none⟩) 1 1 [y] := by
  refine ⟨rfl, Nat.le_refl _, by unfold maxLen; omega, by omega, fun _ => ⟨_, _, rfl, by simp, fun i hi => ?_⟩⟩
  obtain rfl : i = 0 := by omega
  rw [World.cell?_alloc_at _ _ _ _ rfl]
  rfl
theorem one_nonneg (k : Nat) : ∀ i, i < 1 → 0 ≤ nth [(k : Int)] i := fun i hi => by
  obtain rfl : i = 0 := by omega
  simp [nth]
/-- How many begin with each of the first k numbers. -/
def firsts (n k : Nat) : List Int := (List.range k).map fun (x : Nat) => (N [(x : Int)] n : Int)
theorem firsts_succ (n k : Nat) : firsts n (k + 1) = firsts n k ++ [(N [(k : Int)] n : Int)] := by simp [firsts, List.range_succ]
theorem firstOf_yes {n : Nat} (h : inB (n : Int) 1 8 = true) : firstOf n = (firsts n n, true) := by simp [firstOf, h, firsts]
theorem firstOf_no {n : Int} (h : ¬ inB n 1 8 = true) : firstOf n = ([], false) := by simp [firstOf, h]

end Go.Proofs.YtfjeadnakbdkjaaGreat

namespace Go.Proofs.YtfjeadnakbdkjaaGreat
open Go.RowKit

theorem run_append_emptyR (w : World) {B : Nat} (ty : TypeId) (a0 a1 : Option Addr) (n cap cap1 : Nat) (us : List Value) (hown : w.ownsRow B 31 1 (.slice a0 n cap) n us) :
    (Builtin.append_ #[25, 25] ty #[.slice a0 n cap, .slice a1 0 cap1]).run Tryz.prog w = .ok (.slice a0 n cap) w := by
  obtain ⟨i0, hi, hz0, hz1, hz2⟩ := info_parts Tryz.infoInts
  rcases hown.2 with ⟨hv, hn⟩ | ⟨g, cap', cur, hv, _, _, hnc, _⟩
  · simp at hv
    obtain ⟨rfl, rfl, rfl⟩ := hv
    cases a1 <;> simp [Builtin.append_, run_underlying Tryz.underlying25, sizeOf, typeInfo, hi, Builtin.lenOf, Builtin.firstCells, loadCells, loadCellsFrom]
  · simp at hv
    obtain ⟨rfl, rfl⟩ := hv
    cases a1 <;> simp [Builtin.append_, run_underlying Tryz.underlying25, sizeOf, typeInfo, hi, Builtin.lenOf, Builtin.firstCells, hnc, storeCells, loadCells, loadCellsFrom]

theorem wpList_append_rowsAny {ops : Array Oper} {rest : List Oper} {o : Oper} {a : Act} {Q : Exit → Act → World → Prop} (w0 w : World) (hgd : o.guard = none) (s x : Operand)
    (ho : o.op = .call { callee := .builtin .append, args := #[s, x], argTypes := #[25, 25] })
    (B : Nat) (a0 a1 : Option Addr) (n m cap c1 : Nat) (rs ss : List Rw) (hs : a.eval s = .slice a0 n cap) (hx : a.eval x = .slice a1 m c1)
    (hown : OwnR w0 B a0 n cap rs) (hb : Below w0.heap.size w0 w) (hsrc : OwnR w w0.heap.size a1 m c1 ss) (hl : n + m ≤ 2097152) (hB : B ≤ w0.heap.size)
    (h : ∀ a' k cap' w', Hid (k = n + m) → OwnR w' B a' k cap' (rs ++ ss) → Below B w w' → wpList Tryz.prog ops Q rest (a.put o.dst (.slice a' k cap')) w') :
    wpList Tryz.prog ops Q (o :: rest) a w := by
  by_cases hm : 0 < m
  · exact wpList_append_rows w0 w hgd s x ho B a0 a1 n m cap c1 rs ss hs hx hown hb hsrc hm hl hB h
  · obtain rfl : m = 0 := by omega
    obtain rfl : ss = [] := List.eq_nil_of_length_eq_zero hsrc.len
    have hownw := hown.below hb (Nat.le_refl _)
    refine wpList_plain hgd fun K hK => ?_
    have hrun := run_append_emptyR w o.type a0 a1 n cap c1 _ hownw.1
    unfold Oper.wp
    simp [execOp, ho, resolve, invoke, builtin, hs, hx, hrun, Result.andThen]
    exact hK _ _ (h a0 n cap w (hid rfl) (by simpa using hownw) (Below.refl _ _))
end Go.Proofs.YtfjeadnakbdkjaaGreat

namespace Go.Proofs.YtfjeadnakbdkjaaGreat
open Go.RowKit

/-- A slice of slices of the call's own. -/
def PostRowsOnly (w : World) (ls : List (List Int)) (e : Ending) (w' : World) : Prop := ∃ a q cap rs, e = .returned (.slice a q cap) ∧ OwnR w' w.heap.size a q cap rs ∧ numsOf rs = ls ∧ Below w.heap.size w w'
theorem numsOf_app (rs ss : List Rw) : numsOf (rs ++ ss) = numsOf rs ++ numsOf ss := by simp [numsOf]
theorem numsOf_len {w : World} {B : Nat} {a : Option Addr} {q cap : Nat} {rs : List Rw} (h : OwnR w B a q cap rs) : (numsOf rs).length = q := by
  rw [← h.len]
  simp [numsOf]

theorem take_getD {L : List (List Int)} {k : Nat} (h : k < L.length) : L.take (k + 1) = L.take k ++ [L.getD k []] := by
  rw [List.take_succ_eq_append_getElem h]
  simp [h]

end Go.Proofs.YtfjeadnakbdkjaaGreat

namespace Go.Proofs.YtfjeadnakbdkjaaGreat
open Go.RowKit

/-- Those that go on a beginning with the first c choices of the next number. -/
def listTo (n k : Nat) (p : List Int) (c : Nat) : List (List Int) := (List.range c).flatMap fun (x : Nat) => listL n k (p ++ [(x : Int)])
theorem listTo_succ (n k : Nat) (p : List Int) (c : Nat) : listTo n k p (c + 1) = listTo n k p c ++ listL n k (p ++ [(c : Int)]) := by simp [listTo, List.range_succ]
theorem length_listL {n k : Nat} {p : List Int} (h : p.length + k = n) : (listL n k p).length = N p n := by rw [list_at k p h]; simp
theorem length_listTo {n k : Nat} {p : List Int} (h : p.length + (k + 1) = n) : ∀ c, (listTo n k p c).length = rkAtP p n c
  | 0 => rfl
  | c + 1 => by rw [listTo_succ, List.length_append, length_listTo h c, length_listL (by simp; omega), rkAtP_succ]
theorem N_le5 {p : List Int} {n : Nat} (h : n ≤ 5) : N p n ≤ 3125 := by
  unfold N
  refine Nat.le_trans (V_le _ n (by omega) _ (by omega)) ?_
  refine Nat.le_trans (Nat.pow_le_pow_left h _) ?_
  exact Nat.le_trans (Nat.pow_le_pow_right (by omega) (show n - p.length ≤ 5 by omega)) (by decide)
theorem rkAtP_le5 {p : List Int} {n : Nat} (hn : n ≤ 5) : ∀ j, j ≤ 5 → rkAtP p n j ≤ j * 3125
  | 0, _ => by simp [rkAtP, sumTo]
  | j + 1, h => by
    have := rkAtP_le5 (p := p) (n := n) hn j (by omega)
    have := N_le5 (p := p ++ [(j : Int)]) hn
    rw [rkAtP_succ]
    omega

theorem allOf_yes {n : Nat} (h : inB (n : Int) 0 5 = true) : allOf n = (listL n n [], true) := by simp [allOf, h]
theorem allOf_no {n : Int} (h : ¬ inB n 0 5 = true) : allOf n = ([], false) := by simp [allOf, h]

/-- The least choice behind a beginning. -/
def lastOf (p : List Int) : Int := nth p (p.length - 1)
/-- Those that do not fall and go on a beginning with the first c choices. -/
def sortTo (k : Nat) (p : List Int) (c : Nat) : List (List Int) := (upFrom (lastOf p) c).flatMap fun x => sortL k (p ++ [x])
theorem sortTo_succ (k : Nat) (p : List Int) (c : Nat) : sortTo k p (c + 1) = sortTo k p c ++ sortL k (p ++ [lastOf p + c]) := by
  simp [sortTo, upFrom_snoc]
theorem lastOf_snoc (p : List Int) (x : Int) : lastOf (p ++ [x]) = x := by
  unfold lastOf
  rw [List.length_append, List.length_singleton, Nat.add_sub_cancel, nth_append_at]
theorem length_sortL : ∀ (k : Nat) (p : List Int), p.length + k ≤ 6 → 0 ≤ lastOf p → (sortL k p).length ≤ 7 ^ k ∧ ∀ j c, k = j + 1 → c ≤ 7 → (sortTo j p c).length ≤ c * 7 ^ j
  | 0, p, _, _ => ⟨by simp [sortL], fun j c h => by omega⟩
  | k + 1, p, h, h0 => by
    have hto : ∀ c, c ≤ 7 → (sortTo k p c).length ≤ c * 7 ^ k := by
      intro c
      induction c with
      | zero => intro _; simp [sortTo, upFrom]
      | succ c ih =>
        intro hc
        have h1 := ih (by omega)
        have h2 := (length_sortL k (p ++ [lastOf p + c]) (by simp; omega) (by rw [lastOf_snoc]; omega)).1
        rw [sortTo_succ, List.length_append, Nat.add_mul]
        omega
    refine ⟨?_, fun j c hj hc => by cases hj; exact hto c hc⟩
    have h1 := hto ((p.length : Int) + 1 - lastOf p).toNat (by omega)
    have h2 := Nat.mul_le_mul_right (7 ^ k) (show ((p.length : Int) + 1 - lastOf p).toNat ≤ 7 by omega)
    show (sortTo k p ((p.length : Int) + 1 - lastOf p).toNat).length ≤ 7 ^ (k + 1)
    rw [Nat.pow_succ]
    omega
theorem pow7 : ∀ k, k < 7 → 7 ^ k ≤ 117649 := by decide +kernel
theorem nth_last_le {p : List Int} {m : Nat} (h : p.length = m) : lastOf p = nth p (m - 1) := by unfold lastOf; rw [h]
theorem lastOf_none {p : List Int} (h : p.length = 0) : lastOf p = 0 := by
  have : p = [] := List.eq_nil_of_length_eq_zero h
  subst this
  rfl

theorem allSortedOf_yes' {n : Nat} (h : inB (n : Int) 0 6 = true) : allSortedOf n = (sortL n [], true) := by simp [allSortedOf, h]
theorem allSortedOf_no' {n : Int} (h : ¬ inB n 0 6 = true) : allSortedOf n = ([], false) := by simp [allSortedOf, h]

end Go.Proofs.YtfjeadnakbdkjaaGreat

namespace Go.Proofs.YtfjeadnakbdkjaaGreat
open Go.RowKit

/-- The first place from x on, going round, that is not taken. -/
def cnext (out : List Int) (p : Int) : Nat → Int → Int
  | 0, x => x
  | f + 1, x => if x ∈ out then cnext out p f ((x + 1) % p) else x
/-- From x on k places are taken, going round. -/
def CRuns (out : List Int) (p x : Int) (k : Nat) : Prop := ∀ i : Nat, i < k → (x + i) % p ∈ out
theorem CRuns.zero (out : List Int) (p x : Int) : CRuns out p x 0 := fun i hi => by omega
theorem CRuns.step {out : List Int} {p x : Int} {k : Nat} (h : CRuns out p x k) (h2 : (x + k) % p ∈ out) : CRuns out p x (k + 1) := fun i hi => by
  rcases Nat.lt_succ_iff_lt_or_eq.1 hi with h3 | rfl
  · exact h i h3
  · exact h2
theorem round_next {p x : Int} {k : Nat} : ((x + k) % p + 1) % p = (x + ((k + 1 : Nat) : Int)) % p := by
  rw [Int.emod_add_emod]
  congr 1
  omega
theorem cnext_of {out : List Int} {p x : Int} {k : Nat} (h : CRuns out p x k) (hn : (x + k) % p ∉ out) : ∀ (f j : Nat), j ≤ k → k - j ≤ f → cnext out p f ((x + j) % p) = (x + k) % p
  | 0, j, hj, hf => by
    obtain rfl : j = k := by omega
    rfl
  | f + 1, j, hj, hf => by
    simp only [cnext]
    by_cases e : j = k
    · subst e
      rw [if_neg hn]
    · rw [if_pos (h j (by omega)), round_next]
      exact cnext_of h hn f (j + 1) (by omega) (by omega)
/-- Where a car comes to stand on the circle. -/
def cplace (p : Int) (out : List Int) (x : Int) : Int := cnext out p p.toNat x
theorem cplace_of {out : List Int} {p x : Int} {k : Nat} (h : CRuns out p x k) (hn : (x + k) % p ∉ out) (hk : k < p) (h0 : 0 ≤ x) (h1 : x < p) : cplace p out x = (x + k) % p := by
  have := cnext_of h hn p.toNat 0 (by omega) (by omega)
  rw [show (x + ((0 : Nat) : Int)) % p = x from by rw [show x + ((0 : Nat) : Int) = x by omega]; exact Int.emod_eq_of_lt h0 h1] at this
  exact this
/-- Fewer cars than places: some place is free. -/
theorem cruns_lt {out : List Int} {p x : Int} {k : Nat} (h : CRuns out p x k) (hl : (out.length : Int) < p) : (k : Int) < p := by
  apply Classical.byContradiction
  intro hn
  have hall : ∀ z, 0 ≤ z → z < p → z ∈ out := by
    intro z hz0 hz1
    have h1 := h ((z - x) % p).toNat (by have := Int.emod_lt_of_pos (z - x) (show 0 < p by omega); have := Int.emod_nonneg (z - x) (show p ≠ 0 by omega); omega)
    have h2 := Int.emod_nonneg (z - x) (show p ≠ 0 by omega)
    rw [show (((z - x) % p).toNat : Int) = (z - x) % p by omega, Int.add_emod_emod, show x + (z - x) = z by omega, Int.emod_eq_of_lt hz0 hz1] at h1
    exact h1
  have h3 := from_all (xs := out) (p := p) p.toNat 0 (by omega) hall
  have h4 := from_le out 0
  omega
/-- The places of cars on a circle. -/
def cdrive (p : Int) (xs : List Int) : List Int := xs.foldl (fun out x => out ++ [cplace p out x]) []
theorem cdrive_succ {p : Int} {xs : List Int} {k : Nat} (h : k < xs.length) : cdrive p (xs.take (k + 1)) = cdrive p (xs.take k) ++ [cplace p (cdrive p (xs.take k)) (nth xs k)] := by
  rw [take_succ_nth h]
  simp [cdrive]
theorem length_cfoldl {p : Int} : ∀ (xs out : List Int), (xs.foldl (fun out x => out ++ [cplace p out x]) out).length = out.length + xs.length
  | [], _ => by simp
  | x :: xs, out => by simp [length_cfoldl xs]; omega
theorem length_cdrive (p : Int) (xs : List Int) : (cdrive p xs).length = xs.length := by simp [cdrive, length_cfoldl]
/-- A free place is found. -/
theorem cplace_spec {out : List Int} {p x : Int} (hl : (out.length : Int) < p) (h0 : 0 ≤ x) (h1 : x < p) : ∃ k : Nat, CRuns out p x k ∧ (x + k) % p ∉ out ∧ (k : Int) < p ∧ cplace p out x = (x + k) % p := by
  have hex : ∀ n : Nat, CRuns out p x n ∨ ∃ k : Nat, k < n ∧ CRuns out p x k ∧ (x + k) % p ∉ out := by
    intro n
    induction n with
    | zero => exact .inl (CRuns.zero _ _ _)
    | succ n ih =>
      rcases ih with h | ⟨k, hk, h2, h3⟩
      · by_cases hm : (x + n) % p ∈ out
        · exact .inl (h.step hm)
        · exact .inr ⟨n, by omega, h, hm⟩
      · exact .inr ⟨k, by omega, h2, h3⟩
  rcases hex p.toNat with h | ⟨k, hk, h2, h3⟩
  · have := cruns_lt h hl
    omega
  · exact ⟨k, h2, h3, by omega, cplace_of h2 h3 (by omega) h0 h1⟩
theorem cdrive_ok {p : Int} {xs : List Int} (hb : ∀ x ∈ xs, 0 ≤ x ∧ x ≤ p - 1) : ∀ k, k ≤ xs.length → (k : Int) ≤ p → (cdrive p (xs.take k)).Nodup ∧ ∀ y ∈ cdrive p (xs.take k), 0 ≤ y ∧ y < p
  | 0, _, _ => by simp [cdrive]
  | k + 1, h, hp => by
    obtain ⟨i1, i2⟩ := cdrive_ok hb k (by omega) (by omega)
    have hx := hb _ (nth_mem (xs := xs) (i := k) (by omega))
    have hl : (cdrive p (xs.take k)).length = k := by rw [length_cdrive]; simp; omega
    obtain ⟨j, h1, h2, h3, h4⟩ := cplace_spec (out := cdrive p (xs.take k)) (p := p) (x := nth xs k) (by omega) hx.1 (by omega)
    rw [cdrive_succ (by omega), h4]
    constructor
    · rw [List.nodup_append]
      refine ⟨i1, by simp, ?_⟩
      intro a ha b hb e
      simp at hb
      subst hb
      subst e
      exact h2 ha
    · intro y hy
      rcases List.mem_append.1 hy with hy | hy
      · exact i2 y hy
      · simp at hy
        subst hy
        exact ⟨Int.emod_nonneg _ (by omega), Int.emod_lt_of_pos _ (by omega)⟩
/-- The first place from x on that is not taken. -/
def freeFrom (t : List Int) : Nat → Int → Int
  | 0, x => x
  | f + 1, x => if x ∈ t then freeFrom t f (x + 1) else x
theorem freeFrom_of {t : List Int} {y : Int} (hn : y ∉ t) : ∀ (f : Nat) (x : Int), (∀ z, x ≤ z → z < y → z ∈ t) → x ≤ y → y - x ≤ f → freeFrom t f x = y
  | 0, x, _, h1, h2 => by simp only [freeFrom]; omega
  | f + 1, x, h, h1, h2 => by
    simp only [freeFrom]
    by_cases e : x = y
    · subst e
      rw [if_neg hn]
    · rw [if_pos (h x (Int.le_refl _) (by omega))]
      exact freeFrom_of hn f (x + 1) (fun z a b => h z (by omega) b) (by omega) (by omega)
def cfree (xs : List Int) : Int := freeFrom (cdrive ((xs.length : Int) + 1) xs) (xs.length + 1) 0
/-- 0, 1, .., n - 1. -/
def upto (n : Nat) : List Int := (List.range n).map fun (i : Nat) => (i : Int)
theorem total_upto : ∀ n : Nat, 2 * total (upto n) = (n : Int) * ((n : Int) - 1)
  | 0 => by simp [upto, total]
  | n + 1 => by
    have ih := total_upto n
    unfold upto at *
    rw [List.range_succ, List.map_append, List.map_cons, List.map_nil, total_snoc, Int.mul_add, ih]
    rw [show ((n + 1 : Nat) : Int) = (n : Int) + 1 by omega, Int.add_mul, Int.mul_sub, Int.mul_sub, Int.mul_add]
    omega
/-- n different places of n + 1: one stays free. -/
theorem one_free {t : List Int} {n : Nat} (hd : t.Nodup) (hl : t.length = n) (hb : ∀ y ∈ t, 0 ≤ y ∧ y < (n : Int) + 1) :
    ∃ m : Int, 0 ≤ m ∧ m ≤ n ∧ m ∉ t ∧ (∀ z : Int, 0 ≤ z → z ≤ n → z ≠ m → z ∈ t) ∧ m + total t = (n + 1 : Int) * n / 2 := by
  have hex : ∃ m : Int, 0 ≤ m ∧ m ≤ n ∧ m ∉ t := by
    apply Classical.byContradiction
    intro hno
    have h3 := from_all (xs := t) (p := (n : Int) + 1) (n + 1) 0 (by omega) (fun z h1 h2 => Classical.byContradiction fun hz => hno ⟨z, h1, by omega, hz⟩)
    have h4 := from_le t 0
    omega
  obtain ⟨m, h1, h2, h3⟩ := hex
  have hall : ∀ z : Int, 0 ≤ z → z ≤ n → z ≠ m → z ∈ t := by
    intro z hz0 hz1 hzm
    apply Classical.byContradiction
    intro hz
    have := nodup_le (n + 1) (z :: m :: t) (by
      rw [List.nodup_cons, List.nodup_cons]
      exact ⟨by simp [hzm, hz], h3, hd⟩) (fun x hx => by
      rcases List.mem_cons.1 hx with rfl | hx
      · omega
      · rcases List.mem_cons.1 hx with rfl | hx
        · omega
        · have := hb x hx; omega)
    simp at this
    omega
  refine ⟨m, h1, h2, h3, hall, ?_⟩
  have hperm : (m :: t).Perm (upto (n + 1)) := by
    have hd1 : (m :: t).Nodup := List.nodup_cons.2 ⟨h3, hd⟩
    have hd2 : (upto (n + 1)).Nodup := by
      unfold upto List.Nodup
      rw [List.pairwise_map]
      exact List.nodup_range.imp fun h e => h (by omega)
    rw [List.perm_ext_iff_of_nodup hd1 hd2]
    intro z
    unfold upto
    rw [List.mem_cons, List.mem_map]
    constructor
    · rintro (rfl | hz)
      · exact ⟨z.toNat, by rw [List.mem_range]; omega, by omega⟩
      · have := hb z hz
        exact ⟨z.toNat, by rw [List.mem_range]; omega, by omega⟩
    · rintro ⟨i, hi, rfl⟩
      rw [List.mem_range] at hi
      by_cases e : (i : Int) = m
      · exact .inl e
      · exact .inr (hall i (by omega) (by omega) e)
  have ht := total_perm hperm
  rw [total_cons] at ht
  have hu := total_upto (n + 1)
  rw [← ht] at hu
  rw [show ((n + 1 : Nat) : Int) = (n : Int) + 1 by omega, show (n : Int) + 1 - 1 = n by omega] at hu
  omega
/-- A circle list. -/
def circB (xs : List Int) : Bool := decide (xs.length ≤ 8) && allB xs 0 xs.length
theorem circ_good {xs : List Int} (h8 : xs.length ≤ 8) : circB xs = good xs ((xs.length : Int) + 1) := by
  have : inB ((xs.length : Int) + 1) 1 12 = true := inB_iff.2 ⟨by omega, by omega⟩
  simp [circB, good, this]
theorem circB_iff {xs : List Int} : circB xs = true ↔ xs.length ≤ 8 ∧ ∀ x ∈ xs, 0 ≤ x ∧ x ≤ (xs.length : Int) := by simp [circB, allB_iff]
theorem circ_bounds {xs : List Int} (h : circB xs = true) : ∀ x ∈ xs, 0 ≤ x ∧ x ≤ (xs.length : Int) + 1 - 1 := fun x hx => by
  have := (circB_iff.1 h).2 x hx
  omega
theorem cfree_spec {xs : List Int} (h : circB xs = true) : 0 ≤ cfree xs ∧ cfree xs ≤ xs.length ∧ cfree xs ∉ cdrive ((xs.length : Int) + 1) xs ∧ (∀ z, 0 ≤ z → z < cfree xs → z ∈ cdrive ((xs.length : Int) + 1) xs) ∧
    cfree xs + total (cdrive ((xs.length : Int) + 1) xs) = ((xs.length : Int) + 1) * xs.length / 2 := by
  have hb := circ_bounds h
  obtain ⟨d1, d2⟩ := cdrive_ok hb xs.length (Nat.le_refl _) (by omega)
  rw [List.take_length] at d1 d2
  obtain ⟨m, m1, m2, m3, m4, m5⟩ := one_free d1 (length_cdrive _ _) d2
  have e : cfree xs = m := freeFrom_of m3 _ 0 (fun z a b => m4 z a (by omega) (by omega)) m1 (by omega)
  rw [e]
  exact ⟨m1, m2, m3, fun z a b => m4 z a (by omega) (by omega), m5⟩
/-- Turned favourites. -/
def turn (xs : List Int) (p b : Int) : List Int := xs.map fun x => (x + b) % p
theorem turn_succ {xs : List Int} {p b : Int} {k : Nat} (h : k < xs.length) : turn (xs.take (k + 1)) p b = turn (xs.take k) p b ++ [(nth xs k + b) % p] := by
  rw [take_succ_nth h]
  simp [turn]
theorem turn_tmod (x b p : Int) (hp : 0 < p) : (((x + b).tmod p) + p).tmod p = (x + b) % p := by
  have h1 := Int.tmod_add_mul_tdiv (x + b) p
  have h2 := Int.lt_tmod_of_pos (x + b) hp
  rw [Int.tmod_eq_emod_of_nonneg (a := (x + b).tmod p + p) (by omega), Int.add_emod_right]
  conv => rhs; rw [← h1]
  rw [Int.add_mul_emod_self_left]
theorem turn_tmod2 (x b p : Int) (hp : 0 < p) (hx : 0 ≤ x) : (x + b.tmod p + p).tmod p = (x + b) % p := by
  have h1 := Int.tmod_add_mul_tdiv b p
  have h2 := Int.lt_tmod_of_pos b hp
  rw [Int.tmod_eq_emod_of_nonneg (a := x + b.tmod p + p) (by omega), Int.add_emod_right]
  conv => rhs; rw [← h1]
  rw [← Int.add_assoc, Int.add_mul_emod_self_left]
/-! ### What the functions come to -/
def circleOf (xs : List Int) (p : Int) : List Int × Bool := if good xs p && decide ((xs.length : Int) ≤ p) then (cdrive p xs, true) else ([], false)
def freeOf (xs : List Int) : Int × Bool := if circB xs then (cfree xs, true) else (0, false)
def turnOf (xs : List Int) (p b : Int) : List Int × Bool := if good xs p && inB b (-1000) 1000 then (turn xs p b, true) else ([], false)
def classOf (xs : List Int) : List Int × Int × Bool := if circB xs then (turn xs ((xs.length : Int) + 1) ((xs.length : Int) - cfree xs), (xs.length : Int) - cfree xs, true) else ([], 0, false)
end Go.Proofs.YtfjeadnakbdkjaaGreat

namespace Go.Proofs.YtfjeadnakbdkjaaGreat
open Go.RowKit

/-- The total distance: the places are those from 0 on. -/
def tot (xs : List Int) : Int := total (upto xs.length) - total xs
theorem upto_succ (n : Nat) : upto (n + 1) = upto n ++ [(n : Int)] := by simp [upto, List.range_succ]
theorem drive_upto {xs : List Int} (h : isPark xs = true) : total (drive xs.length xs) = total (upto xs.length) := by
  obtain ⟨h1, h2, h3⟩ := isPark_iff.1 h
  have hnd := drive_nodup h2 h3
  have hbd := drive_bounds h2 h3
  have hl := length_drive (xs.length : Int) xs
  refine total_perm ?_
  have hd2 : (upto xs.length).Nodup := by
    unfold upto List.Nodup
    rw [List.pairwise_map]
    exact List.nodup_range.imp fun h e => h (by omega)
  rw [List.perm_ext_iff_of_nodup hnd hd2]
  intro z
  unfold upto
  rw [List.mem_map]
  constructor
  · intro hz
    have := hbd z hz
    exact ⟨z.toNat, by rw [List.mem_range]; omega, by omega⟩
  · rintro ⟨i, hi, rfl⟩
    rw [List.mem_range] at hi
    apply Classical.byContradiction
    intro hz
    have := nodup_le xs.length ((i : Int) :: drive xs.length xs) (List.nodup_cons.2 ⟨hz, hnd⟩) (fun x hx => by
      rcases List.mem_cons.1 hx with rfl | hx
      · omega
      · exact hbd x hx)
    simp at this
    omega
theorem dists_tot {xs : List Int} (h : isPark xs = true) : total (dists xs.length xs) = tot xs := by
  rw [total_dists, drive_upto h]
  rfl
theorem total_nonneg {ys : List Int} (h : ∀ y ∈ ys, 0 ≤ y) : 0 ≤ total ys := by
  have : ∀ (ys : List Int) (c : Int), 0 ≤ c → (∀ y ∈ ys, 0 ≤ y) → 0 ≤ ys.foldl (· + ·) c := by
    intro ys
    induction ys with
    | nil => intro c hc _; exact hc
    | cons y ys ih =>
      intro c hc hy
      have := hy y (by simp)
      exact ih (c + y) (by omega) fun z hz => hy z (by simp [hz])
  exact this ys 0 (Int.le_refl _) h
theorem dists_nonneg {xs : List Int} (h : isPark xs = true) : ∀ y ∈ dists xs.length xs, 0 ≤ y := by
  obtain ⟨h1, h2, h3⟩ := isPark_iff.1 h
  intro y hy
  obtain ⟨i, hi, rfl⟩ := mem_nth hy
  rw [length_dists] at hi
  rw [nth_dists hi]
  have := (car_at hi h2 h3).1
  omega
/-- The greatest total distance. -/
def mostD (n : Nat) : Nat := n * (n - 1) / 2
theorem total_upto' (n : Nat) : total (upto n) = (mostD n : Int) := by
  have h := total_upto n
  unfold mostD
  cases n with
  | zero => rfl
  | succ n =>
    rw [show ((n + 1 : Nat) : Int) - 1 = (n : Int) by omega, ← Int.natCast_mul] at h
    rw [Nat.add_sub_cancel]
    omega
theorem tot_bounds {xs : List Int} (h : isPark xs = true) : 0 ≤ tot xs ∧ tot xs < ((mostD xs.length + 1 : Nat) : Int) := by
  have h1 := dists_tot h
  have h2 := total_nonneg (dists_nonneg h)
  have h3 := total_nonneg fun x hx => ((isPark_bounds h).2 x hx).1
  have h4 := total_upto' xs.length
  unfold tot at *
  omega
/-- A parking function with a total distance. -/
def wit (n : Nat) (s : Int) : List Int := (List.range n).map fun (i : Nat) => max 0 (min (i : Int) (s - (i : Int) * ((i : Int) - 1) / 2))
theorem wits : ∀ n, n < 6 → ∀ d, d < mostD n + 1 → isPark (wit n ((mostD n : Int) - (d : Int))) = true ∧ tot (wit n ((mostD n : Int) - (d : Int))) = (d : Int) ∧ (wit n ((mostD n : Int) - (d : Int))).length = n := by decide +kernel
theorem mem_list {xs : List Int} {n : Nat} (h : isPark xs = true) (hn : xs.length = n) : xs ∈ listL n n [] := by
  obtain ⟨h8, hb⟩ := isPark_bounds h
  subst hn
  have hz := (isPark_zpark h8 fun x hx => (hb x hx).1).1 h
  have e := toI_toN (xs := xs) fun x hx => (hb x hx).1
  have hlt : ∀ x ∈ toN xs, x < xs.length := fun x hx => by
    obtain ⟨y, hy, rfl⟩ := List.mem_map.1 hx
    have := hb y hy
    omega
  have h1 := rk_lt (n := xs.length) (toN xs) [] (by simp [length_toN]) hlt (by rw [e]; simpa using hz)
  have h2 := at_rk (n := xs.length) (toN xs) [] (by simp [length_toN]) hlt (by rw [e]; simpa using hz)
  rw [length_toN] at h2
  rw [list_at xs.length [] (by simp), List.mem_map]
  exact ⟨rk xs.length [] (toN xs), by rw [List.mem_range]; exact h1, by rw [h2, e]; rfl⟩
/-- The total distances of all. -/
def tots (n : Nat) : List Int := (listL n n []).map tot
theorem list_parks {n : Nat} (h8 : n ≤ 8) {xs : List Int} (h : xs ∈ listL n n []) : isPark xs = true ∧ xs.length = n := by
  obtain ⟨_, _, _, hp⟩ := all_chain h8
  obtain ⟨i, hi, e⟩ := List.getElem_of_mem h
  have := hp i hi
  simpa [hi, e] using this
theorem tots_bounds {n : Nat} (h8 : n ≤ 8) : ∀ t ∈ tots n, 0 ≤ t ∧ t < ((mostD n + 1 : Nat) : Int) := by
  intro t ht
  obtain ⟨xs, hx, rfl⟩ := List.mem_map.1 ht
  obtain ⟨h1, h2⟩ := list_parks h8 hx
  have := tot_bounds h1
  rw [h2] at this
  exact this
/-- How many have each total distance. -/
def distCounts (n : Nat) : List Int := (List.range (mostD n + 1)).map fun (d : Nat) => occ (tots n) d
theorem runs_dist {n : Nat} (h5 : n ≤ 5) : runsTo (insSort (tots n)) (tots n).length = distCounts n := by
  have hperm := insSort_perm (tots n)
  have h1 := runs_all (s := insSort (tots n)) (m := mostD n + 1) (insSort_sorted _) (fun x hx => tots_bounds (by omega) x (hperm.mem_iff.1 hx))
  rw [length_insSort, occs_perm hperm] at h1
  rw [h1]
  refine occs_full fun v hv => ?_
  obtain ⟨w1, w2, w3⟩ := wits n (by omega) v hv
  exact List.mem_map.2 ⟨_, mem_list w1 w3, w2⟩
def distOfN (n : Int) : List Int × Bool := if inB n 0 5 then (distCounts n.toNat, true) else ([], false)
theorem distOfN_yes {n : Nat} (h : inB (n : Int) 0 5 = true) : distOfN n = (distCounts n, true) := by simp [distOfN, h]
theorem distOfN_no {n : Int} (h : ¬ inB n 0 5 = true) : distOfN n = ([], false) := by simp [distOfN, h]
theorem mostD_small {n : Nat} (h : n ≤ 5) : mostD n ≤ 10 := by
  have : ∀ n, n < 6 → mostD n ≤ 10 := by decide
  exact this n (by omega)
end Go.Proofs.YtfjeadnakbdkjaaGreat

namespace Go.Proofs.YtfjeadnakbdkjaaGreat
open Go.RowKit

theorem grown_on {w w' w'' : World} {r : Option Nat} (h : w.grownBy w' r) (hb : Below w'.heap.size w' w'') : w.grownBy w'' r :=
  ⟨hb.os.trans h.os, hb.tape.trans h.tape, hb.output.trans h.output, Nat.le_trans h.size hb.size, fun j hj hne => (hb.block j (Nat.lt_of_lt_of_le hj h.size)).trans (h.block j hj hne)⟩
theorem grown_set {w w' : World} {g i : Nat} (h : w.grownBy w' (some g)) (v : Value) : w.grownBy (w'.setCell ⟨g, i, none⟩ v) (some g) :=
  ⟨h.os, h.tape, h.output, by simpa using h.size, fun j hj hne => by
    rw [heap_setCell_other w' ⟨g, i, none⟩ j v (by intro e; exact hne (by simp [e]))]
    exact h.block j hj hne⟩
/-- The counts of the first k. -/
def Hist (ts : List Int) (m k : Nat) (zs : List Int) : Prop := ∀ d : Nat, d < m → nth zs d = occ (ts.take k) d
theorem hist_first (ts : List Int) (m : Nat) : Hist ts m 0 (List.replicate m 0) := fun d _ => by
  rw [nth_replicate0]
  simp [occ]
theorem hist_step {ts zs : List Int} {m k d : Nat} (h : Hist ts m k zs) (hk : k < ts.length) (hd : nth ts k = (d : Int)) (hm : d < m) (hl : zs.length = m) : Hist ts m (k + 1) (zs.set d (nth zs d + 1)) := fun e he => by
  rw [nth_set (by omega), occ_succ hk, hd]
  by_cases x : d = e
  · subst x
    rw [if_pos rfl, if_pos rfl, h d hm]
  · rw [if_neg x, if_neg (by omega), h e he, Int.add_zero]
theorem hist_le {ts zs : List Int} {m k d : Nat} (h : Hist ts m k zs) (hd : d < m) (hk : k ≤ ts.length) : 0 ≤ nth zs d ∧ nth zs d ≤ ts.length := by
  rw [h d hd]
  unfold occ
  have := List.count_le_length (a := (d : Int)) (l := ts.take k)
  simp at this
  omega
theorem hist_done {n m : Nat} {zs : List Int} (h : Hist (tots n) m (tots n).length zs) (hm : m = mostD n + 1) (hl : zs.length = m) : distCounts n = zs := by
  subst hm
  refine ext_nth (by simp [distCounts, hl]) fun i hi => ?_
  simp [distCounts] at hi
  rw [h i (by omega), List.take_length]
  simp [nth, distCounts, show i < mostD n + 1 by omega]
theorem cnt_le5' {n : Nat} (h : n ≤ 5) : cnt n ≤ 1296 := by
  have : ∀ n, n < 6 → cnt n ≤ 1296 := by decide +kernel
  exact this n (by omega)
theorem tots_length {n : Nat} (h8 : n ≤ 8) : (tots n).length = cnt n := by
  unfold tots
  rw [List.length_map]
  exact (all_chain h8).2.2.1
theorem most_facts : ∀ n : Nat, n < 6 → (n : Int) * ((n : Int) - 1) ≤ 20 ∧ 0 ≤ (n : Int) * ((n : Int) - 1) ∧ (n : Int) * ((n : Int) - 1) / 2 + 1 = ((mostD n + 1 : Nat) : Int) := by decide
/-- A row of all. -/
theorem row_all {n q : Nat} {rs : List Rw} (h8 : n ≤ 8) (hn : numsOf rs = listL n n []) (hq : rs.length = q) {k : Nat} (hk : k < q) : isPark (nthR rs k).xs = true ∧ (nthR rs k).xs.length = n ∧ nth (tots n) k = tot (nthR rs k).xs ∧ k < (tots n).length := by
  have h1 := map_nthR Rw.xs (rs := rs) (i := k) (by omega)
  have h2 : (listL n n [])[k]? = some (nthR rs k).xs := by rw [← hn]; exact h1
  have hm := List.mem_of_getElem? h2
  obtain ⟨p1, p2⟩ := list_parks h8 hm
  refine ⟨p1, p2, ?_, ?_⟩
  · simp [nth, tots, h2]
  · have := (List.getElem?_eq_some_iff.1 h2).1
    simpa [tots] using this
theorem park_dists {xs : List Int} (h : isPark xs = true) : Small (dists xs.length xs) := by
  obtain ⟨h1, h2, h3⟩ := isPark_iff.1 h
  intro i hi
  rw [length_dists] at hi
  rw [nth_dists hi]
  have a := car_at hi h2 h3
  have b := h2 _ (nth_mem (xs := xs) (i := i) hi)
  omega

end Go.Proofs.YtfjeadnakbdkjaaGreat

namespace Go.Proofs.YtfjeadnakbdkjaaGreat
open Go.RowKit

theorem ordersOf_yes {xs : List Int} {n : Nat} (h : isPark xs = true) (hn : xs.length = n) : ordersOf xs = ((ordersN xs n : Int), true) := by simp [ordersOf, h, hn]
theorem ordersOf_no {xs : List Int} (h : ¬ isPark xs = true) : ordersOf xs = (0, false) := by simp [ordersOf, h]
theorem ordersN_none (m : Nat) : ordersN [] m = 1 := by
  unfold ordersN
  have := occs_more (s := []) (m := 0) m (fun v _ _ => by simp [occ])
  rw [Nat.zero_add] at this
  rw [this]
  rfl
theorem count_take {xs : List Int} {k : Nat} (h : k < xs.length) (x : Int) : (xs.take (k + 1)).count x = (xs.take k).count x + if nth xs k = x then 1 else 0 := by
  rw [take_succ_nth h, List.count_append, List.count_singleton]
  simp only [beq_iff_eq]

end Go.Proofs.YtfjeadnakbdkjaaGreat

namespace Go.Proofs.YtfjeadnakbdkjaaGreat
open Go.RowKit

end Go.Proofs.YtfjeadnakbdkjaaGreat

namespace Go.Proofs.YtfjeadnakbdkjaaGreat
open Go.RowKit

theorem cut_from {xs : List Int} {n j : Nat} (hn : xs.length = n) (h1 : 1 ≤ j) : isCut xs j = ((n : Int) - (from' xs j : Int) == (j : Int)) := by
  have := from_below xs j
  unfold isCut
  rw [Bool.eq_iff_iff]
  simp
  omega

theorem idxs_one {f : Nat → Bool} (h : f 0 = false) : idxs f 1 = [] := by simp [idxs, List.range_succ, h]

/-- What b's numbers become. -/
def shifted (ys : List Int) (d : Int) : List Int := ys.map (· + d)
theorem shifted_succ {ys : List Int} {d : Int} {k : Nat} (h : k < ys.length) : (shifted ys d).take (k + 1) = (shifted ys d).take k ++ [nth ys k + d] := by
  rw [take_succ_nth (by simpa [shifted] using h)]
  simp [shifted, nth, h]
theorem length_shifted (ys : List Int) (d : Int) : (shifted ys d).length = ys.length := by simp [shifted]
theorem join_yes {xs ys : List Int} {n m : Nat} (hn : xs.length = n) (hm : ys.length = m) (hx : isPark xs = true) (hy : isPark ys = true) (h : n + m ≤ 8) : joinOf xs ys = (xs ++ shifted ys n, true) := by
  simp [joinOf, hx, hy, hn, hm, h, shifted]
theorem park_bounds {ys : List Int} {m : Nat} (hm : ys.length = m) (h : isPark ys = true) : ∀ i, i < m → 0 ≤ nth ys i ∧ nth ys i ≤ (m : Int) - 1 := by
  intro i hi
  have := (isPark_iff.1 h).2.1 _ (nth_mem (xs := ys) (i := i) (by omega))
  omega

end Go.Proofs.YtfjeadnakbdkjaaGreat

namespace Go.Proofs.YtfjeadnakbdkjaaGreat
open Go.RowKit

theorem cut_below {xs : List Int} {j : Nat} (h1 : 1 ≤ j) : isCut xs j = ((below xs j : Int) == (j : Int)) := by
  unfold isCut
  rw [Bool.eq_iff_iff]
  simp
  omega

end Go.Proofs.YtfjeadnakbdkjaaGreat

namespace Go.Proofs.YtfjeadnakbdkjaaGreat
open Go.RowKit

theorem isCarNumber_any (n : Int) (w : World) :
    Calls Tryz.prog 33 #[.int .i64 n] w fun e w' => e = .returned (.bool (inB n 0 8)) ∧ w = w' := by
  by_cases h1 : 0 ≤ n
  · by_cases h2 : n ≤ 8
    · have HR : Hid (inB n 0 8 = true) := hid (inB_iff.2 ⟨h1, h2⟩)
      go_enter Tryz.func33, Tryz.ntmps33
      go_wp2_with fail
      go_ret
      exact ⟨ret_bool HR.out.symm, rfl⟩
    · have HR : Hid (inB n 0 8 = false) := hid (by rw [inB_not]; omega)
      go_enter Tryz.func33, Tryz.ntmps33
      go_wp2_with fail
      go_ret
      exact ⟨ret_bool HR.out.symm, rfl⟩
  · have HR : Hid (inB n 0 8 = false) := hid (by rw [inB_not]; omega)
    go_enter Tryz.func33, Tryz.ntmps33
    go_wp2_with fail
    go_ret
    exact ⟨ret_bool HR.out.symm, rfl⟩

set_option maxHeartbeats 400000 in
theorem power_any (b k : Nat) (w : World) (hb : b ≤ 13) (hk : k ≤ 8) :
    Calls Tryz.prog 55 #[.int .i64 (b : Int), .int .i64 (k : Int)] w fun e w' => e = .returned (.int .i64 ((b ^ k : Nat) : Int)) ∧ w = w' := by
  go_enter Tryz.func55, Tryz.ntmps55
  go_wp2_with fail
  go_loop [5, 7] (fun o i => ∃ j : Nat, j ≤ k ∧ i = .int .i64 (j : Int) ∧ o = .int .i64 ((b ^ j : Nat) : Int)) (fun _ i => k - (intOf i).toNat)
  case atStart => exact ⟨0, Nat.zero_le _, rfl, by simp⟩
  case round =>
    obtain ⟨j, hj, rfl, rfl⟩ := hrel
    have hp := pow_small b (by omega) j (by omega)
    by_cases hlt : j < k
    · have hq := pow_small b (by omega) (j + 1) (by omega)
      have HP : Hid (((b ^ (j + 1) : Nat) : Int) = ((b ^ j : Nat) : Int) * (b : Int)) := hid (by rw [Nat.pow_succ, Int.natCast_mul])
      obtain ⟨q, hqe⟩ : ∃ q, b ^ (j + 1) = q := ⟨_, rfl⟩
      have HQ := hid hqe
      rw [hqe] at hq HP
      clear hqe
      have hq1 : ((b ^ j : Nat) : Int) * (b : Int) ≤ 815730721 := by rw [← HP.out]; exact Int.ofNat_le.2 hq
      have hq0 : 0 ≤ ((b ^ j : Nat) : Int) * (b : Int) := by rw [← HP.out]; exact Int.natCast_nonneg _
      clear hq
      generalize b ^ j = p at *
      go_wp2_with fail
      go_round
      case rel => exact ⟨j + 1, by omega, by go_num, by rw [HQ.out, HP.out]⟩
      case measure => simp [intOf]; omega
    · obtain rfl : j = k := by omega
      go_wp2_with fail
      go_ret
      exact ⟨rfl, rfl⟩
theorem power_at (b k r : Nat) (B K : Int) (w : World) (hB : B = (b : Int)) (hK : K = (k : Int)) (hb : b ≤ 13) (hk : k ≤ 8) (hr : Hid (b ^ k = r)) :
    Calls Tryz.prog 55 #[.int .i64 B, .int .i64 K] w fun e w' => e = .returned (.int .i64 (r : Int)) ∧ w = w' := by
  subst hB hK
  have := hr.out
  subst this
  exact power_any b k w hb hk

set_option maxHeartbeats 800000 in
theorem streetN_any (c q : Nat) (w : World) (hc : c ≤ 8) (hq : q ≤ 12) :
    Calls Tryz.prog 34 #[.int .i64 (c : Int), .int .i64 (q : Int)] w fun e w' => e = .returned (.int .i64 (streetCnt c q : Int)) ∧ w = w' := by
  cases c with
  | zero =>
    go_enter Tryz.func34, Tryz.ntmps34
    go_wp2_with fail
    go_ret
    exact ⟨rfl, rfl⟩
  | succ k =>
    have hbe : ((k : Int) + 1 == 0) = false := by simp; omega
    by_cases hlt : q < k + 1
    · have HS : Hid (streetCnt (k + 1) q = 0) := hid (by simp [streetCnt, hlt])
      have hlt' : (q : Int) < (k : Int) + 1 := by omega
      go_enter Tryz.func34, Tryz.ntmps34
      go_wp2_with fail
      go_ret
      exact ⟨ret_int (by rw [HS.out]; rfl), rfl⟩
    · have hs := street_small (k + 1) (by omega) q (by omega) (by omega) (by omega)
      have hpw := pow_small (q + 1) (by omega) k (by omega)
      have hS : streetCnt (k + 1) q = (q + 1 - (k + 1)) * (q + 1) ^ k := by simp [streetCnt, hlt]
      rw [show k + 1 - 1 = k from rfl] at hs
      obtain ⟨r, hre⟩ : ∃ r, (q + 1) ^ k = r := ⟨_, rfl⟩
      have HE := hid hre
      rw [hre] at hs hpw hS
      have hi : (((q + 1 - (k + 1)) * r : Nat) : Int) = ((q : Int) + 1 - ((k : Int) + 1)) * (r : Int) := by
        rw [Int.natCast_mul]
        congr 1
        omega
      have HS : Hid ((streetCnt (k + 1) q : Int) = ((q : Int) + 1 - ((k : Int) + 1)) * (r : Int)) := hid (by rw [hS, hi])
      have hi1 : ((q : Int) + 1 - ((k : Int) + 1)) * (r : Int) ≤ 815730721 := by rw [← hi]; exact Int.ofNat_le.2 hs
      have hi0 : 0 ≤ ((q : Int) + 1 - ((k : Int) + 1)) * (r : Int) := by rw [← hi]; exact Int.natCast_nonneg _
      clear hre hS hi hs
      have hnl : ¬ (q : Int) < (k : Int) + 1 := by omega
      go_enter Tryz.func34, Tryz.ntmps34
      go_wp2_with (go_at_call 55; refine (power_at (q + 1) k r _ _ _ (by omega) (by omega) (by omega) (by omega) HE).mono ?_; rintro e w' ⟨rfl, rfl⟩)
      go_ret
      exact ⟨ret_int HS.out.symm, rfl⟩

theorem streetCnt_le {c q : Nat} (hc : c ≤ 8) (hq : q ≤ 12) : streetCnt c q ≤ 815730721 := by
  have : ∀ c, c < 9 → ∀ q, q < 13 → streetCnt c q ≤ 815730721 := by decide +kernel
  exact this c (by omega) q (by omega)
theorem streetCnt_self : ∀ n, n < 9 → streetCnt n n = cnt n := by decide +kernel

set_option maxHeartbeats 400000 in
theorem countParking_any (n : Int) (w : World) : Calls Tryz.prog 16 #[.int .i64 n] w (PostInt w (countOf n)) := by
  by_cases hg : inB n 0 8 = true
  · obtain ⟨m, rfl⟩ : ∃ m : Nat, n = (m : Int) := ⟨n.toNat, by have := inB_iff.1 hg; omega⟩
    have hm : m ≤ 8 := by have := inB_iff.1 hg; omega
    have HR : Hid (countOf m = ((streetCnt m m : Int), true)) := hid (by simp [countOf, hg, streetCnt_self m (by omega)])
    have HG := hid hg
    clear hg
    go_enter Tryz.func16, Tryz.ntmps16
    go_wp2_with (first | (go_at_call 33; refine (isCarNumber_any _ _).mono ?_; rintro e w' ⟨rfl, rfl⟩; rw [HG.out]) | (go_at_call 34; refine (streetN_any _ _ _ hm (by omega)).mono ?_; rintro e w' ⟨rfl, rfl⟩))
    go_ret2
    exact postInt HR.out (Below.refl _ _)
  · have HR : Hid (countOf n = (0, false)) := hid (by simp [countOf, hg])
    have HG := hid hg
    clear hg
    go_enter Tryz.func16, Tryz.ntmps16
    go_wp2_with (go_at_call 33; refine (isCarNumber_any _ _).mono ?_; rintro e w' ⟨rfl, rfl⟩; rw [Bool.eq_false_iff.2 HG.out])
    go_ret2
    exact postInt HR.out (Below.refl _ _)

end Go.Proofs.YtfjeadnakbdkjaaGreat

namespace Go.Proofs.YtfjeadnakbdkjaaGreat
open Go.RowKit

theorem cells_add {w : World} {b off n : Nat} {us : List Value} (h : ∀ i, i < n → w.cell? ⟨b, off + i, none⟩ = us[i]?) (hl : us.length = n) : ∀ j v, us[j]? = some v → w.cell? ⟨b, off + j, none⟩ = some v := by
  intro j v hv
  have hj := (List.getElem?_eq_some_iff.1 hv).1
  rw [h j (by omega), hv]

theorem runs_le (s : List Int) : ∀ k i, 0 ≤ nth (runsTo s k) i ∧ nth (runsTo s k) i ≤ k
  | 0, i => by simp [runsTo, nth]
  | k + 1, i => by
    have ih := runs_le s k
    simp only [runsTo]
    split
    · by_cases e : i < (runsTo s k).length
      · rw [nth_append_left e]; have := ih i; omega
      · by_cases e2 : i = (runsTo s k).length
        · subst e2; rw [nth_append_at]; omega
        · have : nth (runsTo s k ++ [1]) i = 0 := by simp [nth, List.getElem?_append, e, show ¬ i - (runsTo s k).length = 0 by omega]
          omega
    · by_cases h0 : (runsTo s k).length = 0
      · have : runsTo s k = [] := List.eq_nil_of_length_eq_zero h0
        rw [this]
        simp [nth]
        omega
      · rw [nth_set (by omega)]
        split
        · have := ih ((runsTo s k).length - 1); omega
        · have := ih i; omega
theorem set_last0 (rs : List Int) : (rs ++ [0]).set rs.length 1 = rs ++ [1] := by
  rw [List.set_append_right _ _ (Nat.le_refl _)]
  simp

/-! ### Groups -/
theorem groups_cars (gs : List Int) : (groups gs).2 = (gs.map Int.toNat).sum := by
  have : ∀ (gs : List Int) (r : Nat × Nat), (gs.foldl (fun r g => (r.1 * chs (r.2 + g.toNat) g.toNat, r.2 + g.toNat)) r).2 = r.2 + (gs.map Int.toNat).sum := by
    intro gs
    induction gs with
    | nil => intro r; simp
    | cons g gs ih => intro r; simp only [List.foldl_cons, List.map_cons, List.sum_cons]; rw [ih]; simp only; omega
  have h := this gs (1, 0)
  simpa [groups] using h
theorem groups_take_le (gs : List Int) (k : Nat) : (groups (gs.take k)).2 ≤ (groups gs).2 := by
  rw [groups_cars, groups_cars]
  conv => rhs; rw [← List.take_append_drop k gs]
  rw [List.map_append, List.sum_append]
  omega
theorem groups_succ {gs : List Int} {k : Nat} (h : k < gs.length) : groups (gs.take (k + 1)) = ((groups (gs.take k)).1 * chs ((groups (gs.take k)).2 + (nth gs k).toNat) (nth gs k).toNat, (groups (gs.take k)).2 + (nth gs k).toNat) := by
  rw [take_succ_nth h, groups_snoc]
theorem groups_small {gs : List Int} (h : (groups gs).2 ≤ 8) : (groups gs).1 ≤ 40320 := by
  have h1 := groups_fct _ gs rfl (by omega)
  have h2 : ∀ n, n < 9 → fct n ≤ 40320 := by decide
  have h3 := h2 (groups gs).2 (by omega)
  have h4 : 0 < fcts gs := by
    unfold fcts
    have : ∀ (gs : List Int) (r : Nat), 0 < r → 0 < gs.foldl (fun r g => r * fct g.toNat) r := by
      intro gs
      induction gs with
      | nil => intro r hr; exact hr
      | cons g gs ih => intro r hr; exact ih _ (Nat.mul_pos hr (fct_pos _))
    exact this gs 1 (by omega)
  have := Nat.le_mul_of_pos_right (groups gs).1 h4
  omega
theorem occs_nonneg (s : List Int) (m : Nat) : ∀ x ∈ occs s m, 0 ≤ x := by
  intro x hx
  unfold occs at hx
  obtain ⟨v, _, rfl⟩ := List.mem_map.1 (List.mem_filter.1 hx).1
  unfold occ
  omega
theorem orders_runs {xs : List Int} {n : Nat} (hp : isPark xs = true) (hn : xs.length = n) : runsTo (insSort xs) n = occs xs n ∧ ordersOf xs = (((groups (occs xs n)).1 : Int), true) ∧ (groups (occs xs n)).2 = n ∧ n ≤ 8 := by
  obtain ⟨h8, hb⟩ := isPark_bounds hp
  have hb' : ∀ x ∈ xs, 0 ≤ x ∧ x < (n : Int) := fun x hx => by have := hb x hx; omega
  have hperm := insSort_perm xs
  have h1 := runs_all (s := insSort xs) (m := n) (insSort_sorted xs) (fun x hx => hb' x (hperm.mem_iff.1 hx))
  rw [length_insSort, hn, occs_perm hperm] at h1
  refine ⟨h1, by rw [ordersOf_yes hp hn]; rfl, ?_, by omega⟩
  rw [groups_sum, sum_counts xs hb', hn]

end Go.Proofs.YtfjeadnakbdkjaaGreat

namespace Go.Proofs.YtfjeadnakbdkjaaGreat
open Go.RowKit

/-- The first k numbers of a mixture are laid. -/
def Mixed (zs ys : List Int) (k : Nat) : Prop := ∀ i, i < k → nth ys i = nth zs i

theorem mix_nth {xs ys : List Int} {low : Bool} {k : Nat} (hx : k < xs.length) (hy : k < ys.length) : nth (mixWith xs ys low) k = if low then min (nth xs k) (nth ys k) else max (nth xs k) (nth ys k) := by
  simp [nth, mixWith, List.getElem?_zipWith, hx, hy]

end Go.Proofs.YtfjeadnakbdkjaaGreat

namespace Go.Proofs.YtfjeadnakbdkjaaGreat
open Go.RowKit

set_option maxHeartbeats 400000 in
theorem sort_any (B : Nat) (a : Option Addr) (n cap : Nat) (xs : List Int) (w : World) (h : Own w B a n cap xs) :
    Calls Tryz.prog 89 #[.slice a n cap] w fun e w' => e = .returned (.tuple #[]) ∧ Own w' B a n cap (insSort xs) ∧ Marked w w' a := by
  have hlen := h.len
  by_cases h0 : n = 0
  · subst h0
    refine (Tryz.slices_Sort_int_none a cap w).mono fun e w' ⟨he, hw⟩ => ⟨he, ?_, ?_⟩
    · subst hw
      obtain rfl : xs = [] := List.eq_nil_of_length_eq_zero hlen
      exact h
    · subst hw
      exact ⟨none, World.grownBy.refl _ _, by simp⟩
  · obtain ⟨g, rfl, hg1, hg2, hg3, hg4⟩ := h.opened (by omega)
    have hH : Go.Sort.Holds (Value.int .i64) w g 0 xs.toArray := by
      intro j hj
      have hj' : j < xs.length := by simpa using hj
      refine ⟨?_, hg4 _⟩
      rw [Nat.zero_add, hg3 j (by omega)]
      simp [nth, hj']
    subst hlen
    have hle := h.le
    refine (Tryz.slices_Sort_int g 0 cap xs w hH hg2 (by omega)).mono fun e w' ⟨he, k, os, hw⟩ => ⟨he, ?_, ?_⟩
    · rw [mergeSort_insSort] at hw
      subst hw
      rcases h.1.2 with ⟨h1, _⟩ | ⟨g', cap', cur, hv, hbase, hb, h1, h2, h3, h4⟩
      · simp at h1
      · simp at hv
        obtain ⟨rfl, rfl⟩ := hv
        exact ⟨Go.ownsRow_sortedI (length_insSort xs) hbase hb h1 h2 h3, length_insSort xs, hle⟩
    · subst hw
      exact ⟨some g, Go.grownBy_sortedI _, fun g' hg' => ⟨_, rfl, by simpa using hg'⟩⟩

set_option maxHeartbeats 400000 in
theorem clone_any (a : Option Addr) (n cap : Nat) (xs : List Int) (w : World) (h : Has w a n cap xs) :
    Calls Tryz.prog 58 #[.slice a n cap] w fun e w' => ∃ a' cap', e = .returned (.slice a' n cap') ∧ Own w' w.heap.size a' n cap' xs ∧ Below w.heap.size w w' := by
  obtain ⟨h0, h1, h2, h3, h4⟩ := h
  by_cases hn : n = 0
  · subst hn
    obtain rfl : xs = [] := List.eq_nil_of_length_eq_zero h0
    cases a with
    | none => exact (Tryz.slices_Clone_int_nil 0 cap w).mono fun e w' ⟨he, hw⟩ => by subst hw; exact ⟨none, 0, he, Own.nil _ _, Below.refl _ _⟩
    | some p =>
      refine (Tryz.slices_Clone_int_zero p cap w).mono fun e w' ⟨v', he, ho, _, hb⟩ => ?_
      obtain ⟨a', cap', rfl, ho'⟩ := own_of_row (xs := []) ho rfl rfl (by simp)
      exact ⟨a', cap', he, ho', hb⟩
  · obtain ⟨b, off, rfl, _, hc⟩ := h4 (by omega)
    refine (Tryz.slices_Clone_int b off n cap xs w (by omega) (by omega) (fun j hj => hc j (by omega))).mono fun e w' ⟨v', he, ho, _, hb⟩ => ?_
    obtain ⟨a', cap', rfl, ho'⟩ := own_of_row (xs := xs) ho h0.symm (by rw [List.take_of_length_le (by omega)]) (by omega)
    exact ⟨a', cap', he, ho', hb⟩

end Go.Proofs.YtfjeadnakbdkjaaGreat

namespace Go.Proofs.YtfjeadnakbdkjaaGreat
open Go.RowKit

set_option maxHeartbeats 800000 in
theorem isUnder_any (a b : Option Addr) (n cap m capb : Nat) (xs bs : List Int) (w : World) (h : Has w a n cap xs) (h' : Has w b m capb bs) (hnm : n ≤ m) :
    Calls Tryz.prog 70 #[.slice a n cap, .slice b m capb] w fun e w' => e = .returned (.bool (undTo (insSort xs) bs n)) ∧ Below w.heap.size w w' := by
  go_enter Tryz.func70, Tryz.ntmps70
  go_wp2_with fail
  refine (clone_any _ _ _ _ _ h).mono ?_
  rintro e w1 ⟨a1, cap1, rfl, hown1, hb1⟩
  go_wp2_with fail
  refine (sort_any _ _ _ _ _ _ hown1).mono ?_
  rintro e w2 ⟨rfl, hown2, hm2⟩
  have hb2 := hb1.trans (hm2.below hown1.ge hb1.size)
  have h2 := h'.below hb2 (Nat.le_refl _)
  obtain ⟨k0, k1, k2, k3, k4⟩ := hown2.has
  obtain ⟨-, j1, j2, -, j4⟩ := h2
  clear k0 hm2 hown1 hown2 hb1
  go_wp2_with fail
  go_loop [14] (fun i => ∃ k : Nat, k ≤ n ∧ i = .int .i64 k ∧ Hid (undTo (insSort xs) bs k = true)) (fun i => n - (intOf i).toNat)
  case atStart => exact ⟨0, Nat.zero_le _, rfl, hid rfl⟩
  case round =>
    obtain ⟨k, hk, rfl, HF⟩ := hrel
    by_cases hlt : k < n
    · obtain ⟨b1, off1, rfl, hbb1, hc1⟩ := k4 (by omega)
      obtain ⟨b2, off2, rfl, hbb2, hc2⟩ := j4 (by omega)
      have hck1 := hc1 k hlt
      have hck2 := hc2 k (by omega)
      have hkm : (k : Int) < (m : Int) := by omega
      have hkz : (0 : Int) ≤ (k : Int) := by omega
      clear hc1 hc2 k4 j4
      by_cases hz : nth (insSort xs) k < 0
      · have HU2 : Hid (undTo (insSort xs) bs n = false) := hid (undTo_no hlt fun hh => by omega)
        go_wp2_with fail
        go_ret
        exact ⟨ret_bool HU2.out.symm, hb2⟩
      · by_cases ht : nth (insSort xs) k ≤ nth bs k
        · have HU2 : Hid (undTo (insSort xs) bs (k + 1) = true) := hid (by rw [undTo_succ, HF.out]; simp [ht]; omega)
          go_wp2_with fail
          go_round
          case rel => exact ⟨k + 1, by omega, by go_num, HU2⟩
          case measure => simp [intOf]; omega
        · have HU2 : Hid (undTo (insSort xs) bs n = false) := hid (undTo_no hlt fun hh => ht hh.2)
          go_wp2_with fail
          go_ret
          exact ⟨ret_bool HU2.out.symm, hb2⟩
    · obtain rfl : k = n := by omega
      go_wp2_with fail
      go_ret
      exact ⟨ret_bool HF.out.symm, hb2⟩

end Go.Proofs.YtfjeadnakbdkjaaGreat

namespace Go.Proofs.YtfjeadnakbdkjaaGreat
open Go.RowKit

/-- Numbers laid over the first ones. -/
def over0 (xs ys : List Int) : List Int := ys.take xs.length ++ xs.drop ys.length
theorem length_over0 (xs ys : List Int) : (over0 xs ys).length = xs.length := by simp [over0]; omega
theorem over0_all {xs ys : List Int} (h : ys.length = xs.length) : over0 xs ys = ys := by
  simp [over0, h, List.take_of_length_le (Nat.le_of_eq h)]
theorem over0_nth {xs ys : List Int} (h : ys.length ≤ xs.length) (i : Nat) : nth (over0 xs ys) i = if i < ys.length then nth ys i else nth xs i := by
  unfold over0
  rw [List.take_of_length_le h]
  split
  · rw [nth_append_left (by assumption)]
  · simp only [nth, List.getD_eq_getElem?_getD, List.getElem?_append, List.getElem?_drop]
    rw [if_neg (by assumption), show ys.length + (i - ys.length) = i by omega]

theorem wpList_copy_intsT (T S : TypeId) (hT : Tryz.prog.underlying T = some (.slice 3)) {ops : Array Oper} {rest : List Oper} {o : Oper} {a : Act} {Q : Exit → Act → World → Prop} (w : World) (hgd : o.guard = none) (d s : Operand)
    (ho : o.op = .call { callee := .builtin .copy, args := #[d, s], argTypes := #[T, S] })
    (B : Nat) (a0 a1 : Option Addr) (n m cap cap1 : Nat) (xs ys : List Int) (hd : a.eval d = .slice a0 n cap) (hs : a.eval s = .slice a1 m cap1)
    (hown : Own w B a0 n cap xs) (hhas : Has w a1 m cap1 ys) (hmn : m ≤ n)
    (h : ∀ w', Own w' B a0 n cap (over0 xs ys) → Below B w w' → wpList Tryz.prog ops Q rest (a.put o.dst (.int .i64 (m : Int))) w') :
    wpList Tryz.prog ops Q (o :: rest) a w := by
  have hlx := hown.len
  have hly := hhas.len
  obtain ⟨⟨h1, h2⟩, h3⟩ := hown
  obtain ⟨i0, hi, hz0, hz1, hz2⟩ := info_parts Tryz.infoInt
  have hsz : (Tryz.prog.info? 3).map (·.size) = some 1 := by rw [hi]; simp [hz1]
  rcases h2 with ⟨hv, hn⟩ | ⟨g, cap', cur, hv, hg, hh, hnc, hcm, hcs, htake⟩
  · simp at hv
    obtain ⟨rfl, _, rfl⟩ := hv
    obtain rfl : m = 0 := by omega
    refine wpList_copy_nothing hgd d s T S ho 3 hT hsz none a1 n 0 0 cap1 hd hs (by simp) ?_
    have hx : xs = [] := List.eq_nil_of_length_eq_zero (by omega)
    have hy : ys = [] := List.eq_nil_of_length_eq_zero (by omega)
    subst hx hy
    exact h w ⟨⟨h1, .inl ⟨by simp; omega, hn⟩⟩, h3⟩ (Below.refl _ _)
  · simp at hv
    obtain ⟨rfl, rfl⟩ := hv
    refine wpList_copy_splice hgd d s T S ho 3 hT hsz (some ⟨g, 0, none⟩) a1 n cap m cap1 hd hs g 0 cur.toList 3 (by simpa using hh) (ys.map (Value.int .i64)) (by rw [List.length_map, hly]; exact (Nat.min_eq_left hmn).symm) (fun hp => ⟨rfl, ?_⟩) (by simp; omega) (by intro v hv; obtain ⟨y, _, rfl⟩ := List.mem_map.1 hv; rfl) B w (Below.refl _ _) hg ?_
    · obtain ⟨b, off, rfl, _, _⟩ := hhas.2.2.2.2 (by simp at hp; omega)
      exact ⟨_, rfl, has_cells hhas⟩
    · intro w' hw' hb
      have e : (a.put o.dst (goInt (ys.map (Value.int .i64)).length)) = a.put o.dst (.int .i64 (m : Int)) := by simp [goInt, hly]
      rw [e]
      refine h w' ⟨⟨by rw [List.length_map, length_over0]; simpa using h1, .inr ⟨g, cap, _, rfl, hg, hw'.out, hnc, hcm, ?_, ?_⟩⟩, by rw [length_over0]; exact h3.1, h3.2⟩ hb
      · simp only [splice, Nat.zero_add, List.length_map]
        simp
        omega
      · have ht : cur.toList.take n = xs.map (Value.int .i64) := by simpa using htake
        simp only [splice, List.take_zero, List.nil_append, Nat.zero_add, List.length_map, Nat.mul_one, over0, List.map_append, List.map_take, List.map_drop]
        rw [List.take_append, List.take_of_length_le (by simp; omega), List.length_map, ← ht, List.take_of_length_le (l := ys.map (Value.int .i64)) (by simp; omega), List.drop_take]
theorem wpList_copy_ints {ops : Array Oper} {rest : List Oper} {o : Oper} {a : Act} {Q : Exit → Act → World → Prop} (w : World) (hgd : o.guard = none) (d s : Operand)
    (ho : o.op = .call { callee := .builtin .copy, args := #[d, s], argTypes := #[31, 31] })
    (B : Nat) (a0 a1 : Option Addr) (n m cap cap1 : Nat) (xs ys : List Int) (hd : a.eval d = .slice a0 n cap) (hs : a.eval s = .slice a1 m cap1)
    (hown : Own w B a0 n cap xs) (hhas : Has w a1 m cap1 ys) (hmn : m ≤ n)
    (h : ∀ w', Own w' B a0 n cap (over0 xs ys) → Below B w w' → wpList Tryz.prog ops Q rest (a.put o.dst (.int .i64 (m : Int))) w') :
    wpList Tryz.prog ops Q (o :: rest) a w := wpList_copy_intsT 31 31 Tryz.underlying31 w hgd d s ho B a0 a1 n m cap cap1 xs ys hd hs hown hhas hmn h

/-- 'make(T, n)' of integers. -/
theorem wpList_make_intsT (T : TypeId) (hT : Tryz.prog.underlying T = some (.slice 3)) {ops : Array Oper} {rest : List Oper} {o : Oper} {a : Act} {Q : Exit → Act → World → Prop} (w : World) (hgd : o.guard = none) (l c : Operand) (ho : o.op = Op.makeSlice T l c)
    (n : Nat) (hl : a.eval l = .int .i64 (n : Int)) (hc : a.eval c = .int .i64 (n : Int)) (hn : n ≤ 2097152)
    (h : ∀ a' cap' w', Own w' w.heap.size a' n cap' (List.replicate n 0) → Below w.heap.size w w' → wpList Tryz.prog ops Q rest (a.put o.dst (.slice a' n cap')) w') :
    wpList Tryz.prog ops Q (o :: rest) a w := by
  obtain ⟨i0, hi, hz0, hz1, hz2⟩ := info_parts Tryz.infoInt
  refine wpList_make_full (P := Tryz.prog) w hgd l c T ho w.heap.size 3 i0 (.int .i64 0) 1 hT hi hz0 hz1 .i64 .i64 n n n hl hc rfl rfl (by rw [hz2]; omega) (by unfold maxLen; omega) (Nat.le_refl _) ?_
  intro w' hown hgrow
  obtain ⟨a', cap', hv, ho'⟩ := own_of_row (xs := List.replicate n 0) hown (by simp) (by rw [show (Value.int IntKind.i64 0).cells = #[.int .i64 0] from rfl, toList_madeCells_one]; simp) (by simpa using hn)
  rw [hv]
  exact h _ _ _ ho' (below_grown hgrow (Nat.le_refl _) (by simp))
end Go.Proofs.YtfjeadnakbdkjaaGreat

namespace Go.Proofs.YtfjeadnakbdkjaaGreat
open Go.RowKit

theorem over0_candU {xs : List Int} {n c : Nat} (hn : xs.length = n) (hc : c < n) : (over0 (List.replicate n 0) (xs.take (c + 1))).set c (nth xs c + 1) = cand xs c := by
  refine ext_nth (by rw [List.length_set, length_over0, length_cand (by omega)]; simp [hn]) fun i hi => ?_
  rw [List.length_set, length_over0, List.length_replicate] at hi
  rw [nth_set (by rw [length_over0, List.length_replicate]; omega), over0_nth (by simp; omega)]
  have hl : (xs.take c).length = c := by simp; omega
  unfold cand
  by_cases e : c = i
  · subst e
    rw [if_pos rfl]
    simp only [nth, List.getD_eq_getElem?_getD]
    rw [List.getElem?_append_right (by omega)]
    simp [hl]
  · rw [if_neg e]
    by_cases h : i < c
    · rw [if_pos (by simp; omega), nth_take (by omega), nth_append_left (by omega), nth_take h]
    · rw [if_neg (by simp; omega)]
      simp only [nth, List.getD_eq_getElem?_getD]
      rw [List.getElem?_append_right (by omega), hl]
      obtain ⟨d, hd⟩ : ∃ d, i - c = d + 1 := ⟨i - c - 1, by omega⟩
      rw [hd]
      simp only [List.getElem?_cons_succ, List.getElem?_replicate]
      split <;> split <;> rfl

set_option maxRecDepth 100000 in
set_option maxHeartbeats 2000000 in
theorem nextU_any (a b : Option Addr) (n cap capb : Nat) (xs bs : List Int) (w : World) (h : Has w a n cap xs) (h' : Has w b n capb bs) (h8 : n ≤ 8) (hx : ∀ i, i < n → 0 ≤ nth xs i ∧ nth xs i ≤ 13) :
    Calls Tryz.prog 62 #[.slice a n cap, .slice b n capb] w (PostInts w (nextU bs xs n)) := by
  have HLEN := hid h.len
  have HX := hid hx
  have hcap := h.2.1
  have hmx : cap ≤ maxLen := h.2.2.1
  have hcapb := h'.2.1
  clear hx
  go_enter Tryz.func62, Tryz.ntmps62
  go_wp2_with fail
  go_loopw [6] (fun i wr => ∃ c : Nat, c ≤ n ∧ i = .int .i64 ((c : Int) - 1) ∧ Hid (nextU bs xs n = nextU bs xs c) ∧ Below w.heap.size w wr) (fun i _ => (intOf i + 1).toNat)
  case atStart => exact ⟨n, Nat.le_refl _, rfl, hid rfl, Below.refl _ _⟩
  case round =>
    obtain ⟨c, hc, rfl, HN, hb⟩ := hrel
    match c, hc, HN with
    | 0, hc, HN =>
      go_wp2_with fail
      go_ret2
      exact postInts_no (by rw [HN.out]; rfl) hb
    | c + 1, hc, HN =>
      have e : ((c + 1 : Nat) : Int) - 1 = (c : Int) := by omega
      rw [e]
      have hsz := hb.size
      have ht := (h.take (k := c + 1) (by omega)).below hb (Nat.le_refl _)
      have ht' := h'.below hb (Nat.le_refl _)
      obtain ⟨bk, off, rfl, hbb, hcc⟩ := h.2.2.2.2 (by omega)
      obtain ⟨x0, x1⟩ := HX.out c (by omega)
      have HC := hid (over0_candU HLEN.out (show c < n by omega))
      have HS : Hid (nextU bs xs (c + 1) = if und bs (cand xs c) then (cand xs c, true) else nextU bs xs c) := hid rfl
      have HUN : Hid (undTo (insSort (cand xs c)) bs n = und bs (cand xs c)) := hid (by unfold und; rw [length_cand (by rw [HLEN.out]; omega), HLEN.out])
      have hcn : (c : Int) < (n : Int) := by omega
      have hnth : nth (over0 (List.replicate n 0) (xs.take (c + 1))) c = nth xs c := by
        rw [over0_nth (by simp; omega), if_pos (by simp [HLEN.out]; omega), nth_take (by omega)]
      have HNTH := hid hnth
      clear e hcc hnth
      go_wp2_with (first
        | (at_make; refine wpList_make_ints _ rfl _ _ rfl n rfl rfl (by omega) ?_; intro a1 cap1 w1 hown1 hb1)
        | (with_reducible refine wpList_copy_ints _ rfl _ _ rfl wr.heap.size _ _ _ _ _ _ _ _ rfl rfl hown1 (ht.below hb1 (Nat.le_refl _)) (by omega) ?_; intro w2 hown2 hb2; obtain ⟨g1, rfl, hg1, hg2, hg3, hg4⟩ := hown2.opened (by omega); have hgk := hg3 c (by omega); rw [HNTH.out] at hgk; have hgf := hg4 c; clear hg3 hg4))
      obtain ⟨s1, s2⟩ := hown2.set c (nth xs c + 1)
      rw [HC.out] at s1
      have hb3 := (hb1.trans hb2).setCell (p := ⟨g1, c, none⟩) hg1 (.int .i64 (nth xs c + 1))
      clear hown1 hown2 hb1 hb2 s2 hgk hgf
      refine (isUnder_any _ _ _ _ _ _ _ _ _ s1.has (ht'.below hb3 (Nat.le_refl _)) (Nat.le_refl _)).mono ?_
      rw [HUN.out]
      rintro e w4 ⟨rfl, hb4⟩
      have s4 := s1.below hb4 (Nat.le_refl _)
      have hb5 := hb3.trans (hb4.mono hb3.size)
      have hbw := hb.trans (hb5.mono hsz)
      by_cases hp : und bs (cand xs c) = true
      · have HR : Hid (nextU bs xs n = (cand xs c, true)) := hid (by rw [HN.out, HS.out, if_pos hp])
        rw [hp]
        clear hp
        go_wp2_with fail
        go_ret2
        exact postInts HR.out (s4.mono hsz) hbw
      · have HR : Hid (nextU bs xs n = nextU bs xs c) := hid (by rw [HN.out, HS.out, if_neg hp])
        rw [Bool.eq_false_iff.2 hp]
        clear hp
        go_wp2_with fail
        go_roundw
        case rel => exact ⟨c, by omega, by go_num, HR, hbw⟩
        case measure => simp [intOf]

/-- The list behind, as far as laid out: from c on, those before i are new. -/
def SPartU (xs : List Int) (c i : Nat) (zs : List Int) : Prop := ∀ j, j < xs.length → nth zs j = if c ≤ j ∧ j < i then nth xs c + 1 else nth xs j
theorem spartU_step {xs zs : List Int} {c i : Nat} (h : SPartU xs c i zs) (hl : zs.length = xs.length) (hi : i < xs.length) (hc : c ≤ i) : SPartU xs c (i + 1) (zs.set i (nth xs c + 1)) := fun j hj => by
  rw [nth_set (by omega)]
  by_cases e : i = j
  · subst e; rw [if_pos rfl, if_pos ⟨hc, by omega⟩]
  · rw [if_neg e, h j hj]
    have : (c ≤ j ∧ j < i) = (c ≤ j ∧ j < i + 1) := by apply propext; omega
    simp only [this]
theorem spartU_done {xs zs : List Int} {c : Nat} (h : SPartU xs c xs.length zs) (hl : zs.length = xs.length) (hc : c < xs.length) : xs.take c ++ List.replicate (xs.length - c) (nth xs c + 1) = zs := by
  have hlt : (xs.take c).length = c := by simp; omega
  refine ext_nth (by simp; omega) fun j hj => ?_
  simp at hj
  rw [h j (by omega)]
  by_cases e : j < c
  · rw [nth_append_left (by omega), nth_take e, if_neg (by omega)]
  · rw [if_pos ⟨by omega, by omega⟩]
    simp only [nth, List.getD_eq_getElem?_getD]
    rw [List.getElem?_append_right (by omega), hlt, List.getElem?_replicate, if_pos (by omega)]
    rfl

end Go.Proofs.YtfjeadnakbdkjaaGreat

namespace Go.Proofs.YtfjeadnakbdkjaaGreat
open Go.RowKit

theorem indices_any (n : Nat) (w : World) (hn : n ≤ 1000) :
    Calls Tryz.prog 63 #[.int .i64 (n : Int)] w fun e w' => ∃ a' cap', e = .returned (.slice a' n cap') ∧ Own w' w.heap.size a' n cap' (idx n) ∧ Below w.heap.size w w' := by
  have HN := hid (fun k (hk : k < n) => nth_idx hk)
  have HLL := hid (length_idx n)
  go_enter Tryz.func63, Tryz.ntmps63
  go_wp2_with (at_make; refine wpList_make_ints _ rfl _ _ rfl n rfl rfl (by omega) ?_; intro a1 cap1 w1 hown1 hb1)
  go_loopw [9] (fun i wr => ∃ (k : Nat) (zs : List Int), k ≤ n ∧ i = .int .i64 (k : Int) ∧ Own wr w.heap.size a1 n cap1 zs ∧ Hid (FromTo (idx n) zs k) ∧ Below w.heap.size w wr) (fun i _ => n - (intOf i).toNat)
  case atStart => exact ⟨0, _, Nat.zero_le _, rfl, hown1, hid (fun i hi => by omega), hb1⟩
  case round =>
    clear hown1 hb1
    obtain ⟨k, zs, hk, rfl, hz, HF, hb⟩ := hrel
    by_cases hlt : k < n
    · obtain ⟨g1, rfl, hg1, hg2, hg3, hg4⟩ := hz.opened (by omega)
      have hgk := hg3 k hlt
      have hgf := hg4 k
      obtain ⟨s1, s2⟩ := hz.set k (k : Int)
      have HF2 : Hid (FromTo (idx n) (zs.set k (k : Int)) (k + 1)) := hid (by
        intro i hi
        rw [nth_set (by rw [hz.len]; exact hlt)]
        by_cases e : k = i
        · subst e; rw [if_pos rfl, HN.out _ hlt]
        · rw [if_neg e]; exact HF.out i (by omega))
      have hb2 := hb.setCell (p := ⟨g1, k, none⟩) hg1 (.int .i64 (k : Int))
      clear hg3 hg4 s2
      go_wp2_with fail
      go_roundw
      case rel => exact ⟨k + 1, _, by omega, by go_num, s1, HF2, hb2⟩
      case measure => simp [intOf]; omega
    · obtain rfl : n = k := by omega
      have HE : Hid (idx n = zs) := hid (ext_nth (by rw [HLL.out, hz.len]) (fun i hi => (HF.out i (by rw [HLL.out] at hi; exact hi)).symm))
      go_wp2_with fail
      go_ret
      exact ⟨a1, cap1, rfl, by rw [HE.out]; exact hz, hb⟩
end Go.Proofs.YtfjeadnakbdkjaaGreat

namespace Go.Proofs.YtfjeadnakbdkjaaGreat
open Go.RowKit

set_option maxHeartbeats 800000 in
theorem pnext_any (a : Option Addr) (n cap : Nat) (xs : List Int) (w : World) (h : Has w a n cap xs) (h8 : n ≤ 8) (hx : ∀ i, i < n → 0 ≤ nth xs i ∧ nth xs i ≤ 8) :
    Calls Tryz.prog 50 #[.slice a n cap] w (PostInts w (nextP xs n)) := by
  have HE := hid (nextU_idx h.len h8 n (Nat.le_refl _))
  have HX : Hid (∀ i, i < n → 0 ≤ nth xs i ∧ nth xs i ≤ 13) := hid (fun i hi => by have := hx i hi; omega)
  obtain ⟨⟨ys, ok⟩, hr⟩ : ∃ r, nextP xs n = r := ⟨_, rfl⟩
  have HR := hid hr
  clear hr hx
  go_enter Tryz.func50, Tryz.ntmps50
  go_wp2_with fail
  refine (indices_any n _ (by omega)).mono ?_
  rintro e w1 ⟨a1, cap1, rfl, hown1, hb1⟩
  go_wp2_with fail
  refine (nextU_any _ _ _ _ _ _ _ _ (h.below hb1 (Nat.le_refl _)) hown1.has h8 HX.out).mono ?_
  rw [HE.out, HR.out]
  rintro e w2 ⟨a2, m2, cap2, rfl, hown2, hb2⟩
  go_wp2_with fail
  go_ret2
  exact postInts HR.out (hown2.mono hb1.size) (hb1.trans (hb2.mono hb1.size))

theorem parks_small {xs : List Int} {n : Nat} (h : isPark xs = true) (hn : xs.length = n) : n ≤ 8 ∧ ∀ i, i < n → 0 ≤ nth xs i ∧ nth xs i ≤ 8 := by
  obtain ⟨h1, h2⟩ := isPark_bounds h
  refine ⟨by omega, fun i hi => ?_⟩
  have := h2 _ (nth_mem (xs := xs) (i := i) (by omega))
  omega
theorem nextOf_none {xs : List Int} (h : ¬ isPark xs = true) : nextOf xs = ([], false) := by simp [nextOf, h]

end Go.Proofs.YtfjeadnakbdkjaaGreat

namespace Go.Proofs.YtfjeadnakbdkjaaGreat
open Go.RowKit

set_option maxHeartbeats 4000000 in
theorem allNext_any (n : Nat) (L : List (List Int)) (hch : Chain (fun xs => nextP xs xs.length) L) (h8 : n ≤ 8) (hq : L.length ≤ 100000) (hv : ∀ k, k < L.length → (L.getD k []).length = n ∧ ∀ i, i < n → 0 ≤ nth (L.getD k []) i ∧ nth (L.getD k []) i ≤ 8)
    (w0 w : World) (a : Option Addr) (m cap : Nat) (xs : List Int) (hb0 : Below w0.heap.size w0 w) (hfirst : Own w w0.heap.size a m cap xs) (hx : L.getD 0 [] = xs) :
    Calls Tryz.prog 49 #[.slice a m cap, .func (.func 50) #[] #[]] w (PostRowsOnly w0 L) := by
  obtain ⟨hL0, hL1, hL2⟩ := hch
  have H1 := hid hL1
  have H2 := hid hL2
  have HV := hid hv
  have HX := hid hx
  clear hL1 hL2 hv hx
  go_enter Tryz.func49, Tryz.ntmps49
  go_wp2_with fail
  go_loopw [5, 6, 7] (fun o s b wr => ∃ (k : Nat) (wk : World) (a' : Option Addr) (cap' : Nat) (rs : List Rw) (a1 : Option Addr) (m1 c1 : Nat) (ys : List Int) (ok : Bool), k ≤ L.length ∧ o = .slice a' k cap' ∧ s = .slice a1 m1 c1 ∧ b = .bool ok ∧ Hid (ok = decide (k < L.length)) ∧
    OwnR wk w0.heap.size a' k cap' rs ∧ Hid (numsOf rs = L.take k) ∧ Below wk.heap.size wk wr ∧ w0.heap.size ≤ wk.heap.size ∧ Own wr wk.heap.size a1 m1 c1 ys ∧ Hid (k < L.length → L.getD k [] = ys) ∧ Below w0.heap.size w0 wr) (fun o _ _ _ => L.length + 1 - (match o with | .slice _ k _ => k | _ => 0))
  case atStart => exact ⟨0, w0, none, 0, [], a, m, cap, xs, true, Nat.zero_le _, rfl, rfl, rfl, hid (by simp [hL0]), OwnR.nil _ _, hid rfl, hb0, Nat.le_refl _, hfirst, hid (fun _ => HX.out), hb0⟩
  case round =>
    clear hb0 hfirst
    obtain ⟨k, wk, a', cap', rs, a1, m1, c1, ys, ok, hk, rfl, rfl, rfl, HOK, hrows, HR, hbk, hwk, hys, HY, hb⟩ := hrel
    by_cases hlt : k < L.length
    · obtain rfl : ok = true := by rw [HOK.out]; simp [hlt]
      obtain ⟨v1, v2⟩ := HV.out k hlt
      have hyl := HY.out hlt
      rw [hyl] at v1 v2
      obtain rfl : n = m1 := by rw [← v1]; exact hys.len
      have V2 := hid v2
      have V1 := hid v1
      have HYL := hid hyl
      have HT := hid (take_getD hlt)
      have HR' : Hid (numsOf rs ++ [ys] = L.take (k + 1)) := hid (by rw [HT.out, HR.out, HYL.out])
      have hlen := hrows.len
      have HLEN := hid hlen
      clear v1 v2 hyl hlen
      go_wp2_with (at_builtin; refine wpList_append_row wk wr rfl _ _ rfl w0.heap.size _ _ _ _ _ _ _ _ rfl rfl hrows hbk hys (by omega) hwk ?_; intro a2 cap2 w2 hrows2 hb2)
      have hrow : Has w2 a1 n c1 ys := by
        have := hrows2.has.2.2.2.2.2 k (by omega)
        rw [nthR_append_right (by rw [HLEN.out]; exact Nat.le_refl _), HLEN.out, Nat.sub_self, nthR_one] at this
        simpa [V1.out] using this
      refine (pnext_any _ _ _ _ _ hrow h8 V2.out).mono ?_
      have hw2 : w0.heap.size ≤ w2.heap.size := Nat.le_trans (Nat.le_trans hwk hbk.size) hb2.size
      have hbw := hb.trans hb2
      by_cases hk1 : k + 1 < L.length
      · have HF := H1.out k hk1
        rw [HYL.out] at HF
        simp only [V1.out] at HF
        rw [HF]
        rintro e w3 ⟨a3, m3, cap3, rfl, hown3, hb3⟩
        clear HF
        go_wp2_with fail
        go_roundw
        case rel => exact ⟨k + 1, w2, a2, cap2, _, a3, m3, cap3, _, true, by omega, rfl, rfl, rfl, hid (by simp [hk1]), hrows2, hid (by rw [← HR'.out]; simp [numsOf]), hb3, hw2, hown3, hid (fun _ => rfl), hbw.trans (hb3.mono hw2)⟩
        case measure => simp; omega
      · have HF := H2.out
        rw [show L.length - 1 = k by omega, HYL.out] at HF
        simp only [V1.out] at HF
        rw [HF]
        rintro e w3 ⟨a3, m3, cap3, rfl, hown3, hb3⟩
        clear HF
        go_wp2_with fail
        go_roundw
        case rel => exact ⟨k + 1, w2, a2, cap2, _, a3, m3, cap3, _, false, by omega, rfl, rfl, rfl, hid (by simp [hk1]), hrows2, hid (by rw [← HR'.out]; simp [numsOf]), hb3, hw2, hown3, hid (fun h => absurd h hk1), hbw.trans (hb3.mono hw2)⟩
        case measure => simp; omega
    · obtain rfl : ok = false := by rw [HOK.out]; simp [hlt]
      have HE : Hid (numsOf rs = L) := hid (by rw [HR.out, List.take_of_length_le (by omega)])
      go_wp2_with fail
      go_ret
      exact ⟨a', k, cap', rs, rfl, hrows.below hbk (Nat.le_refl _), HE.out, hb⟩

theorem chain_next {n : Nat} (h8 : n ≤ 8) : Chain (fun xs => nextP xs xs.length) (listL n n []) := by
  obtain ⟨⟨c1, c2, c3⟩, _, _, hp⟩ := all_chain h8
  refine ⟨c1, fun k hk => ?_, ?_⟩
  · show nextP _ _ = _
    rw [nextP_eq (hp k (by omega)).1]
    exact c2 k hk
  · show nextP _ _ = _
    rw [nextP_eq (hp _ (by omega)).1]
    exact c3
theorem cnt_le5 {n : Nat} (h : n ≤ 5) : cnt n ≤ 1296 := by
  have : ∀ n, n < 6 → cnt n ≤ 1296 := by decide +kernel
  exact this n (by omega)

set_option maxHeartbeats 400000 in
theorem allParking_any (n : Int) (w : World) : Calls Tryz.prog 30 #[.int .i64 n] w (PostRows w (allOf n)) := by
  by_cases h1 : 0 ≤ n
  · by_cases h2 : n ≤ 5
    · obtain ⟨m, rfl⟩ : ∃ m : Nat, n = (m : Int) := ⟨n.toNat, by omega⟩
      have hm : m ≤ 5 := by omega
      have HA := hid (allOf_yes (inB_iff.2 ⟨h1, h2⟩))
      obtain ⟨_, hf, hl, hp⟩ := all_chain (n := m) (by omega)
      have hc5 := cnt_le5 hm
      have HF := hid hf
      have HC := hid (chain_next (n := m) (by omega))
      have HV : Hid (∀ k, k < (listL m m []).length → ((listL m m []).getD k []).length = m ∧ ∀ i, i < m → 0 ≤ nth ((listL m m []).getD k []) i ∧ nth ((listL m m []).getD k []) i ≤ 8) := hid (fun k hk => ⟨(hp k hk).2, (parks_small (hp k hk).1 (hp k hk).2).2⟩)
      have HL : Hid ((listL m m []).length ≤ 100000) := hid (by omega)
      clear hf hl hp
      go_enter Tryz.func30, Tryz.ntmps30
      go_wp2_with (refine wpList_make_intsT 49 Tryz.underlying49 _ rfl _ _ rfl m rfl rfl (by omega) ?_; intro a1 cap1 w1 hown1 hb1)
      refine (allNext_any m (listL m m []) HC.out (by omega) HL.out HV.out w _ _ _ _ _ hb1 hown1 HF.out).mono ?_
      rintro e w2 ⟨a2, q2, cap2, rs2, rfl, hown2, hn2, hb2⟩
      go_wp2_with fail
      go_ret2
      exact postRows HA.out hown2 hn2 hb2
    · have HA := hid (allOf_no (n := n) (by rw [Bool.not_eq_true, inB_not]; omega))
      go_enter Tryz.func30, Tryz.ntmps30
      go_wp2_with fail
      go_ret2
      exact postRows_no HA.out (Below.refl _ _)
  · have HA := hid (allOf_no (n := n) (by rw [Bool.not_eq_true, inB_not]; omega))
    go_enter Tryz.func30, Tryz.ntmps30
    go_wp2_with fail
    go_ret2
    exact postRows_no HA.out (Below.refl _ _)

theorem allSortedOf_yes {n : Nat} (h : inB (n : Int) 0 6 = true) : allSortedOf n = (sortL n [], true) := by simp [allSortedOf, h]
theorem allSortedOf_no {n : Int} (h : ¬ inB n 0 6 = true) : allSortedOf n = ([], false) := by simp [allSortedOf, h]
theorem sorted_facts {n : Nat} (h : n ≤ 6) : Chain (fun xs => nextS xs xs.length) (sortL n []) ∧ (sortL n []).getD 0 [] = List.replicate n 0 ∧ (sortL n []).length ≤ 132 ∧
    ∀ k, k < (sortL n []).length → ((sortL n []).getD k []).length = n ∧ ∀ i, i < n → 0 ≤ nth ((sortL n []).getD k []) i ∧ nth ((sortL n []).getD k []) i ≤ 8 := by
  obtain ⟨c1, c2, c3, c4⟩ := sorted_chain n (by omega)
  refine ⟨chain_of c1, c2, c3, fun k hk => ?_⟩
  have hm : (sortL n []).getD k [] ∈ sortL n [] := by simp [hk]
  have := List.all_eq_true.1 c4 _ hm
  simp only [Bool.and_eq_true, decide_eq_true_eq] at this
  refine ⟨this.1, fun i hi => ?_⟩
  have := allB_nth this.2 (k := i) (by omega)
  omega

end Go.Proofs.YtfjeadnakbdkjaaGreat

namespace Go.Proofs.YtfjeadnakbdkjaaGreat
open Go.RowKit Go.Sort

theorem part_le {xs : List Int} (h : ∀ i, i < xs.length → 0 ≤ nth xs i ∧ nth xs i ≤ 8) : ∀ k, k ≤ xs.length → 0 ≤ total (xs.take k) ∧ total (xs.take k) ≤ 8 * k ∧ 0 ≤ total (upto k) ∧ total (upto k) ≤ k * xs.length
  | 0, _ => by simp [total, upto]
  | k + 1, hk => by
    have ih := part_le h k (by omega)
    have hx := h k (by omega)
    rw [total_succ (by omega), upto_succ, total_snoc, show ((k + 1 : Nat) : Int) = (k : Int) + 1 by omega, Int.add_mul, Int.mul_add]
    omega

set_option maxHeartbeats 800000 in
theorem ptotal_any (a : Option Addr) (n cap : Nat) (xs : List Int) (w : World) (h : Has w a n cap xs) (h8 : n ≤ 8) (hx : ∀ i, i < n → 0 ≤ nth xs i ∧ nth xs i ≤ 8) :
    Calls Tryz.prog 54 #[.slice a n cap] w fun e w' => e = .returned (.int .i64 (tot xs)) ∧ w = w' := by
  have HLEN := hid h.len
  have HPL := hid (part_le (xs := xs) (by rw [h.len]; exact hx))
  have HX := hid hx
  have HC := hid h.2.2.2.2
  clear hx
  go_enter Tryz.func54, Tryz.ntmps54
  go_wp2_with fail
  go_loop [3, 8] (fun s i => ∃ k : Nat, k ≤ n ∧ i = .int .i64 (k : Int) ∧ s = .int .i64 (total (upto k) - total (xs.take k))) (fun _ i => n - (intOf i).toNat)
  case atStart => exact ⟨0, Nat.zero_le _, rfl, by simp [total, upto]⟩
  case round =>
    obtain ⟨k, hk, rfl, rfl⟩ := hrel
    obtain ⟨t0, t1, t2, t3⟩ := HPL.out k (by rw [HLEN.out]; exact hk)
    have t4 : (k : Int) * (xs.length : Int) ≤ 64 := by
      have := Nat.mul_le_mul (show k ≤ 8 by omega) (show xs.length ≤ 8 by rw [HLEN.out]; exact h8)
      rw [← Int.natCast_mul]
      omega
    have t5 : total (upto k) ≤ 64 := by omega
    by_cases hlt : k < n
    · obtain ⟨b, off, rfl, hbb, hc⟩ := HC.out (by omega)
      have hck := hc k hlt
      obtain ⟨x0, x1⟩ := HX.out k hlt
      have HS := hid (total_succ (xs := xs) (k := k) (by rw [HLEN.out]; omega))
      have HU : Hid (total (upto (k + 1)) = total (upto k) + (k : Int)) := hid (by rw [upto_succ, total_snoc])
      clear hc t3 t4
      generalize total (upto k) = u at *
      generalize total (xs.take k) = v at *
      go_wp2_with fail
      go_round
      case rel => exact ⟨k + 1, by omega, by go_num, congrArg (Value.int .i64) (by rw [HS.out, HU.out]; omega)⟩
      case measure => simp [intOf]; omega
    · obtain rfl : n = k := by omega
      have HE : Hid (total (upto n) - total (xs.take n) = tot xs) := hid (by unfold tot; rw [List.take_of_length_le (by rw [HLEN.out]; omega), HLEN.out])
      clear t3 t4
      go_wp2_with fail
      go_ret
      exact ⟨ret_int HE.out, rfl⟩

theorem isNaNI_any (x : Int) (w : World) : Calls Tryz.prog 66 #[.int .i64 x] w fun e w' => e = .returned (.bool false) ∧ w = w' := by
  have hx : (x != x) = false := by simp
  go_enter Tryz.func66, Tryz.ntmps66
  go_wp2_with fail
  go_ret
  exact ⟨rfl, rfl⟩
set_option maxHeartbeats 400000 in
theorem compareI_any (x y : Int) (w : World) : Calls Tryz.prog 53 #[.int .i64 x, .int .i64 y] w fun e w' => e = .returned (.int .i64 (cmpI x y)) ∧ w = w' := by
  by_cases h1 : x < y
  · have HR : Hid (cmpI x y = -1) := hid (by simp [cmpI, h1])
    go_enter Tryz.func53, Tryz.ntmps53
    go_wp2_with (go_at_call 66; refine (isNaNI_any _ _).mono ?_; rintro e w' ⟨rfl, rfl⟩)
    go_ret
    exact ⟨ret_int HR.out.symm, rfl⟩
  · by_cases h2 : y < x
    · have HR : Hid (cmpI x y = 1) := hid (by simp [cmpI, h1, h2])
      go_enter Tryz.func53, Tryz.ntmps53
      go_wp2_with (go_at_call 66; refine (isNaNI_any _ _).mono ?_; rintro e w' ⟨rfl, rfl⟩)
      go_ret
      exact ⟨ret_int HR.out.symm, rfl⟩
    · have HR : Hid (cmpI x y = 0) := hid (by simp [cmpI, h1, h2])
      go_enter Tryz.func53, Tryz.ntmps53
      go_wp2_with (go_at_call 66; refine (isNaNI_any _ _).mono ?_; rintro e w' ⟨rfl, rfl⟩)
      go_ret
      exact ⟨ret_int HR.out.symm, rfl⟩

/-- A row that a comparison may read. -/
def Fit (w : World) (r : Rw) : Prop := Has w r.a r.xs.length r.c r.xs ∧ r.xs.length ≤ 8 ∧ ∀ i, i < r.xs.length → 0 ≤ nth r.xs i ∧ nth r.xs i ≤ 8
theorem compareTotal_any (r s : Rw) (w : World) (hr : Fit w r) (hs : Fit w s) : Calls Tryz.prog 32 #[r.v, s.v] w fun e w' => e = .returned (.int .i64 (cmpI (tot r.xs) (tot s.xs))) ∧ w = w' := by
  unfold Rw.v
  obtain ⟨r1, r2, r3⟩ := hr
  obtain ⟨s1, s2, s3⟩ := hs
  have R3 := hid r3
  have S3 := hid s3
  clear r3 s3
  generalize r.xs.length = n at *
  generalize s.xs.length = m at *
  go_enter Tryz.func32, Tryz.ntmps32
  go_wp2_with fail
  refine (ptotal_any _ _ _ _ _ r1 r2 R3.out).mono ?_
  rintro e _ ⟨rfl, rfl⟩
  go_wp2_with fail
  refine (ptotal_any _ _ _ _ _ s1 s2 S3.out).mono ?_
  rintro e _ ⟨rfl, rfl⟩
  go_wp2_with fail
  refine (compareI_any _ _ _).mono ?_
  rintro e _ ⟨rfl, rfl⟩
  go_wp2_with fail
  go_ret
  exact ⟨rfl, rfl⟩
theorem Fit.kept {w w' : World} {r : Rw} {g : Nat} (h : Fit w r) (hg : w.grownBy w' (some g)) (hne : ∀ p, r.a = some p → p.block ≠ g) : Fit w' r := ⟨h.1.kept hg hne, h.2⟩
theorem Fit.below {w w' : World} {r : Rw} (h : Fit w r) (hb : Go.RowKit.Below w.heap.size w w') : Fit w' r := ⟨h.1.below hb (Nat.le_refl _), h.2⟩

theorem Tryz.infoParked : (Tryz.prog.info? 49).map (fun i => (i.zero, i.size, i.bytes)) = some (some (.slice none 0 0), 1, 24) := by kernel_rfl

/-- 'slices.Clone(lists)'. -/
theorem cloneRows_any (b off n cap : Nat) (rs : List Rw) (w : World) (hc : ∀ i, i < n → w.cell? ⟨b, off + i, none⟩ = (rs.map Rw.v)[i]?) (hl : rs.length = n) (hn : n ≤ 2000) :
    Calls Tryz.prog 51 #[.slice (some ⟨b, off, none⟩) n cap] w fun e w' =>
      ∃ g cap', e = .returned (.slice (some ⟨g, 0, none⟩) n cap') ∧ OwnE 49 w' w.heap.size (some ⟨g, 0, none⟩) n cap' (rs.map Rw.v) ∧ Go.RowKit.Below w.heap.size w w' := by
  obtain ⟨i0, hi, hz0, hz1, hz2⟩ := info_parts Tryz.infoParked
  refine (Tryz.slices_Clone_f51 i0 (.slice none 0 0) 1 24 hi hz0 hz1 hz2 rfl (by decide) Tryz.sizeOf49 b off n cap (rs.map Rw.v) w (by simp [hl]) (by unfold maxLen; omega) (by omega) (cells_add hc (by simp [hl])) (rows_oneCell rs)).mono ?_
  rintro e w' ⟨v', rfl, hown, hne, hb⟩
  rcases hown.2 with ⟨hv, _⟩ | ⟨g, cap', cur, hv, _⟩
  · exact absurd hv hne
  · subst hv
    exact ⟨g, cap', rfl, ⟨hown, by simp [hl], by omega⟩, hb⟩

theorem attach_map {β : Type} (f : Rw → β) (rs : List Rw) : rs.attach.map (fun x => f x.1) = rs.map f := by
  rw [show (fun x : {r : Rw // r ∈ rs} => f x.1) = f ∘ Subtype.val from rfl, ← List.map_map, List.attach_map_subtype_val]
theorem attach_v (rs : List Rw) : rs.attach.map (fun x => x.1.v) = rs.map Rw.v := attach_map Rw.v rs

/-- 'slices.SortFunc(lists, parked.compareTotal)'. -/
theorem sortRows_any (B g n cap : Nat) (rs : List Rw) (w : World) (h : OwnE 49 w B (some ⟨g, 0, none⟩) n cap (rs.map Rw.v)) (hn : 0 < n) (hfit : ∀ r ∈ rs, Fit w r ∧ ∀ p, r.a = some p → p.block ≠ g) :
    Calls Tryz.prog 52 #[.slice (some ⟨g, 0, none⟩) n cap, .func (.func 32) #[] #[]] w fun e w' =>
      e = .returned (.tuple #[]) ∧ (∃ ss : List Rw, ss.length = n ∧ (∀ s ∈ ss, s ∈ rs) ∧ ss.map (fun s => tot s.xs) = insSort (rs.map fun s => tot s.xs) ∧ OwnE 49 w' B (some ⟨g, 0, none⟩) n cap (ss.map Rw.v)) ∧ w.grownBy w' (some g) := by
  obtain ⟨⟨h1, h2⟩, h3, h4⟩ := h
  have hlen : rs.length = n := by simpa using h3
  haveI : Inhabited {r : Rw // r ∈ rs} := ⟨⟨nthR rs 0, by
    have h0 : 0 < rs.length := by omega
    simp [nthR, h0]⟩⟩
  rcases h2 with ⟨hv, _⟩ | ⟨g', cap', cur, hv, hg, hh, hnc, hcm, hcs, htake⟩
  · simp at hv
  · simp at hv
    obtain ⟨rfl, rfl⟩ := hv
    have hal : rs.attach.length = n := by simp [hlen]
    have hH : Go.Sort.Holds (fun x : {r : Rw // r ∈ rs} => x.1.v) w g 0 rs.attach.toArray := holds_of_cells hh (by rw [attach_v, hal]; simpa using htake)
    have hlt : g < w.heap.size := (Array.getElem?_eq_some_iff.1 hh).1
    have eg : ∀ args w, (callFunc 32 args).run Tryz.prog w = .ok (.enter 32 args) w := by intro args w; go_simp
    have hcmp : CmpReads Tryz.prog 32 #[] (fun x : {r : Rw // r ∈ rs} => x.1.v) (fun x y => cmpI (tot x.1.xs) (tot y.1.xs)) g 0 rs.attach.toArray.size w := by
      intro m os dk _ x y
      have hgr : w.grownBy (sortWorld (fun x : {r : Rw // r ∈ rs} => x.1.v) w g 0 m dk os) (some g) := grownBy_sortedE _ dk
      refine (compareTotal_any x.1 y.1 _ ((hfit x.1 x.2).1.kept hgr (hfit x.1 x.2).2) ((hfit y.1 y.2).1.kept hgr (hfit y.1 y.2).2)).mono ?_
      rintro e w' ⟨rfl, rfl⟩
      exact ⟨rfl, 0, rfl⟩
    have hswo : SWO (ltOf fun x y : {r : Rw // r ∈ rs} => cmpI (tot x.1.xs) (tot y.1.xs)) := by
      have e : ∀ x y : {r : Rw // r ∈ rs}, ltOf (fun x y : {r : Rw // r ∈ rs} => cmpI (tot x.1.xs) (tot y.1.xs)) x y = decide (tot x.1.xs < tot y.1.xs) := fun x y => ltOf_cmpI _ _
      exact ⟨fun x => by simp [e], fun x y z h1 h2 => by simp [e] at *; omega, fun x y z h1 h2 => by simp [e] at *; omega⟩
    have hs := Tryz.slices_SortFunc_f52 (fun x : {r : Rw // r ∈ rs} => x.1.v) (fun _ => rfl) (fun x y => cmpI (tot x.1.xs) (tot y.1.xs)) hswo 32 #[] g 0 cap rs.attach.toArray w eg hcmp.lays hH hlt (by simp; omega)
    simp only [List.size_toArray, List.length_attach, hlen] at hs
    refine hs.mono ?_
    rintro e w' ⟨rfl, d', q, os, hp, hst, rfl⟩
    rw [← hal] at hp hst
    obtain ⟨p1, p2⟩ := sorted_list hp hst
    have hdl : d'.toList.length = n := by rw [p1.length_eq, hal]
    refine ⟨rfl, ⟨d'.toList.map fun x => x.1, by simp [← hdl], fun s hs => ?_, ?_, ⟨⟨by simp [← hdl], .inr ⟨g, cap, _, rfl, hg, heap_sortedE _ d' hh, hnc, hcm, by simpa [putCells] using hcs, ?_⟩⟩, by simp [← hdl], h4⟩⟩, grownBy_sortedE _ d'⟩
    · obtain ⟨x, _, rfl⟩ := List.mem_map.1 hs
      exact x.2
    · refine sorted_unique ?_ (insSort_sorted _) (List.Perm.trans ?_ (insSort_perm _).symm)
      · rw [List.map_map, List.pairwise_map]
        refine p2.imp fun {x y} h => ?_
        have h' : ltOf (fun x y : {r : Rw // r ∈ rs} => cmpI (tot x.1.xs) (tot y.1.xs)) y x = false := h
        rw [show ltOf (fun x y : {r : Rw // r ∈ rs} => cmpI (tot x.1.xs) (tot y.1.xs)) y x = decide (tot y.1.xs < tot x.1.xs) from ltOf_cmpI _ _] at h'
        simp at h'
        simpa using h'
      · have := p1.map fun x => tot x.1.xs
        rw [List.map_map]
        refine List.Perm.trans this ?_
        rw [attach_map (fun r => tot r.xs) rs]
    · rw [List.map_map, Nat.mul_one, ← hdl]
      have := take_putCellsE (fun x : {r : Rw // r ∈ rs} => x.1.v) cur d'.toList (by omega)
      rw [toArr] at this
      exact this

set_option maxRecDepth 100000 in
set_option maxHeartbeats 4000000 in
theorem countAlikeR_any (b off n cap : Nat) (rs : List Rw) (w : World) (hc : ∀ i, i < n → w.cell? ⟨b, off + i, none⟩ = (rs.map Rw.v)[i]?) (hl : rs.length = n) (h0 : 0 < n) (hn : n ≤ 2000) (hfit : ∀ r ∈ rs, Fit w r ∧ ∀ p, r.a = some p → p.block < w.heap.size) :
    Calls Tryz.prog 31 #[.slice (some ⟨b, off, none⟩) n cap, .func (.func 32) #[] #[]] w fun e w' =>
      ∃ a' q cap', e = .returned (.slice a' q cap') ∧ Own w' w.heap.size a' q cap' (runsTo (insSort (rs.map fun r => tot r.xs)) n) ∧ Go.RowKit.Below w.heap.size w w' := by
  have HC := hid hc
  have HL := hid hl
  have HF := hid hfit
  clear hc hl hfit
  go_enter Tryz.func31, Tryz.ntmps31
  go_wp2_with fail
  refine (cloneRows_any b off n cap rs w HC.out HL.out (by omega)).mono ?_
  rintro e w1 ⟨g, cap1, rfl, ho1, hb1⟩
  have hg1 := ho1.lt
  have HF1 : Hid (∀ r ∈ rs, Fit w1 r ∧ ∀ p, r.a = some p → p.block ≠ g) := hid (fun r hr => ⟨(HF.out r hr).1.below hb1, fun p hp => by have := (HF.out r hr).2 p hp; omega⟩)
  go_wp2_with fail
  refine (sortRows_any _ _ _ _ _ _ ho1 h0 HF1.out).mono ?_
  rintro e w2 ⟨rfl, ⟨ss, hsl, hmem, hkeys, ho2⟩, hg2⟩
  have hgl := ho2.lt
  have hb2 : Go.RowKit.Below w.heap.size w w2 := hb1.trans (below_grown hg2 hb1.size (by intro k hk; cases hk; exact hg1.1))
  have hsz := hb2.size
  have HCELL : Hid (∀ i, i < n → w2.cell? ⟨g, i, none⟩ = some (nthR ss i).v) := hid (fun i hi => by
    rw [ho2.cell hi]
    exact map_nthR Rw.v (by omega))
  have HFIT : Hid (∀ i, i < n → Fit w2 (nthR ss i)) := hid (fun i hi => by
    have hm := hmem (nthR ss i) (by simp [nthR, hsl, hi])
    exact (HF1.out _ hm).1.kept hg2 (HF1.out _ hm).2)
  have HKEY : Hid (∀ i, i < n → nth (insSort (rs.map fun r => tot r.xs)) i = tot (nthR ss i).xs) := hid (fun i hi => by
    rw [← hkeys]
    have := map_nthR (fun s => tot s.xs) (rs := ss) (i := i) (by omega)
    simp [nth, this])
  have HRL := hid (runs_le (insSort (rs.map fun r => tot r.xs)))
  have HRP := hid (length_runsTo (insSort (rs.map fun r => tot r.xs)))
  clear ho1 ho2 hb1 hg2 hsl hmem hkeys hg1
  generalize hSdef : insSort (rs.map fun r => tot r.xs) = S at *
  have HSS := hid hSdef
  clear hSdef
  go_wp2_with fail
  go_loopw [6, 16] (fun o i wr => ∃ (k : Nat) (a' : Option Addr) (q cap' : Nat), k ≤ n ∧ i = .int .i64 (k : Int) ∧ o = .slice a' q cap' ∧ Own wr w2.heap.size a' q cap' (runsTo S k) ∧ Go.RowKit.Below w2.heap.size w2 wr) (fun _ i _ => n - (intOf i).toNat)
  case atStart => exact ⟨0, none, 0, 0, Nat.zero_le _, rfl, rfl, Own.nil _ _, Below.refl _ _⟩
  case round =>
    obtain ⟨k, a', q, cap', hk, rfl, rfl, hown, hb⟩ := hrel
    have hq := hown.len
    obtain ⟨q1, q2⟩ := HRP.out k
    rw [hq] at q1 q2
    have HQ := hid hq
    have hszr := hb.size
    clear hq
    by_cases hlt : k < n
    · have hck : wr.cell? ⟨g, k, none⟩ = some (nthR ss k).v := by rw [hb.cell (p := ⟨g, k, none⟩) hgl.2]; exact HCELL.out k hlt
      have hkn : (k : Int) < (n : Int) := by omega
      have hfk := (HFIT.out k hlt).below hb
      by_cases hnew : k = 0 ∨ nth S (k - 1) ≠ nth S k
      · have HS : Hid (runsTo S (k + 1) = runsTo S k ++ [1]) := hid (by simp only [runsTo]; rw [if_pos hnew])
        have HL0 : Hid ((runsTo S k ++ [0]).set q 1 = runsTo S k ++ [1]) := hid (by rw [← HQ.out]; exact set_last0 _)
        have HLZ : Hid (nth (runsTo S k ++ [0]) q = 0) := hid (by rw [← HQ.out]; exact nth_append_at)
        rcases Nat.eq_zero_or_pos k with h00 | h00
        · subst h00
          go_wp2_with (at_builtin; refine wpList_append_int _ rfl _ _ rfl w2.heap.size _ _ _ _ _ rfl rfl hown (by omega) hszr ?_; intro a4 cap4 w4 hown4 hb4; obtain ⟨g4, rfl, hl1, hl2, hl3, hl4⟩ := hown4.opened (by omega); have hgk := hl3 q (by omega); rw [HLZ.out] at hgk; have hgf := hl4 q; clear hl3 hl4)
          go_roundw
          case rel =>
            obtain ⟨s1, s2⟩ := hown4.set q 1
            rw [HL0.out] at s1
            exact ⟨1, some ⟨g4, 0, none⟩, q + 1, cap4, by omega, by go_num, rfl, by rw [HS.out]; exact s1, (hb.trans hb4).setCell hl1 _⟩
          case measure => simp [intOf]; omega
        · have hck1 : wr.cell? ⟨g, k - 1, none⟩ = some (nthR ss (k - 1)).v := by rw [hb.cell (p := ⟨g, k - 1, none⟩) hgl.2]; exact HCELL.out (k - 1) (by omega)
          have hfk1 := (HFIT.out (k - 1) (by omega)).below hb
          have hbe : ((k : Int) == 0) = false := by simp; omega
          have e1 : ((k : Int) - 1).toNat = k - 1 := by omega
          have e2 : (0 : Int) ≤ (k : Int) - 1 := by omega
          have e3 : (k : Int) - 1 < (n : Int) := by omega
          have HCM : Hid ((cmpI (tot (nthR ss (k - 1)).xs) (tot (nthR ss k).xs) != 0) = true) := hid (by
            have hne := hnew.resolve_left (by omega)
            rw [HKEY.out (k - 1) (by omega), HKEY.out k hlt] at hne
            unfold cmpI
            split
            · rfl
            · split
              · rfl
              · exact absurd (show tot (nthR ss (k - 1)).xs = tot (nthR ss k).xs by omega) hne)
          clear hnew
          generalize nthR ss (k - 1) = r1 at *
          generalize nthR ss k = r2 at *
          go_wp2_with fail
          refine (compareTotal_any _ _ _ hfk1 hfk).mono ?_
          rintro e _ ⟨rfl, rfl⟩
          have hcm := HCM.out
          generalize cmpI (tot r1.xs) (tot r2.xs) = cv at *
          go_wp2_with (at_builtin; refine wpList_append_int _ rfl _ _ rfl w2.heap.size _ _ _ _ _ rfl rfl hown (by omega) hszr ?_; intro a4 cap4 w4 hown4 hb4; obtain ⟨g4, rfl, hl1, hl2, hl3, hl4⟩ := hown4.opened (by omega); have hgk := hl3 q (by omega); rw [HLZ.out] at hgk; have hgf := hl4 q; clear hl3 hl4)
          go_roundw
          case rel =>
            obtain ⟨s1, s2⟩ := hown4.set q 1
            rw [HL0.out] at s1
            exact ⟨k + 1, some ⟨g4, 0, none⟩, q + 1, cap4, by omega, by go_num, rfl, by rw [HS.out]; exact s1, (hb.trans hb4).setCell hl1 _⟩
          case measure => simp [intOf]; omega
      · have hk0 : 0 < k := by omega
        have hq0 : 0 < q := q2 hk0
        have HS : Hid (runsTo S (k + 1) = (runsTo S k).set (q - 1) (nth (runsTo S k) (q - 1) + 1)) := hid (by simp only [runsTo]; rw [if_neg hnew, HQ.out])
        have hck1 : wr.cell? ⟨g, k - 1, none⟩ = some (nthR ss (k - 1)).v := by rw [hb.cell (p := ⟨g, k - 1, none⟩) hgl.2]; exact HCELL.out (k - 1) (by omega)
        have hfk1 := (HFIT.out (k - 1) (by omega)).below hb
        have hbe : ((k : Int) == 0) = false := by simp; omega
        have e1 : ((k : Int) - 1).toNat = k - 1 := by omega
        have e2 : (0 : Int) ≤ (k : Int) - 1 := by omega
        have e3 : (k : Int) - 1 < (n : Int) := by omega
        have HCM : Hid ((cmpI (tot (nthR ss (k - 1)).xs) (tot (nthR ss k).xs) != 0) = false) := hid (by
          have he : nth S (k - 1) = nth S k := Classical.byContradiction fun h => hnew (.inr h)
          rw [HKEY.out (k - 1) (by omega), HKEY.out k hlt] at he
          rw [he]
          simp [cmpI])
        obtain ⟨g4, rfl, hl1, hl2, hl3, hl4⟩ := hown.opened hq0
        have hgk := hl3 (q - 1) (by omega)
        have hgf := hl4 (q - 1)
        obtain ⟨r0, r1⟩ := HRL.out k (q - 1)
        have f1 : ((q : Int) - 1).toNat = q - 1 := by omega
        have f2 : (0 : Int) ≤ (q : Int) - 1 := by omega
        have f3 : (q : Int) - 1 < (q : Int) := by omega
        clear hnew hl3 hl4
        generalize nth (runsTo S k) (q - 1) = rv at *
        generalize nthR ss (k - 1) = s1r at *
        generalize nthR ss k = s2r at *
        go_wp2_with fail
        refine (compareTotal_any _ _ _ hfk1 hfk).mono ?_
        rintro e _ ⟨rfl, rfl⟩
        have hcm := HCM.out
        generalize cmpI (tot s1r.xs) (tot s2r.xs) = cv at *
        go_wp2_with fail
        go_roundw
        case rel =>
          obtain ⟨s1, s2⟩ := hown.set (q - 1) (rv + 1)
          exact ⟨k + 1, some ⟨g4, 0, none⟩, q, cap', by omega, by go_num, rfl, by rw [HS.out]; exact s1, hb.setCell hl1 _⟩
        case measure => simp [intOf]; omega
    · obtain rfl : n = k := by omega
      go_wp2_with fail
      go_ret
      exact ⟨_, _, _, rfl, by rw [HSS.out]; exact hown.mono hsz, hb2.trans (hb.mono hsz)⟩

theorem dist_runs {n q : Nat} {rs : List Rw} (h5 : n ≤ 5) (hn : numsOf rs = listL n n []) (hq : rs.length = q) : runsTo (insSort (rs.map fun r => tot r.xs)) q = distCounts n ∧ q = cnt n := by
  have e : (rs.map fun r => tot r.xs) = tots n := by
    unfold tots
    rw [← hn]
    simp [numsOf]
  have hl : (tots n).length = q := by rw [← e]; simpa using hq
  rw [e]
  have h1 := runs_dist h5
  rw [hl] at h1
  exact ⟨h1, by rw [← hl]; exact tots_length (by omega)⟩

set_option maxRecDepth 100000 in
set_option maxHeartbeats 4000000 in
theorem countByDistance_any (n : Int) (w : World) : Calls Tryz.prog 14 #[.int .i64 n] w (PostInts w (distOfN n)) := by
  by_cases hg : inB n 0 5 = true
  · obtain ⟨m, rfl⟩ : ∃ m : Nat, n = (m : Int) := ⟨n.toNat, by have := inB_iff.1 hg; omega⟩
    have hm : m ≤ 5 := by have := inB_iff.1 hg; omega
    have HA := hid (distOfN_yes hg)
    have HAL := hid (allOf_yes hg)
    obtain ⟨i0, hi, hz0, hz1, hz2⟩ := info_parts Tryz.infoParked
    have hc5 := cnt_le5 hm
    have hc1 := (cnt_le (n := m) (by omega)).1
    clear hg
    go_enter Tryz.func14, Tryz.ntmps14
    go_wp2_with fail
    refine (allParking_any _ _).mono ?_
    rw [HAL.out]
    rintro e w1 ⟨a1, q, cap1, rs, rfl, R1, hn1, hb1⟩
    obtain ⟨hrun, hqc⟩ := dist_runs hm hn1 R1.len
    have HRUN := hid hrun
    have HROW := hid (fun k (hk : k < q) => row_all (n := m) (by omega) hn1 R1.len hk)
    have hq1 : q ≤ 1296 := by omega
    have hq0 : 0 < q := by omega
    have HH := hid R1.has
    have HLT := hid R1.lt
    have HQ := hid R1.len
    clear hn1 hrun hqc R1 hc5 hc1
    go_wp2_with (refine wpList_make_full (P := Tryz.prog) _ rfl _ _ 48 rfl w1.heap.size 49 i0 (.slice none 0 0) 1 Tryz.underlying48 hi hz0 hz1 .i64 .i64 q q q rfl rfl rfl rfl (by rw [hz2]; omega) (by unfold maxLen; omega) (Nat.le_refl _) ?_; intro w2 hown2 hgr2)
    have hb2 : Go.RowKit.Below w1.heap.size w1 w2 := below_grown hgr2 (Nat.le_refl _) (by simp)
    have ho2 : OwnE 49 w2 w1.heap.size (some ⟨w1.heap.size, 0, none⟩) q q ((List.replicate q Rw.none').map Rw.v) := by
      refine ⟨?_, by simp, by omega⟩
      rw [show (Value.slice none 0 0).cells = #[.slice none 0 0] from rfl, toList_madeCells_one, Nat.mul_one] at hown2
      simpa [Rw.v, Rw.none'] using hown2
    have hgl := ho2.lt
    have hsz := hb1.size
    have hgr0 : w1.grownBy w2 (some w1.heap.size) := ⟨hb2.os, hb2.tape, hb2.output, hb2.size, fun j hj _ => hb2.block j hj⟩
    obtain ⟨g, hgdef⟩ : ∃ g, w1.heap.size = g := ⟨_, rfl⟩
    have HGD := hid hgdef
    rw [hgdef] at ho2 hgl hgr0 hsz ⊢
    clear hgr2 hown2 hb2 hgdef
    go_loopw [21] (fun i wr => ∃ (k : Nat) (zs : List Rw), k ≤ q ∧ i = .int .i64 (k : Int) ∧ OwnE 49 wr g (some ⟨g, 0, none⟩) q q (zs.map Rw.v) ∧ zs.length = q ∧ Hid (∀ i, i < k → nthR zs i = nthR rs i) ∧ w1.grownBy wr (some g) ∧ g < wr.heap.size) (fun i _ => q - (intOf i).toNat)
    case atStart => exact ⟨0, _, Nat.zero_le _, rfl, ho2, by simp, hid (fun i hi => by omega), hgr0, hgl.2⟩
    case round =>
      clear ho2 hgl hgr0
      obtain ⟨k, zs, hk, rfl, hz, hzl, HF, hgr, hgw⟩ := hrel
      have HZL := hid hzl
      clear hzl
      by_cases hlt : k < q
      · obtain ⟨r0, r1, r2, r3, r4, r5⟩ := HH.out
        obtain ⟨b, off, rfl, hbb, hc⟩ := r4 hq0
        have hbg : b ≠ g := by have := HGD.out; omega
        have hck : wr.cell? ⟨b, off + k, none⟩ = some (nthR rs k).v := hgr.cell (hc k hlt) (by simpa using hbg)
        have hgk : wr.cell? ⟨g, k, none⟩ = some (nthR zs k).v := by rw [hz.cell hlt]; exact map_nthR Rw.v (by rw [HZL.out]; exact hlt)
        have hgf := hz.1.frozenAt k
        have HSET := hid (hz.1.stored k (nthR rs k).v)
        have hgr' := grown_set (i := k) hgr (nthR rs k).v
        have HV : Hid (∃ v, (nthR rs k).v = v) := hid ⟨_, rfl⟩
        clear r0 r1 r2 r3 r4 r5 hc
        unfold Rw.v at hck hgk HSET hgr'
        go_wp2_with fail
        go_roundw
        case rel =>
          obtain ⟨s1, s2⟩ := HSET.out
          refine ⟨k + 1, zs.set k (nthR rs k), by omega, by go_num, ⟨by rw [List.map_set]; exact s1, by simp [HZL.out], by omega⟩, by simp [HZL.out], hid ?_, hgr', by simpa using hgw⟩
          intro i hi
          by_cases e : i = k
          · subst e; simp [nthR, HZL.out, hlt]
          · have := HF.out i (by omega)
            simp only [nthR, List.getD_eq_getElem?_getD] at this ⊢
            rw [List.getElem?_set_ne (by omega)]
            exact this
        case measure => simp [intOf]; omega
      · obtain rfl : q = k := by omega
        have HE : Hid (zs = rs) := hid (ext_nthR (by rw [HZL.out, HQ.out]) (fun i hi => HF.out i (by rw [HZL.out] at hi; exact hi)))
        rw [HE.out] at hz
        have hcell : ∀ i, i < q → wr.cell? ⟨g, 0 + i, none⟩ = (rs.map Rw.v)[i]? := fun i hi => by rw [Nat.zero_add]; exact hz.cell hi
        have HCELL := hid hcell
        have hfit : ∀ r ∈ rs, Fit wr r ∧ ∀ p, r.a = some p → p.block < wr.heap.size := by
          intro r hr
          obtain ⟨i, hi, rfl⟩ := List.getElem_of_mem hr
          have hiq : i < q := by rw [← HQ.out]; exact hi
          have e : nthR rs i = rs[i] := by simp [nthR, hi]
          rw [← e]
          obtain ⟨p1, p2, -, -⟩ := HROW.out i hiq
          have hblt : ∀ p, (nthR rs i).a = some p → p.block < g := fun p hp => by
            have := HLT.out.2 i (by rw [HQ.out]; exact hiq) p hp
            have := HGD.out
            omega
          have hsm := parks_small p1 rfl
          have hgs := hgr.size
          exact ⟨⟨(HH.out.2.2.2.2.2 i hiq).kept hgr (fun p hp => by have := hblt p hp; omega), hsm.1, hsm.2⟩, fun p hp => by have := hblt p hp; omega⟩
        have HFIT := hid hfit
        have hbw : Go.RowKit.Below w.heap.size w wr := hb1.trans (below_grown hgr hb1.size (by intro k hk; cases hk; exact hsz))
        clear hcell hfit
        go_wp2_with fail
        refine (countAlikeR_any g 0 q q rs _ HCELL.out HQ.out hq0 (by omega) HFIT.out).mono ?_
        rintro e w5 ⟨a5, q5, cap5, rfl, ho5, hb5⟩
        rw [HRUN.out] at ho5
        go_wp2_with fail
        go_ret2
        exact postInts HA.out (ho5.mono hbw.size) (hbw.trans (hb5.mono hbw.size))
  · have HA := hid (distOfN_no hg)
    have HAL := hid (allOf_no hg)
    clear hg
    go_enter Tryz.func14, Tryz.ntmps14
    go_wp2_with fail
    refine (allParking_any _ _).mono ?_
    rw [HAL.out]
    rintro e w1 ⟨a1, q, cap1, rs, rfl, R1, hn1, hb1⟩
    go_wp2_with fail
    go_ret2
    exact postInts_no HA.out hb1
end Go.Proofs.YtfjeadnakbdkjaaGreat

