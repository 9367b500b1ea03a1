/- The program's counts by inversions. -/
import Derived.Test.YtlfbmpgjhnpceabMathTr
import Derived.Test.YtlfbmpgjhnpceabMathT
import Derived.Test.YtlfbmpgjhnpceabHelp2
import Derived.Test.YtlfbmpgjhnpceabSpecTv
import Derived.Test.YtlfbmpgjhnpceabMathS
import Derived.Test.YtlfbmpgjhnpceabMathL
import Derived.Test.YtlfbmpgjhnpceabMathUn
import Derived.Test.YtlfbmpgjhnpceabImplN
import Derived.Test.YtlfbmpgjhnpceabSpecA
import Derived.Test.YtlfbmpgjhnpceabSpecTq
import Derived.Test.YtlfbmpgjhnpceabOutL
import Derived.Test.YtlfbmpgjhnpceabImplTw
import Derived.Shelf.Small.Bits
import Derived.Shelf.Small.Wraps
import Derived.Shelf.Strconv.Itoa0
import Derived.Shelf.Sort.Plain
import Derived.Shelf.Bits.Mul64
import Derived.Shelf.Slices.Turned
import Derived.Ground.Names2Prog
import Derived.Shelf.Slices.Clone
import Derived.Shelf.Slices.SearchI
import Derived.Shelf.Slices.In.SortNone
import Derived.Ground.SlgnProg
import Derived.Shelf.SlicesE.Clone
import Derived.Ground.SlsfProg
import Derived.Shelf.SlSortCmp.Insertion
import Derived.Shelf.SlSortCmp.SiftDown1
import Derived.Shelf.SlSortCmp.HeapSort1
import Derived.Shelf.SlSortCmp.Insertion1
import Derived.Shelf.SlSortCmp.Median1
import Derived.Shelf.SlSortCmp.Pivot1
import Derived.Shelf.SlSortCmp.ReverseRange1
import Derived.Shelf.SlSortCmp.PartialInsertion1
import Derived.Shelf.SlSortCmp.PartitionEqual1
import Derived.Shelf.SlSortCmp.Partition1
import Derived.Shelf.SlSortCmp.Pdq1
import Derived.Shelf.SlSortCmp.Whole1
import Derived.Test.YtlfbmpgjhnpceabProg
import Derived.Test.YtlfbmpgjhnpceabHelp
import Derived.Test.YtlfbmpgjhnpceabMathR
import Derived.Sort.OwnSortedInts
import Derived.OwnWalkIn
import Derived.Maps.OwnIn
import Derived.Deep.AppendLies
import Derived.RangeFuncBox
import Derived.Test.YtlfbmpgjhnpceabBase
import Derived.Laws.CopyOwn
import Derived.Deep.RegionLaw
import Derived.RangeFuncNested
import Derived.RangeFuncBound
import Derived.RangeFuncCalls
import Derived.RangeFuncLeaves
import Derived.Shelf.Abstract
import Derived.WalkKit
import Derived.TacticsInMore
import Derived.LoopNIn
import Derived.LoopIn
import Derived.Deep.RegionHeld3
import Derived.Deep.DeepCutAuto
import Derived.Test.YtlfbmpgjhnpceabImplTp
namespace Go.Proofs.Ytlfbmpgjhnpceab
open Go.RowKit

/-- The first c numbers beyond i that are above the node i, as pairs. -/
def invRow (xs : List Int) (i c : Nat) : List (List Int) := ((List.range c).filter fun t => hasB (abv xs (i : Int)) ((i + 1 + t : Nat) : Int)).map fun t => [(i : Int), ((i + 1 + t : Nat) : Int)]
def invTo (xs : List Int) (k : Nat) : List (List Int) := (List.range k).flatMap fun i => invRow xs (i + 1) (xs.length - (i + 1))
def invL (xs : List Int) : List (List Int) := invTo xs xs.length
def invOf (xs : List Int) : List (List Int) × Bool := if treeB xs then (invL xs, true) else ([], false)
def invCnt (xs : List Int) : Int × Bool := if treeB xs then (((invL xs).length : Int), true) else (0, false)
theorem invRow_zero (xs : List Int) (i : Nat) : invRow xs i 0 = [] := rfl
theorem invRow_yes {xs : List Int} {i c : Nat} (h : hasB (abv xs (i : Int)) ((i + 1 + c : Nat) : Int) = true) : invRow xs i (c + 1) = invRow xs i c ++ [[(i : Int), ((i + 1 + c : Nat) : Int)]] := by
  simp only [invRow, List.range_succ, List.filter_append, List.map_append, List.filter_cons, h, if_true, List.filter_nil, List.map_cons, List.map_nil]
theorem invRow_no {xs : List Int} {i c : Nat} (h : hasB (abv xs (i : Int)) ((i + 1 + c : Nat) : Int) = false) : invRow xs i (c + 1) = invRow xs i c := by
  simp only [invRow, List.range_succ, List.filter_append, List.map_append, List.filter_cons, h, List.filter_nil]
  simp
theorem invTo_succ (xs : List Int) (k : Nat) : invTo xs (k + 1) = invTo xs k ++ invRow xs (k + 1) (xs.length - (k + 1)) := by simp [invTo, List.range_succ]
theorem length_invRow (xs : List Int) (i c : Nat) : (invRow xs i c).length ≤ c := by
  simp only [invRow, List.length_map]
  exact Nat.le_trans (List.length_filter_le _ _) (by simp)

/-- The first q that are above the node i and greater, as pairs. -/
def hiRow (xs : List Int) (i q : Nat) : List (List Int) := ((List.range q).filter fun t => decide ((i : Int) < up xs i (t + 1))).map fun t => [(i : Int), up xs i (t + 1)]
def hiTo (xs : List Int) (k : Nat) : List (List Int) := (List.range k).flatMap fun i => hiRow xs (i + 1) (dep xs ((i : Int) + 1))
theorem hiRow_zero (xs : List Int) (i : Nat) : hiRow xs i 0 = [] := rfl
theorem hiRow_yes {xs : List Int} {i q : Nat} (h : (i : Int) < up xs i (q + 1)) : hiRow xs i (q + 1) = hiRow xs i q ++ [[(i : Int), up xs i (q + 1)]] := by
  have h' : decide ((i : Int) < up xs i (q + 1)) = true := by simpa using h
  simp only [hiRow, List.range_succ, List.filter_append, List.map_append, List.filter_cons, h', if_true, List.filter_nil, List.map_cons, List.map_nil]
theorem hiRow_no {xs : List Int} {i q : Nat} (h : ¬ (i : Int) < up xs i (q + 1)) : hiRow xs i (q + 1) = hiRow xs i q := by
  have h' : decide ((i : Int) < up xs i (q + 1)) = false := by simpa using h
  simp only [hiRow, List.range_succ, List.filter_append, List.map_append, List.filter_cons, h', List.filter_nil]
  simp
theorem hiTo_succ (xs : List Int) (k : Nat) : hiTo xs (k + 1) = hiTo xs k ++ hiRow xs (k + 1) (dep xs ((k : Int) + 1)) := by simp [hiTo, List.range_succ]
theorem length_hiRow (xs : List Int) (i q : Nat) : (hiRow xs i q).length ≤ q := by
  simp only [hiRow, List.length_map]
  exact Nat.le_trans (List.length_filter_le _ _) (by simp)

theorem up_inj {ps : List Int} {v : Int} {d a b : Nat} (h1 : up ps v d = 0) (h2 : ∀ j, j < d → up ps v j ≠ 0) (hb : b ≤ d) (hab : a < b) : up ps v a ≠ up ps v b := fun e => by
  have e1 := up_add ps v b (d - b)
  have e2 := up_add ps v a (d - b)
  rw [show b + (d - b) = d by omega, h1] at e1
  rw [e, ← e1] at e2
  exact h2 _ (by omega) e2
theorem hi_inv {xs : List Int} {n : Nat} (ht : Tree xs n) {i : Nat} (h1 : 1 ≤ i) (h2 : i ≤ n) : (hiRow xs i (dep xs (i : Int))).Perm (invRow xs i (n - i)) := by
  obtain ⟨d1, d2, d3⟩ := ht.dep (v := (i : Int)) (by omega) (by omega)
  refine (List.perm_ext_iff_of_nodup ?_ ?_).2 fun r => ?_
  · unfold hiRow
    refine List.Pairwise.map _ (fun a b h => ?_) (((List.pairwise_lt_range (n := dep xs (i : Int))).filter _).imp_of_mem (fun {a b} ha hb hab => (And.intro hab (And.intro ha hb) : a < b ∧ _ ∧ _)))
    obtain ⟨hab, ha, hb⟩ := h
    simp only [List.mem_filter, List.mem_range] at ha hb
    intro e
    injection e with _ e
    injection e with e _
    exact up_inj d1 d2 (show b + 1 ≤ _ by omega) (show a + 1 < b + 1 by omega) e
  · unfold invRow
    refine List.Pairwise.map _ (fun a b h => ?_) ((List.pairwise_lt_range (n := n - i)).filter _)
    intro e
    injection e with _ e
    injection e with e _
    omega
  · simp only [hiRow, invRow, List.mem_map, List.mem_filter, List.mem_range, decide_eq_true_eq, hasB_iff]
    constructor
    · rintro ⟨t, ⟨ht1, ht2⟩, rfl⟩
      have hb := ht.up_bounds (v := (i : Int)) (by omega) (by omega) (t + 1)
      refine ⟨(up xs i (t + 1)).toNat - (i + 1), ⟨by omega, ?_⟩, ?_⟩
      · rw [show ((i + 1 + ((up xs i (t + 1)).toNat - (i + 1)) : Nat) : Int) = up xs i (t + 1) by omega]
        exact List.mem_map.2 ⟨t, List.mem_range.2 ht1, rfl⟩
      · rw [show ((i + 1 + ((up xs i (t + 1)).toNat - (i + 1)) : Nat) : Int) = up xs i (t + 1) by omega]
    · rintro ⟨c, ⟨hc, hm⟩, rfl⟩
      obtain ⟨t, ht1, ht2⟩ := List.mem_map.1 hm
      rw [List.mem_range] at ht1
      exact ⟨t, ⟨ht1, by rw [ht2]; omega⟩, by rw [ht2]⟩
theorem hiTo_invTo {xs : List Int} {n : Nat} (ht : Tree xs n) : ∀ k, k ≤ n → (hiTo xs k).Perm (invTo xs k)
  | 0, _ => List.Perm.refl _
  | k + 1, hk => by
    rw [hiTo_succ, invTo_succ, ht.len]
    exact (hiTo_invTo ht k (by omega)).append (hi_inv ht (by omega) hk)
theorem hiTo_inv {xs : List Int} {n : Nat} (ht : Tree xs n) : (hiTo xs n).Perm (invL xs) := by
  have := hiTo_invTo ht n (Nat.le_refl _)
  rw [invL, ht.len]
  exact this

/-- A pair as one number, and back. -/
def pairC (r : List Int) : Int := 10 * nth r 0 + nth r 1
def unPair (c : Int) : List Int := [c / 10, c % 10]
theorem un_pairC {i j : Int} (h1 : 0 ≤ j) (h2 : j ≤ 9) : unPair (pairC [i, j]) = [i, j] := by
  have e : pairC [i, j] = 10 * i + j := rfl
  rw [e, unPair]
  congr 1
  · omega
  · congr 1
    omega
theorem inv_un {xs : List Int} {n : Nat} (ht : Tree xs n) (h8 : n ≤ 8) : ∀ r ∈ invL xs, unPair (pairC r) = r := by
  intro r hr
  simp only [invL, invTo, invRow, List.mem_flatMap, List.mem_map, List.mem_filter, List.mem_range] at hr
  obtain ⟨i, hi, c, ⟨hc, _⟩, rfl⟩ := hr
  have := ht.len
  exact un_pairC (by omega) (by omega)
theorem inv_sorted {xs : List Int} {n : Nat} (ht : Tree xs n) (h8 : n ≤ 8) : ((invL xs).map pairC).Pairwise (· ≤ ·) := by
  have hl := ht.len
  refine List.pairwise_map.2 ?_
  rw [invL, invTo, List.pairwise_flatMap]
  refine ⟨fun i _ => ?_, (List.pairwise_lt_range (n := xs.length)).imp_of_mem fun {a b} ha hb hab r hr s hs => ?_⟩
  · unfold invRow
    refine List.Pairwise.map _ (fun a b h => ?_) ((List.pairwise_lt_range (n := xs.length - (i + 1))).filter _)
    simp only [pairC, nth]
    simp
    omega
  · simp only [invRow, List.mem_map, List.mem_filter, List.mem_range] at hr hs ha hb
    obtain ⟨c, ⟨hc, _⟩, rfl⟩ := hr
    obtain ⟨d, ⟨hd, _⟩, rfl⟩ := hs
    simp only [pairC, nth]
    simp
    omega
/-- Rows that are sorted as numbers are the inversions in order. -/
theorem sorted_inv {xs : List Int} {n : Nat} (ht : Tree xs n) (h8 : n ≤ 8) {rs ss : List (List Int)} (hr : rs = hiTo xs n) (hs : ∀ s ∈ ss, s ∈ rs) (he : ss.map pairC = insSort (rs.map pairC)) : ss = invL xs := by
  have hp := hiTo_inv ht
  have e1 : insSort (rs.map pairC) = (invL xs).map pairC := by
    rw [hr, insSort_of_perm (hp.map pairC)]
    exact sorted_unique (insSort_sorted _) (inv_sorted ht h8) (insSort_perm _)
  have e2 : (ss.map pairC).map unPair = ss := by
    rw [List.map_map]
    conv => rhs; rw [← List.map_id ss]
    exact List.map_congr_left fun s h => inv_un ht h8 s (hp.subset (hr ▸ hs s h))
  have e3 : ((invL xs).map pairC).map unPair = invL xs := by
    rw [List.map_map]
    conv => rhs; rw [← List.map_id (invL xs)]
    exact List.map_congr_left fun s h => inv_un ht h8 s h
  rw [← e2, he, e1, e3]
theorem length_hiTo {xs : List Int} {n : Nat} (ht : Tree xs n) (h8 : n ≤ 8) : ∀ k, k ≤ n → (hiTo xs k).length ≤ 8 * k
  | 0, _ => Nat.zero_le _
  | k + 1, hk => by
    have := length_hiTo ht h8 k (by omega)
    have h := length_hiRow xs (k + 1) (dep xs ((k : Int) + 1))
    have d := (ht.dep (v := (k : Int) + 1) (by omega) (by omega)).2.2
    rw [hiTo_succ, List.length_append]
    omega
end Go.Proofs.Ytlfbmpgjhnpceab

namespace Go.Proofs.Ytlfbmpgjhnpceab
open Go.RowKit

/-- Rows handed back. -/
def RowsRet (w : World) (ls : List (List Int)) (e : Ending) (w' : World) : Prop := ∃ a q cap rs, e = .returned (.slice a q cap) ∧ OwnR w' w.heap.size a q cap rs ∧ numsOf rs = ls ∧ Below w.heap.size w w'
theorem own_lit2 (w : World) (B : Nat) (x y : Int) (hB : B ≤ w.heap.size) : Own (w.alloc (.cells #[.int .i64 x, .int .i64 y] 3)) B (some ⟨w.heap.size, 0, none⟩) 2 2 [x, y] :=
  ⟨World.ownsRow_lit w #[.int .i64 x, .int .i64 y] 2 hB (by unfold maxLen; omega) (by simp), by simp⟩
/-- 'append(out, []int{x, y})'. -/
theorem wpList_append_lit2 {ops : Array Oper} {rest : List Oper} {o : Oper} {a : Act} {Q : Exit → Act → World → Prop} (w : World) (hgd : o.guard = none) (s x : Operand)
    (ho : o.op = .call { callee := .builtin .append, args := #[s, x], argTypes := #[42, 42] })
    (B : Nat) (a0 : Option Addr) (n cap : Nat) (rs : List Rw) (x1 y1 : Int) (hs : a.eval s = .slice a0 n cap) (hx : a.eval x = .slice (some ⟨w.heap.size + 1, 0, none⟩) 1 1)
    (hown : OwnR w B a0 n cap rs) (hl : n + 1 ≤ 2097152) (hB : B ≤ w.heap.size)
    (h : ∀ a' cap' w' rs', numsOf rs' = numsOf rs ++ [[x1, y1]] → OwnR w' B a' (n + 1) cap' rs' → Below B w w' → wpList Try.prog ops Q rest (a.put o.dst (.slice a' (n + 1) cap')) w') :
    wpList Try.prog ops Q (o :: rest) a ((w.alloc (.cells #[.int .i64 x1, .int .i64 y1] 3)).alloc (.cells #[.slice (some ⟨w.heap.size, 0, none⟩) 2 2] 22)) := by
  have hsz : (w.alloc (.cells #[.int .i64 x1, .int .i64 y1] 3)).heap.size = w.heap.size + 1 := by simp
  refine wpList_append_row w (w.alloc (.cells #[.int .i64 x1, .int .i64 y1] 3)) hgd s x ho B a0 n cap rs _ _ _ _ hs (by rw [hsz]; exact hx) hown ((Below.refl _ _).alloc (Nat.le_refl _) _) (own_lit2 _ _ _ _ (Nat.le_refl _)) hl hB ?_
  intro a' cap' w' hown' hb'
  exact h _ _ _ _ (by simp [numsOf]) hown' (((Below.refl _ _).alloc hB _).trans hb')

/-- 'append(out, row)', with what is kept: w0: the world in which the rows so far were complete; the new row is younger. -/
theorem wpList_append_row_k {ops : Array Oper} {rest : List Oper} {o : Oper} {a : Act} {Q : Exit → Act → World → Prop} (w0 w : World) (hgd : o.guard = none) (s x : Operand)
    (ho : o.op = .call { callee := .builtin .append, args := #[s, x], argTypes := #[42, 42] })
    (B : Nat) (a0 : Option Addr) (n cap : Nat) (rs : List Rw) (a1 : Option Addr) (m c1 : Nat) (ys : List Int) (hs : a.eval s = .slice a0 n cap) (hx : a.eval x = .slice (some ⟨w.heap.size, 0, none⟩) 1 1)
    (hown : OwnR w0 B a0 n cap rs) (hb : Below w0.heap.size w0 w) (hrow : Own w w0.heap.size a1 m c1 ys) (hl : n + 1 ≤ 2097152) (hB : B ≤ w0.heap.size)
    (h : ∀ a' cap' w', OwnR w' B a' (n + 1) cap' (rs ++ [⟨a1, c1, ys⟩]) → Below B w w' → (∀ {aa : Option Addr} {k c : Nat} {zs : List Int} {BB : Nat}, Own w BB aa k c zs → Own w' BB aa k c zs) → (w.alloc (.cells #[.slice a1 m c1] 22)).grownBy w' (Value.slice a0 n cap).ownBlock → wpList Try.prog ops Q rest (a.put o.dst (.slice a' (n + 1) cap')) w') :
    wpList Try.prog ops Q (o :: rest) a (w.alloc (.cells #[.slice a1 m c1] 22)) := by
  obtain ⟨i0, hi, hz0, hz1, hz2⟩ := info_parts Try.infoInts
  have hlen := hown.len
  have hm : ys.length = m := hrow.len
  have hsz := hb.size
  have hownw := hown.below hb (Nat.le_refl _)
  refine wpList_append_own (P := Try.prog) _ hgd s x 42 ho B 22 i0 (.slice none 0 0) 1 24 Try.underlying42 hi hz0 hz1 hz2 rfl (by decide) _ n (rs.map Rw.v) hs (hownw.1.alloc _) ⟨w.heap.size, 0, none⟩ 1 1 [.slice a1 m c1] hx rfl (one_cellV w _ _) (by intro u hu; simp at hu; subst hu; rfl) (by unfold maxLen; omega) (by omega) (by simp; omega) ?_
  intro v' w' hown' hgrow _
  have hbw : Below B w w' := ((Below.refl B w).alloc (by omega) _).grown hgrow (by simp; omega) (fun k hk => (hownw.1.lt k hk).1)
  obtain ⟨a', cap', rfl⟩ := slice_of_row hown'
  -- rows lie in blocks that the append has not written: they hold integers, the slice's own block slices
  have hkeep : ∀ {aa : Option Addr} {k c : Nat} {zs : List Int} {BB : Nat}, Own w BB aa k c zs → Own w' BB aa k c zs := by
    intro aa k c zs BB hz
    refine ⟨(hz.1.alloc _).kept hgrow ?_, hz.2⟩
    cases aa with
    | none => left; rfl
    | some p =>
      right
      rcases hz.1.2 with ⟨hv, _⟩ | ⟨g1, cap1, cur1, hv1, _, hh1, _⟩
      · simp at hv
      · simp at hv1
        rcases hownw.1.2 with ⟨hv2, _⟩ | ⟨g2, cap2, cur2, hv2, _, hh2, _⟩
        · simp at hv2
          rw [hv2.1]
          simp [Value.ownBlock]
        · simp at hv2
          rw [hv2.1, hv1.1]
          simp only [Value.ownBlock]
          intro e
          simp at e
          rw [e, hh2] at hh1
          simp at hh1
  have hfin : OwnR w' B a' (n + 1) cap' (rs ++ [⟨a1, c1, ys⟩]) := by
    have hge := hrow.ge
    refine ⟨by simpa [Rw.v, hm] using hown', by simp [hlen], hl, fun i hi => ?_, fun i j p q hij hj hp hq => ?_⟩
    · by_cases e : i < n
      · rw [nthR_append_left (by omega)]
        exact hkeep (hownw.2.2.2.1 i e)
      · obtain rfl : i = n := by omega
        rw [nthR_append_right (by omega), hlen, Nat.sub_self, nthR_one]
        have := (hkeep hrow).mono hB
        rw [← hm] at this
        exact this
    · rw [nthR_append_left (by omega)] at hp
      by_cases e : j < n
      · rw [nthR_append_left (by omega)] at hq
        exact hown.2.2.2.2 i j p q hij e hp hq
      · obtain rfl : j = n := by omega
        rw [nthR_append_right (by omega), hlen, Nat.sub_self, nthR_one] at hq
        have h1 := hown.lt.2 i (by omega) p hp
        have h2 := hge q hq
        omega
  exact h _ _ _ hfin hbw hkeep hgrow

/-- 'append(out, []int{x, y})', with what is kept. -/
theorem wpList_append_lit2k {ops : Array Oper} {rest : List Oper} {o : Oper} {a : Act} {Q : Exit → Act → World → Prop} (w : World) (hgd : o.guard = none) (s x : Operand)
    (ho : o.op = .call { callee := .builtin .append, args := #[s, x], argTypes := #[42, 42] })
    (B : Nat) (a0 : Option Addr) (n cap : Nat) (rs : List Rw) (x1 y1 : Int) (hs : a.eval s = .slice a0 n cap) (hx : a.eval x = .slice (some ⟨w.heap.size + 1, 0, none⟩) 1 1)
    (hown : OwnR w B a0 n cap rs) (hl : n + 1 ≤ 2097152) (hB : B ≤ w.heap.size)
    (h : ∀ a' cap' w' rs', numsOf rs' = numsOf rs ++ [[x1, y1]] → OwnR w' B a' (n + 1) cap' rs' → Below B w w' → (∀ {aa : Option Addr} {k c : Nat} {zs : List Int} {BB : Nat}, Own w BB aa k c zs → Own w' BB aa k c zs) → ((w.alloc (.cells #[.int .i64 x1, .int .i64 y1] 3)).alloc (.cells #[.slice (some ⟨w.heap.size, 0, none⟩) 2 2] 22)).grownBy w' (Value.slice a0 n cap).ownBlock → wpList Try.prog ops Q rest (a.put o.dst (.slice a' (n + 1) cap')) w') :
    wpList Try.prog ops Q (o :: rest) a ((w.alloc (.cells #[.int .i64 x1, .int .i64 y1] 3)).alloc (.cells #[.slice (some ⟨w.heap.size, 0, none⟩) 2 2] 22)) := by
  have hsz : (w.alloc (.cells #[.int .i64 x1, .int .i64 y1] 3)).heap.size = w.heap.size + 1 := by simp
  refine wpList_append_row_k w (w.alloc (.cells #[.int .i64 x1, .int .i64 y1] 3)) hgd s x ho B a0 n cap rs _ _ _ _ hs (by rw [hsz]; exact hx) hown ((Below.refl _ _).alloc (Nat.le_refl _) _) (own_lit2 _ _ _ _ (Nat.le_refl _)) hl hB ?_
  intro a' cap' w' hown' hb' hk hg
  exact h _ _ _ _ (by simp [numsOf]) hown' (((Below.refl _ _).alloc hB _).trans hb') (fun hz => hk (hz.below ((Below.refl w.heap.size w).alloc (Nat.le_refl _) _) (Nat.le_refl _))) hg
end Go.Proofs.Ytlfbmpgjhnpceab

namespace Go.Proofs.Ytlfbmpgjhnpceab
open Go.RowKit

set_option maxHeartbeats 1000000 in
theorem trPairs_any (a : Option Addr) (n cap : Nat) (xs : List Int) (w : World) (h : Has w a n cap xs) (ht : Tree xs n) (h8 : n ≤ 8) :
    Calls Try.prog 117 #[.slice a n cap] w (RowsRet w (invL xs)) := by
  have HL := hid h.len
  have HT := hid ht
  clear ht
  go_enter Try.func117, Try.ntmps117
  go_wp2_with fail
  go_loopw [3, 4] (fun o i wr => ∃ (k q : Nat) (a' : Option Addr) (cq : Nat) (rs : List Rw), k ≤ n ∧ q ≤ 8 * k ∧ i = .int .i64 ((k : Int) + 1) ∧ o = .slice a' q cq ∧ OwnR wr w.heap.size a' q cq rs ∧ Hid (numsOf rs = invTo xs k) ∧ Below w.heap.size w wr) (fun _ i _ => n + 1 - (intOf i).toNat)
  case atStart => exact ⟨0, 0, none, 0, [], Nat.zero_le _, Nat.zero_le _, rfl, rfl, OwnR.nil _ _, hid rfl, Below.refl _ _⟩
  case round =>
    obtain ⟨wo, rfl⟩ : ∃ wo : World, wo = wr := ⟨_, rfl⟩
    obtain ⟨k, q, a', cq, rs, hk, hq, rfl, rfl, hown, HN, hb⟩ := hrel
    by_cases hlt : k < n
    · go_wp2_with fail
      refine (trAbove_at _ _ _ _ (k + 1) _ _ (by omega) (h.below hb (Nat.le_refl _)) HT.out (by omega)).mono ?_
      rintro e w2 ⟨a2, m2, cap2, rfl, hown2, hb2⟩
      have hownX := hown.below hb2 (Nat.le_refl _)
      have hbX := hb.trans (hb2.mono hb.size)
      have hb0 := hb.size
      have hA := hown2
      have hAlt : wo.heap.size ≤ w2.heap.size := hb2.size
      clear hown hb
      go_wp2_with fail
      go_loopw [3, 6] (fun o jv wr => ∃ (c q : Nat) (a' : Option Addr) (cq : Nat) (rs : List Rw), c ≤ n - (k + 1) ∧ q ≤ 8 * k + c ∧ jv = .int .i64 (((k + 1 + 1 + c : Nat)) : Int) ∧ o = .slice a' q cq ∧ OwnR wr w.heap.size a' q cq rs ∧ Hid (numsOf rs = invTo xs k ++ invRow xs (k + 1) c) ∧ Own wr wo.heap.size a2 m2 cap2 (abv xs ((k + 1 : Nat) : Int)) ∧ Below w.heap.size w wr) (fun _ jv _ => n + 1 - (intOf jv).toNat)
      case atStart => exact ⟨0, q, a', cq, rs, Nat.zero_le _, by omega, by go_num, rfl, hownX, hid (by rw [HN.out, invRow_zero, List.append_nil]), hA, hbX⟩
      case round =>
        obtain ⟨c, q1, a1, cq1, rs1, hc, hq1, rfl, rfl, hown1, HN1, hA1, hb1⟩ := hrel
        have hv : Hid (((k + 1 + 1 + c : Nat) : Int) = (k : Int) + 1 + 1 + (c : Int)) := hid (by omega)
        by_cases hlc : c < n - (k + 1)
        · have hcn : k + 1 + 1 + c ≤ n := by omega
          by_cases hh : hasB (abv xs ((k + 1 : Nat) : Int)) ((k + 1 + 1 + c : Nat) : Int) = true
          · have HP := hid (invRow_yes hh)
            rw [hv.out] at hh
            have HH := hid hh
            clear hh
            go_wp2_with fail
            refine (l1Has_any _ _ _ _ _ _ hA1.has).mono ?_
            rintro e w3 ⟨rfl, rfl⟩
            rw [HH.out]
            go_wp2_with (at_builtin; refine wpList_append_lit2k _ rfl _ _ rfl w.heap.size _ _ _ _ _ _ rfl rfl hown1 (by omega) hb1.size ?_; intro a3 cap3 w3 rs3 hn3 hown3 hb3 hk3 _)
            go_roundw
            case rel => exact ⟨c + 1, q1 + 1, a3, cap3, rs3, by omega, by omega, by go_num, rfl, hown3, hid (by rw [hn3, HN1.out, HP.out, List.append_assoc]; simp), hk3 hA1, hb1.trans hb3⟩
            case measure => simp [intOf]; omega
          · have hh := Bool.eq_false_iff.2 hh
            have HP := hid (invRow_no hh)
            rw [hv.out] at hh
            have HH := hid hh
            clear hh
            go_wp2_with fail
            refine (l1Has_any _ _ _ _ _ _ hA1.has).mono ?_
            rintro e w3 ⟨rfl, rfl⟩
            rw [HH.out]
            go_wp2_with fail
            go_roundw
            case rel => exact ⟨c + 1, q1, a1, cq1, rs1, by omega, by omega, by go_num, rfl, hown1, hid (by rw [HN1.out, HP.out]), hA1, hb1⟩
            case measure => simp [intOf]; omega
        · obtain rfl : c = n - (k + 1) := by omega
          have hcn : ¬ k + 1 + 1 + (n - (k + 1)) ≤ n := by omega
          go_wp2_with fail
          go_roundw
          case rel => exact ⟨k + 1, q1, a1, cq1, rs1, by omega, by omega, by go_num, rfl, hown1, hid (by rw [HN1.out, invTo_succ, HL.out]), hb1⟩
          case measure => simp [intOf]; omega
    · obtain rfl : k = n := by omega
      have HE : Hid (numsOf rs = invL xs) := hid (by rw [HN.out, invL, HL.out])
      go_wp2_with fail
      go_ret
      exact ⟨a', q, cq, rs, rfl, hown, HE.out, hb⟩

theorem specPairs_any (a : Option Addr) (n cap : Nat) (xs : List Int) (w : World) (h : Has w a n cap xs) :
    Calls Try.prog 43 #[.slice a n cap] w (PostRows w (invOf xs)) := by
  by_cases hg : treeB xs = true
  · have HR : Hid (invOf xs = (invL xs, true)) := hid (by simp [invOf, hg])
    have ht := tree_of hg h.len
    have HG := hid hg
    clear hg
    go_enter Try.func43, Try.ntmps43
    go_wp2_with (go_at_call 118; refine (trGood_any _ _ _ _ _ h).mono ?_; rintro e w' ⟨rfl, rfl⟩; rw [HG.out])
    refine (trPairs_any _ _ _ _ _ h ht ht.le).mono ?_
    rintro e w1 ⟨a1, q, c1, rs, rfl, hown, hn, hb⟩
    go_wp2_with fail
    go_ret2
    exact postRows HR.out hown hn hb
  · have HR : Hid (invOf xs = ([], false)) := hid (by simp [invOf, hg])
    have HG := hid (Bool.eq_false_iff.2 hg)
    clear hg
    go_enter Try.func43, Try.ntmps43
    go_wp2_with (go_at_call 118; refine (trGood_any _ _ _ _ _ h).mono ?_; rintro e w' ⟨rfl, rfl⟩; rw [HG.out])
    go_ret2
    exact postRows_no HR.out (Below.refl _ _)
theorem specInvs_any (a : Option Addr) (n cap : Nat) (xs : List Int) (w : World) (h : Has w a n cap xs) :
    Calls Try.prog 45 #[.slice a n cap] w (PostInt w (invCnt xs)) := by
  by_cases hg : treeB xs = true
  · have HR : Hid (invCnt xs = (((invL xs).length : Int), true)) := hid (by simp [invCnt, hg])
    have ht := tree_of hg h.len
    have HG := hid hg
    clear hg
    go_enter Try.func45, Try.ntmps45
    go_wp2_with (go_at_call 118; refine (trGood_any _ _ _ _ _ h).mono ?_; rintro e w' ⟨rfl, rfl⟩; rw [HG.out])
    refine (trPairs_any _ _ _ _ _ h ht ht.le).mono ?_
    rintro e w1 ⟨a1, q, c1, rs, rfl, hown, hn, hb⟩
    have HQ : Hid (((invL xs).length : Int) = (q : Int)) := hid (by have := hown.len; rw [← hn]; simp [numsOf]; omega)
    rw [HQ.out] at HR
    go_wp2_with fail
    go_ret2
    exact postInt HR.out hb
  · have HR : Hid (invCnt xs = (0, false)) := hid (by simp [invCnt, hg])
    have HG := hid (Bool.eq_false_iff.2 hg)
    clear hg
    go_enter Try.func45, Try.ntmps45
    go_wp2_with (go_at_call 118; refine (trGood_any _ _ _ _ _ h).mono ?_; rintro e w' ⟨rfl, rfl⟩; rw [HG.out])
    go_ret2
    exact postInt HR.out (Below.refl _ _)
end Go.Proofs.Ytlfbmpgjhnpceab

namespace Go.Proofs.Ytlfbmpgjhnpceab
open Go.RowKit

theorem place_run {p : Int} {out : List Int} : ∀ (f : Nat) (x : Int), x ≤ p → p - x ≤ f → ∃ y, Runs out p x y ∧ ¬ (y < p ∧ y ∈ out) ∧ y ≤ p ∧ place p out x = if p ≤ y then -1 else y := by
  have key : ∀ (f : Nat) (x : Int), x ≤ p → p - x ≤ f → ∃ y, Runs out p x y ∧ ¬ (y < p ∧ y ∈ out) ∧ y ≤ p := by
    intro f
    induction f with
    | zero => intro x h1 h2; exact ⟨x, Runs.refl _ _ _, by omega, h1⟩
    | succ f ih =>
      intro x h1 h2
      by_cases hx : x < p ∧ x ∈ out
      · obtain ⟨y, r, h3, h4⟩ := ih (x + 1) (by omega) (by omega)
        refine ⟨y, ⟨by have := r.1; omega, fun z z1 z2 => ?_⟩, h3, h4⟩
        by_cases e : z = x
        · subst e; exact hx
        · exact r.2 z (by omega) z2
      · exact ⟨x, Runs.refl _ _ _, hx, h1⟩
  intro f x h1 h2
  obtain ⟨y, r, h3, h4⟩ := key f x h1 h2
  exact ⟨y, r, h3, h4, place_of r h3 h4⟩

theorem place_ex {p : Int} {out : List Int} {x : Int} (h : x ≤ p) : ∃ y, Runs out p x y ∧ ¬ (y < p ∧ y ∈ out) ∧ y ≤ p ∧ place p out x = if p ≤ y then -1 else y :=
  place_run (p - x).toNat x h (by omega)

/-! ### Looking back -/
/-- The first free place from x on backwards, of so many; -1 if there is none. -/
def lookBack (out : List Int) : Nat → Int → Int
  | 0, _ => -1
  | f + 1, x => if x < 0 then -1 else if hasB out x then lookBack out f (x - 1) else x

theorem lookBack_bounds (out : List Int) : ∀ (f : Nat) (x : Int), -1 ≤ lookBack out f x ∧ (lookBack out f x ≤ x ∨ lookBack out f x = -1)
  | 0, x => by simp [lookBack]
  | f + 1, x => by
    have ih := lookBack_bounds out f (x - 1)
    unfold lookBack
    split
    · simp
    · split
      · omega
      · omega
theorem lookBack_neg {out : List Int} {f : Nat} {x : Int} (h : x < 0) : lookBack out f x = -1 := by
  cases f with
  | zero => rfl
  | succ f => simp [lookBack, h]
theorem lookBack_zero {out : List Int} {x : Int} : lookBack out 0 x = -1 := rfl
theorem lookBack_step {out : List Int} {f : Nat} {x : Int} (h : 0 ≤ x) (hm : hasB out x = true) : lookBack out (f + 1) x = lookBack out f (x - 1) := by
  rw [lookBack, if_neg (by omega), if_pos hm]
theorem lookBack_hit {out : List Int} {f : Nat} {x : Int} (h : 0 ≤ x) (hm : ¬ hasB out x = true) : lookBack out (f + 1) x = x := by
  rw [lookBack, if_neg (by omega), if_neg hm]

/-- Where a car goes that looks back m places. -/
def backPlace (p : Int) (m : Nat) (out : List Int) (x : Int) : Int := if lookBack out (m + 1) x < 0 then place p out x else lookBack out (m + 1) x
theorem backPlace_neg {p : Int} {m : Nat} {out : List Int} {x : Int} (h : lookBack out (m + 1) x = -1) : backPlace p m out x = place p out x := by
  unfold backPlace; rw [if_pos (by omega)]
theorem backPlace_pos {p : Int} {m : Nat} {out : List Int} {x : Int} (h : 0 ≤ lookBack out (m + 1) x) : backPlace p m out x = lookBack out (m + 1) x := by
  unfold backPlace; rw [if_neg (by omega)]
def backs (p : Int) (m : Nat) (xs : List Int) : List Int := xs.foldl (fun out x => out ++ [backPlace p m out x]) []
theorem backs_nil (p : Int) (m : Nat) : backs p m [] = [] := rfl
theorem backs_snoc (p : Int) (m : Nat) (xs : List Int) (x : Int) : backs p m (xs ++ [x]) = backs p m xs ++ [backPlace p m (backs p m xs) x] := by simp [backs]
theorem backs_succ {p : Int} {m : Nat} {xs : List Int} {k : Nat} (h : k < xs.length) : backs p m (xs.take (k + 1)) = backs p m (xs.take k) ++ [backPlace p m (backs p m (xs.take k)) (nth xs k)] := by
  rw [take_succ_nth h, backs_snoc]
theorem length_backs (p : Int) (m : Nat) (xs : List Int) : (backs p m xs).length = xs.length := by
  have : ∀ (ys out : List Int), (ys.foldl (fun out x => out ++ [backPlace p m out x]) out).length = out.length + ys.length := by
    intro ys
    induction ys with
    | nil => intro out; rfl
    | cons y ys ih => intro out; simp only [List.foldl_cons]; rw [ih]; simp; omega
  simp [backs, this]
theorem backPlace_bounds {p : Int} {m : Nat} {out : List Int} {x : Int} (h0 : 0 ≤ x) (h1 : x < p) : -1 ≤ backPlace p m out x ∧ (backPlace p m out x < p) := by
  have h2 := lookBack_bounds out (m + 1) x
  have h3 := place_bounds (p := p) (out := out) h0
  unfold backPlace
  split <;> omega
theorem backs_zero_place {p : Int} {out : List Int} {x : Int} (h0 : 0 ≤ x) (h1 : x < p) : backPlace p 0 out x = place p out x := by
  unfold backPlace
  by_cases hm : hasB out x = true
  · rw [lookBack_step h0 hm, lookBack_zero, if_pos (by omega)]
  · rw [lookBack_hit h0 hm, if_neg (by omega)]
    have := place_of (p := p) (Runs.refl out p x) (fun e => hm (hasB_iff.2 e.2)) (by omega)
    rw [this, if_neg (by omega)]

def backB (xs : List Int) (p k : Int) : Bool := good xs p && inB k 0 8
def driveBackOf (xs : List Int) (p k : Int) : List Int × Bool := if backB xs p k && !hasB (backs p k.toNat xs) (-1) then (backs p k.toNat xs, true) else ([], false)
def doBackOf (xs : List Int) (p k : Int) : Bool × Bool := if backB xs p k then (!hasB (backs p k.toNat xs) (-1), true) else (false, false)
/-- The least number of places from k on, of so many. -/
def leastFrom (xs : List Int) (p : Int) : Nat → Nat → Int × Bool
  | 0, _ => (0, false)
  | f + 1, k => if hasB (backs p k xs) (-1) then leastFrom xs p f (k + 1) else ((k : Int), true)
def leastBackOf (xs : List Int) (p : Int) : Int × Bool := if good xs p then leastFrom xs p 9 0 else (0, false)

/-! ### Cars that fail -/
def driveSomeOf (xs : List Int) (p : Int) : List Int × Bool := if good xs p then (drive p xs, true) else ([], false)
/-- How many stand on no place. -/
def fails (ys : List Int) : Nat := ys.countP fun y => decide (y < 0)
theorem fails_le (ys : List Int) : fails ys ≤ ys.length := List.countP_le_length
theorem fails_succ {ys : List Int} {k : Nat} (h : k < ys.length) : fails (ys.take (k + 1)) = fails (ys.take k) + if nth ys k < 0 then 1 else 0 := by
  unfold fails
  rw [take_succ_nth h, List.countP_append]
  simp
/-- The surplus of favourites from a place on. -/
def surplus (xs : List Int) (p j : Int) : Int := (xs.length : Int) - below xs j - (p - j)
/-- The greatest surplus from the places less than j on, or 0. -/
def defTo (xs : List Int) (p : Int) : Nat → Int
  | 0 => 0
  | j + 1 => max (defTo xs p j) (surplus xs p j)

/-- How many stand on a place less than j. -/
def stood (ys : List Int) (j : Int) : Nat := ys.countP fun y => decide (0 ≤ y) && decide (y < j)

theorem place_new {p : Int} {out : List Int} {x : Int} (h1 : x ≤ p) : place p out x = -1 ∨ (place p out x ∉ out ∧ x ≤ place p out x ∧ place p out x < p) := by
  obtain ⟨y, r, h3, h4, h5⟩ := place_ex (out := out) h1
  have h6 := r.1
  rw [h5]
  split
  · exact .inl rfl
  · exact .inr ⟨fun e => h3 ⟨by omega, e⟩, h6, by omega⟩

/-- No place is taken twice. -/
theorem drive_once {p : Int} {xs : List Int} (hb : ∀ x ∈ xs, 0 ≤ x ∧ x ≤ p - 1) (j : Int) (hj : 0 ≤ j) : ∀ k, k ≤ xs.length → (drive p (xs.take k)).countP (fun y => decide (y = j)) = if hasB (drive p (xs.take k)) j then 1 else 0 := by
  intro k
  induction k with
  | zero => intro _; simp [drive, hasB]
  | succ k ih =>
    intro hk
    have ih := ih (by omega)
    obtain ⟨h0, h1⟩ := hb _ (nth_mem (xs := xs) (i := k) (by omega))
    rw [drive_succ (by omega), List.countP_append, ih]
    generalize drive p (xs.take k) = out at *
    have hn := place_new (p := p) (out := out) (x := nth xs k) (by omega)
    generalize place p out (nth xs k) = y at *
    by_cases e : y = j
    · subst e
      have : y ∉ out := by rcases hn with h | h; omega; exact h.1
      simp [this, hasB]
    · have e' : ¬ j = y := fun h => e h.symm
      simp [hasB, e, e']

theorem stood_succ (ys : List Int) (j : Int) (hj : 0 ≤ j) : stood ys (j + 1) = stood ys j + ys.countP (fun y => decide (y = j)) := by
  induction ys with
  | nil => rfl
  | cons y ys ih =>
    unfold stood at *
    simp only [List.countP_cons, ih, Bool.and_eq_true, decide_eq_true_eq]
    by_cases e : y = j
    · subst e
      rw [if_pos ⟨hj, by omega⟩, if_neg (by omega), if_pos rfl]
      omega
    · simp only [if_neg e]
      by_cases e2 : 0 ≤ y ∧ y < j
      · rw [if_pos ⟨e2.1, by omega⟩, if_pos e2]; omega
      · rw [if_neg (by omega), if_neg e2]; omega

/-- Fewer than the favourites below j + 1 stand below j: just then j is taken. -/
theorem taken_iff {p : Int} {xs : List Int} (hb : ∀ x ∈ xs, 0 ≤ x ∧ x ≤ p - 1) (j : Int) (hj : 0 ≤ j) (hp : j < p) : ∀ k, k ≤ xs.length →
    (stood (drive p (xs.take k)) j ≤ below (xs.take k) j) ∧ (hasB (drive p (xs.take k)) j = true ↔ stood (drive p (xs.take k)) j < below (xs.take k) (j + 1)) := by
  intro k
  induction k with
  | zero => intro _; simp [drive, hasB, stood, below]
  | succ k ih =>
    intro hk
    have ih := ih (by omega)
    obtain ⟨h0, h1⟩ := hb _ (nth_mem (xs := xs) (i := k) (by omega))
    rw [drive_succ (by omega), below_succ (by omega), below_succ (by omega)]
    obtain ⟨y, r, h3, h4, h5⟩ := place_ex (p := p) (out := drive p (xs.take k)) (x := nth xs k) (by omega)
    rw [h5]
    have hmono : below (xs.take k) j ≤ below (xs.take k) (j + 1) := by
      unfold below
      exact List.countP_mono_left fun x _ hx => by simp at *; omega
    generalize drive p (xs.take k) = out at *
    have hs : ∀ z : Int, stood (out ++ [z]) j = stood out j + if 0 ≤ z ∧ z < j then 1 else 0 := by
      intro z
      unfold stood
      rw [List.countP_append]
      simp [List.countP_cons]
    rw [hs]
    have hh : ∀ z : Int, hasB (out ++ [z]) j = (hasB out j || decide (z = j)) := by
      intro z
      by_cases e : z = j
      · subst e; simp [hasB]
      · have e' : ¬ j = z := fun h => e h.symm
        simp [hasB, e, e']
    rw [hh]
    have hr := r.1
    by_cases hy : p ≤ y
    · rw [if_pos hy]
      have hj2 : nth xs k ≤ j → hasB out j = true := fun h => hasB_iff.2 (r.2 j h (by omega)).2
      have e1 : ¬ ((0 : Int) ≤ -1 ∧ (-1 : Int) < j) := by omega
      have e2 : ¬ (-1 : Int) = j := by omega
      simp only [if_neg e1, e2, decide_false, Bool.or_false]
      by_cases hx : nth xs k < j + 1
      · have := hj2 (by omega)
        rw [if_pos hx]
        refine ⟨by split <;> omega, ⟨fun _ => ?_, fun _ => this⟩⟩
        have := ih.2.1 this
        omega
      · rw [if_neg hx, if_neg (by omega)]
        exact ⟨by omega, ih.2⟩
    · rw [if_neg hy]
      by_cases hyj : y < j
      · rw [if_pos ⟨by omega, hyj⟩, if_pos (show nth xs k < j by omega), if_pos (show nth xs k < j + 1 by omega), show decide (y = j) = false from by simp; omega, Bool.or_false]
        refine ⟨by omega, ih.2.trans ⟨fun h => by omega, fun h => by omega⟩⟩
      · rw [if_neg (show ¬ (0 ≤ y ∧ y < j) by omega)]
        by_cases e : y = j
        · subst e
          have : hasB out y = false := hasB_not.2 fun e => h3 ⟨by omega, e⟩
          have h6 : ¬ stood out y < below (xs.take k) (y + 1) := fun h => by have := ih.2.2 h; simp_all
          simp only [decide_true, Bool.or_true, true_iff]
          rw [if_pos (show nth xs k < y + 1 by omega)]
          refine ⟨by split <;> omega, by omega⟩
        · rw [show decide (y = j) = false from by simp; omega, Bool.or_false]
          have hj2 : nth xs k ≤ j → hasB out j = true := fun h => hasB_iff.2 (r.2 j h (by omega)).2
          by_cases hx : nth xs k < j + 1
          · have h7 := hj2 (by omega)
            rw [if_pos hx]
            refine ⟨by split <;> omega, ⟨fun _ => ?_, fun _ => h7⟩⟩
            have := ih.2.1 h7
            omega
          · rw [if_neg hx, if_neg (by omega)]
            exact ⟨by omega, ih.2⟩

/-- How many of the favourites below a place do not stand below it. -/
theorem over_step {p : Int} {xs : List Int} (hb : ∀ x ∈ xs, 0 ≤ x ∧ x ≤ p - 1) (j : Int) (hj : 0 ≤ j) (hp : j < p) :
    (stood (drive p xs) (j + 1) = if stood (drive p xs) j < below xs (j + 1) then stood (drive p xs) j + 1 else stood (drive p xs) j) ∧ stood (drive p xs) j ≤ below xs j ∧ below xs j ≤ below xs (j + 1) := by
  have h1 := taken_iff hb j hj hp xs.length (Nat.le_refl _)
  have h2 := drive_once hb j hj xs.length (Nat.le_refl _)
  rw [List.take_of_length_le (Nat.le_refl _)] at h1 h2
  have hmono : below xs j ≤ below xs (j + 1) := by
    unfold below
    exact List.countP_mono_left fun x _ hx => by simp at *; omega
  refine ⟨?_, h1.1, hmono⟩
  rw [stood_succ _ _ hj, h2]
  by_cases e : hasB (drive p xs) j = true
  · rw [if_pos e, if_pos (h1.2.1 e)]
  · rw [if_neg e, if_neg fun h => e (h1.2.2 h)]; rfl

theorem over_max {p : Int} {xs : List Int} (hb : ∀ x ∈ xs, 0 ≤ x ∧ x ≤ p - 1) : ∀ q : Nat, (q : Int) ≤ p →
    (∀ j : Nat, j ≤ q → (below xs q : Int) - below xs j - ((q : Int) - j) ≤ (below xs q : Int) - stood (drive p xs) q) ∧ (∃ j : Nat, j ≤ q ∧ (below xs q : Int) - below xs j - ((q : Int) - j) = (below xs q : Int) - stood (drive p xs) q) ∧ (stood (drive p xs) q : Int) ≤ below xs q := by
  intro q
  induction q with
  | zero =>
    intro _
    have h0 : stood (drive p xs) 0 = 0 := by
      unfold stood
      rw [List.countP_eq_zero]
      intro y _
      simp
    have h1 : below xs 0 = 0 := by
      unfold below
      rw [List.countP_eq_zero]
      intro y hy
      have := hb y hy
      simp
      omega
    simp only [Int.natCast_zero] at *
    refine ⟨fun j hj => ?_, ⟨0, Nat.le_refl _, ?_⟩, ?_⟩
    · obtain rfl : j = 0 := by omega
      simp [h0, h1]
    · simp [h0, h1]
    · rw [h0, h1]; simp
  | succ q ih =>
    intro hq
    obtain ⟨i1, ⟨j, i2, i3⟩, i4⟩ := ih (by omega)
    obtain ⟨s1, s2, s3⟩ := over_step hb (q : Int) (by omega) (by omega)
    have e : ((q + 1 : Nat) : Int) = (q : Int) + 1 := by omega
    rw [e]
    refine ⟨fun k hk => ?_, ?_, ?_⟩
    · by_cases hk2 : k ≤ q
      · have := i1 k hk2
        rw [s1]
        split <;> omega
      · obtain rfl : k = q + 1 := by omega
        rw [e, s1]
        split <;> omega
    · by_cases hlt : stood (drive p xs) q < below xs ((q : Int) + 1)
      · refine ⟨j, by omega, ?_⟩
        rw [s1, if_pos hlt]
        omega
      · refine ⟨q + 1, Nat.le_refl _, ?_⟩
        rw [e, s1, if_neg hlt]
        omega
    · rw [s1]
      split <;> omega

theorem defTo_max (xs : List Int) (p : Int) : ∀ q : Nat, 0 ≤ defTo xs p q ∧ (∀ j, j < q → surplus xs p j ≤ defTo xs p q) ∧ (defTo xs p q = 0 ∨ ∃ j, j < q ∧ defTo xs p q = surplus xs p j)
  | 0 => ⟨by simp [defTo], fun j hj => by omega, .inl rfl⟩
  | q + 1 => by
    obtain ⟨h1, h2, h3⟩ := defTo_max xs p q
    refine ⟨by rw [defTo]; omega, fun j hj => ?_, ?_⟩
    · rw [defTo]
      by_cases e : j < q
      · have := h2 j e; omega
      · obtain rfl : j = q := by omega
        omega
    · rw [defTo]
      by_cases e : surplus xs p q ≤ defTo xs p q
      · rw [Int.max_eq_left e]
        rcases h3 with h | ⟨j, h, h'⟩
        · exact .inl h
        · exact .inr ⟨j, by omega, h'⟩
      · rw [Int.max_eq_right (by omega)]
        exact .inr ⟨q, by omega, rfl⟩

theorem stood_fails {ys : List Int} {p : Int} (h : ∀ y ∈ ys, y < p) : stood ys p + fails ys = ys.length := by
  induction ys with
  | nil => rfl
  | cons y ys ih =>
    have ih := ih fun z hz => h z (List.mem_cons_of_mem _ hz)
    have := h y List.mem_cons_self
    unfold stood fails at *
    simp only [List.countP_cons, List.length_cons, Bool.and_eq_true, decide_eq_true_eq]
    split <;> split <;> omega

theorem drive_lt {p : Int} (hp : 0 ≤ p) {xs : List Int} (hb : ∀ x ∈ xs, 0 ≤ x ∧ x ≤ p - 1) : ∀ k, k ≤ xs.length → ∀ y ∈ drive p (xs.take k), -1 ≤ y ∧ y < p := by
  intro k
  induction k with
  | zero => intro _ y hy; simp [drive] at hy
  | succ k ih =>
    intro hk y hy
    rw [drive_succ (by omega), List.mem_append, List.mem_singleton] at hy
    rcases hy with hy | rfl
    · exact ih (by omega) y hy
    · obtain ⟨h0, h1⟩ := hb _ (nth_mem (xs := xs) (i := k) (by omega))
      have := place_bounds (p := p) (out := drive p (xs.take k)) h0
      omega

/-- The cars that fail are as many as the greatest surplus. -/
theorem fails_defect {p : Nat} {xs : List Int} (hp : 1 ≤ p) (hb : ∀ x ∈ xs, 0 ≤ x ∧ x ≤ (p : Int) - 1) : (fails (drive p xs) : Int) = defTo xs p p := by
  obtain ⟨h1, ⟨j, h2, h3⟩, h4⟩ := over_max hb p (Int.le_refl _)
  have hall : below xs p = xs.length := by
    unfold below
    rw [List.countP_eq_length]
    intro x hx
    have := hb x hx
    simp
    omega
  have hs := stood_fails (ys := drive p xs) (p := p) (fun y hy => by
    have := drive_lt (p := (p : Int)) (by omega) hb xs.length (Nat.le_refl _) y (by rw [List.take_of_length_le (Nat.le_refl _)]; exact hy)
    omega)
  rw [length_drive] at hs
  obtain ⟨d1, d2, d3⟩ := defTo_max xs p p
  have hall2 := hall
  rw [hall] at h1 h3 h4
  have e1 : ∀ j : Nat, surplus xs p j = (xs.length : Int) - below xs j - ((p : Int) - j) := fun j => rfl
  have hle : defTo xs p p ≤ fails (drive p xs) := by
    rcases d3 with h | ⟨k, hk, h⟩
    · omega
    · have := h1 k (by omega)
      rw [h, e1]
      omega
  have hge : (fails (drive p xs) : Int) ≤ defTo xs p p := by
    by_cases e : j < p
    · have := d2 j e
      rw [e1] at this
      omega
    · obtain rfl : j = p := by omega
      rw [hall] at h3
      omega
  omega

def defectOf (xs : List Int) (p : Int) : Int × Bool := if good xs p then ((fails (drive p xs) : Int), true) else (0, false)

/-! ### Places that are needed -/
theorem drive_other {p q : Int} {xs : List Int} (hb : ∀ x ∈ xs, 0 ≤ x ∧ x ≤ q - 1) : ∀ k, k ≤ xs.length → (∀ y ∈ drive q (xs.take k), 0 ≤ y ∧ y < p) → drive p (xs.take k) = drive q (xs.take k) := by
  intro k
  induction k with
  | zero => intro _ _; rfl
  | succ k ih =>
    intro hk hy
    obtain ⟨h0, h1⟩ := hb _ (nth_mem (xs := xs) (i := k) (by omega))
    rw [drive_succ (by omega)] at hy
    have ih := ih (by omega) fun y h => hy y (List.mem_append_left _ h)
    have hz := hy _ (List.mem_append_right _ List.mem_cons_self)
    rw [drive_succ (by omega), drive_succ (by omega), ih]
    generalize drive q (xs.take k) = out at *
    obtain ⟨y, r, h3, h4, h5⟩ := place_ex (p := q) (out := out) (x := nth xs k) (by omega)
    rw [h5] at hz ⊢
    have hyq : ¬ q ≤ y := fun e => by rw [if_pos e] at hz; omega
    rw [if_neg hyq] at hz ⊢
    rw [place_of (p := p) (y := y) ⟨r.1, fun z h6 h7 => ⟨by omega, (r.2 z h6 h7).2⟩⟩ (fun e => h3 ⟨by omega, e.2⟩) (by omega), if_neg (by omega)]

theorem drive_same {p q : Int} (hpq : p ≤ q) {xs : List Int} (hb : ∀ x ∈ xs, 0 ≤ x ∧ x ≤ p - 1) : ∀ k, k ≤ xs.length → (-1 : Int) ∉ drive p (xs.take k) → drive q (xs.take k) = drive p (xs.take k) := by
  intro k
  induction k with
  | zero => intro _ _; rfl
  | succ k ih =>
    intro hk hy
    obtain ⟨h0, h1⟩ := hb _ (nth_mem (xs := xs) (i := k) (by omega))
    rw [drive_succ (by omega)] at hy
    have ih := ih (by omega) fun h => hy (List.mem_append_left _ h)
    have hz : place p (drive p (xs.take k)) (nth xs k) ≠ -1 := fun e => hy (List.mem_append_right _ (by rw [e]; exact List.mem_cons_self))
    rw [drive_succ (by omega), drive_succ (by omega), ih]
    generalize drive p (xs.take k) = out at *
    obtain ⟨y, r, h3, h4, h5⟩ := place_ex (p := p) (out := out) (x := nth xs k) (by omega)
    rw [h5] at hz ⊢
    have hyq : ¬ p ≤ y := fun e => by rw [if_pos e] at hz; exact hz rfl
    rw [if_neg hyq]
    rw [place_of (p := q) (y := y) ⟨r.1, fun z h6 h7 => ⟨by omega, (r.2 z h6 h7).2⟩⟩ (fun e => h3 ⟨by omega, e.2⟩) (by omega), if_neg (by omega)]

/-- The greatest place and one more, at least 1. -/
def needTo (ys : List Int) : Int := ys.foldl (fun m y => max m (y + 1)) 1
theorem needTo_snoc (ys : List Int) (y : Int) : needTo (ys ++ [y]) = max (needTo ys) (y + 1) := by simp [needTo]
theorem needTo_succ {ys : List Int} {k : Nat} (h : k < ys.length) : needTo (ys.take (k + 1)) = max (needTo (ys.take k)) (nth ys k + 1) := by rw [take_succ_nth h, needTo_snoc]
theorem needTo_max : ∀ (ys : List Int), 1 ≤ needTo ys ∧ (∀ y ∈ ys, y < needTo ys) ∧ (needTo ys = 1 ∨ ∃ y ∈ ys, needTo ys = y + 1) := by
  intro ys
  have key : ∀ k, k ≤ ys.length → 1 ≤ needTo (ys.take k) ∧ (∀ y ∈ ys.take k, y < needTo (ys.take k)) ∧ (needTo (ys.take k) = 1 ∨ ∃ y ∈ ys.take k, needTo (ys.take k) = y + 1) := by
    intro k
    induction k with
    | zero => intro _; simp [needTo]
    | succ k ih =>
      intro hk
      obtain ⟨h1, h2, h3⟩ := ih (by omega)
      rw [needTo_succ (by omega), take_succ_nth (by omega)]
      refine ⟨by omega, fun y hy => ?_, ?_⟩
      · rw [List.mem_append, List.mem_singleton] at hy
        rcases hy with hy | rfl
        · have := h2 y hy; omega
        · omega
      · by_cases e : nth ys k + 1 ≤ needTo (ys.take k)
        · rw [Int.max_eq_left e]
          rcases h3 with h | ⟨y, hy, h⟩
          · exact .inl h
          · exact .inr ⟨y, List.mem_append_left _ hy, h⟩
        · rw [Int.max_eq_right (by omega)]
          exact .inr ⟨_, List.mem_append_right _ List.mem_cons_self, rfl⟩
  have := key ys.length (Nat.le_refl _)
  rwa [List.take_of_length_le (Nat.le_refl _)] at this

def neededOf (xs : List Int) : Int × Bool := if good xs 12 && allPark 12 xs then (needTo (drive 12 xs), true) else (0, false)
/-- Does a street of so many places serve? -/
def serves (xs : List Int) (p : Int) : Bool := allB xs 0 (p - 1) && allPark p xs

theorem serves_iff {xs : List Int} (hb : ∀ x ∈ xs, 0 ≤ x ∧ x ≤ 11) {p : Int} (h1 : 1 ≤ p) (h2 : p ≤ 12) : serves xs p = true ↔ allPark 12 xs = true ∧ needTo (drive 12 xs) ≤ p := by
  obtain ⟨n1, n2, n3⟩ := needTo_max (drive 12 xs)
  unfold serves
  rw [Bool.and_eq_true, allB_iff, allPark_iff, allPark_iff]
  constructor
  · rintro ⟨h3, h4⟩
    have := drive_same (q := 12) h2 h3 xs.length (Nat.le_refl _) (by rw [List.take_of_length_le (Nat.le_refl _)]; exact h4)
    rw [List.take_of_length_le (Nat.le_refl _)] at this
    refine ⟨by rw [this]; exact h4, ?_⟩
    rcases n3 with h | ⟨y, hy, h⟩
    · omega
    · rw [this] at hy
      have := drive_lt (p := p) (by omega) h3 xs.length (Nat.le_refl _) y (by rw [List.take_of_length_le (Nat.le_refl _)]; exact hy)
      omega
  · rintro ⟨h3, h4⟩
    have hy : ∀ y ∈ drive 12 xs, 0 ≤ y ∧ y < p := by
      intro y hy
      have h5 := n2 y hy
      have h6 := drive_lt (p := 12) (by omega) (by simpa using hb) xs.length (Nat.le_refl _) y (by rw [List.take_of_length_le (Nat.le_refl _)]; exact hy)
      have h7 : y ≠ -1 := fun e => h3 (e ▸ hy)
      omega
    have := drive_other (p := p) (q := 12) (by simpa using hb) xs.length (Nat.le_refl _) (by rw [List.take_of_length_le (Nat.le_refl _)]; exact hy)
    rw [List.take_of_length_le (Nat.le_refl _)] at this
    refine ⟨fun x hx => ?_, by rw [this]; exact h3⟩
    obtain ⟨k, hk, rfl⟩ : ∃ k, k < xs.length ∧ nth xs k = x := by
      obtain ⟨k, hk, e⟩ := List.getElem_of_mem hx
      exact ⟨k, hk, by simp [nth, hk, e]⟩
    have h8 := hb _ hx
    have h9 := drive_get (p := 12) hk
    have h10 := hy (nth (drive 12 xs) k) (nth_mem (by rw [length_drive]; exact hk))
    have h11 := place_bounds (p := 12) (out := drive 12 (xs.take k)) h8.1
    rw [h9] at h10
    omega
end Go.Proofs.Ytlfbmpgjhnpceab

namespace Go.Proofs.Ytlfbmpgjhnpceab
open Go.RowKit

/-- Are so many places from y on all there and free? -/
def fits (tk : List Int) (p y : Int) : Nat → Bool
  | 0 => true
  | L + 1 => fits tk p y L && (decide (y + (L : Int) < p) && !hasB tk (y + (L : Int)))
/-- So many places from y on. -/
def cover (y : Int) : Nat → List Int
  | 0 => []
  | L + 1 => cover y L ++ [y + (L : Int)]
theorem mem_cover {y z : Int} : ∀ {L : Nat}, z ∈ cover y L ↔ y ≤ z ∧ z < y + L
  | 0 => by simp [cover]; try omega
  | L + 1 => by
    rw [cover, List.mem_append, mem_cover, List.mem_singleton]
    omega
theorem hasB_append (xs ys : List Int) (z : Int) : hasB (xs ++ ys) z = (hasB xs z || hasB ys z) := by simp [hasB]
theorem hasB_cover {T : List Int} {y z : Int} {L : Nat} (h : ¬ (y ≤ z ∧ z < y + L)) : hasB (T ++ cover y L) z = hasB T z := by
  rw [hasB_append, show hasB (cover y L) z = false from hasB_not.2 fun e => h (mem_cover.1 e), Bool.or_false]
theorem hasB_covered {T : List Int} {y z : Int} {L : Nat} (h : y ≤ z ∧ z < y + L) : hasB (T ++ cover y L) z = true := by
  rw [hasB_append, show hasB (cover y L) z = true from hasB_iff.2 (mem_cover.2 h), Bool.or_true]
theorem fits_yes {T : List Int} {p y : Int} {L : Nat} (h : fits T p y L = true) (h1 : y + (L : Int) < p) (h2 : hasB T (y + (L : Int)) = false) : fits T p y (L + 1) = true := by
  simp [fits, h, h1, h2]
theorem fits_no {T : List Int} {p y : Int} {L M : Nat} (h : ¬ (y + (L : Int) < p ∧ hasB T (y + (L : Int)) = false)) (hl : L < M) : fits T p y M = false := by
  induction M with
  | zero => omega
  | succ M ih =>
    by_cases e : L = M
    · subst e
      rw [fits]
      by_cases h1 : y + (L : Int) < p
      · have : hasB T (y + (L : Int)) = true := by
          cases hh : hasB T (y + (L : Int)) with
          | true => rfl
          | false => exact absurd ⟨h1, hh⟩ h
        simp [this]
      · simp [h1]
    · rw [fits, ih (by omega), Bool.false_and]

/-- Behind k cars: their places, all places that are taken, and whether none is blocked (otherwise those ahead of the blocked one). -/
def longAt (p : Int) (xs ls : List Int) : Nat → List Int × List Int × Bool
  | 0 => ([], [], true)
  | k + 1 =>
    if (longAt p xs ls k).2.2 then
      if decide (0 ≤ place p (longAt p xs ls k).2.1 (nth xs k)) && fits (longAt p xs ls k).2.1 p (place p (longAt p xs ls k).2.1 (nth xs k)) (nth ls k).toNat then
        ((longAt p xs ls k).1 ++ [place p (longAt p xs ls k).2.1 (nth xs k)], (longAt p xs ls k).2.1 ++ cover (place p (longAt p xs ls k).2.1 (nth xs k)) (nth ls k).toNat, true)
      else ((longAt p xs ls k).1, (longAt p xs ls k).2.1, false)
    else longAt p xs ls k

theorem longAt_go {p : Int} {xs ls out T : List Int} {k : Nat} {y : Int} (h : longAt p xs ls k = (out, T, true)) (hy : place p T (nth xs k) = y) (h0 : 0 ≤ y) (hf : fits T p y (nth ls k).toNat = true) :
    longAt p xs ls (k + 1) = (out ++ [y], T ++ cover y (nth ls k).toNat, true) := by
  rw [longAt, h]
  simp [hy, h0, hf]
theorem longAt_stop {p : Int} {xs ls out T : List Int} {k : Nat} (h : longAt p xs ls k = (out, T, true)) (hy : ¬ (0 ≤ place p T (nth xs k) ∧ fits T p (place p T (nth xs k)) (nth ls k).toNat = true)) :
    longAt p xs ls (k + 1) = (out, T, false) := by
  rw [longAt, h]
  have : (decide (0 ≤ place p T (nth xs k)) && fits T p (place p T (nth xs k)) (nth ls k).toNat) = false := by
    rw [Bool.eq_false_iff]
    intro e
    simp at e
    exact hy e
  simp only [this, if_true, Bool.false_eq_true, if_false]
theorem longAt_stays {p : Int} {xs ls : List Int} {k : Nat} (h : (longAt p xs ls k).2.2 = false) : longAt p xs ls (k + 1) = longAt p xs ls k := by
  rw [longAt, h]
  simp
theorem longAt_end {p : Int} {xs ls : List Int} {k : Nat} (h : (longAt p xs ls k).2.2 = false) : ∀ m, k ≤ m → longAt p xs ls m = longAt p xs ls k := by
  intro m hm
  induction m with
  | zero => rw [show k = 0 from by omega]
  | succ m ih =>
    by_cases e : k = m + 1
    · rw [e]
    · have := ih (by omega)
      rw [longAt_stays (by rw [this]; exact h), this]
theorem longAt_facts (p : Int) (xs ls : List Int) : ∀ k, (∀ y ∈ (longAt p xs ls k).1, 0 ≤ y) ∧ ((longAt p xs ls k).2.2 = true → (longAt p xs ls k).1.length = k) ∧ ((longAt p xs ls k).2.2 = false → (longAt p xs ls k).1.length < k) := by
  intro k
  induction k with
  | zero => simp [longAt]
  | succ k ih =>
    obtain ⟨h1, h2, h3⟩ := ih
    by_cases hb : (longAt p xs ls k).2.2 = true
    · rw [longAt, if_pos hb]
      split
      · rename_i hc
        simp at hc
        refine ⟨fun y hy => ?_, fun _ => by simp [h2 hb], fun e => by simp at e⟩
        simp at hy
        rcases hy with hy | rfl
        · exact h1 y hy
        · exact hc.1
      · exact ⟨h1, fun e => by simp at e, fun _ => by simp only; rw [h2 hb]; omega⟩
    · have hb' : (longAt p xs ls k).2.2 = false := by simpa using hb
      rw [longAt_stays hb']
      exact ⟨h1, fun e => absurd e hb, fun _ => by have := h3 hb'; omega⟩

/-- Lengths. -/
def lenB (ls : List Int) : Bool := inB ls.length 1 8 && (allB ls 1 12 && decide (total ls ≤ 12))
theorem lenB_iff {ls : List Int} : lenB ls = true ↔ (1 ≤ ls.length ∧ ls.length ≤ 8) ∧ (∀ x ∈ ls, 1 ≤ x ∧ x ≤ 12) ∧ total ls ≤ 12 := by
  have e : ((1 : Int) ≤ (ls.length : Int) ∧ (ls.length : Int) ≤ 8) ↔ (1 ≤ ls.length ∧ ls.length ≤ 8) := by omega
  simp only [lenB, Bool.and_eq_true, inB_iff, allB_iff, decide_eq_true_eq, e]
def taskB (xs ls : List Int) : Bool := lenB ls && (decide (xs.length = ls.length) && allB xs 0 (total ls - 1))
/-- How many cars park. -/
def longN (xs ls : List Int) : List Int := (longAt (total ls) xs ls xs.length).1
def longOk (xs ls : List Int) : Bool := (longAt (total ls) xs ls xs.length).2.2
theorem longN_ok (xs ls : List Int) : (longN xs ls).length = xs.length ↔ longOk xs ls = true := by
  obtain ⟨_, h2, h3⟩ := longAt_facts (total ls) xs ls xs.length
  unfold longN longOk
  cases hb : (longAt (total ls) xs ls xs.length).2.2 with
  | true => simp [h2 hb]
  | false => have := h3 hb; simp; omega
theorem longN_le (xs ls : List Int) : (longN xs ls).length ≤ xs.length := by
  obtain ⟨_, h2, h3⟩ := longAt_facts (total ls) xs ls xs.length
  unfold longN
  cases hb : (longAt (total ls) xs ls xs.length).2.2 with
  | true => rw [h2 hb]; omega
  | false => have := h3 hb; omega
def driveLongOf (xs ls : List Int) : List Int × Bool := if taskB xs ls && longOk xs ls then (longN xs ls, true) else ([], false)
def isLongOf (xs ls : List Int) : Bool × Bool := if taskB xs ls then (longOk xs ls, true) else (false, false)
def blockedOf (xs ls : List Int) : Int × Bool := if taskB xs ls && !longOk xs ls then (((longN xs ls).length : Int), true) else (0, false)

theorem total_lens {ls : List Int} (h : ∀ x ∈ ls, 0 ≤ x) : ∀ k, k ≤ ls.length → 0 ≤ total (ls.take k) ∧ total (ls.take k) ≤ total ls := by
  have h0 : ∀ k, k ≤ ls.length → 0 ≤ total (ls.take k) := by
    intro k
    induction k with
    | zero => intro _; simp [total]
    | succ k ih =>
      intro hk
      rw [total_succ (by omega)]
      have := ih (by omega)
      have := h _ (nth_mem (xs := ls) (i := k) (by omega))
      omega
  have h1 : ∀ j k, k + j = ls.length → total (ls.take k) ≤ total ls := by
    intro j
    induction j with
    | zero => intro k hk; rw [List.take_of_length_le (by omega)]; exact Int.le_refl _
    | succ j ih =>
      intro k hk
      have h2 := ih (k + 1) (by omega)
      rw [total_succ (by omega)] at h2
      have := h _ (nth_mem (xs := ls) (i := k) (by omega))
      omega
  exact fun k hk => ⟨h0 k hk, h1 (ls.length - k) k (by omega)⟩
theorem total_ge {ls : List Int} (h : ∀ x ∈ ls, 1 ≤ x) : ∀ k, k ≤ ls.length → (k : Int) ≤ total (ls.take k) := by
  intro k
  induction k with
  | zero => intro _; simp [total]
  | succ k ih =>
    intro hk
    rw [total_succ (by omega)]
    have := ih (by omega)
    have := h _ (nth_mem (xs := ls) (i := k) (by omega))
    omega

/-! ### The count of long parking functions -/
def prodLong (ls : List Int) : Nat → Int
  | 0 => 1
  | i + 1 => if i = 0 then 1 else prodLong ls i * (total (ls.take i) + ls.length - i + 1)
theorem prodLong_one (ls : List Int) : prodLong ls 1 = 1 := by simp [prodLong]
theorem prodLong_succ (ls : List Int) {i : Nat} (h : 1 ≤ i) : prodLong ls (i + 1) = prodLong ls i * (total (ls.take i) + ls.length - i + 1) := by
  rw [prodLong, if_neg (by omega)]
theorem factor_bounds {ls : List Int} (h : lenB ls = true) {i : Nat} (hi : i ≤ ls.length) : 0 ≤ total (ls.take i) ∧ total (ls.take i) ≤ 12 ∧ 1 ≤ total (ls.take i) + ls.length - i + 1 ∧ total (ls.take i) + ls.length - i + 1 ≤ 21 := by
  obtain ⟨h1, h2, h3⟩ := lenB_iff.1 h
  have := total_lens (fun x hx => by have := h2 x hx; omega) i hi
  omega
theorem prodLong_bounds {ls : List Int} (h : lenB ls = true) : ∀ i, i ≤ ls.length → 1 ≤ prodLong ls i ∧ prodLong ls i ≤ 21 ^ i
  | 0, _ => by simp [prodLong]
  | i + 1, hi => by
    obtain ⟨h1, h2⟩ := prodLong_bounds h i (by omega)
    rw [prodLong]
    split
    · rename_i e; subst e; simp
    · obtain ⟨_, _, f1, f2⟩ := factor_bounds h (i := i) (by omega)
      generalize total (ls.take i) + ls.length - i + 1 = f at *
      constructor
      · have := Int.mul_le_mul h1 f1 (by omega) (by omega)
        omega
      · have := Int.mul_le_mul h2 f2 (by omega) (by exact Int.pow_nonneg (by omega))
        rw [Int.pow_succ]
        exact this
theorem prodLong_le {ls : List Int} (h : lenB ls = true) {i : Nat} (hi : i ≤ ls.length) : 1 ≤ prodLong ls i ∧ prodLong ls i ≤ 37822859361 := by
  obtain ⟨h1, h2⟩ := prodLong_bounds h i hi
  obtain ⟨h3, _⟩ := lenB_iff.1 h
  refine ⟨h1, Int.le_trans h2 ?_⟩
  have : (21 : Nat) ^ i ≤ 21 ^ 8 := Nat.pow_le_pow_right (by omega) (by omega)
  have e : ((21 : Int) ^ i) = (((21 : Nat) ^ i : Nat) : Int) := by simp
  rw [e]
  have : (21 : Nat) ^ 8 = 37822859361 := by decide
  omega
def countLongOf (ls : List Int) : Int × Bool := if lenB ls then (prodLong ls ls.length, true) else (0, false)

/-! ### Stretched lists -/
/-- The lengths of the first k cars that stand on places less than x. -/
def strSum (order ls : List Int) (x : Int) : Nat → Int
  | 0 => 0
  | k + 1 => strSum order ls x k + if nth order k < x then nth ls k else 0
theorem strSum_bounds {order ls : List Int} (h : ∀ x ∈ ls, 0 ≤ x) (x : Int) : ∀ k, k ≤ ls.length → 0 ≤ strSum order ls x k ∧ strSum order ls x k ≤ total (ls.take k)
  | 0, _ => by simp [strSum, total]
  | k + 1, hk => by
    obtain ⟨h1, h2⟩ := strSum_bounds (order := order) h x k (by omega)
    have := h _ (nth_mem (xs := ls) (i := k) (by omega))
    rw [strSum, total_succ (by omega)]
    split <;> omega
def stretch (xs ls : List Int) : List Int := xs.map fun x => strSum (drive xs.length xs) ls x ls.length
theorem length_stretch (xs ls : List Int) : (stretch xs ls).length = xs.length := by simp [stretch]
theorem stretch_take {xs ls : List Int} {k : Nat} (h : k < xs.length) : (stretch xs ls).take (k + 1) = (stretch xs ls).take k ++ [strSum (drive xs.length xs) ls (nth xs k) ls.length] := by
  rw [take_succ_nth (by rw [length_stretch]; exact h)]
  congr 2
  simp [stretch, nth, h]
def stretchOf (xs ls : List Int) : List Int × Bool := if isPark xs && (lenB ls && decide (xs.length = ls.length)) then (stretch xs ls, true) else ([], false)
end Go.Proofs.Ytlfbmpgjhnpceab

namespace Go.Proofs.Ytlfbmpgjhnpceab
open Go.RowKit

/-- All lists of n numbers less than n. -/
def allTried (n : Nat) : List (List Int) := lex (List.replicate n 0) (List.replicate n ((n : Int) - 1))

theorem nth_rep {n i : Nat} {x : Int} (h : i < n) : nth (List.replicate n x) i = x := by simp [nth, h]
theorem tried_seq {n : Nat} (hn : 1 ≤ n) : SeqTo (fun ys => stepC ys (List.replicate n 0) (List.replicate n ((n : Int) - 1))) (List.replicate n 0) (allTried n) (List.replicate n 0, true) :=
  lex_ne _ _ (fun i hi => by
    simp at hi
    rw [nth_rep hi, nth_rep hi]
    omega) (by simp)
theorem length_lexRep (n : Nat) (hn : 1 ≤ n) : ∀ k, (lex (List.replicate k 0) (List.replicate k ((n : Int) - 1))).length = n ^ k
  | 0 => by simp [lex]
  | k + 1 => by
    rw [List.replicate_succ, List.replicate_succ, length_lex_cons, length_lexRep n hn k, Nat.pow_succ, Nat.mul_comm]
    congr 1
    unfold span
    omega
theorem length_allTried {n : Nat} (hn : 1 ≤ n) : (allTried n).length = n ^ n := length_lexRep n hn n


theorem upFrom_mem {x : Int} : ∀ {k : Nat} {l : Int}, x ∈ upFrom l k → l ≤ x ∧ x < l + k
  | 0, _, h => by simp [upFrom] at h
  | k + 1, l, h => by
    rw [upFrom, List.mem_cons] at h
    rcases h with rfl | h
    · omega
    · have := upFrom_mem h; omega
theorem lexRep_mem {n : Nat} {zs : List Int} : ∀ {k : Nat}, zs ∈ lex (List.replicate k 0) (List.replicate k ((n : Int) - 1)) → zs.length = k ∧ ∀ x ∈ zs, 0 ≤ x ∧ x ≤ (n : Int) - 1 := by
  intro k
  induction k generalizing zs with
  | zero => intro h; simp [lex] at h; subst h; simp
  | succ k ih =>
    intro h
    rw [List.replicate_succ, List.replicate_succ, lex, List.mem_flatMap] at h
    obtain ⟨x, hx, h⟩ := h
    rw [List.mem_map] at h
    obtain ⟨ys, hy, rfl⟩ := h
    obtain ⟨h1, h2⟩ := ih hy
    have h3 := upFrom_mem hx
    unfold span at h3
    refine ⟨by simp [h1], fun z hz => ?_⟩
    rw [List.mem_cons] at hz
    rcases hz with rfl | hz
    · omega
    · exact h2 z hz
theorem tried_get {n k : Nat} (hn : 1 ≤ n) (hk : k < n ^ n) : (allTried n).getD k [] ∈ allTried n := by
  have h := length_allTried hn
  have hk' : k < (allTried n).length := by omega
  rw [List.getD_eq_getElem?_getD, List.getElem?_eq_getElem hk']
  exact List.getElem_mem hk'
/-- What is known of one of them. -/
theorem tried_good {n k : Nat} (hn : 1 ≤ n) (hn5 : n ≤ 5) (hk : k < n ^ n) : ((allTried n).getD k []).length = n ∧ good ((allTried n).getD k []) n = true := by
  obtain ⟨h1, h2⟩ := lexRep_mem (n := n) (k := n) (tried_get hn hk)
  exact ⟨h1, good_iff.2 ⟨by omega, by omega, h2⟩⟩

/-- How many of the first k lists meet a test. -/
def cntTo (f : List Int → Bool) (L : List (List Int)) (k : Nat) : Nat := (L.take k).countP f
theorem cntTo_succ {f : List Int → Bool} {L : List (List Int)} {k : Nat} (h : k < L.length) : cntTo f L (k + 1) = cntTo f L k + if f (L.getD k []) = true then 1 else 0 := by
  unfold cntTo
  rw [List.take_succ_eq_append_getElem h, List.countP_append]
  have : L.getD k [] = L[k] := by simp [h]
  rw [this]
  simp [List.countP_cons]
theorem cntTo_le (f : List Int → Bool) (L : List (List Int)) (k : Nat) : cntTo f L k ≤ k := by
  unfold cntTo
  exact Nat.le_trans List.countP_le_length (by simp; omega)

/-- Do all cars park that look back so many places? -/
def backOk (n m : Nat) (l : List Int) : Bool := !hasB (backs n m l) (-1)
def countBackOf (n k : Int) : Int × Bool := if inB n 1 5 && inB k 0 8 then ((cntTo (backOk n.toNat k.toNat) (allTried n.toNat) (n.toNat ^ n.toNat) : Int), true) else (0, false)
end Go.Proofs.Ytlfbmpgjhnpceab

namespace Go.Proofs.Ytlfbmpgjhnpceab
open Go.RowKit

/-- The last c digits of a number. -/
def dg (B N : Nat) : Nat → List Int
  | 0 => []
  | c + 1 => ((N / B ^ c % B : Nat) : Int) :: dg B N c
theorem length_dg (B N : Nat) : ∀ c, (dg B N c).length = c
  | 0 => rfl
  | c + 1 => by simp [dg, length_dg B N c]
/-- All words of m numbers of at most m + 1. -/
def wordsL (m : Nat) : List (List Int) := lex (List.replicate m 0) (List.replicate m ((m : Int) + 1))
theorem words_dg : ∀ m, m < 5 → wordsL m = (List.range ((m + 2) ^ m)).map fun k => dg (m + 2) k m := by decide +kernel
theorem words_len {m : Nat} (hm : m < 5) : (wordsL m).length = (m + 2) ^ m := by rw [words_dg m hm]; simp
theorem words_get {m k : Nat} (hm : m < 5) (hk : k < (m + 2) ^ m) : (wordsL m).getD k [] = dg (m + 2) k m := by
  rw [words_dg m hm]
  simp [hk]
theorem words_seq (m : Nat) : SeqTo (fun ys => stepC ys (List.replicate m 0) (List.replicate m ((m : Int) + 1))) (List.replicate m 0) (wordsL m) (List.replicate m 0, true) :=
  lex_ne _ _ (fun i hi => by
    simp at hi
    rw [nth_rep hi, nth_rep hi]
    omega) (by simp)
theorem dg_bound {B N : Nat} (hB : 0 < B) : ∀ c, ∀ x ∈ dg B N c, 0 ≤ x ∧ x < B
  | 0, x, h => by simp [dg] at h
  | c + 1, x, h => by
    rw [dg, List.mem_cons] at h
    rcases h with rfl | h
    · have := Nat.mod_lt (N / B ^ c) hB; omega
    · exact dg_bound hB c x h
theorem dg_word {m k : Nat} (hm : m < 5) : Word (dg (m + 2) k m) (m + 1) := by
  refine ⟨by rw [length_dg], by omega, fun i hi => ?_⟩
  have := dg_bound (B := m + 2) (N := k) (by omega) m _ (nth_mem hi)
  omega
def allTrees (m : Nat) : List (List Int) := (wordsL m).map unOf
def allTr (n : Int) : List (List Int) × Bool := if inB n 1 5 then (allTrees (n.toNat - 1), true) else ([], false)
theorem allTrees_take {m k : Nat} (hm : m < 5) (hk : k < (m + 2) ^ m) : (allTrees m).take (k + 1) = (allTrees m).take k ++ [unOf (dg (m + 2) k m)] := by
  have hl : k < (allTrees m).length := by simp [allTrees, words_len hm, hk]
  rw [List.take_succ_eq_append_getElem hl]
  congr 2
  have hk' : k < (wordsL m).length := by rw [words_len hm]; exact hk
  have := words_get hm hk
  simp [hk'] at this
  simp [allTrees, this]
theorem length_allTrees {m : Nat} (hm : m < 5) : (allTrees m).length = (m + 2) ^ m := by simp [allTrees, words_len hm]
theorem cnt_words (m : Nat) : (m + 2) ^ m = if m + 1 = 0 then 1 else (m + 1 + 1) ^ (m + 1 - 1) := by simp
end Go.Proofs.Ytlfbmpgjhnpceab

namespace Go.Proofs.Ytlfbmpgjhnpceab
open Go.RowKit

/-- How often a number occurs. -/
def occ5 (s : List Int) (v : Int) : Int := (s.count v : Int)
theorem occ5_succ {s : List Int} {k : Nat} (h : k < s.length) (v : Int) : occ5 (s.take (k + 1)) v = occ5 (s.take k) v + if nth s k = v then 1 else 0 := by
  unfold occ5
  rw [take_succ_nth h, List.count_append, List.count_singleton]
  simp only [beq_iff_eq]
  split <;> omega
/-- The counts of the first k. -/
def Hist5 (ts : List Int) (m k : Nat) (zs : List Int) : Prop := ∀ d : Nat, d < m → nth zs d = occ5 (ts.take k) d
theorem hist5_first (ts : List Int) (m : Nat) : Hist5 ts m 0 (List.replicate m 0) := fun d hd => by
  rw [nth_rep hd]
  simp [occ5]
theorem hist5_step {ts zs : List Int} {m k d : Nat} (h : Hist5 ts m k zs) (hk : k < ts.length) (hd : nth ts k = (d : Int)) (hm : d < m) (hl : zs.length = m) : Hist5 ts m (k + 1) (zs.set d (nth zs d + 1)) := fun e he => by
  rw [nth_set (by omega), occ5_succ hk, hd]
  by_cases x : d = e
  · subst x
    rw [if_pos rfl, if_pos rfl, h d hm]
  · rw [if_neg x, if_neg (by omega), h e he, Int.add_zero]
theorem hist5_le {ts zs : List Int} {m k d : Nat} (h : Hist5 ts m k zs) (hd : d < m) (hk : k ≤ ts.length) : 0 ≤ nth zs d ∧ nth zs d ≤ ts.length := by
  rw [h d hd]
  unfold occ5
  have := List.count_le_length (a := (d : Int)) (l := ts.take k)
  simp at this
  omega

/-- The defects of all lists. -/
def defTs (n : Nat) : List Int := (allTried n).map fun l => (fails (drive n l) : Int)
def byDefect (n : Nat) : List Int := (List.range n).map fun (d : Nat) => occ5 (defTs n) d
def byDefectOf (n : Int) : List Int × Bool := if inB n 1 5 then (byDefect n.toNat, true) else ([], false)
theorem length_defTs {n : Nat} (hn : 1 ≤ n) : (defTs n).length = n ^ n := by simp [defTs, length_allTried hn]
theorem nth_defTs {n k : Nat} (hn : 1 ≤ n) (hk : k < n ^ n) : nth (defTs n) k = (fails (drive n ((allTried n).getD k [])) : Int) := by
  have hk' : k < (allTried n).length := by rw [length_allTried hn]; exact hk
  simp [nth, defTs, hk']
/-- At least the first car parks. -/
theorem fails_lt {n : Nat} {l : List Int} (hn : 1 ≤ n) (hl : l.length = n) (hb : ∀ x ∈ l, 0 ≤ x ∧ x ≤ (n : Int) - 1) : fails (drive n l) < n := by
  have hd := length_drive (n : Int) l
  have h0 := drive_get (p := (n : Int)) (xs := l) (k := 0) (by omega)
  obtain ⟨x0, x1⟩ := hb _ (nth_mem (xs := l) (i := 0) (by omega))
  have hp := place_new (p := (n : Int)) (out := drive n (l.take 0)) (x := nth l 0) (by omega)
  rw [← h0] at hp
  have hpos : 0 ≤ nth (drive n l) 0 := by
    rcases hp with hp | hp
    · have h9 := place_of (p := (n : Int)) (out := drive n (l.take 0)) (Runs.refl _ _ (nth l 0)) (by simp [drive]) (by omega)
      rw [if_neg (by omega), ← h0] at h9
      omega
    · omega
  generalize drive n l = ys at *
  cases ys with
  | nil => simp at hd; omega
  | cons y ys =>
    rw [nth_cons_zero] at hpos
    have := fails_le ys
    have e : fails (y :: ys) = fails ys := by unfold fails; rw [List.countP_cons]; simp; omega
    rw [e]
    simp at hd
    omega
end Go.Proofs.Ytlfbmpgjhnpceab

namespace Go.Proofs.Ytlfbmpgjhnpceab
open Go.RowKit

theorem grt_congr {f g : Int → Bool} : ∀ {m : Nat}, (∀ v : Nat, 1 ≤ v → v ≤ m → f v = g v) → grt f m = grt g m
  | 0, _ => rfl
  | m + 1, h => by
    have h1 := h (m + 1) (by omega) (Nat.le_refl _)
    have h2 := grt_congr (f := f) (g := g) (m := m) (fun v a b => h v a (by omega))
    have h3 : f ((m : Int) + 1) = g ((m : Int) + 1) := by exact_mod_cast h1
    simp only [grt, h3, h2]
theorem untG_grows (w : List Int) (k : Nat) : ∀ m, ∃ t, untG w (k + m) = untG w k ++ t
  | 0 => ⟨[], by simp⟩
  | m + 1 => by
    obtain ⟨t, ht⟩ := untG_grows w k m
    exact ⟨t ++ [grt (uf w (untG w (k + m)) (k + m)) (w.length + 1)], by rw [← Nat.add_assoc, ← List.append_assoc, ← ht]; rfl⟩
theorem pruG_grows (w : List Int) (k : Nat) : ∀ m, ∃ t, pruG w (k + m) = pruG w k ++ t
  | 0 => ⟨[], by simp⟩
  | m + 1 => by
    obtain ⟨t, ht⟩ := pruG_grows w k m
    exact ⟨t ++ [grt (lf w (pruG w (k + m))) w.length], by rw [← Nat.add_assoc, ← List.append_assoc, ← ht]; rfl⟩
/-- What is left, by edges. -/
theorem lf_uf {ps es ws : List Int} {n k : Nat} (he : Edges ps es (ws ++ [0]) n) (hn : es.Nodup) (hw : ws.length + 1 = n) (hk : k ≤ ws.length) {v : Int} (h1 : 1 ≤ v) :
    lf ps (es.take k) v = uf ws (es.take k) k v := by
  rw [Bool.eq_iff_iff, lf_iff, uf_iff]
  constructor
  · rintro ⟨a, b⟩
    refine ⟨a, fun hd => ?_⟩
    obtain ⟨i, hi, e⟩ := mem_nth hd
    rw [nth_dropP] at e
    simp at hi
    have hu := he.up (k + i) (by omega)
    rw [nth_left (by omega), e] at hu
    have hm := he.mem (k + i) (by omega)
    have := kids_zero.1 b (nth es (k + i)) hm.1 (by rw [he.plen]; exact hm.2) hu.symm
    obtain ⟨j, hj, ej⟩ := mem_nth this
    simp at hj
    rw [nth_take (by omega)] at ej
    have := nth_inj hn (i := j) (j := k + i) (by omega) (by rw [he.elen]; omega) ej
    omega
  · rintro ⟨a, b⟩
    refine ⟨a, kids_zero.2 fun u u1 u2 u3 => ?_⟩
    obtain ⟨j, hj, ej⟩ := mem_nth (he.all u u1 (by rw [← he.plen]; exact u2))
    rw [he.elen] at hj
    have hu := he.up j hj
    rw [ej, u3] at hu
    by_cases hjk : j < k
    · rw [← ej, ← nth_take hjk]
      exact nth_mem (by simp [he.elen]; omega)
    · exfalso
      by_cases hjw : j < ws.length
      · rw [nth_left hjw] at hu
        refine b ?_
        rw [← hu, show j = k + (j - k) by omega, ← nth_dropP]
        exact nth_mem (by simp; omega)
      · have : j = ws.length := by omega
        subst this
        rw [nth_append_at] at hu
        omega
theorem take_grown {es : List Int} {t : List Int} {k : Nat} {g : List Int} (h : es = g ++ t) (hl : g.length = k) : es.take k = g := by
  subst h; subst hl; simp
/-- The word of the tree of a word. -/
theorem pru_un {ws : List Int} {n : Nat} (hw : Word ws n) : pruOf (unOf ws) = ws ∧ Tree (unOf ws) n := by
  have hl := hw.len
  have ht := unOf_tree hw
  obtain ⟨last, l1, l2, l3⟩ := left_ex (n := n) (g := untG ws ws.length) (by rw [length_untG]; omega)
  have he := edges_of hw (last := (last : Int)) (by omega) (by omega) l3
  have hg := untG_is hw ws.length (Nat.le_refl _)
  have hnd : (untG ws ws.length ++ [(last : Int)]).Nodup := by
    rw [List.nodup_append]
    exact ⟨hg.nodup, by simp, fun a ha b hb => by simp at hb; subst hb; rintro rfl; exact l3 ha⟩
  have hgo : ∀ k, k ≤ ws.length → pruG (unOf ws) k = untG ws k := by
    intro k
    induction k with
    | zero => intro _; rfl
    | succ k ih =>
      intro hk
      have ih' := ih (by omega)
      simp only [pruG, untG]
      rw [ih', ht.len, hl]
      congr 2
      refine grt_congr fun v v1 _ => ?_
      obtain ⟨t, hte⟩ := untG_grows ws k (ws.length - k)
      rw [show k + (ws.length - k) = ws.length by omega] at hte
      have htk : (untG ws ws.length ++ [(last : Int)]).take k = untG ws k := take_grown (t := t ++ [(last : Int)]) (by rw [hte, List.append_assoc]) (length_untG ws k)
      have := lf_uf he hnd hl (k := k) (by omega) (v := (v : Int)) (by omega)
      rw [htk] at this
      exact this
  refine ⟨?_, ht⟩
  unfold pruOf pruW
  rw [length_unOf, Nat.add_sub_cancel, hgo _ (Nat.le_refl _)]
  refine ext_nth (by simp [length_untG]) fun i hi => ?_
  simp [length_untG] at hi
  have := (unTo_is hw ws.length (Nat.le_refl _)).1 i hi
  have e : nth ((untG ws ws.length).map (par (unOf ws))) i = par (unOf ws) (nth (untG ws ws.length) i) := by
    simp [nth, length_untG, hi]
  rw [e]
  exact this

/-- The word of a tree is a word. -/
theorem pru_word {xs : List Int} {n : Nat} (ht : Tree xs n) (hn : 1 ≤ n) : Word (pruOf xs) n := by
  have hg := pruG_gone ht (n - 1) (by omega)
  refine ⟨by unfold pruOf; rw [length_pruW, ht.len]; omega, ht.le, fun i hi => ?_⟩
  have hm := nth_mem hi
  unfold pruOf pruW at hm
  rw [ht.len] at hm
  obtain ⟨v, hv, e⟩ := List.mem_map.1 hm
  have hb := hg.mem v hv
  have := ht.par hb.1 (by rw [← ht.len]; exact hb.2)
  rw [e] at this
  unfold pruOf
  rw [ht.len]
  exact this
/-- A tree's edges, as its leaves are taken away. -/
theorem pru_edges {xs : List Int} {n : Nat} (ht : Tree xs n) (hn : 1 ≤ n) : ∃ last : Nat, 1 ≤ last ∧ last ≤ n ∧ (last : Int) ∉ pruG xs (n - 1) ∧ par xs last = 0 ∧ (pruG xs (n - 1) ++ [(last : Int)]).Nodup ∧
    Edges xs (pruG xs (n - 1) ++ [(last : Int)]) (pruOf xs ++ [0]) n := by
  have hg := pruG_gone ht (n - 1) (by omega)
  have hw := pru_word ht hn
  obtain ⟨last, l1, l2, l3⟩ := left_ex (n := n) (g := pruG xs (n - 1)) (by rw [hg.len]; omega)
  have hnd : (pruG xs (n - 1) ++ [(last : Int)]).Nodup := by
    rw [List.nodup_append]
    exact ⟨hg.nodup, by simp, fun a ha b hb => by simp at hb; subst hb; rintro rfl; exact l3 ha⟩
  have hel : (pruG xs (n - 1) ++ [(last : Int)]).length = n := by simp [hg.len]; omega
  have hem : ∀ v ∈ pruG xs (n - 1) ++ [(last : Int)], 1 ≤ v ∧ v ≤ (n : Int) := fun v hv => by
    rcases List.mem_append.1 hv with hv | hv
    · have := hg.mem v hv; rw [ht.len] at this; exact this
    · simp at hv; omega
  have hfull := full_of hel hnd hem
  have hpl : par xs last = 0 := by
    apply Classical.byContradiction
    intro h0
    have hb := ht.par (v := last) (by omega) (by omega)
    have hm := hfull (par xs last) (by omega) hb.2
    rcases List.mem_append.1 hm with hm | hm
    · exact l3 (hg.down _ (by omega) (by rw [ht.len]; omega) hm)
    · simp at hm
      have hd := ht.dep_par (v := last) (by omega) (by omega)
      rw [hm] at hd
      omega
  have hlw : (pruOf xs).length = n - 1 := by unfold pruOf; rw [length_pruW, ht.len]
  have hwn : ∀ i, i < n - 1 → nth (pruOf xs) i = par xs (nth (pruG xs (n - 1)) i) := fun i hi => by
    unfold pruOf pruW
    rw [ht.len]
    simp [nth, hg.len, hi]
  refine ⟨last, l1, l2, l3, hpl, hnd, ht.len, hel, by simp [hlw]; omega, fun i hi => hem _ (nth_mem (by rw [hel]; exact hi)), hfull, fun i hi => ?_, fun i hi => ?_⟩
  · by_cases e : i < n - 1
    · rw [nth_left (by rw [hlw]; exact e), nth_left (by rw [hg.len]; exact e)]
      exact hwn i e
    · have e1 : i = (pruOf xs).length := by rw [hlw]; omega
      have e2 : i = (pruG xs (n - 1)).length := by rw [hg.len]; omega
      have r1 : nth (pruOf xs ++ [0]) i = 0 := by rw [e1]; exact nth_append_at
      have r2 : nth (pruG xs (n - 1) ++ [(last : Int)]) i = last := by rw [e2]; exact nth_append_at
      rw [r1, r2]; exact hpl.symm
  · by_cases e : i < n - 1
    · rw [nth_left (by rw [hlw]; exact e), hwn i e]
      by_cases e0 : par xs (nth (pruG xs (n - 1)) i) = 0
      · exact .inl e0
      · have hb := ht.par (v := nth (pruG xs (n - 1)) i) ((hg.mem _ (nth_mem (by rw [hg.len]; exact e))).1) (by have := (hg.mem _ (nth_mem (xs := pruG xs (n - 1)) (i := i) (by rw [hg.len]; exact e))).2; rw [ht.len] at this; exact this)
        obtain ⟨j, hj, ej⟩ := mem_nth (hfull _ (by omega) hb.2)
        refine .inr ⟨j, ?_, by omega, ej.symm⟩
        apply Classical.byContradiction
        intro hij
        have hji : j ≤ i := by omega
        -- j was taken away by then, so its child i was, too: before itself
        obtain ⟨t, hte⟩ := pruG_grows xs j (n - 1 - j)
        rw [show j + (n - 1 - j) = n - 1 by omega] at hte
        have hgj := pruG_gone ht (j + 1) (by omega)
        obtain ⟨t2, hte2⟩ := pruG_grows xs (j + 1) (n - 1 - (j + 1))
        rw [show j + 1 + (n - 1 - (j + 1)) = n - 1 by omega] at hte2
        obtain ⟨x, _, _, x3, x4, _, _⟩ := gone_step ht (pruG_gone ht j (by omega)) (by omega)
        have hgx : pruG xs (j + 1) = pruG xs j ++ [(x : Int)] := by simp only [pruG]; rw [ht.len, x4]
        have hxj : nth (pruG xs (n - 1)) j = (x : Int) := by
          rw [hte2, nth_left (by rw [hgj.len]; omega), hgx]
          have := nth_append_at (xs := pruG xs j) (y := (x : Int))
          rwa [length_pruG] at this
        rw [nth_left (by rw [hg.len]; omega), hxj] at ej
        have hin := kids_zero.1 (lf_iff.1 x3).2 (nth (pruG xs (n - 1)) i) ((hg.mem _ (nth_mem (by rw [hg.len]; exact e))).1) ((hg.mem _ (nth_mem (by rw [hg.len]; exact e))).2) ej.symm
        obtain ⟨q, hq, eq⟩ := mem_nth hin
        rw [length_pruG] at hq
        have hq2 : nth (pruG xs (n - 1)) q = nth (pruG xs (n - 1)) i := by rw [← eq, hte, nth_left (by rw [length_pruG]; exact hq)]
        have := nth_inj hg.nodup (i := q) (j := i) (by rw [hg.len]; omega) (by rw [hg.len]; exact e) hq2
        omega
    · have e1 : i = (pruOf xs).length := by rw [hlw]; omega
      exact .inl (by rw [e1]; exact nth_append_at)
/-- The tree of the word of a tree. -/
theorem un_pru {xs : List Int} {n : Nat} (ht : Tree xs n) (hn : 1 ≤ n) : unOf (pruOf xs) = xs := by
  have hw := pru_word ht hn
  obtain ⟨last, l1, l2, l3, hpl, hnd, he⟩ := pru_edges ht hn
  have hlw : (pruOf xs).length = n - 1 := by have := hw.len; omega
  have hg := pruG_gone ht (n - 1) (by omega)
  have hgo : ∀ k, k ≤ n - 1 → untG (pruOf xs) k = pruG xs k := by
    intro k
    induction k with
    | zero => intro _; rfl
    | succ k ih =>
      intro hk
      have ih' := ih (by omega)
      simp only [pruG, untG]
      rw [ih', ht.len, hw.len]
      congr 2
      refine grt_congr fun v v1 _ => ?_
      obtain ⟨t, hte⟩ := pruG_grows xs k (n - 1 - k)
      rw [show k + (n - 1 - k) = n - 1 by omega] at hte
      have htk : (pruG xs (n - 1) ++ [(last : Int)]).take k = pruG xs k := take_grown (t := t ++ [(last : Int)]) (by rw [hte, List.append_assoc]) (length_pruG xs k)
      have := lf_uf he hnd hw.len (k := k) (by omega) (v := (v : Int)) (by omega)
      rw [htk] at this
      exact this.symm
  obtain ⟨u1, u2⟩ := unTo_is hw (pruOf xs).length (Nat.le_refl _)
  rw [hlw, hgo (n - 1) (Nat.le_refl _)] at u1 u2
  have key : ∀ v : Int, 1 ≤ v → v ≤ n → par (unOf (pruOf xs)) v = par xs v := fun v v1 v2 => by
    by_cases hv : v ∈ pruG xs (n - 1)
    · obtain ⟨j, hj, rfl⟩ := mem_nth hv
      rw [length_pruG] at hj
      have h1 := u1 j hj
      have h2 := he.up j (by omega)
      rw [nth_left (by rw [hlw]; exact hj), nth_left (by rw [length_pruG]; exact hj)] at h2
      unfold unOf
      rw [hlw, h1, h2]
    · have hvl : v = last := by
        have := he.all v v1 v2
        rcases List.mem_append.1 this with h | h
        · exact absurd h hv
        · simpa using h
      have h1 := u2 v v1 v2 hv
      unfold unOf
      rw [hlw, h1, hvl, hpl]
  refine ext_nth (by rw [length_unOf, hlw, ht.len]; omega) fun i hi => ?_
  rw [length_unOf, hlw] at hi
  have := key ((i : Int) + 1) (by omega) (by omega)
  unfold par at this
  rwa [show ((i : Int) + 1).toNat - 1 = i by omega] at this
/-- How often a node occurs in the word. -/
theorem deg_word {xs : List Int} {n : Nat} (ht : Tree xs n) (hn : 1 ≤ n) (v : Nat) : deg xs v = (pruOf xs).count (v : Int) + 1 := by
  obtain ⟨last, l1, l2, l3, hpl, hnd, he⟩ := pru_edges ht hn
  have hp : (pruG xs (n - 1) ++ [(last : Int)]).map (par xs) = pruOf xs ++ [0] := by
    unfold pruOf pruW
    rw [List.map_append, ht.len]
    simp [hpl]
  have hperm : (pruG xs (n - 1) ++ [(last : Int)]).Perm ((List.range n).map fun (i : Nat) => (i : Int) + 1) := by
    rw [List.perm_ext_iff_of_nodup hnd]
    · intro a
      rw [List.mem_map]
      constructor
      · intro ha
        obtain ⟨j, hj, e⟩ := mem_nth ha
        have := he.mem j (by rw [← he.elen]; exact hj)
        rw [e] at this
        exact ⟨a.toNat - 1, List.mem_range.2 (by omega), by omega⟩
      · rintro ⟨i, hi, rfl⟩
        exact he.all _ (by omega) (by have := List.mem_range.1 hi; omega)
    · rw [List.Nodup, List.pairwise_map]
      refine List.nodup_range.imp ?_
      intro a b h e
      omega
  have hx : ((List.range n).map fun (i : Nat) => (i : Int) + 1).map (par xs) = xs := by
    refine ext_nth (by simp [ht.len]) fun i hi => ?_
    simp at hi
    simp only [nth, List.getD_eq_getElem?_getD, List.getElem?_map, List.getElem?_range hi, Option.map_some, Option.getD_some]
    unfold par
    rw [show ((i : Int) + 1).toNat - 1 = i by omega]
    rfl
  have hc := (hperm.map (par xs)).count_eq (v : Int)
  rw [hp, hx, List.count_append] at hc
  unfold deg
  rw [← hc]
  by_cases e : v = 0
  · subst e; simp
  · have : ¬ (0 : Int) = (v : Int) := by omega
    have h2 : List.count (v : Int) [0] = 0 := by rw [List.count_eq_zero]; simp; omega
    rw [h2]
    simp [e]; omega
theorem mem_leaves {xs : List Int} {v : Nat} (h1 : 1 ≤ v) (h2 : v ≤ xs.length) : hasB (leavesL xs) v = decide (deg xs v = 1) := by
  rw [Bool.eq_iff_iff, hasB_iff, decide_eq_true_eq]
  unfold leavesL
  rw [mem_nodesW, List.length_drop, length_degL]
  unfold par
  rw [nth_dropP, Int.toNat_natCast, show 1 + (v - 1) = v by omega, nth_degL h2]
  constructor
  · rintro ⟨_, _, h⟩; omega
  · intro h; exact ⟨by omega, by omega, by omega⟩
end Go.Proofs.Ytlfbmpgjhnpceab

namespace Go.Proofs.Ytlfbmpgjhnpceab
open Go.RowKit

def treesL (n : Nat) : List (List Int) := if n = 0 then [[]] else allTrees (n - 1)
def invTs (n : Nat) : List Int := (treesL n).map fun xs => ((invL xs).length : Int)
def pairsN (n : Nat) : Nat := n * (n - 1) / 2
def byInv (n : Nat) : List Int := (List.range (pairsN n + 1)).map fun (d : Nat) => occ5 (invTs n) d
def byInvOf (n : Int) : List Int × Bool := if inB n 0 5 then (byInv n.toNat, true) else ([], false)
def treesQ (n : Nat) : Nat := if n = 0 then 1 else (n + 1) ^ (n - 1)
theorem length_invTo {xs : List Int} : ∀ k, k ≤ xs.length → 2 * (invTo xs k).length + k * (k + 1) ≤ 2 * (k * xs.length)
  | 0, _ => by simp [invTo]
  | k + 1, hk => by
    have ih := length_invTo (xs := xs) k (by omega)
    have hr := length_invRow xs (k + 1) (xs.length - (k + 1))
    have h1 : (k + 1) * (k + 1 + 1) = k * (k + 1) + 2 * (k + 1) := by
      rw [Nat.mul_add (k + 1) (k + 1) 1, Nat.add_mul k 1 (k + 1)]
      omega
    have h2 : (k + 1) * xs.length = k * xs.length + xs.length := by rw [Nat.add_mul, Nat.one_mul]
    rw [invTo_succ, List.length_append, h1, h2]
    omega
theorem length_invL {xs : List Int} {n : Nat} (hl : xs.length = n) (h1 : 1 ≤ n) (h5 : n ≤ 5) : (invL xs).length ≤ pairsN n := by
  have h := length_invTo (xs := xs) xs.length (Nat.le_refl _)
  rw [hl] at h
  have e : invL xs = invTo xs n := by rw [invL, hl]
  rw [e]
  obtain rfl | rfl | rfl | rfl | rfl : n = 1 ∨ n = 2 ∨ n = 3 ∨ n = 4 ∨ n = 5 := by omega
  all_goals simp only [pairsN]; omega
theorem allTrees_get {m k : Nat} (hm : m < 5) (hk : k < (m + 2) ^ m) : (allTrees m).getD k [] = unOf (dg (m + 2) k m) := by
  have h := words_get hm hk
  have hl := words_len hm
  have h1 : k < (wordsL m).length := by omega
  simp only [allTrees, List.getD_eq_getElem?_getD, List.getElem?_map, List.getElem?_eq_getElem h1, Option.map_some, Option.getD_some] at *
  rw [h]
theorem allTrees_tree {m k : Nat} (hm : m < 5) (hk : k < (m + 2) ^ m) : Tree ((allTrees m).getD k []) (m + 1) := by
  rw [allTrees_get hm hk]
  exact (pru_un (dg_word hm)).2
theorem length_treesL {n : Nat} (h5 : n ≤ 5) : (treesL n).length = treesQ n := by
  by_cases h0 : n = 0
  · subst h0; rfl
  · obtain ⟨m, rfl⟩ : ∃ m, n = m + 1 := ⟨n - 1, by omega⟩
    simp only [treesL, treesQ, if_neg h0, Nat.add_sub_cancel]
    exact length_allTrees (by omega)
theorem length_invTs {n : Nat} (h5 : n ≤ 5) : (invTs n).length = treesQ n := by simp [invTs, length_treesL h5]
theorem treesQ_le {n : Nat} (h5 : n ≤ 5) : treesQ n ≤ 1296 := by
  have : ∀ n, n ≤ 5 → treesQ n ≤ 1296 := by decide
  exact this n h5
theorem treesL_tree {n k : Nat} (h5 : n ≤ 5) (hk : k < treesQ n) : Tree ((treesL n).getD k []) n := by
  by_cases h0 : n = 0
  · subst h0
    obtain rfl : k = 0 := by simp [treesQ] at hk; exact hk
    exact tree_of (by decide) rfl
  · obtain ⟨m, rfl⟩ : ∃ m, n = m + 1 := ⟨n - 1, by omega⟩
    simp only [treesL, treesQ, if_neg h0, Nat.add_sub_cancel] at *
    exact allTrees_tree (by omega) hk
theorem invTs_facts {n k : Nat} (h5 : n ≤ 5) (hk : k < treesQ n) {xs : List Int} (hx : xs = (treesL n).getD k []) : Tree xs n ∧ ∃ d : Nat, (invL xs).length = d ∧ d < pairsN n + 1 ∧ nth (invTs n) k = (d : Int) ∧ invCnt xs = ((d : Int), true) := by
  have ht := treesL_tree h5 hk
  rw [← hx] at ht
  have hd : (invL xs).length ≤ pairsN n := by
    by_cases h0 : n = 0
    · have hl := ht.len
      subst h0
      obtain rfl := List.eq_nil_of_length_eq_zero hl
      decide
    · exact length_invL ht.len (by omega) h5
  refine ⟨ht, _, rfl, Nat.lt_succ_of_le hd, ?_, by simp [invCnt, ht.b]⟩
  have h1 : k < (treesL n).length := by rw [length_treesL h5]; exact hk
  subst hx
  simp only [nth, invTs, List.getD_eq_getElem?_getD, List.getElem?_map, List.getElem?_eq_getElem h1, Option.map_some, Option.getD_some]
theorem hist_inv {n : Nat} {zs : List Int} {N : Nat} (h : Hist5 (invTs n) (pairsN n + 1) N zs) (hN : (invTs n).length = N) (hl : zs.length = pairsN n + 1) : zs = byInv n := by
  refine ext_nth (by simp [byInv, hl]) fun i hi => ?_
  rw [h i (by omega), List.take_of_length_le (by omega)]
  simp [nth, byInv, show i < pairsN n + 1 by omega]
end Go.Proofs.Ytlfbmpgjhnpceab

namespace Go.Proofs.Ytlfbmpgjhnpceab
open Go.RowKit

/-- The product as the model makes it. -/
def trC (n : Nat) (k : Nat) : Nat := (n + 1) ^ (k - 1)
theorem trC_le {n k : Nat} (hn : n ≤ 8) (hk : k ≤ 8) : trC n k ≤ 4782969 := by
  have : ∀ n, n < 9 → ∀ k, k < 9 → (n + 1) ^ (k - 1) ≤ 4782969 := by decide +kernel
  exact this n (by omega) k (by omega)
theorem trC_cnt {n : Nat} : (if n = 0 then trC n 1 else trC n n) = cnt n := by
  unfold cnt trC
  split <;> simp

set_option maxHeartbeats 400000 in
theorem trCount_any (n : Nat) (w : World) (h8 : n ≤ 8) : Calls Try.prog 167 #[.int .i64 (n : Int)] w fun e w' => e = .returned (.int .i64 (cnt n : Int)) ∧ w = w' := by
  have HC := hid (trC_cnt (n := n))
  go_enter Try.func167, Try.ntmps167
  go_wp2_with fail
  go_loop [3, 4] (fun o i => ∃ k : Nat, 1 ≤ k ∧ (k ≤ n ∨ k = 1) ∧ i = .int .i64 k ∧ o = .int .i64 (trC n k : Int)) (fun _ i => n - (intOf i).toNat)
  case atStart => exact ⟨1, by omega, .inr rfl, rfl, by simp [trC]⟩
  case round =>
    obtain ⟨k, hk1, hk2, rfl, rfl⟩ := hrel
    by_cases hlt : k < n
    · have hb := trC_le h8 (k := k) (by omega)
      have HS : Hid (trC n (k + 1) = trC n k * (n + 1)) := hid (by unfold trC; rw [show k + 1 - 1 = (k - 1) + 1 by omega, Nat.pow_succ])
      have hm : (trC n k : Int) * ((n : Int) + 1) = ((trC n (k + 1) : Nat) : Int) := by rw [HS.out]; simp
      have hb2 := trC_le h8 (k := k + 1) (by omega)
      have hw : IntKind.i64.wrap ((trC n k : Int) * ((n : Int) + 1)) = ((trC n (k + 1) : Nat) : Int) := by rw [hm, IntKind.wrap_i64]; omega
      have hw2 : wrap64 ((trC n k : Int) * ((n : Int) + 1)) = ((trC n (k + 1) : Nat) : Int) := by rw [hm]; exact IntWalk.wrap64_in _ ⟨by omega, by omega⟩
      clear hm hb hb2
      go_wp2_with fail
      go_round
      case rel => exact ⟨k + 1, by omega, by omega, by go_num, rfl⟩
      case measure => simp [intOf]; omega
    · have HF : Hid (trC n k = cnt n) := hid (by
        rw [← HC.out]
        by_cases h0 : n = 0
        · rw [if_pos h0]; obtain rfl : k = 1 := by omega
          rfl
        · rw [if_neg h0]; obtain rfl : k = n := by omega
          rfl)
      go_wp2_with fail
      go_ret
      exact ⟨ret_int (by rw [HF.out]), rfl⟩

end Go.Proofs.Ytlfbmpgjhnpceab

namespace Go.Proofs.Ytlfbmpgjhnpceab
open Go.RowKit

theorem drop_set {xs : List Int} {j : Nat} {y : Int} (h : j < xs.length) : (xs.set j y).drop j = y :: xs.drop (j + 1) := by
  rw [drop_nth (xs := xs.set j y) (by simpa using h), nth_set h, if_pos rfl]
  congr 1
  rw [List.drop_set]
  simp

set_option maxHeartbeats 800000 in
theorem trWord_is (m B N : Nat) (w : World) (hm : m ≤ 7) (hb0 : 1 ≤ B) (hb1 : B ≤ 100) (hn1 : N ≤ 1000000) :
    Calls Try.prog 169 #[.int .i64 (m : Int), .int .i64 (B : Int), .int .i64 (N : Int)] w fun e w' => ∃ a' cap', e = .returned (.slice a' m cap') ∧ Own w' w.heap.size a' m cap' (dg B N m) ∧ Below w.heap.size w w' := by
  go_enter Try.func169, Try.ntmps169
  go_wp2_with (at_make; refine wpList_make_ints _ rfl _ _ rfl m rfl rfl (by omega) ?_; intro a' cap' w1 hown1 hb1)
  go_loopw [2, 8] (fun nu i wr => ∃ (k : Nat) (z : Nat) (xs : List Int), k ≤ m ∧ i = .int .i64 ((k : Int) - 1) ∧ nu = .int .i64 (z : Int) ∧ z ≤ 1000000 ∧ Own wr w.heap.size a' m cap' xs ∧ Hid (z = N / B ^ (m - k) ∧ xs.drop k = dg B N (m - k)) ∧ Below w.heap.size w wr) (fun _ i _ => (intOf i + 1).toNat)
  case atStart => exact ⟨m, N, _, Nat.le_refl _, rfl, rfl, hn1, hown1, hid ⟨by simp, by rw [Nat.sub_self]; simp [dg]⟩, ‹_›⟩
  case round =>
    obtain ⟨k, z, xs, hk, rfl, rfl, z1, hown, HD, hb⟩ := hrel
    clear hown1
    by_cases h0 : 0 < k
    · obtain ⟨j, rfl⟩ : ∃ j, k = j + 1 := ⟨k - 1, by omega⟩
      obtain ⟨g, rfl, hg1, hg2, hcell, hfr⟩ := hown.opened (by omega)
      have hck := hcell j (by omega)
      have hfk := hfr j
      have ejj : ((j + 1 : Nat) : Int) - 1 = (j : Int) := by omega
      rw [ejj]
      have hmod : (z : Int) % (B : Int) = ((z % B : Nat) : Int) := by simp
      have hdiv : (z : Int) / (B : Int) = ((z / B : Nat) : Int) := by simp
      have hdl : z / B ≤ z := Nat.div_le_self _ _
      have HL := hid hown.len
      have HS : Hid (z / B = N / B ^ (m - j) ∧ (xs.set j ((z % B : Nat) : Int)).drop j = dg B N (m - j)) := hid (by
        obtain ⟨e1, e2⟩ := HD.out
        have e3 : m - j = (m - (j + 1)) + 1 := by omega
        refine ⟨?_, ?_⟩
        · rw [e1, Nat.div_div_eq_div_mul, e3, Nat.pow_succ]
        · rw [drop_set (by rw [HL.out]; omega), e2, e3, dg, e1])
      have hq0 : 0 ≤ (z : Int) / (B : Int) := Int.ediv_nonneg (by omega) (by omega)
      have hq1 : (z : Int) / (B : Int) ≤ 1000000 := by rw [hdiv]; omega
      have HM := hid hmod
      have HV := hid hdiv
      clear hcell hfr hmod hdiv
      go_wp2_with fail
      go_roundw
      case rel => exact ⟨j, z / B, xs.set j ((z % B : Nat) : Int), by omega, rfl, by rw [← HV.out], by omega, by rw [← HM.out]; exact (hown.set j _).1, HS, hb.setCell (by simpa using hg1) _⟩
      case measure => simp [intOf]
    · obtain rfl : k = 0 := by omega
      have HX : Hid (xs = dg B N m) := hid (by have := HD.out.2; simpa using this)
      go_wp2_with fail
      go_ret
      exact ⟨_, _, rfl, by rw [← HX.out]; exact hown, hb⟩

theorem trWord_at (m B N : Nat) (M b num : Int) (w : World) (hM : M = (m : Int)) (hB : b = (B : Int)) (hN : num = (N : Int)) (hm : m ≤ 7) (hb0 : 1 ≤ B) (hb1 : B ≤ 100) (hn1 : N ≤ 1000000) :
    Calls Try.prog 169 #[.int .i64 M, .int .i64 b, .int .i64 num] w fun e w' => ∃ a' cap', e = .returned (.slice a' m cap') ∧ Own w' w.heap.size a' m cap' (dg B N m) ∧ Below w.heap.size w w' := by
  subst hM hB hN
  exact trWord_is m B N w hm hb0 hb1 hn1

set_option maxHeartbeats 2000000 in
theorem trAll_any (n m : Nat) (hnm : n = m + 1) (hm : m < 5) (w : World) : Calls Try.prog 115 #[.int .i64 (n : Int)] w (RetRows w (allTrees m)) := by
  obtain ⟨N, hN⟩ : ∃ N, (m + 2) ^ m = N := ⟨_, rfl⟩
  have hN5 : N ≤ 1296 := by
    have : ∀ m, m < 5 → (m + 2) ^ m ≤ 1296 := by decide
    rw [← hN]; exact this m hm
  have HC : Hid (cnt n = N) := hid (by unfold cnt; rw [if_neg (by omega), ← hN, hnm]; simp)
  have HT := hid (fun k (hk : k < N) => allTrees_take hm (by rw [hN]; exact hk))
  have HL : Hid ((allTrees m).length = N) := hid (by rw [length_allTrees hm, hN])
  have HNM := hid hnm
  have hn1 : n ≤ m + 1 := by omega
  have hn2 : m + 1 ≤ n := by omega
  have hw1 : IntKind.i64.wrap ((n : Int) - 1) = (n : Int) - 1 := IntWalk.i64_in _ (by omega)
  have HWD := hid (fun k => dg_word (m := m) (k := k) hm)
  clear hN hnm hw1
  go_enter Try.func115, Try.ntmps115
  go_wp2_with fail
  go_loopw [3, 4] (fun o i wr => ∃ (k : Nat) (a' : Option Addr) (cap' : Nat) (rs : List Rw), k ≤ N ∧ i = .int .i64 k ∧ o = .slice a' k cap' ∧ OwnR wr w.heap.size a' k cap' rs ∧ Hid (numsOf rs = (allTrees m).take k) ∧ Below w.heap.size w wr) (fun _ i _ => N - (intOf i).toNat)
  case atStart => exact ⟨0, none, 0, [], Nat.zero_le _, rfl, rfl, OwnR.nil _ _, hid rfl, Below.refl _ _⟩
  case round =>
    obtain ⟨k, a', cap', rs, hk, rfl, rfl, hor, HNU, hb⟩ := hrel
    have hsz := hb.size
    by_cases hlt : k < N
    · go_wp2_with (go_at_call 167; refine (trCount_any n _ (by omega)).mono ?_; rintro e w' ⟨rfl, rfl⟩; rw [HC.out])
      refine (trWord_at m (m + 2) k _ _ _ _ (by omega) (by omega) rfl (by omega) (by omega) (by omega) (by omega)).mono ?_
      rintro e w3 ⟨a3, c3, rfl, o3, hb3⟩
      go_wp2_with fail
      refine (trOf_any _ _ _ _ _ o3.has (HWD.out k)).mono ?_
      rintro e w5 ⟨a5, c5, rfl, o5, hb5⟩
      have hb35 := hb3.trans (hb5.mono hb3.size)
      have o5' := o5.mono hb3.size
      clear o3 hb3 hb5 o5
      go_wp2_with (at_builtin; refine wpList_append_row wr w5 rfl _ _ rfl w.heap.size _ _ _ _ _ _ _ _ rfl rfl hor hb35 o5' (by omega) hsz ?_; intro a6 c6 w6 o6 hb6)
      go_roundw
      case rel =>
        refine ⟨k + 1, a6, c6, _, by omega, by go_num, rfl, o6, hid ?_, (hb.trans (hb35.mono hsz)).trans hb6⟩
        rw [numsOf_append, HNU.out, HT.out k hlt]
        rfl
      case measure => simp [intOf]; omega
    · obtain rfl : k = N := by omega
      have HF : Hid (numsOf rs = allTrees m) := hid (by rw [HNU.out, List.take_of_length_le (by rw [HL.out]; exact Nat.le_refl _)])
      go_wp2_with (go_at_call 167; refine (trCount_any n _ (by omega)).mono ?_; rintro e w' ⟨rfl, rfl⟩; rw [HC.out])
      go_ret
      exact ⟨_, _, _, _, rfl, hor, HF.out, hb⟩

theorem allTr_yes {n : Int} (h : inB n 1 5 = true) : allTr n = (allTrees (n.toNat - 1), true) := by simp [allTr, h]
theorem allTr_no {n : Int} (h : ¬ inB n 1 5 = true) : allTr n = ([], false) := by simp [allTr, h]

set_option maxHeartbeats 400000 in
theorem specAllTrees_any (n : Int) (w : World) : Calls Try.prog 39 #[.int .i64 n] w (PostRows w (allTr n)) := by
  by_cases hn : inB n 1 5 = true
  · obtain ⟨p, rfl⟩ : ∃ p : Nat, n = (p : Int) := ⟨n.toNat, by have := inB_iff.1 hn; omega⟩
    obtain ⟨m, hpm⟩ : ∃ m, p = m + 1 := ⟨p - 1, by have := inB_iff.1 hn; omega⟩
    have hm : m < 5 := by have := inB_iff.1 hn; omega
    have HN := hid hn
    have HR : Hid (allTr p = (allTrees m, true)) := hid (by rw [allTr_yes hn, show (p : Int).toNat - 1 = m by omega])
    have HP := hid hpm
    clear hn hpm
    go_enter Try.func39, Try.ntmps39
    go_wp2_with (go_at_call 85; refine (l1In_any _ _ _ _).mono ?_; rintro e w' ⟨rfl, rfl⟩; rw [HN.out])
    refine (trAll_any p m HP.out hm _).mono ?_
    rintro e w2 ⟨a2, q, cap2, rs, rfl, hown2, hn2, hb2⟩
    go_wp2_with fail
    go_ret2
    exact postRows HR.out hown2 hn2 hb2
  · have HR := hid (allTr_no hn)
    have HN := hid hn
    clear hn
    go_enter Try.func39, Try.ntmps39
    go_wp2_with (go_at_call 85; refine (l1In_any _ _ _ _).mono ?_; rintro e w' ⟨rfl, rfl⟩; rw [Bool.eq_false_iff.2 HN.out])
    go_ret2
    exact postRows_no HR.out (Below.refl _ _)
end Go.Proofs.Ytlfbmpgjhnpceab

namespace Go.Proofs.Ytlfbmpgjhnpceab
open Go.RowKit

theorem grownI_on {w w' w'' : World} {r : Option Nat} (h : w.grownBy w' r) (hb : Below w'.heap.size w' w'') : w.grownBy w'' r :=
  ⟨hb.os.trans h.os, hb.tape.trans h.tape, hb.output.trans h.output, Nat.le_trans h.size hb.size, fun j hj hne => (hb.block j (Nat.lt_of_lt_of_le hj h.size)).trans (h.block j hj hne)⟩
theorem grownI_set {w w' : World} {g i : Nat} (h : w.grownBy w' (some g)) (v : Value) : w.grownBy (w'.setCell ⟨g, i, none⟩ v) (some g) :=
  ⟨h.os, h.tape, h.output, by simpa using h.size, fun j hj hne => by
    rw [heap_setCell_other w' ⟨g, i, none⟩ j v (by intro e; exact hne (by simp [e]))]
    exact h.block j hj hne⟩
theorem rows_trees {n q : Nat} {rs : List Rw} (h5 : n ≤ 5) (h : numsOf rs = treesL n) (hq : rs.length = q) : q = treesQ n ∧ ∀ k, k < q → (nthR rs k).xs = (treesL n).getD k [] := by
  have hl : q = treesQ n := by
    have := congrArg List.length h
    rw [length_treesL h5] at this
    simp [numsOf] at this
    omega
  refine ⟨hl, fun k hk => ?_⟩
  have h1 := map_nthR Rw.xs (rs := rs) (i := k) (by omega)
  have h2 : (treesL n)[k]? = some (nthR rs k).xs := by rw [← h]; exact h1
  simp [h2]
theorem pairs_int {n : Nat} (h5 : n ≤ 5) : ∃ M : Nat, (n : Int) * ((n : Int) - 1) = (M : Int) ∧ M ≤ 20 ∧ M / 2 = pairsN n ∧ pairsN n ≤ 10 := by
  have : ∀ n : Nat, n ≤ 5 → (n : Int) * ((n : Int) - 1) = ((n * (n - 1) : Nat) : Int) ∧ n * (n - 1) ≤ 20 ∧ n * (n - 1) / 2 = pairsN n ∧ pairsN n ≤ 10 := by decide
  exact ⟨_, this n h5⟩

set_option maxRecDepth 100000 in
set_option maxHeartbeats 2000000 in
theorem specByInv_any (n : Int) (w : World) : Calls Try.prog 41 #[.int .i64 n] w (PostInts w (byInvOf n)) := by
  by_cases hn : inB n 0 5 = true
  · by_cases h0 : n = 0
    · subst h0
      have HR : Hid (byInvOf 0 = ([1], true)) := hid (by decide)
      have HN := hid hn
      clear hn
      go_enter Try.func41, Try.ntmps41
      go_wp2_with (go_at_call 85; refine (l1In_any _ _ _ _).mono ?_; rintro e w' ⟨rfl, rfl⟩; rw [HN.out])
      go_ret2
      exact postInts HR.out (own_lit1 _ _ _ (Nat.le_refl _)) ((Below.refl _ _).alloc (Nat.le_refl _) _)
    · obtain ⟨p, rfl⟩ : ∃ p : Nat, n = (p : Int) := ⟨n.toNat, by have := inB_iff.1 hn; omega⟩
      have h5 : p ≤ 5 := by have := inB_iff.1 hn; omega
      have HR : Hid (byInvOf p = (byInv p, true)) := hid (by simp [byInvOf, hn])
      have HN := hid hn
      have HTL := hid (length_invTs h5)
      obtain ⟨M, hM, hM20, hM2, hM10⟩ := pairs_int h5
      have hd2 : (M : Int).tdiv 2 = ((pairsN p : Nat) : Int) := by rw [← hM2]; rfl
      have hbe : ((p : Int) == 0) = false := by simp; omega
      have HP1 : 1 ≤ p := by omega
      clear hn h0
      obtain ⟨K, hK⟩ : ∃ K, pairsN p = K := ⟨_, rfl⟩
      rw [hK] at hM10 hd2
      have HK := hid hK
      clear hK hM2
      have HC : Hid ((K : Int) + 1 = ((K + 1 : Nat) : Int)) := hid (by omega)
      have hq := treesQ_le h5
      have HT5 := hid h5
      have HTR := hid (trAll_any p (p - 1) (by omega) (by omega))
      have HTL2 : Hid (allTrees (p - 1) = treesL p) := hid (by rw [treesL, if_neg (by omega)])
      go_enter Try.func41, Try.ntmps41
      go_wp2_with (first | (go_at_call 85; refine (l1In_any _ _ _ _).mono ?_; rintro e w' ⟨rfl, rfl⟩; rw [HN.out]) | (at_make; refine wpList_make_ints _ rfl _ _ rfl (K + 1) (by rw [← HC.out]; rfl) (by rw [← HC.out]; rfl) (by omega) ?_; intro a1 cap1 w1 hown1 hb1))
      refine (HTR.out w1).mono ?_
      rintro e w2 ⟨a2, q, cap2, rs, rfl, hown2, hn2, hb2⟩
      rw [HTL2.out] at hn2
      obtain ⟨hqq, hrow⟩ := rows_trees h5 hn2 hown2.len
      have HROW := hid hrow
      have HQ := hid hqq
      have hq5 : q ≤ 1296 := by omega
      have ho1 := hown1.below hb2 (Nat.le_refl _)
      obtain ⟨g1, rfl, hg1, hg2, -, -⟩ := hown1.opened (by omega)
      have hbw := hb1.trans (hb2.mono hb1.size)
      have HGE := hid (fun i (hi : i < q) => (show ∀ x, (nthR rs i).a = some x → x.block ≠ g1 from fun x hx => by
        have := (hown2.2.2.2.1 i hi).ge x hx
        omega))
      have HRR := hid hown2.has
      have HGA := hid (show ∀ x, a2 = some x → x.block ≠ g1 from fun x hx => by
        subst hx
        have := (hown2.1.lt x.block rfl).1
        omega)
      have HH0 := hid (hist5_first (invTs p) (K + 1))
      have hlt2 : g1 < w2.heap.size := Nat.lt_of_lt_of_le hg2 hb2.size
      clear hn2 hqq hrow hown2 hown1 hb1 hb2 hq hM hd2 hbe
      go_wp2_with fail
      go_loopw [23] (fun i wr => ∃ (k : Nat) (zs : List Int), k ≤ q ∧ i = .int .i64 (k : Int) ∧ Own wr w.heap.size (some ⟨g1, 0, none⟩) (K + 1) cap1 zs ∧ Hid (Hist5 (invTs p) (K + 1) k zs) ∧ w2.grownBy wr (some g1)) (fun i _ => q - (intOf i).toNat)
      case atStart => exact ⟨0, _, Nat.zero_le _, rfl, ho1, HH0, World.grownBy.refl _ _⟩
      case round =>
        clear ho1 HH0
        obtain ⟨k, zs, hk, rfl, hz, HH, hgr⟩ := hrel
        by_cases hkq : k < q
        · have p1 := HROW.out k hkq
          obtain ⟨r0, r1, r2, r3, r4, r5⟩ := HRR.out
          obtain ⟨b, off, rfl, hbb, hc⟩ := r4 (by omega)
          have hbg := HGA.out _ rfl
          have hck : wr.cell? ⟨b, off + k, none⟩ = some (nthR rs k).v := hgr.cell (hc k hkq) (by simpa using hbg)
          have hrow := (r5 k hkq).kept hgr (HGE.out k hkq)
          obtain ⟨ht, d, hd, hdp, hdn, -⟩ := invTs_facts h5 (by rw [← HQ.out]; exact hkq) p1
          rw [HK.out] at hdp
          have p2 := ht.len
          rw [p2] at hrow
          unfold Rw.v at hck
          rw [p2] at hck
          have HH2 := hid (hist5_step HH.out (by rw [HTL.out, ← HQ.out]; exact hkq) hdn hdp hz.len)
          obtain ⟨z0, z1⟩ := hist5_le HH.out hdp (by rw [HTL.out, ← HQ.out]; omega)
          rw [HTL.out, ← HQ.out] at z1
          have HD := hid hd
          have HTT := hid ht
          generalize (nthR rs k).xs = xs at *
          generalize (nthR rs k).a = ax at *
          generalize (nthR rs k).c = cx at *
          have HL := hid (trPairs_any ax p cx xs wr hrow ht (by omega))
          clear hc r0 r1 r2 r3 r4 r5 p1 p2 hd hdn hrow ht
          go_wp2_with fail
          refine HL.out.mono ?_
          rintro e w5 ⟨a5, q5, c5, rs5, rfl, hown5, hn5, hb5⟩
          have hq5d : q5 = d := by
            have e5 := congrArg List.length hn5
            have e6 := hown5.len
            rw [HD.out] at e5
            simp [numsOf] at e5
            omega
          subst hq5d
          have hz5 := hz.below hb5 (Nat.le_refl _)
          obtain ⟨g', hga, -, -, hcg, hfg⟩ := hz5.opened (by omega)
          cases hga
          have hgd := hcg q5 hdp
          have hgf := hfg q5
          have hdi : (q5 : Int) < ((K + 1 : Nat) : Int) := by omega
          have hdi2 : (q5 : Int) < (K : Int) + 1 := by omega
          have hdz : (0 : Int) ≤ (q5 : Int) := by omega
          clear hcg hfg
          go_wp2_with fail
          go_roundw
          case rel => exact ⟨k + 1, _, by omega, by go_num, (hz5.set q5 _).1, HH2, grownI_set (grownI_on hgr hb5) _⟩
          case measure => simp [intOf]; omega
        · obtain rfl : k = q := by omega
          have HF := hid (hist_inv (n := p) (by rw [HK.out]; exact HH.out) (by rw [HTL.out, HQ.out]) (by rw [hz.len, HK.out]))
          go_wp2_with fail
          go_ret2
          exact postInts (by rw [HR.out, ← HF.out]) hz (hbw.trans (below_grown hgr hbw.size (fun j hj => by cases hj; exact hg1)))
  · have HR : Hid (byInvOf n = ([], false)) := hid (by simp [byInvOf, hn])
    have HN := hid hn
    clear hn
    go_enter Try.func41, Try.ntmps41
    go_wp2_with (go_at_call 85; refine (l1In_any _ _ _ _).mono ?_; rintro e w' ⟨rfl, rfl⟩; rw [Bool.eq_false_iff.2 HN.out])
    go_ret2
    exact postInts_no HR.out (Below.refl _ _)
end Go.Proofs.Ytlfbmpgjhnpceab

namespace Go.Proofs.Ytlfbmpgjhnpceab
open Go.RowKit Go.Shelf

attribute [local go_sem] Oper.semAt_some

theorem two_cells (w : World) (x y : Value) (t u : TypeId) :
    ((w.alloc (.cells #[x] t)).alloc (.cells #[y] u)).cell? ⟨w.heap.size, 0, none⟩ = some x ∧
    ((w.alloc (.cells #[x] t)).alloc (.cells #[y] u)).cell? ⟨w.heap.size + 1, 0, none⟩ = some y ∧
    ((w.alloc (.cells #[x] t)).alloc (.cells #[y] u)).heap.size = w.heap.size + 2 := by
  refine ⟨?_, ?_, by simp⟩
  · rw [World.cell?_alloc_past _ _ _ (by simp), World.cell?_alloc_at _ _ _ _ rfl]; rfl
  · rw [World.cell?_alloc_at _ _ _ _ (by simp)]; rfl

/-- The array in memory. -/
def ArrAt (W : World) (T : Nat) (ys : List Int) : Prop := ∀ v, v < 9 → W.cell? ⟨T, v, none⟩ = some (.int .i64 (nth ys v)) ∧ W.frozen? ⟨T, v, none⟩ = false
theorem ArrAt.below {W W' : World} {T K : Nat} {ys : List Int} (h : ArrAt W T ys) (hb : Below K W W') (hT : T < K) : ArrAt W' T ys := fun v hv => by
  rw [hb.cell (p := ⟨T, v, none⟩) hT, hb.frozen (p := ⟨T, v, none⟩) hT]; exact h v hv
theorem ArrAt.set {W : World} {T u : Nat} {ys : List Int} (h : ArrAt W T ys) (hu : u < 9) (hl : ys.length = 9) (y : Int) : ArrAt (W.setCell ⟨T, u, none⟩ (.int .i64 y)) T (ys.set u y) := fun v hv => by
  rw [World.frozen?_setCell, nth_set (by omega)]
  refine ⟨?_, (h v hv).2⟩
  by_cases e : u = v
  · subst e
    rw [if_pos rfl]
    exact World.cell?_setCell_same' _ _ _ (by rw [(h u hu).1]; rfl)
  · rw [if_neg e, World.cell?_setCell_other _ _ _ _ (by intro hh; injection hh with _ h5 _; exact e h5)]
    exact (h v hv).1
theorem ArrAt.turn {A B : World} {T : Nat} {ys : List Int} {row : Option Nat} (h : ArrAt A T ys) (hg : A.grownBy B row) (hr : ∀ r, row = some r → ∃ o : Obj, A.heap[r]? = some o ∧ o.isCells = false) : ArrAt B T ys := fun v hv =>
  ⟨cell_kept (h v hv).1 hg hr, (frozen_kept (h v hv).1 hg hr).trans (h v hv).2⟩
theorem ArrAt.has {W : World} {T n : Nat} {ys : List Int} (h : ArrAt W T ys) (hT : T < W.heap.size) (hl : ys.length = 9) (hn : n ≤ 9) : Has W (some ⟨T, 0, none⟩) n 9 (ys.take n) :=
  ⟨by simp; omega, hn, by unfold maxLen; omega, by omega, fun _ => ⟨T, 0, rfl, hT, fun i hi => by rw [Nat.zero_add, (h i (by omega)).1, nth_take hi]⟩⟩

structure Beneath (w wr : World) (T : Nat) (xs ys : List Int) (k : Nat) (Ds : List Nat) : Prop where
  below : Below w.heap.size w wr
  lo : w.heap.size ≤ T ∧ T < wr.heap.size
  arr : ArrAt wr T ys
  marks : Marks wr w.heap.size Ds
  found : BelAt xs ys 9 k 0

end Go.Proofs.Ytlfbmpgjhnpceab

namespace Go.Proofs
open Go.Shelf
def Try.laysSlF6_f121_ren : Go.Shelf.Ren := ⟨fun | 6 => 121 | 15 => 155 | 14 => 173 | 28 => 187 | 29 => 188 | 20 => 194 | 21 => 195 | 22 => 196 | 23 => 197 | 24 => 198 | 25 => 199 | 26 => 200 | 27 => 201 | 46 => 211 | 47 => 205 | 48 => 206 | 49 => 212 | 50 => 213 | 57 => 216 | n => n, fun | 22 => 42 | 24 => 22 | 25 => 102 | 3 => 3 | 39 => 120 | 0 => 0 | 53 => 142 | 55 => 77 | 4 => 4 | 46 => 137 | 45 => 136 | 50 => 28 | 5 => 5 | 9 => 9 | 66 => 157 | 70 => 161 | 76 => 167 | 77 => 58 | n => n, fun | n => n⟩
theorem Try.laysSlF6_f121 : Go.Proofs.SlLaysF.n6 Try.prog Try.laysSlF6_f121_ren := {
  mixed := by kernel_rfl
  f6 := ⟨Try.f121.name, by decide, Try.func121.trans (congrArg some (by kernel_rfl))⟩
  f14 := ⟨Try.f173.name, by decide, Try.func173.trans (congrArg some (by kernel_rfl))⟩
  f15 := Try.func155.trans (congrArg some (by kernel_rfl))
  f20 := ⟨Try.f194.name, by decide, Try.func194.trans (congrArg some (by kernel_rfl))⟩
  f21 := ⟨Try.f195.name, by decide, Try.func195.trans (congrArg some (by kernel_rfl))⟩
  f22 := ⟨Try.f196.name, by decide, Try.func196.trans (congrArg some (by kernel_rfl))⟩
  f23 := ⟨Try.f197.name, by decide, Try.func197.trans (congrArg some (by kernel_rfl))⟩
  f24 := ⟨Try.f198.name, by decide, Try.func198.trans (congrArg some (by kernel_rfl))⟩
  f25 := ⟨Try.f199.name, by decide, Try.func199.trans (congrArg some (by kernel_rfl))⟩
  f26 := ⟨Try.f200.name, by decide, Try.func200.trans (congrArg some (by kernel_rfl))⟩
  f27 := ⟨Try.f201.name, by decide, Try.func201.trans (congrArg some (by kernel_rfl))⟩
  f28 := Try.func187.trans (congrArg some (by kernel_rfl))
  f29 := Try.func188.trans (congrArg some (by kernel_rfl))
  f46 := ⟨Try.f211.name, by decide, Try.func211.trans (congrArg some (by kernel_rfl))⟩
  f47 := Try.func205.trans (congrArg some (by kernel_rfl))
  f48 := Try.func206.trans (congrArg some (by kernel_rfl))
  f49 := ⟨Try.f212.name, by decide, Try.func212.trans (congrArg some (by kernel_rfl))⟩
  f50 := ⟨Try.f213.name, by decide, Try.func213.trans (congrArg some (by kernel_rfl))⟩
  f57 := ⟨Try.f216.name, by decide, Try.func216.trans (congrArg some (by kernel_rfl))⟩
  t0 := Try.underlying0
  a0 := Try.isAgg0
  z0 := Try.sizeOf0
  v0 := Try.zeroValue0
  t3 := Try.underlying3
  a3 := Try.isAgg3
  z3 := Try.sizeOf3
  v3 := Try.zeroValue3
  t4 := Try.underlying4
  a4 := Try.isAgg4
  z4 := Try.sizeOf4
  v4 := Try.zeroValue4
  t5 := Try.underlying5
  a5 := Try.isAgg5
  z5 := Try.sizeOf5
  v5 := Try.zeroValue5
  t9 := Try.underlying9
  a9 := Try.isAgg9
  z9 := Try.sizeOf9
  v9 := Try.zeroValue9
  t22 := Try.underlying42
  a22 := Try.isAgg42
  z22 := Try.sizeOf42
  v22 := Try.zeroValue42
  a24 := Try.isAgg22
  z24 := Try.sizeOf22
  t25 := Try.underlying102
  a25 := Try.isAgg102
  z25 := Try.sizeOf102
  v25 := Try.zeroValue102
  t39 := Try.underlying120
  a39 := Try.isAgg120
  z39 := Try.sizeOf120
  v39 := Try.zeroValue120
  t45 := Try.underlying136
  a45 := Try.isAgg136
  z45 := Try.sizeOf136
  v45 := Try.zeroValue136
  t46 := Try.underlying137
  a46 := Try.isAgg137
  z46 := Try.sizeOf137
  v46 := Try.zeroValue137
  t50 := Try.underlying28
  a50 := Try.isAgg28
  z50 := Try.sizeOf28
  v50 := Try.zeroValue28
  t53 := Try.underlying142
  a53 := Try.isAgg142
  z53 := Try.sizeOf142
  v53 := Try.zeroValue142
  t55 := Try.underlying77
  a55 := Try.isAgg77
  z55 := Try.sizeOf77
  v55 := Try.zeroValue77
  t66 := Try.underlying157
  a66 := Try.isAgg157
  z66 := Try.sizeOf157
  v66 := Try.zeroValue157
  t70 := Try.underlying161
  a70 := Try.isAgg161
  z70 := Try.sizeOf161
  v70 := Try.zeroValue161
  t76 := Try.underlying167
  a76 := Try.isAgg167
  z76 := Try.sizeOf167
  v76 := Try.zeroValue167
  t77 := Try.underlying58
  a77 := Try.isAgg58
  z77 := Try.sizeOf58
  v77 := Try.zeroValue58 }
open Go.RowKit Go.Lib Go.Sort in
theorem Try.slices_SortFunc_eq {α : Type} [Inhabited α] (enc : α → Value) (h1 : OneCell enc) (cf : α → α → Int) (hO : SWO (ltOf cf)) (g : Nat) (cb : Array Value) (blk off cap : Nat) (d : Array α) (w : World) (eg : ∀ args w, (callFunc g args).run Try.prog w = .ok (.enter g args) w) (hcmp : CmpLays1 Try.prog g cb enc cf blk off d.size w) (hH : Holds enc w blk off d) (hblk : blk < w.heap.size) (hsz : d.size < 4611686018427387904) :
    Calls Try.prog 121 #[.slice (some ⟨blk, off, none⟩) d.size cap, .func (.func g) #[] cb] w fun e w' =>
      e = .returned (.tuple #[]) ∧ ∃ n os, w' = sortWorld enc w blk off n (pdq (ltOf cf) d 0 d.size (Lib.bitLen d.size) true true) os := Any.slices_SortFunc_eq Try.laysSlF6_f121 enc h1 cf hO g cb blk off cap d w eg hcmp hH hblk hsz
open Go.RowKit Go.Lib Go.Sort in
theorem Try.slices_SortFunc {α : Type} [Inhabited α] (enc : α → Value) (h1 : OneCell enc) (cf : α → α → Int) (hO : SWO (ltOf cf)) (g : Nat) (cb : Array Value) (blk off cap : Nat) (d : Array α) (w : World) (eg : ∀ args w, (callFunc g args).run Try.prog w = .ok (.enter g args) w) (hcmp : CmpLays1 Try.prog g cb enc cf blk off d.size w) (hH : Holds enc w blk off d) (hblk : blk < w.heap.size) (hsz : d.size < 4611686018427387904) :
    Calls Try.prog 121 #[.slice (some ⟨blk, off, none⟩) d.size cap, .func (.func g) #[] cb] w fun e w' =>
      e = .returned (.tuple #[]) ∧ ∃ d' n os, PermIn 0 d.size d d' ∧ SortedIn (ltOf cf) 0 d.size d' ∧ w' = sortWorld enc w blk off n d' os := Any.slices_SortFunc Try.laysSlF6_f121 enc h1 cf hO g cb blk off cap d w eg hcmp hH hblk hsz
end Go.Proofs

namespace Go.Proofs.Ytlfbmpgjhnpceab
open Go.RowKit Go.Sort

/-- A slice of the call's own of cells of one kind. -/
def OwnE (E : TypeId) (w : World) (B : Nat) (a : Option Addr) (n cap : Nat) (us : List Value) : Prop := w.ownsRow B E 1 (.slice a n cap) n us ∧ us.length = n ∧ n ≤ 2097152
theorem OwnE.below {E : TypeId} {w w' : World} {B K : Nat} {a : Option Addr} {n cap : Nat} {us : List Value} (h : OwnE E w B a n cap us) (hb : Go.RowKit.Below K w w') (hB : w.heap.size ≤ K) : OwnE E w' B a n cap us := by
  obtain ⟨⟨h1, h2⟩, h3⟩ := h
  refine ⟨⟨h1, ?_⟩, h3⟩
  rcases h2 with h2 | ⟨g, cap', cur, hv, hg, hh, r⟩
  · exact .inl h2
  · exact .inr ⟨g, cap', cur, hv, hg, by rw [hb.block g (by have := (Array.getElem?_eq_some_iff.1 hh).1; omega)]; exact hh, r⟩
theorem OwnE.cell {E : TypeId} {w : World} {B g n cap : Nat} {us : List Value} (h : OwnE E w B (some ⟨g, 0, none⟩) n cap us) {i : Nat} (hi : i < n) : w.cell? ⟨g, i, none⟩ = us[i]? := h.1.cellAt i (by omega)
theorem OwnE.lt {E : TypeId} {w : World} {B g n cap : Nat} {us : List Value} (h : OwnE E w B (some ⟨g, 0, none⟩) n cap us) : B ≤ g ∧ g < w.heap.size := h.1.lt g rfl

theorem holds_of_cells {α : Type} [Inhabited α] {enc : α → Value} {w : World} {g : Nat} {cur : Array Value} {e : TypeId} {ds : List α} (hb : w.heap[g]? = some (.cells cur e (0, 0))) (ht : cur.toList.take ds.length = ds.map enc) : Holds enc w g 0 ds.toArray := by
  intro j hj
  have hj' : j < ds.length := by simpa using hj
  refine ⟨?_, by simp [World.frozen?, hb]⟩
  have h1 : (cur.toList.take ds.length)[j]? = (ds.map enc)[j]? := by rw [ht]
  rw [List.getElem?_take_of_lt hj'] at h1
  simp only [World.cell?, hb, Nat.zero_add]
  simp only [Option.isSome_none, Bool.false_eq_true, if_false]
  rw [← Array.getElem?_toList, h1]
  simp [hj']
theorem heap_sortedE {α : Type} [Inhabited α] (enc : α → Value) {w : World} {g n : Nat} {os : Array Obj} {cur : Array Value} {e : TypeId} {fr : Nat × Nat} (d : Array α) (hb : w.heap[g]? = some (.cells cur e fr)) :
    (grow (putRow enc (Sort.ahead w n) g 0 d) os).heap[g]? = some (.cells (putCells enc 0 d cur) e fr) := by
  have hg : g < w.heap.size := (Array.getElem?_eq_some_iff.1 hb).1
  rw [heap_grow_old _ _ (by simpa using hg)]
  simp [putRow, mapBlock, Sort.ahead, Array.getElem?_modify, hb, onCells]
theorem grownBy_sortedE {α : Type} [Inhabited α] (enc : α → Value) {w : World} {g n : Nat} {os : Array Obj} (d : Array α) : w.grownBy (grow (putRow enc (Sort.ahead w n) g 0 d) os) (some g) := by
  refine ⟨rfl, rfl, rfl, by simp, fun k hk hne => ?_⟩
  rw [heap_grow_old _ _ (by simpa using hk)]
  have : g ≠ k := fun e => hne (by rw [e])
  simp [putRow, mapBlock, Sort.ahead, Array.getElem?_modify, this]
theorem take_putCellsE {α : Type} [Inhabited α] (enc : α → Value) (cur : Array Value) (ts : List α) (h : ts.length ≤ cur.size) : (putCells enc 0 ts.toArray cur).toList.take ts.length = ts.map enc := by
  apply List.ext_getElem?
  intro j
  by_cases hj : j < ts.length
  · rw [List.getElem?_take_of_lt hj, Array.getElem?_toList]
    simp [putCells, hj, show j < cur.size by omega]
  · rw [List.getElem?_take_eq_none (by omega), List.getElem?_eq_none (by simp; omega)]
theorem toArr {α : Type} (d : Array α) : d.toList.toArray = d := by simp
/-- A permutation, in order: what a sort leaves. -/
theorem sorted_list {α : Type} [Inhabited α] {lt : α → α → Bool} {ds : List α} {d' : Array α} (hp : PermIn 0 ds.length ds.toArray d') (hs : SortedIn lt 0 ds.length d') : d'.toList.Perm ds ∧ d'.toList.Pairwise (fun x y => lt y x = false) := by
  obtain ⟨h1, _, h3⟩ := hp
  have hsz : d'.size = ds.length := by simpa using h1
  constructor
  · have e1 : d'.extract 0 ds.length = d' := by rw [← hsz]; simp
    have e2 : ds.toArray.extract 0 ds.length = ds.toArray := by simp
    rw [e1, e2] at h3
    simpa using h3
  · rw [List.pairwise_iff_getElem]
    intro i j hi hj hij
    have := hs i j (Nat.zero_le _) hij (by simpa [hsz] using hj)
    have hi' : i < d'.size := by simpa using hi
    have hj' : j < d'.size := by simpa using hj
    rw [getElem!_pos d' j hj', getElem!_pos d' i hi'] at this
    simpa using this

/-- The order of integers, as a comparison tells it. -/
def cmpI (x y : Int) : Int := if x < y then -1 else if y < x then 1 else 0
theorem ltOf_cmpI (x y : Int) : ltOf cmpI x y = decide (x < y) := by
  unfold ltOf cmpI
  by_cases h : x < y
  · simp [h]
  · by_cases h2 : y < x
    · simp [h, h2]
    · simp [h, h2]
theorem swo_cmpI : SWO (ltOf cmpI) := ⟨fun x => by simp [ltOf_cmpI], fun x y z h1 h2 => by simp [ltOf_cmpI] at *; omega, fun x y z h1 h2 => by simp [ltOf_cmpI] at *; omega⟩

theorem wishes_sorted {ds : List Int} {d' : Array Int} (hp : PermIn 0 ds.length ds.toArray d') (hs : SortedIn (ltOf cmpI) 0 ds.length d') : d'.toList = insSort ds := by
  obtain ⟨h1, h2⟩ := sorted_list hp hs
  refine sorted_unique (h2.imp fun {x y} h => ?_) (insSort_sorted ds) (h1.trans (insSort_perm ds).symm)
  simp [ltOf_cmpI] at h
  omega

end Go.Proofs.Ytlfbmpgjhnpceab

namespace Go.Proofs
open Go.Shelf
def Try.lays128_ren : Go.Shelf.Ren := ⟨fun | 128 => 187 | n => n, fun | 51 => 142 | 3 => 3 | 4 => 4 | 46 => 120 | 5 => 5 | 9 => 9 | n => n, fun | n => n⟩
theorem Try.lays128 : Go.Proofs.Lays.n128 Try.prog Try.lays128_ren := {
  mixed := by kernel_rfl
  f128 := Try.func187.trans (congrArg some (by kernel_rfl))
  t3 := Try.underlying3
  a3 := Try.isAgg3
  z3 := Try.sizeOf3
  v3 := Try.zeroValue3
  t4 := Try.underlying4
  a4 := Try.isAgg4
  z4 := Try.sizeOf4
  v4 := Try.zeroValue4
  t5 := Try.underlying5
  a5 := Try.isAgg5
  z5 := Try.sizeOf5
  v5 := Try.zeroValue5
  t9 := Try.underlying9
  a9 := Try.isAgg9
  z9 := Try.sizeOf9
  v9 := Try.zeroValue9
  t46 := Try.underlying120
  a46 := Try.isAgg120
  z46 := Try.sizeOf120
  v46 := Try.zeroValue120
  t51 := Try.underlying142
  a51 := Try.isAgg142
  z51 := Try.sizeOf142
  v51 := Try.zeroValue142 }
theorem Try.bits_Len32 (x : Int) (w : World) (h0 : 0 ≤ x) (h1 : x ≤ 4294967295) :
    Calls Try.prog 187 #[.int .u32 x] w fun e w' => e = .returned (.int .i64 (Lib.bitLen x.toNat)) ∧ w' = w := Any.bits_Len32 Try.lays128 x w h0 h1
def Try.lays125_ren : Go.Shelf.Ren := ⟨fun | 125 => 155 | 128 => 187 | 129 => 188 | n => n, fun | 46 => 120 | 3 => 3 | 51 => 142 | 53 => 77 | 4 => 4 | 5 => 5 | 9 => 9 | n => n, fun | n => n⟩
theorem Try.lays125 : Go.Proofs.Lays.n125 Try.prog Try.lays125_ren := {
  mixed := by kernel_rfl
  f125 := Try.func155.trans (congrArg some (by kernel_rfl))
  f128 := Try.func187.trans (congrArg some (by kernel_rfl))
  f129 := Try.func188.trans (congrArg some (by kernel_rfl))
  t3 := Try.underlying3
  a3 := Try.isAgg3
  z3 := Try.sizeOf3
  v3 := Try.zeroValue3
  t4 := Try.underlying4
  a4 := Try.isAgg4
  z4 := Try.sizeOf4
  v4 := Try.zeroValue4
  t5 := Try.underlying5
  a5 := Try.isAgg5
  z5 := Try.sizeOf5
  v5 := Try.zeroValue5
  t9 := Try.underlying9
  a9 := Try.isAgg9
  z9 := Try.sizeOf9
  v9 := Try.zeroValue9
  t46 := Try.underlying120
  a46 := Try.isAgg120
  z46 := Try.sizeOf120
  v46 := Try.zeroValue120
  t51 := Try.underlying142
  a51 := Try.isAgg142
  z51 := Try.sizeOf142
  v51 := Try.zeroValue142
  t53 := Try.underlying77
  a53 := Try.isAgg77
  z53 := Try.sizeOf77
  v53 := Try.zeroValue77 }
theorem Try.bits_Len (x : Int) (w : World) (h0 : 0 ≤ x) (h1 : x ≤ 18446744073709551615) :
    Calls Try.prog 155 #[.int .u64 x] w fun e w' => e = .returned (.int .i64 (Lib.bitLen x.toNat)) ∧ w' = w := Any.bits_Len Try.lays125 x w h0 h1
def Try.lays129_ren : Go.Shelf.Ren := ⟨fun | 129 => 188 | n => n, fun | 53 => 77 | 3 => 3 | 4 => 4 | 46 => 120 | 5 => 5 | 9 => 9 | n => n, fun | n => n⟩
theorem Try.lays129 : Go.Proofs.Lays.n129 Try.prog Try.lays129_ren := {
  mixed := by kernel_rfl
  f129 := Try.func188.trans (congrArg some (by kernel_rfl))
  t3 := Try.underlying3
  a3 := Try.isAgg3
  z3 := Try.sizeOf3
  v3 := Try.zeroValue3
  t4 := Try.underlying4
  a4 := Try.isAgg4
  z4 := Try.sizeOf4
  v4 := Try.zeroValue4
  t5 := Try.underlying5
  a5 := Try.isAgg5
  z5 := Try.sizeOf5
  v5 := Try.zeroValue5
  t9 := Try.underlying9
  a9 := Try.isAgg9
  z9 := Try.sizeOf9
  v9 := Try.zeroValue9
  t46 := Try.underlying120
  a46 := Try.isAgg120
  z46 := Try.sizeOf120
  v46 := Try.zeroValue120
  t53 := Try.underlying77
  a53 := Try.isAgg77
  z53 := Try.sizeOf77
  v53 := Try.zeroValue77 }
theorem Try.bits_Len64 (x : Int) (w : World) (h0 : 0 ≤ x) (h1 : x ≤ 18446744073709551615) :
    Calls Try.prog 188 #[.int .u64 x] w fun e w' => e = .returned (.int .i64 (Lib.bitLen x.toNat)) ∧ w' = w := Any.bits_Len64 Try.lays129 x w h0 h1
end Go.Proofs

namespace Go.Proofs.Ytlfbmpgjhnpceab
open Go.RowKit Go.Sort

theorem isNaNP_any (x : Int) (w : World) : Calls Try.prog 190 #[.int .i64 x] w fun e w' => e = .returned (.bool false) ∧ w = w' := by
  have hx : (x != x) = false := by simp
  go_enter Try.func190, Try.ntmps190
  go_wp2_with fail
  go_ret
  exact ⟨rfl, rfl⟩
set_option maxHeartbeats 400000 in
theorem compareP_any (x y : Int) (w : World) : Calls Try.prog 162 #[.int .i64 x, .int .i64 y] w fun e w' => e = .returned (.int .i64 (cmpI x y)) ∧ w = w' := by
  by_cases h1 : x < y
  · have HR : Hid (cmpI x y = -1) := hid (by simp [cmpI, h1])
    go_enter Try.func162, Try.ntmps162
    go_wp2_with (go_at_call 190; refine (isNaNP_any _ _).mono ?_; rintro e w' ⟨rfl, rfl⟩)
    go_ret
    exact ⟨ret_int HR.out.symm, rfl⟩
  · by_cases h2 : y < x
    · have HR : Hid (cmpI x y = 1) := hid (by simp [cmpI, h1, h2])
      go_enter Try.func162, Try.ntmps162
      go_wp2_with (go_at_call 190; refine (isNaNP_any _ _).mono ?_; rintro e w' ⟨rfl, rfl⟩)
      go_ret
      exact ⟨ret_int HR.out.symm, rfl⟩
    · have HR : Hid (cmpI x y = 0) := hid (by simp [cmpI, h1, h2])
      go_enter Try.func162, Try.ntmps162
      go_wp2_with (go_at_call 190; refine (isNaNP_any _ _).mono ?_; rintro e w' ⟨rfl, rfl⟩)
      go_ret
      exact ⟨ret_int HR.out.symm, rfl⟩

/-- A pair that a comparison may read. -/
def PFit (w : World) (r : Rw) : Prop := Has w r.a r.xs.length r.c r.xs ∧ r.xs.length = 2 ∧ 0 ≤ nth r.xs 1 ∧ nth r.xs 1 ≤ 9
theorem cmp_pair {xs ys : List Int} (h1 : 0 ≤ nth xs 1) (h2 : nth xs 1 ≤ 9) (h3 : 0 ≤ nth ys 1) (h4 : nth ys 1 ≤ 9) : cmpI (pairC xs) (pairC ys) = if nth xs 0 = nth ys 0 then cmpI (nth xs 1) (nth ys 1) else cmpI (nth xs 0) (nth ys 0) := by
  unfold pairC
  by_cases e : nth xs 0 = nth ys 0
  · rw [if_pos e, e]
    unfold cmpI
    by_cases l : nth xs 1 < nth ys 1
    · rw [if_pos l, if_pos (by omega)]
    · by_cases g : nth ys 1 < nth xs 1
      · rw [if_neg l, if_pos g, if_neg (by omega), if_pos (by omega)]
      · rw [if_neg l, if_neg g, if_neg (by omega), if_neg (by omega)]
  · rw [if_neg e]
    unfold cmpI
    by_cases l : nth xs 0 < nth ys 0
    · rw [if_pos l, if_pos (by omega)]
    · rw [if_neg l, if_neg (by omega), if_pos (by omega), if_pos (by omega)]
theorem cmpI_ne {x y : Int} (h : x ≠ y) : (cmpI x y != 0) = true := by
  unfold cmpI
  by_cases l : x < y
  · simp [l]
  · by_cases g : y < x
    · simp [l, g]
    · omega
theorem cmpI_self {x y : Int} (h : x = y) : cmpI x y = 0 := by subst h; simp [cmpI]

set_option maxHeartbeats 1000000 in
theorem comparePair_any (r s : Rw) (w : World) (hr : PFit w r) (hs : PFit w s) : Calls Try.prog 122 #[r.v, s.v] w fun e w' => e = .returned (.int .i64 (cmpI (pairC r.xs) (pairC s.xs))) ∧ w = w' := by
  obtain ⟨a, ca, xs⟩ := r
  obtain ⟨b, cb, ys⟩ := s
  unfold Rw.v
  obtain ⟨r1, r2, r3, r4⟩ := hr
  obtain ⟨s1, s2, s3, s4⟩ := hs
  simp only at *
  have HC := hid (cmp_pair r3 r4 s3 s4)
  rw [r2] at r1
  rw [s2] at s1
  rw [r2, s2]
  obtain ⟨b1, off1, rfl, hb1, c1⟩ := r1.2.2.2.2 (by omega)
  obtain ⟨b2, off2, rfl, hb2, c2⟩ := s1.2.2.2.2 (by omega)
  have x0 := c1 0 (by omega)
  have x1 := c1 1 (by omega)
  have y0 := c2 0 (by omega)
  have y1 := c2 1 (by omega)
  rw [Nat.add_zero] at x0 y0
  clear c1 c2 r1 s1 r2 s2
  by_cases e0 : nth xs 0 = nth ys 0
  · have hz := hid (cmpI_self e0)
    rw [if_pos e0] at HC
    clear e0
    by_cases e1 : nth xs 1 = nth ys 1
    · have hz1 := hid (cmpI_self e1)
      clear e1
      go_enter Try.func122, Try.ntmps122
      go_wp2_with fail
      go_loop [11] (fun i => ∃ k : Nat, k ≤ 2 ∧ i = .int .i64 k) (fun i => 2 - (intOf i).toNat)
      case atStart => exact ⟨0, Nat.zero_le _, rfl⟩
      case round =>
        obtain ⟨k, hk, rfl⟩ := hrel
        match k, hk with
        | 0, _ =>
          go_wp2_with (go_at_call 162; refine (compareP_any _ _ _).mono ?_; rintro e w' ⟨rfl, rfl⟩; rw [hz.out])
          go_round
          case rel => exact ⟨1, by omega, by go_num⟩
          case measure => simp [intOf]
        | 1, _ =>
          go_wp2_with (go_at_call 162; refine (compareP_any _ _ _).mono ?_; rintro e w' ⟨rfl, rfl⟩; rw [hz1.out])
          go_round
          case rel => exact ⟨2, by omega, by go_num⟩
          case measure => simp [intOf]
        | 2, _ =>
          go_wp2_with fail
          go_ret
          exact ⟨ret_int (HC.out.trans hz1.out).symm, rfl⟩
    · have hne := cmpI_ne e1
      clear e1
      go_enter Try.func122, Try.ntmps122
      go_wp2_with fail
      go_loop [11] (fun i => ∃ k : Nat, k ≤ 1 ∧ i = .int .i64 k) (fun i => 2 - (intOf i).toNat)
      case atStart => exact ⟨0, Nat.zero_le _, rfl⟩
      case round =>
        obtain ⟨k, hk, rfl⟩ := hrel
        match k, hk with
        | 0, _ =>
          go_wp2_with (go_at_call 162; refine (compareP_any _ _ _).mono ?_; rintro e w' ⟨rfl, rfl⟩; rw [hz.out])
          go_round
          case rel => exact ⟨1, by omega, by go_num⟩
          case measure => simp [intOf]
        | 1, _ =>
          go_wp2_with (go_at_call 162; refine (compareP_any _ _ _).mono ?_; rintro e w' ⟨rfl, rfl⟩)
          go_ret
          exact ⟨ret_int HC.out.symm, rfl⟩
  · have hne := cmpI_ne e0
    rw [if_neg e0] at HC
    clear e0
    go_enter Try.func122, Try.ntmps122
    go_wp2_with fail
    go_loop [11] (fun i => i = .int .i64 0) (fun _ => 0)
    case atStart => rfl
    case round =>
      subst hrel
      go_wp2_with (go_at_call 162; refine (compareP_any _ _ _).mono ?_; rintro e w' ⟨rfl, rfl⟩)
      go_ret
      exact ⟨ret_int HC.out.symm, rfl⟩
theorem PFit.kept {w w' : World} {r : Rw} {g : Nat} (h : PFit w r) (hg : w.grownBy w' (some g)) (hne : ∀ p, r.a = some p → p.block ≠ g) : PFit w' r := ⟨h.1.kept hg hne, h.2⟩
theorem attachP_map {β : Type} (f : Rw → β) (rs : List Rw) : rs.attach.map (fun x => f x.1) = rs.map f := by
  rw [show (fun x : {r : Rw // r ∈ rs} => f x.1) = f ∘ Subtype.val from rfl, ← List.map_map, List.attach_map_subtype_val]
theorem attachP_v (rs : List Rw) : rs.attach.map (fun x => x.1.v) = rs.map Rw.v := attachP_map Rw.v rs

/-- 'slices.SortFunc(pairs, slices.Compare)'. -/
theorem sortPairs_any (B g n cap : Nat) (rs : List Rw) (w : World) (h : OwnE 22 w B (some ⟨g, 0, none⟩) n cap (rs.map Rw.v)) (hn : 0 < n) (hfit : ∀ r ∈ rs, PFit w r ∧ ∀ p, r.a = some p → p.block ≠ g) :
    Calls Try.prog 121 #[.slice (some ⟨g, 0, none⟩) n cap, .func (.func 122) #[] #[]] w fun e w' =>
      e = .returned (.tuple #[]) ∧ (∃ ss : List Rw, ss.length = n ∧ ss.Perm rs ∧ ss.map (fun s => pairC s.xs) = insSort (rs.map fun s => pairC s.xs) ∧ OwnE 22 w' B (some ⟨g, 0, none⟩) n cap (ss.map Rw.v)) ∧ w.grownBy w' (some g) := by
  obtain ⟨⟨h1, h2⟩, h3, h4⟩ := h
  have hlen : rs.length = n := by simpa using h3
  haveI : Inhabited {r : Rw // r ∈ rs} := ⟨⟨nthR rs 0, by
    have h0 : 0 < rs.length := by omega
    simp [nthR, h0]⟩⟩
  rcases h2 with ⟨hv, _⟩ | ⟨g', cap', cur, hv, hg, hh, hnc, hcm, hcs, htake⟩
  · simp at hv
  · simp at hv
    obtain ⟨rfl, rfl⟩ := hv
    have hal : rs.attach.length = n := by simp [hlen]
    have hH : Holds (fun x : {r : Rw // r ∈ rs} => x.1.v) w g 0 rs.attach.toArray := holds_of_cells hh (by rw [attachP_v, hal]; simpa using htake)
    have hlt : g < w.heap.size := (Array.getElem?_eq_some_iff.1 hh).1
    have eg : ∀ args w, (callFunc 122 args).run Try.prog w = .ok (.enter 122 args) w := by intro args w; go_simp
    have hcmp : CmpReads Try.prog 122 #[] (fun x : {r : Rw // r ∈ rs} => x.1.v) (fun x y => cmpI (pairC x.1.xs) (pairC y.1.xs)) g 0 rs.attach.toArray.size w := by
      intro m os dk _ x y
      have hgr : w.grownBy (sortWorld (fun x : {r : Rw // r ∈ rs} => x.1.v) w g 0 m dk os) (some g) := grownBy_sortedE _ dk
      refine (comparePair_any x.1 y.1 _ ((hfit x.1 x.2).1.kept hgr (hfit x.1 x.2).2) ((hfit y.1 y.2).1.kept hgr (hfit y.1 y.2).2)).mono ?_
      rintro e w' ⟨rfl, rfl⟩
      exact ⟨rfl, 0, rfl⟩
    have hswo : SWO (ltOf fun x y : {r : Rw // r ∈ rs} => cmpI (pairC x.1.xs) (pairC y.1.xs)) := by
      have e : ∀ x y : {r : Rw // r ∈ rs}, ltOf (fun x y : {r : Rw // r ∈ rs} => cmpI (pairC x.1.xs) (pairC y.1.xs)) x y = decide (pairC x.1.xs < pairC y.1.xs) := fun x y => ltOf_cmpI _ _
      exact ⟨fun x => by simp [e], fun x y z h1 h2 => by simp [e] at *; omega, fun x y z h1 h2 => by simp [e] at *; omega⟩
    have hs := Try.slices_SortFunc (fun x : {r : Rw // r ∈ rs} => x.1.v) (fun _ => rfl) (fun x y => cmpI (pairC x.1.xs) (pairC y.1.xs)) hswo 122 #[] g 0 cap rs.attach.toArray w eg hcmp.lays hH hlt (by simp; omega)
    simp only [List.size_toArray, List.length_attach, hlen] at hs
    refine hs.mono ?_
    rintro e w' ⟨rfl, d', q, os, hp, hst, rfl⟩
    rw [← hal] at hp hst
    obtain ⟨p1, p2⟩ := sorted_list hp hst
    have hdl : d'.toList.length = n := by rw [p1.length_eq, hal]
    refine ⟨rfl, ⟨d'.toList.map fun x => x.1, by simp [← hdl], ?_, ?_, ⟨⟨by simp [← hdl], .inr ⟨g, cap, _, rfl, hg, heap_sortedE _ d' hh, hnc, hcm, by simpa [putCells] using hcs, ?_⟩⟩, by simp [← hdl], h4⟩⟩, grownBy_sortedE _ d'⟩
    · have := p1.map fun x => x.1
      rw [List.attach_map_subtype_val] at this
      exact this
    · refine sorted_unique ?_ (insSort_sorted _) (List.Perm.trans ?_ (insSort_perm _).symm)
      · rw [List.map_map, List.pairwise_map]
        refine p2.imp fun {x y} h => ?_
        have h' : ltOf (fun x y : {r : Rw // r ∈ rs} => cmpI (pairC x.1.xs) (pairC y.1.xs)) y x = false := h
        rw [show ltOf (fun x y : {r : Rw // r ∈ rs} => cmpI (pairC x.1.xs) (pairC y.1.xs)) y x = decide (pairC y.1.xs < pairC x.1.xs) from ltOf_cmpI _ _] at h'
        simp at h'
        simpa using h'
      · have := p1.map fun x => pairC x.1.xs
        rw [List.map_map]
        refine List.Perm.trans this ?_
        rw [attachP_map (fun r => pairC r.xs) rs]
    · rw [List.map_map, Nat.mul_one, ← hdl]
      have := take_putCellsE (fun x : {r : Rw // r ∈ rs} => x.1.v) cur d'.toList (by omega)
      rw [toArr] at this
      exact this

theorem insPairsNone_any (a : Option Addr) (cap : Nat) (fv : Value) (w : World) :
    Calls Try.prog 194 #[.slice a 0 cap, .int .i64 0, .int .i64 0, fv] w fun e w' => e = .returned (.tuple #[]) ∧ w' = w := by
  go_enter Try.func194, Try.ntmps194
  go_wp2
  refine wp_loop_rounds 1 ?_
  rw [rounds_succ]
  go_wp2
  all_goals first | (exfalso; omega) | (go_end0; exact ⟨rfl, rfl⟩)

set_option maxHeartbeats 1000000 in
theorem sortPairsNone_any (a : Option Addr) (cap : Nat) (fv : Value) (w : World) :
    Calls Try.prog 121 #[.slice a 0 cap, fv] w fun e w' => e = .returned (.tuple #[]) ∧ w' = w := by
  have hst : ∀ L : Int, Calls Try.prog 173 #[.slice a 0 cap, .int .i64 0, .int .i64 0, .int .i64 L, fv] w fun e w' => e = .returned (.tuple #[]) ∧ w' = w := fun L => by
    go_enter Try.func173, Try.ntmps173
    go_wp2
    refine wp_loop_rounds 1 ?_
    rw [rounds_succ]
    go_wp2_with (go_at_call 194; refine (insPairsNone_any _ _ _ _).mono ?_; rintro e w1 ⟨rfl, rfl⟩)
    refine bodyPost_ret (results_none rfl _ _ _) rfl ⟨rfl, rfl⟩
  go_enter Try.func121, Try.ntmps121
  go_wp2_with fail
  refine (Try.bits_Len 0 w (by omega) (by omega)).mono ?_
  rintro e w1 ⟨rfl, rfl⟩
  go_wp2_with fail
  refine (hst _).mono ?_
  rintro e w1 ⟨rfl, rfl⟩
  go_wp2_with fail
  go_end0
  exact ⟨rfl, rfl⟩

theorem OwnR.row_ne {w : World} {B g n cap : Nat} {rs : List Rw} (h : OwnR w B (some ⟨g, 0, none⟩) n cap rs) {i : Nat} (hi : i < n) {p : Addr} (hp : (nthR rs i).a = some p) : p.block ≠ g := by
  have hz := h.2.2.2.1 i hi
  rw [hp] at hz
  rcases hz.1.2 with ⟨hv, _⟩ | ⟨g1, cap1, cur1, hv1, _, hh1, _⟩
  · simp at hv
  · simp at hv1
    rcases h.1.2 with ⟨hv2, _⟩ | ⟨g2, cap2, cur2, hv2, _, hh2, _⟩
    · simp at hv2
    · simp at hv2
      rw [hv1.1]
      intro e
      simp at e
      rw [e, hv2.1, hh2] at hh1
      simp at hh1
theorem nthR_at {rs : List Rw} {i : Nat} (h : i < rs.length) : nthR rs i = rs[i] := by simp [nthR, h]
theorem sortOwn_any (B : Nat) (a : Option Addr) (n cap : Nat) (rs : List Rw) (w : World) (h : OwnR w B a n cap rs) (hfit : ∀ r ∈ rs, r.xs.length = 2 ∧ 0 ≤ nth r.xs 1 ∧ nth r.xs 1 ≤ 9) :
    Calls Try.prog 121 #[.slice a n cap, .func (.func 122) #[] #[]] w fun e w' =>
      e = .returned (.tuple #[]) ∧ (∃ ss : List Rw, ss.Perm rs ∧ ss.map (fun s => pairC s.xs) = insSort (rs.map fun s => pairC s.xs) ∧ OwnR w' B a n cap ss) ∧ w.grownBy w' (Value.slice a n cap).ownBlock := by
  have hlen := h.len
  by_cases hn : n = 0
  · subst hn
    refine (sortPairsNone_any _ _ _ _).mono ?_
    rintro e w1 ⟨rfl, rfl⟩
    obtain rfl := List.eq_nil_of_length_eq_zero hlen
    exact ⟨rfl, ⟨[], List.Perm.refl _, rfl, h⟩, World.grownBy.refl _ _⟩
  · obtain ⟨g, rfl⟩ : ∃ g, a = some ⟨g, 0, none⟩ := by
      rcases h.1.2 with ⟨hv, hz⟩ | ⟨g2, cap2, cur2, hv2, _⟩
      · simp at hv
        omega
      · simp at hv2
        exact ⟨g2, hv2.1⟩
    have hrow : ∀ r ∈ rs, Own w B r.a r.xs.length r.c r.xs ∧ ∀ p, r.a = some p → p.block ≠ g := fun r hr => by
      obtain ⟨i, hi, rfl⟩ := List.getElem_of_mem hr
      refine ⟨?_, fun p hp => h.row_ne (i := i) (by omega) (by rw [nthR_at hi]; exact hp)⟩
      have := h.2.2.2.1 i (by omega)
      rwa [nthR_at hi] at this
    have hpw : rs.Pairwise (fun r s => ∀ p q, r.a = some p → s.a = some q → p.block ≠ q.block) := List.pairwise_iff_getElem.2 fun i j hi hj hij p q hp hq => h.2.2.2.2 i j p q hij (by omega) (by rw [nthR_at hi]; exact hp) (by rw [nthR_at hj]; exact hq)
    refine (sortPairs_any B g n cap rs w ⟨h.1, by simp [hlen], h.2.2.1⟩ (by omega) fun r hr => ⟨⟨(hrow r hr).1.has, hfit r hr⟩, (hrow r hr).2⟩).mono ?_
    rintro e w1 ⟨rfl, ⟨ss, s1, s2, s3, s4⟩, hgr⟩
    refine ⟨rfl, ⟨ss, s2, s3, s4.1, s1, s4.2.2, fun i hi => ?_, fun i j p q hij hj hp hq => ?_⟩, hgr⟩
    · rw [nthR_at (by omega)]
      obtain ⟨o1, o2⟩ := hrow _ (s2.subset (List.getElem_mem (l := ss) (n := i) (by omega)))
      exact Own.kept o1 hgr (.inr o2)
    · rw [nthR_at (by omega)] at hp hq
      have hps : ss.Pairwise (fun r s => ∀ p q, r.a = some p → s.a = some q → p.block ≠ q.block) := (s2.pairwise_iff (fun {x y} hxy p q hp hq => (hxy q p hq hp).symm)).2 hpw
      exact List.pairwise_iff_getElem.1 hps i j (by omega) (by omega) hij p q hp hq
end Go.Proofs.Ytlfbmpgjhnpceab

namespace Go.Proofs.Ytlfbmpgjhnpceab
open Go.RowKit Go.Shelf

attribute [local go_sem] Oper.semAt_some

/-- 'append(out, row)', with what is kept: w0: the world in which the rows so far were complete; the new row is younger. -/
theorem wpListIn_append_row_k {F : Fence} {d : Nat} {ops : Array Oper} {rest : List Oper} {o : Oper} {a : Act} {Q : Exit → Act → World → Prop} (w0 w : World) (hgd : o.guard = none) (s x : Operand)
    (ho : o.op = .call { callee := .builtin .append, args := #[s, x], argTypes := #[42, 42] })
    (B : Nat) (a0 : Option Addr) (n cap : Nat) (rs : List Rw) (a1 : Option Addr) (m c1 : Nat) (ys : List Int) (hs : a.eval s = .slice a0 n cap) (hx : a.eval x = .slice (some ⟨w.heap.size, 0, none⟩) 1 1)
    (hown : OwnR w0 B a0 n cap rs) (hb : Below w0.heap.size w0 w) (hrow : Own w w0.heap.size a1 m c1 ys) (hl : n + 1 ≤ 2097152) (hB : B ≤ w0.heap.size)
    (h : ∀ a' cap' w', OwnR w' B a' (n + 1) cap' (rs ++ [⟨a1, c1, ys⟩]) → Below B w w' → (∀ {aa : Option Addr} {k c : Nat} {zs : List Int} {BB : Nat}, Own w BB aa k c zs → Own w' BB aa k c zs) → (w.alloc (.cells #[.slice a1 m c1] 22)).grownBy w' (Value.slice a0 n cap).ownBlock → ((Value.slice a' (n + 1) cap').ownBlock = (Value.slice a0 n cap).ownBlock ∨ (Value.slice a' (n + 1) cap').ownBlock = some (w.heap.size + 1)) → wpListIn F d Try.prog ops Q rest (a.put o.dst (.slice a' (n + 1) cap')) w') :
    wpListIn F d Try.prog ops Q (o :: rest) a (w.alloc (.cells #[.slice a1 m c1] 22)) := by
  obtain ⟨i0, hi, hz0, hz1, hz2⟩ := info_parts Try.infoInts
  have hlen := hown.len
  have hm : ys.length = m := hrow.len
  have hsz := hb.size
  have hownw := hown.below hb (Nat.le_refl _)
  refine wpListIn_append_own_at (P := Try.prog) _ hgd s x 42 ho B 22 i0 (.slice none 0 0) 1 24 Try.underlying42 hi hz0 hz1 hz2 rfl (by decide) _ n (rs.map Rw.v) hs (hownw.1.alloc _) ⟨w.heap.size, 0, none⟩ 1 1 [.slice a1 m c1] hx rfl (one_cellV w _ _) (by intro u hu; simp at hu; subst hu; rfl) (by unfold maxLen; omega) (by omega) (by simp; omega) ?_
  intro v' w' hown' hgrow _ hat
  have hbw : Below B w w' := ((Below.refl B w).alloc (by omega) _).grown hgrow (by simp; omega) (fun k hk => (hownw.1.lt k hk).1)
  obtain ⟨a', cap', rfl⟩ := slice_of_row hown'
  -- rows lie in blocks that the append has not written: they hold integers, the slice's own block slices
  have hkeep : ∀ {aa : Option Addr} {k c : Nat} {zs : List Int} {BB : Nat}, Own w BB aa k c zs → Own w' BB aa k c zs := by
    intro aa k c zs BB hz
    refine ⟨(hz.1.alloc _).kept hgrow ?_, hz.2⟩
    cases aa with
    | none => left; rfl
    | some p =>
      right
      rcases hz.1.2 with ⟨hv, _⟩ | ⟨g1, cap1, cur1, hv1, _, hh1, _⟩
      · simp at hv
      · simp at hv1
        rcases hownw.1.2 with ⟨hv2, _⟩ | ⟨g2, cap2, cur2, hv2, _, hh2, _⟩
        · simp at hv2
          rw [hv2.1]
          simp [Value.ownBlock]
        · simp at hv2
          rw [hv2.1, hv1.1]
          simp only [Value.ownBlock]
          intro e
          simp at e
          rw [e, hh2] at hh1
          simp at hh1
  have hfin : OwnR w' B a' (n + 1) cap' (rs ++ [⟨a1, c1, ys⟩]) := by
    have hge := hrow.ge
    refine ⟨by simpa [Rw.v, hm] using hown', by simp [hlen], hl, fun i hi => ?_, fun i j p q hij hj hp hq => ?_⟩
    · by_cases e : i < n
      · rw [nthR_append_left (by omega)]
        exact hkeep (hownw.2.2.2.1 i e)
      · obtain rfl : i = n := by omega
        rw [nthR_append_right (by omega), hlen, Nat.sub_self, nthR_one]
        have := (hkeep hrow).mono hB
        rw [← hm] at this
        exact this
    · rw [nthR_append_left (by omega)] at hp
      by_cases e : j < n
      · rw [nthR_append_left (by omega)] at hq
        exact hown.2.2.2.2 i j p q hij e hp hq
      · obtain rfl : j = n := by omega
        rw [nthR_append_right (by omega), hlen, Nat.sub_self, nthR_one] at hq
        have h1 := hown.lt.2 i (by omega) p hp
        have h2 := hge q hq
        omega
  exact h _ _ _ hfin hbw hkeep hgrow (by simpa using hat)

/-- 'append(out, []int{x, y})', with what is kept. -/
theorem wpListIn_append_lit2k {F : Fence} {d : Nat} {ops : Array Oper} {rest : List Oper} {o : Oper} {a : Act} {Q : Exit → Act → World → Prop} (w : World) (hgd : o.guard = none) (s x : Operand)
    (ho : o.op = .call { callee := .builtin .append, args := #[s, x], argTypes := #[42, 42] })
    (B : Nat) (a0 : Option Addr) (n cap : Nat) (rs : List Rw) (x1 y1 : Int) (hs : a.eval s = .slice a0 n cap) (hx : a.eval x = .slice (some ⟨w.heap.size + 1, 0, none⟩) 1 1)
    (hown : OwnR w B a0 n cap rs) (hl : n + 1 ≤ 2097152) (hB : B ≤ w.heap.size)
    (h : ∀ a' cap' w' rs', numsOf rs' = numsOf rs ++ [[x1, y1]] → OwnR w' B a' (n + 1) cap' rs' → Below B w w' → (∀ {aa : Option Addr} {k c : Nat} {zs : List Int} {BB : Nat}, Own w BB aa k c zs → Own w' BB aa k c zs) → ((w.alloc (.cells #[.int .i64 x1, .int .i64 y1] 3)).alloc (.cells #[.slice (some ⟨w.heap.size, 0, none⟩) 2 2] 22)).grownBy w' (Value.slice a0 n cap).ownBlock → ((Value.slice a' (n + 1) cap').ownBlock = (Value.slice a0 n cap).ownBlock ∨ (Value.slice a' (n + 1) cap').ownBlock = some (w.heap.size + 2)) → wpListIn F d Try.prog ops Q rest (a.put o.dst (.slice a' (n + 1) cap')) w') :
    wpListIn F d Try.prog ops Q (o :: rest) a ((w.alloc (.cells #[.int .i64 x1, .int .i64 y1] 3)).alloc (.cells #[.slice (some ⟨w.heap.size, 0, none⟩) 2 2] 22)) := by
  have hsz : (w.alloc (.cells #[.int .i64 x1, .int .i64 y1] 3)).heap.size = w.heap.size + 1 := by simp
  refine wpListIn_append_row_k w (w.alloc (.cells #[.int .i64 x1, .int .i64 y1] 3)) hgd s x ho B a0 n cap rs _ _ _ _ hs (by rw [hsz]; exact hx) hown ((Below.refl _ _).alloc (Nat.le_refl _) _) (own_lit2 _ _ _ _ (Nat.le_refl _)) hl hB ?_
  intro a' cap' w' hown' hb' hk hg hat
  exact h _ _ _ _ (by simp [numsOf]) hown' (((Below.refl _ _).alloc hB _).trans hb') (fun hz => hk (hz.below ((Below.refl w.heap.size w).alloc (Nat.le_refl _) _) (Nat.le_refl _))) hg (by rw [hsz] at hat; exact hat)
/-- What a write elsewhere keeps. -/
theorem ownsRow_keptBy {w w' : World} {B n cap k : Nat} {e : TypeId} {a : Option Addr} {us : List Value} {row : Option Nat} (h : w.ownsRow B e 1 (.slice a n cap) k us) (hg : w.grownBy w' row)
    (hne : ∀ r, row = some r → r < B ∨ ∃ o : Obj, w.heap[r]? = some o ∧ o.isCells = false) : w'.ownsRow B e 1 (.slice a n cap) k us := by
  refine h.kept hg ?_
  cases a with
  | none => left; rfl
  | some p =>
    right
    rcases h.2 with ⟨hv, _⟩ | ⟨g1, cap1, cur1, hv1, hB, hh1, _⟩
    · simp at hv
    · simp at hv1
      simp only [Value.ownBlock]
      intro e
      rcases hne _ e.symm with hlt | ⟨o, ho, hc⟩
      · rw [hv1.1] at hlt
        simp at hlt
        omega
      · rw [hv1.1] at ho
        simp at ho
        rw [hh1] at ho
        cases ho
        cases hc
theorem OwnR.keptBy {w w' : World} {B n cap : Nat} {a : Option Addr} {rs : List Rw} {row : Option Nat} (h : OwnR w B a n cap rs) (hg : w.grownBy w' row)
    (hne : ∀ r, row = some r → r < B ∨ ∃ o : Obj, w.heap[r]? = some o ∧ o.isCells = false) : OwnR w' B a n cap rs :=
  ⟨ownsRow_keptBy h.1 hg hne, h.2.1, h.2.2.1, fun i hi => ⟨ownsRow_keptBy (h.2.2.2.1 i hi).1 hg hne, (h.2.2.2.1 i hi).2⟩, h.2.2.2.2⟩
theorem OwnR.setBox {w : World} {B P n cap : Nat} {a : Option Addr} {rs : List Rw} (h : OwnR w B a n cap rs) (hP : P < B) (v : Value) : OwnR (w.setCell ⟨P, 0, none⟩ v) B a n cap rs :=
  h.keptBy (grownBy_setCell' w P v) (fun r e => .inl (by cases e; exact hP))

/-- What holds between two nodes. -/
structure Among (w wr : World) (P N : Nat) (xs : List Int) (k q1 c1 : Nat) (a1 : Option Addr) (rs : List Rw) (Ds : List Nat) : Prop where
  below : Below w.heap.size w wr
  lo : w.heap.size ≤ P ∧ P < N ∧ N < wr.heap.size
  box : wr.cell? ⟨P, 0, none⟩ = some (.slice a1 q1 c1) ∧ wr.frozen? ⟨P, 0, none⟩ = false
  node : wr.cell? ⟨N, 0, none⟩ = some (.int .i64 ((k : Int) + 1)) ∧ wr.frozen? ⟨N, 0, none⟩ = false
  rows : OwnR wr (P + 1) a1 q1 c1 rs
  nums : numsOf rs = hiTo xs k
  marks : Marks wr w.heap.size Ds
  far : ∀ p, a1 = some p → p.block < N

theorem far_next {X H n n' c c' : Nat} {a a' : Option Addr} (h : (Value.slice a' n' c').ownBlock = (Value.slice a n c).ownBlock ∨ (Value.slice a' n' c').ownBlock = some H) (hX : X ≠ H) (ha : ∀ p, a = some p → p.block ≠ X) : ∀ p, a' = some p → p.block ≠ X := by
  intro p hp e
  subst hp
  cases a with
  | none =>
    simp [Value.ownBlock] at h
    omega
  | some q =>
    simp [Value.ownBlock] at h
    rcases h with h | h
    · exact ha q rfl (by omega)
    · omega
theorem row_far {X n c : Nat} {a : Option Addr} (ha : ∀ p, a = some p → p.block ≠ X) : some X ≠ (Value.slice a n c).ownBlock := by
  cases a with
  | none => simp [Value.ownBlock]
  | some q =>
    have := ha q rfl
    simp [Value.ownBlock]
    omega
theorem row_cells {W : World} {B n cap : Nat} {a : Option Addr} {rs : List Rw} (h : OwnR W B a n cap rs) : ∀ (j : Nat) (o : Obj), (Value.slice a n cap).ownBlock = some j → W.heap[j]? = some o → o.isCells = true := by
  intro j o hj ho
  rcases h.1.2 with ⟨hv, _⟩ | ⟨g1, cap1, cur1, hv1, _, hh1, _⟩
  · simp at hv
    rw [hv.1] at hj
    simp [Value.ownBlock] at hj
  · simp at hv1
    rw [hv1.1] at hj
    simp [Value.ownBlock] at hj
    subst hj
    rw [hh1] at ho
    cases ho
    rfl

/-- What holds on the way up from a node. -/
structure Amid (w W : World) (P N S : Nat) (a : Option Addr) (n cap : Nat) (xs : List Int) (k q : Nat) (Ds : List Nat) : Prop where
  c0 : W.cell? ⟨S, 0, none⟩ = some (.slice a n cap)
  c1 : W.cell? ⟨S + 1, 0, none⟩ = some (.int .i64 ((k : Int) + 1))
  rows : ∃ q2 c2 a2 ss, (W.cell? ⟨P, 0, none⟩ = some (.slice a2 q2 c2) ∧ W.frozen? ⟨P, 0, none⟩ = false) ∧ OwnR W (P + 1) a2 q2 c2 ss ∧ numsOf ss = hiTo xs k ++ hiRow xs (k + 1) q ∧ (∀ p, a2 = some p → p.block ≠ N) ∧ (∀ p, a2 = some p → p.block ≠ S) ∧ (∀ p, a2 = some p → p.block ≠ S + 1)
  marks : ∀ D ∈ Ds, W.heap[D]? = some (.deferred (some []))
  node : W.cell? ⟨N, 0, none⟩ = some (.int .i64 ((k : Int) + 1)) ∧ W.frozen? ⟨N, 0, none⟩ = false
  size : S + 2 ≤ W.heap.size
  deep : q ≤ dep xs ((k : Int) + 1)
theorem Amid.add {w W w5 : World} {P N S n cap k q q2 c2 c5 : Nat} {a a2 a5 : Option Addr} {xs : List Int} {Ds : List Nat} {ss ss5 : List Rw} {row : Option Nat} (h : Amid w W P N S a n cap xs k q Ds) (hPN : P < N) (hNS : N < S) (hr : row = (Value.slice a2 q2 c2).ownBlock) (hg : W.grownBy w5 row)
    (hrows : OwnR W (P + 1) a2 q2 c2 ss) (f1 : ∀ p, a2 = some p → p.block ≠ N) (f2 : ∀ p, a2 = some p → p.block ≠ S) (f3 : ∀ p, a2 = some p → p.block ≠ S + 1) (ho5 : OwnR w5 (P + 1) a5 (q2 + 1) c5 ss5) (hn5 : numsOf ss5 = hiTo xs k ++ hiRow xs (k + 1) (q + 1))
    (hat : (Value.slice a5 (q2 + 1) c5).ownBlock = (Value.slice a2 q2 c2).ownBlock ∨ (Value.slice a5 (q2 + 1) c5).ownBlock = some (W.heap.size + 2)) (hP : w5.cell? ⟨P, 0, none⟩ = some (.slice a2 q2 c2) ∧ w5.frozen? ⟨P, 0, none⟩ = false) (hd : q + 1 ≤ dep xs ((k : Int) + 1)) :
    Amid w (w5.setCell ⟨P, 0, none⟩ (.slice a5 (q2 + 1) c5)) P N S a n cap xs k (q + 1) Ds ∧ KeepsOthers W (w5.setCell ⟨P, 0, none⟩ (.slice a5 (q2 + 1) c5)) := by
  subst hr
  have hs := h.size
  have hsg := hg.size
  have hko : KeepsOthers W w5 := KeepsOthers.of_grownBy hg (row_cells hrows)
  refine ⟨⟨?_, ?_, ⟨q2 + 1, c5, a5, ss5, ⟨?_, ?_⟩, ho5.setBox (Nat.lt_succ_self _) _, hn5, far_next hat (by omega) f1, far_next hat (by omega) f2, far_next hat (by omega) f3⟩, fun D hD => ?_, ⟨?_, ?_⟩, by simp; omega, hd⟩, hko.trans (KeepsOthers.setCell _ _ _)⟩
  · rw [cell_other (by omega)]
    exact hg.cell h.c0 (row_far f2)
  · rw [cell_other (by omega)]
    exact hg.cell h.c1 (row_far f3)
  · exact World.cell?_setCell_same' _ _ _ (by rw [hP.1]; rfl)
  · rw [World.frozen?_setCell]
    exact hP.2
  · exact (KeepsOthers.setCell _ _ _).same D _ (hko.same D _ (h.marks D hD) rfl) rfl
  · rw [cell_other (by omega)]
    exact hg.cell h.node.1 (row_far f1)
  · rw [World.frozen?_setCell, hg.frozen_far _ (by simp; omega) (row_far f1)]
    exact h.node.2
/-- The number that lies where a pointer points. -/
def atPtr (wr : World) : Value → Nat
  | .pointer (some p) => match wr.cell? p with
    | some (.int _ i) => i.toNat
    | _ => 0
  | _ => 0
theorem atPtr_is {wr : World} {p : Addr} {i : Int} (h : wr.cell? p = some (.int .i64 i)) : atPtr wr (.pointer (some p)) = i.toNat := by simp [atPtr, h]
theorem ownsRow_blocks {w w' : World} {B n cap k : Nat} {e : TypeId} {a : Option Addr} {us : List Value} (h : w.ownsRow B e 1 (.slice a n cap) k us) (hb : Blocks w w') : w'.ownsRow B e 1 (.slice a n cap) k us := by
  refine ⟨h.1, ?_⟩
  rcases h.2 with h2 | ⟨g1, cap1, cur1, hv1, hB, hh1, r⟩
  · exact .inl h2
  · exact .inr ⟨g1, cap1, cur1, hv1, hB, hb _ _ _ hh1, r⟩
theorem OwnR.blocks {w w' : World} {B n cap : Nat} {a : Option Addr} {rs : List Rw} (h : OwnR w B a n cap rs) (hb : Blocks w w') : OwnR w' B a n cap rs :=
  ⟨ownsRow_blocks h.1 hb, h.2.1, h.2.2.1, fun i hi => ⟨ownsRow_blocks (h.2.2.2.1 i hi).1 hb, (h.2.2.2.1 i hi).2⟩, h.2.2.2.2⟩

theorem hi_fit {xs : List Int} {n : Nat} (ht : Tree xs n) (h8 : n ≤ 8) {r : List Int} (h : r ∈ hiTo xs n) : r.length = 2 ∧ 0 ≤ nth r 1 ∧ nth r 1 ≤ 9 := by
  have h := (hiTo_inv ht).subset h
  simp only [invL, invTo, invRow, List.mem_flatMap, List.mem_map, List.mem_filter, List.mem_range] at h
  obtain ⟨i, hi, c, ⟨hc, _⟩, rfl⟩ := h
  have := ht.len
  refine ⟨rfl, ?_, ?_⟩
  · show (0 : Int) ≤ ((i + 1 + 1 + c : Nat) : Int)
    omega
  · show ((i + 1 + 1 + c : Nat) : Int) ≤ 9
    omega

set_option maxRecDepth 100000 in
set_option maxHeartbeats 2000000 in
theorem implPairs_any (a : Option Addr) (n cap : Nat) (xs : List Int) (w : World) (h : Has w a n cap xs) :
    Calls Try.prog 44 #[.slice a n cap] w (PostRows w (invOf xs)) := by
  have HL := hid h.len
  refine (callsIn_wide (n := 8)).1 ?_
  refine callsIn_of_wp_marks Try.func44 rfl trivial ?_ rfl
  simp only [Try.ntmps44, List.size_toArray, List.length_cons, List.length_nil, Nat.reduceAdd, Nat.reduceSub, Array.replicate_succ, Array.replicate_zero, List.push_toArray, List.append_toArray, List.nil_append, List.cons_append]
  by_cases hg : treeB xs = true
  · have HR : Hid (invOf xs = (invL xs, true)) := hid (by simp [invOf, hg])
    have ht := tree_of hg h.len
    have h8 := ht.le
    have HT := hid ht
    have HB := hid ht.nthB
    have HG := hid hg
    clear hg ht
    gi_wp2_with fail
    refine ⟨trivial, (callsIn_wide.2 (isTree_any _ _ _ _ _ h)).mono ?_⟩
    rintro e w1 ⟨rfl, hb1⟩
    rw [HG.out]
    have hs1 := hb1.size
    gi_wp2_with fail
    have hD : Among w ((w1.alloc (.cells #[.slice none 0 0] 42)).alloc (.cells #[.int .i64 1] 3)) w1.heap.size (w1.heap.size + 1) xs 0 0 0 none [] [] := by
      obtain ⟨s1, s2, sz⟩ := two_cells w1 (.slice none 0 0) (.int .i64 1) 42 3
      refine ⟨(hb1.alloc hs1 _).alloc (by simp; omega) _, ⟨hs1, by omega, by omega⟩, ⟨s1, ?_⟩, ⟨s2, ?_⟩, OwnR.nil _ _, rfl, Marks.nil _ _, by simp⟩
      · rw [World.frozen?_alloc_past _ _ _ (by simp), World.frozen?_alloc_at _ _ _ _ rfl]
      · rw [World.frozen?_alloc_at _ _ _ _ (by simp)]
    have hP : ∃ P N : Nat, P = w1.heap.size ∧ N = w1.heap.size + 1 := ⟨_, _, rfl, rfl⟩
    obtain ⟨P, N, eP, eN⟩ := hP
    rw [← eN, ← eP] at hD
    rw [← eN, ← eP]
    generalize ((w1.alloc (.cells #[.slice none 0 0] 42)).alloc (.cells #[.int .i64 1] 3)) = W0 at *
    clear hb1 hs1 eP eN
    refine wpIn_loop (fun a' wr => ∃ (k N q1 c1 : Nat) (a1 : Option Addr) (rs : List Rw) (Ds : List Nat) (u1 u2 u3 u6 u7 u8 u9 u10 u11 u12 u13 u14 u15 u16 u17 u18 u19 u20 u21 u22 u23 u24 u25 u26 u27 u28 u29 u30 u31 u32 : Value), k ≤ n ∧ a' = { tmps := #[.slice a n cap, u1, u2, u3, .pointer (some ⟨P, 0, none⟩), .pointer (some ⟨N, 0, none⟩), u6, u7, u8, u9, u10, u11, u12, u13, u14, u15, u16, u17, u18, u19, u20, u21, u22, u23, u24, u25, u26, u27, u28, u29, u30, u31, u32], defers := Ds.map mark } ∧ Among w wr P N xs k q1 c1 a1 rs Ds)
      (fun a' wr => n + 1 - atPtr wr (a'.tmps.getD 5 undef)) ?_ ?_
    · exact ⟨0, N, 0, 0, none, [], [], _, _, _, _, _, _, _, _, _, _, _, _, _, _, _, _, _, _, _, _, _, _, _, _, _, _, _, _, _, _, Nat.zero_le _, rfl, hD⟩
    · clear hD
      rintro _ wr ⟨k, N, q1, c1, a1, rs, Ds, u1, u2, u3, u6, u7, u8, u9, u10, u11, u12, u13, u14, u15, u16, u17, u18, u19, u20, u21, u22, u23, u24, u25, u26, u27, u28, u29, u30, u31, u32, hk, rfl, hD⟩
      obtain ⟨l1, l2, l3⟩ := hD.lo
      obtain ⟨b1, b2⟩ := hD.box
      obtain ⟨n1, n2⟩ := hD.node
      have hAt := hid (atPtr_is n1)
      by_cases hlt : k < n
      · have hh : Has wr a n cap xs := h.below hD.below (Nat.le_refl _)
        gi_wp2_with (refine ⟨trivial, ?_⟩; gi_at_call 120; refine (callsIn_wide.2 (above_any _ _ _ _ _)).mono ?_; rintro e w' ⟨rfl, rfl⟩)
        have hbl : Below wr.heap.size wr ((wr.alloc (.cells #[.slice a n cap] 22)).alloc (.cells #[.int .i64 ((k : Int) + 1)] 3)) := ((Below.refl wr.heap.size wr).alloc (Nat.le_refl _) _).alloc (by simp) _
        obtain ⟨s1, s2, sz⟩ := two_cells wr (.slice a n cap) (.int .i64 ((k : Int) + 1)) 22 3
        generalize ((wr.alloc (.cells #[.slice a n cap] 22)).alloc (.cells #[.int .i64 ((k : Int) + 1)] 3)) = W1 at *
        have hbw := hD.below.size
        have hmW := hD.marks.below hbl (Nat.le_refl _)
        obtain ⟨dp1, dp2, dp3⟩ := HT.out.dep (v := (k : Int) + 1) (by omega) (by omega)
        have D1 := hid dp1
        have D2 := hid dp2
        clear dp1 dp2
        have hqr : ∀ q, q ≤ dep xs ((k : Int) + 1) → ∀ q2 ss W c2 a2, OwnR W (P + 1) a2 q2 c2 ss → numsOf ss = hiTo xs k ++ hiRow xs (k + 1) q → q2 ≤ 200 := fun q hq q2 ss W c2 a2 ho hn => by
          have e1 := congrArg List.length hn
          have e2 := length_hiTo HT.out h8 k (by omega)
          have e3 := length_hiRow xs (k + 1) q
          have e4 := ho.len
          simp [numsOf] at e1
          omega
        have HQR := hid hqr
        clear hqr
        have eq0 : ((k + 1 : Nat) : Int) = (k : Int) + 1 := by omega
        have EQ := hid eq0
        clear eq0
        refine wpIn_above 8 (wr.heap.size + 1) wr.heap.size a n cap xs (k + 1) n rfl HB.out (by omega) h8
          (fun q W => Below w.heap.size w W ∧ Amid w W P N wr.heap.size a n cap xs k q Ds)
          (fun _ _ => False)
          (fun q W hi => ⟨by have := hi.2.deep; omega, ⟨hi.2.c1, hi.2.c0, h.below hi.1 (Nat.le_refl _)⟩⟩) ?_ (fun _ _ _ _ hs _ _ => hs) ?_ (fun x => { tmps := #[.slice a n cap, u1, u2, u3, .pointer (some ⟨P, 0, none⟩), .pointer (some ⟨N, 0, none⟩), .int .i64 x, u7, u8, u9, .int .i64 ((k : Int) + 1), .slice a n cap, .int .i64 (n : Int), .bool true, u14, u15, .slice a n cap, .int .i64 ((k : Int) + 1), UpFn (wr.heap.size + 1) wr.heap.size, .int .i64 x, u20, u21, u22, u23, u24, u25, u26, u27, u28, u29, u30, u31, u32], defers := [] }) ?_ ?_ ?_ ?_
        · refine OwnFrom.and (ownFrom_below (Nat.le_refl _) (by omega)) (fun s A B' row hs hg hr => ?_)
          obtain ⟨e1, e2, ⟨q2, c2, a2, ss, ⟨e3, e3'⟩, e4, e5, e5a, e5b, e5c⟩, e6, ⟨e7, e7'⟩, e8, e9⟩ := hs
          have hr2 : ∀ r, row = some r → ∃ o : Obj, A.heap[r]? = some o ∧ o.isCells = false := fun r e => (hr r e).2
          refine ⟨cell_kept e1 hg hr2, cell_kept e2 hg hr2, ⟨q2, c2, a2, ss, ⟨cell_kept e3 hg hr2, (frozen_kept e3 hg hr2).trans e3'⟩, e4.keptBy hg (fun r e => .inr (hr2 r e)), e5, e5a, e5b, e5c⟩, fun D hD' => ?_, ⟨cell_kept e7 hg hr2, (frozen_kept e7 hg hr2).trans e7'⟩, Nat.le_trans e8 hg.size, e9⟩
          have hlt' := hD.marks.lt hD'
          rw [hg.block D ((Array.getElem?_eq_some_iff.1 (e6 D hD')).1) (fun e => by have := (hr D e.symm).1; omega)]
          exact e6 D hD'
        · refine ⟨hD.below.trans (hbl.mono hbw), ⟨s1, s2, ⟨q1, c1, a1, rs, ⟨by rw [hbl.cell (p := ⟨P, 0, none⟩) (by simp; omega)]; exact b1, by rw [hbl.frozen (p := ⟨P, 0, none⟩) (by simp; omega)]; exact b2⟩, hD.rows.below hbl (Nat.le_refl _), by rw [hD.nums, hiRow_zero, List.append_nil], fun p hp => ?_, fun p hp => ?_, fun p hp => ?_⟩, hmW.isOpen, ⟨by rw [hbl.cell (p := ⟨N, 0, none⟩) (by simp; omega)]; exact n1, by rw [hbl.frozen (p := ⟨N, 0, none⟩) (by simp; omega)]; exact n2⟩, Nat.le_of_eq sz.symm, Nat.zero_le _⟩⟩
          · have := hD.far p hp
            omega
          · have := hD.far p hp
            omega
          · have := hD.far p hp
            omega
        · intro l x W K hK
          gi_wp2
          exact hK
        · rintro l q W ⟨hB, hA⟩ hne
          obtain ⟨d1, d2, ⟨q2, c2, a2, ss, ⟨d3, d3'⟩, d4, d5, d5a, d5b, d5c⟩, d6, ⟨d7, d7'⟩, d8, d9⟩ := id hA
          have hqd : q < dep xs ((k : Int) + 1) := Classical.byContradiction fun hq => hne (by
            have := up_zero D1.out q (by omega)
            rw [EQ.out]
            exact this)
          have hq2 := HQR.out q (by omega) _ _ _ _ _ d4 d5
          rw [EQ.out]
          obtain ⟨u, hu, hun⟩ := up_nat (v := k + 1) HB.out (by omega) (q + 1)
          rw [EQ.out] at hu
          rw [hu]
          by_cases hgt : (k : Int) + 1 < (u : Int)
          · have HS : Hid (hiRow xs (k + 1) (q + 1) = hiRow xs (k + 1) q ++ [[(k : Int) + 1, (u : Int)]]) := hid (by rw [hiRow_yes (by rw [EQ.out, hu]; exact hgt), EQ.out, hu])
            clear hu
            have HDD := hid d9
            gi_wp2_with (gi_at_builtin; refine wpListIn_append_lit2k _ rfl _ _ rfl (P + 1) _ _ _ _ _ _ rfl rfl d4 (by omega) (by omega) ?_; intro a5 c5 w5 ss5 hn5 hown5 hb5 _ hg5 hat5; have P5 : w5.cell? ⟨P, 0, none⟩ = some (.slice a2 q2 c2) := (by rw [hb5.cell (p := ⟨P, 0, none⟩) (by simp)]; exact d3); have P6 : w5.frozen? ⟨P, 0, none⟩ = false := (by rw [hb5.frozen (p := ⟨P, 0, none⟩) (by simp)]; exact d3'))
            obtain ⟨r1, r2⟩ := hA.add (by omega) (by omega) rfl (((World.grownBy_alloc W _ _).trans (World.grownBy_alloc _ _ _)).trans hg5) d4 d5a d5b d5c hown5 (by rw [hn5, d5, HS.out, List.append_assoc]) hat5 ⟨P5, P6⟩ (by omega)
            exact ⟨r2.from _, (hB.trans (hb5.mono (by omega))).setCell (p := ⟨P, 0, none⟩) (by simp; omega) _, r1⟩
          · have HS : Hid (hiRow xs (k + 1) (q + 1) = hiRow xs (k + 1) q) := hid (hiRow_no (by rw [EQ.out, hu]; exact hgt))
            clear hu
            gi_wp2_with fail
            exact ⟨KeepsFrom.refl _ _, hB, d1, d2, ⟨q2, c2, a2, ss, ⟨d3, d3'⟩, d4, by rw [HS.out]; exact d5, d5a, d5b, d5c⟩, d6, ⟨d7, d7'⟩, d8, by omega⟩
        · rintro D q W hDl hz hne ⟨hB, d1, d2, ⟨q2, c2, a2, ss, ⟨d3, d3'⟩, d4, d5, d5a, d5b, d5c⟩, d6, ⟨d7, d7'⟩, d8, d9⟩ hK
          have hdq : dep xs ((k : Int) + 1) = q := by
            rw [EQ.out] at hz hne
            exact dep_is hz hne (by rw [HL.out]; omega)
          have hm := (Marks.mk hD.marks.nodup hD.marks.ge d6).cons (L := W1.heap.size) (D := D) (fun E hE => by have := hD.marks.lt hE; omega) hDl (by omega) hK
          have HS : Hid (numsOf ss = hiTo xs (k + 1)) := hid (by rw [d5, hiTo_succ, hdq])
          gi_wp2
          have hbW : Below W.heap.size W (W.alloc (.cells #[.int .i64 ((k : Int) + 1 + 1)] 3)) := (Below.refl _ _).alloc (Nat.le_refl _) _
          have hAm : Among w (W.alloc (.cells #[.int .i64 ((k : Int) + 1 + 1)] 3)) P W.heap.size xs (k + 1) q2 c2 a2 ss (D :: Ds) := by
            refine ⟨hB.trans (hbW.mono (by omega)), ⟨l1, by omega, by simp⟩, ⟨by rw [hbW.cell (p := ⟨P, 0, none⟩) (by simp; omega)]; exact d3, by rw [hbW.frozen (p := ⟨P, 0, none⟩) (by simp; omega)]; exact d3'⟩, ⟨?_, ?_⟩, d4.below hbW (Nat.le_refl _), HS.out, hm.below hbW (Nat.le_refl _), fun p hp => ?_⟩
            · rw [World.cell?_alloc_at _ _ _ _ rfl]
              simp
            · rw [World.frozen?_alloc_at _ _ _ _ rfl]
            · exact (d4.1.lt p.block (by rw [hp]; rfl)).2
          refine ⟨⟨k + 1, W.heap.size, q2, c2, a2, ss, D :: Ds, _, _, _, _, _, _, _, _, _, _, _, _, _, _, _, _, _, _, _, _, _, _, _, _, _, _, _, _, _, _, by omega, rfl, hAm⟩, ?_⟩
          have hm1 := atPtr_is hAm.node.1
          have hm2 := hAt.out
          show n + 1 - atPtr _ (.pointer (some ⟨W.heap.size, 0, none⟩)) < n + 1 - atPtr wr (.pointer (some ⟨N, 0, none⟩))
          rw [hm1, hm2]
          omega
        · rintro D q W hDl hF hK
          exact hF.elim
      · obtain rfl : k = n := by omega
        have HF := hid (length_hiTo HT.out h8 k (Nat.le_refl _))
        have hfit : ∀ r ∈ rs, r.xs.length = 2 ∧ 0 ≤ nth r.xs 1 ∧ nth r.xs 1 ≤ 9 := fun r hr => by
          have hm : r.xs ∈ hiTo xs k := by rw [← hD.nums]; exact List.mem_map.2 ⟨r, hr, rfl⟩
          exact hi_fit HT.out h8 hm
        have HFIT := hid hfit
        clear hfit
        gi_wp2_with fail
        refine ⟨trivial, (callsIn_wide.2 (sortOwn_any (P + 1) _ _ _ _ _ hD.rows HFIT.out)).mono ?_⟩
        rintro e w5 ⟨rfl, ⟨ss, s1, s2, s3⟩, hg5⟩
        have hb5 : Below (P + 1) wr w5 := (Below.refl _ _).grown hg5 (by omega) (fun j hj => (hD.rows.1.lt j hj).1)
        have P5 : w5.cell? ⟨P, 0, none⟩ = some (.slice a1 q1 c1) := by rw [hb5.cell (p := ⟨P, 0, none⟩) (by simp)]; exact b1
        have hko : KeepsOthers wr w5 := KeepsOthers.of_grownBy hg5 (row_cells hD.rows)
        have hm5 : Marks w5 w.heap.size Ds := ⟨hD.marks.nodup, hD.marks.ge, fun D hD' => hko.same D _ (hD.marks.isOpen D hD') rfl⟩
        have hnum : numsOf ss = invL xs := sorted_inv HT.out h8 (rs := numsOf rs) hD.nums (fun s hs => by
          obtain ⟨r, hr, rfl⟩ := List.mem_map.1 hs
          exact List.mem_map.2 ⟨r, s1.subset hr, rfl⟩) (by unfold numsOf; rw [List.map_map, List.map_map]; exact s2)
        gi_wp2_with fail
        have hbw := hD.below.size
        have hbF : Below w.heap.size w w5 := hD.below.trans (hb5.mono (by omega))
        refine leaves_marks Ds _ hm5 (Nat.le_trans hbw hb5.size) fun w' hc hbk hb => ⟨.tuple #[.slice a1 q1 c1, .bool true], ?_, postRows HR.out ((s3.blocks hbk).mono (by omega)) hnum (hbF.trans hb)⟩
        simp [results, Try.results44, go_sem]
  · have HR : Hid (invOf xs = ([], false)) := hid (by simp [invOf, hg])
    have HG := hid (Bool.eq_false_iff.2 hg)
    clear hg
    gi_wp2_with (refine ⟨trivial, ?_⟩; gi_at_call 119; refine (callsIn_wide.2 (isTree_any _ _ _ _ _ h)).mono ?_; rintro e w1 ⟨rfl, hb1⟩; rw [HG.out])
    refine ⟨.tuple #[.slice none 0 0, .bool false], ?_, postRows_no HR.out hb1⟩
    simp [results, Try.results44, go_sem]

theorem implInvs_any (a : Option Addr) (n cap : Nat) (xs : List Int) (w : World) (h : Has w a n cap xs) :
    Calls Try.prog 46 #[.slice a n cap] w (PostInt w (invCnt xs)) := by
  have hR : ∀ q : Nat, q = (invOf xs).1.length → invCnt xs = ((q : Int), (invOf xs).2) := fun q hq => by
    subst hq
    unfold invCnt invOf
    by_cases hg : treeB xs = true
    · rw [if_pos hg, if_pos hg]
    · rw [if_neg hg, if_neg hg]
      rfl
  have HR := hid hR
  clear hR
  go_enter Try.func46, Try.ntmps46
  go_wp2_with fail
  refine (implPairs_any _ _ _ _ _ h).mono ?_
  rintro e w1 ⟨a1, q, c1, rs, rfl, hown, hn, hb⟩
  have HQ := hid (HR.out q (by rw [← hn, ← hown.len]; simp [numsOf]))
  go_wp2_with fail
  go_ret2
  exact postInt HQ.out hb
end Go.Proofs.Ytlfbmpgjhnpceab

namespace Go.Proofs.Ytlfbmpgjhnpceab
open Go.RowKit

/-- Numbers laid over the first ones. -/
def over0 (xs ys : List Int) : List Int := ys.take xs.length ++ xs.drop ys.length
theorem length_over0 (xs ys : List Int) : (over0 xs ys).length = xs.length := by simp [over0]; omega
theorem over0_all {xs ys : List Int} (h : ys.length = xs.length) : over0 xs ys = ys := by
  simp [over0, h, List.take_of_length_le (Nat.le_of_eq h)]
theorem over0_nth {xs ys : List Int} (h : ys.length ≤ xs.length) (i : Nat) : nth (over0 xs ys) i = if i < ys.length then nth ys i else nth xs i := by
  unfold over0
  rw [List.take_of_length_le h]
  split
  · rw [nth_append_left (by assumption)]
  · simp only [nth, List.getD_eq_getElem?_getD, List.getElem?_append, List.getElem?_drop]
    rw [if_neg (by assumption), show ys.length + (i - ys.length) = i by omega]

theorem wpList_copy_intsT (T S : TypeId) (hT : Try.prog.underlying T = some (.slice 3)) {ops : Array Oper} {rest : List Oper} {o : Oper} {a : Act} {Q : Exit → Act → World → Prop} (w : World) (hgd : o.guard = none) (d s : Operand)
    (ho : o.op = .call { callee := .builtin .copy, args := #[d, s], argTypes := #[T, S] })
    (B : Nat) (a0 a1 : Option Addr) (n m cap cap1 : Nat) (xs ys : List Int) (hd : a.eval d = .slice a0 n cap) (hs : a.eval s = .slice a1 m cap1)
    (hown : Own w B a0 n cap xs) (hhas : Has w a1 m cap1 ys) (hmn : m ≤ n)
    (h : ∀ w', Own w' B a0 n cap (over0 xs ys) → Below B w w' → wpList Try.prog ops Q rest (a.put o.dst (.int .i64 (m : Int))) w') :
    wpList Try.prog ops Q (o :: rest) a w := by
  have hlx := hown.len
  have hly := hhas.len
  obtain ⟨⟨h1, h2⟩, h3⟩ := hown
  obtain ⟨i0, hi, hz0, hz1, hz2⟩ := info_parts Try.infoInt
  have hsz : (Try.prog.info? 3).map (·.size) = some 1 := by rw [hi]; simp [hz1]
  rcases h2 with ⟨hv, hn⟩ | ⟨g, cap', cur, hv, hg, hh, hnc, hcm, hcs, htake⟩
  · simp at hv
    obtain ⟨rfl, _, rfl⟩ := hv
    obtain rfl : m = 0 := by omega
    refine wpList_copy_nothing hgd d s T S ho 3 hT hsz none a1 n 0 0 cap1 hd hs (by simp) ?_
    have hx : xs = [] := List.eq_nil_of_length_eq_zero (by omega)
    have hy : ys = [] := List.eq_nil_of_length_eq_zero (by omega)
    subst hx hy
    exact h w ⟨⟨h1, .inl ⟨by simp; omega, hn⟩⟩, h3⟩ (Below.refl _ _)
  · simp at hv
    obtain ⟨rfl, rfl⟩ := hv
    refine wpList_copy_splice hgd d s T S ho 3 hT hsz (some ⟨g, 0, none⟩) a1 n cap m cap1 hd hs g 0 cur.toList 3 (by simpa using hh) (ys.map (Value.int .i64)) (by rw [List.length_map, hly]; exact (Nat.min_eq_left hmn).symm) (fun hp => ⟨rfl, ?_⟩) (by simp; omega) (by intro v hv; obtain ⟨y, _, rfl⟩ := List.mem_map.1 hv; rfl) B w (Below.refl _ _) hg ?_
    · obtain ⟨b, off, rfl, _, _⟩ := hhas.2.2.2.2 (by simp at hp; omega)
      exact ⟨_, rfl, has_cells hhas⟩
    · intro w' hw' hb
      have e : (a.put o.dst (goInt (ys.map (Value.int .i64)).length)) = a.put o.dst (.int .i64 (m : Int)) := by simp [goInt, hly]
      rw [e]
      refine h w' ⟨⟨by rw [List.length_map, length_over0]; simpa using h1, .inr ⟨g, cap, _, rfl, hg, hw'.out, hnc, hcm, ?_, ?_⟩⟩, by rw [length_over0]; exact h3.1, h3.2⟩ hb
      · simp only [splice, Nat.zero_add, List.length_map]
        simp
        omega
      · have ht : cur.toList.take n = xs.map (Value.int .i64) := by simpa using htake
        simp only [splice, List.take_zero, List.nil_append, Nat.zero_add, List.length_map, Nat.mul_one, over0, List.map_append, List.map_take, List.map_drop]
        rw [List.take_append, List.take_of_length_le (by simp; omega), List.length_map, ← ht, List.take_of_length_le (l := ys.map (Value.int .i64)) (by simp; omega), List.drop_take]
theorem wpList_copy_ints {ops : Array Oper} {rest : List Oper} {o : Oper} {a : Act} {Q : Exit → Act → World → Prop} (w : World) (hgd : o.guard = none) (d s : Operand)
    (ho : o.op = .call { callee := .builtin .copy, args := #[d, s], argTypes := #[22, 22] })
    (B : Nat) (a0 a1 : Option Addr) (n m cap cap1 : Nat) (xs ys : List Int) (hd : a.eval d = .slice a0 n cap) (hs : a.eval s = .slice a1 m cap1)
    (hown : Own w B a0 n cap xs) (hhas : Has w a1 m cap1 ys) (hmn : m ≤ n)
    (h : ∀ w', Own w' B a0 n cap (over0 xs ys) → Below B w w' → wpList Try.prog ops Q rest (a.put o.dst (.int .i64 (m : Int))) w') :
    wpList Try.prog ops Q (o :: rest) a w := wpList_copy_intsT 22 22 Try.underlying22 w hgd d s ho B a0 a1 n m cap cap1 xs ys hd hs hown hhas hmn h

/-- 'make(T, n)' of integers. -/
theorem wpList_make_intsT (T : TypeId) (hT : Try.prog.underlying T = some (.slice 3)) {ops : Array Oper} {rest : List Oper} {o : Oper} {a : Act} {Q : Exit → Act → World → Prop} (w : World) (hgd : o.guard = none) (l c : Operand) (ho : o.op = Op.makeSlice T l c)
    (n : Nat) (hl : a.eval l = .int .i64 (n : Int)) (hc : a.eval c = .int .i64 (n : Int)) (hn : n ≤ 2097152)
    (h : ∀ a' cap' w', Own w' w.heap.size a' n cap' (List.replicate n 0) → Below w.heap.size w w' → wpList Try.prog ops Q rest (a.put o.dst (.slice a' n cap')) w') :
    wpList Try.prog ops Q (o :: rest) a w := by
  obtain ⟨i0, hi, hz0, hz1, hz2⟩ := info_parts Try.infoInt
  refine wpList_make_full (P := Try.prog) w hgd l c T ho w.heap.size 3 i0 (.int .i64 0) 1 hT hi hz0 hz1 .i64 .i64 n n n hl hc rfl rfl (by rw [hz2]; omega) (by unfold maxLen; omega) (Nat.le_refl _) ?_
  intro w' hown hgrow
  obtain ⟨a', cap', hv, ho'⟩ := own_of_row (xs := List.replicate n 0) hown (by simp) (by rw [show (Value.int IntKind.i64 0).cells = #[.int .i64 0] from rfl, toList_madeCells_one]; simp) (by simpa using hn)
  rw [hv]
  exact h _ _ _ ho' (below_grown hgrow (Nat.le_refl _) (by simp))
end Go.Proofs.Ytlfbmpgjhnpceab

namespace Go.Proofs.Ytlfbmpgjhnpceab
open Go.RowKit

theorem mul64_0 (w : World) : Calls Try.prog 203 #[.int .u64 1, .int .u64 0] w fun e w' => e = .returned (.tuple #[.int .u64 0, .int .u64 0]) ∧ w = w' := by
  go_enter Try.func203, Try.ntmps203
  go_wp2
  go_ret2
  exact ⟨rfl, rfl⟩
theorem mul64_1 (w : World) : Calls Try.prog 203 #[.int .u64 1, .int .u64 1] w fun e w' => e = .returned (.tuple #[.int .u64 0, .int .u64 1]) ∧ w = w' := by
  go_enter Try.func203, Try.ntmps203
  go_wp2
  go_ret2
  exact ⟨rfl, rfl⟩
theorem mul64_2 (w : World) : Calls Try.prog 203 #[.int .u64 1, .int .u64 2] w fun e w' => e = .returned (.tuple #[.int .u64 0, .int .u64 2]) ∧ w = w' := by
  go_enter Try.func203, Try.ntmps203
  go_wp2
  go_ret2
  exact ⟨rfl, rfl⟩
theorem mul64_3 (w : World) : Calls Try.prog 203 #[.int .u64 1, .int .u64 3] w fun e w' => e = .returned (.tuple #[.int .u64 0, .int .u64 3]) ∧ w = w' := by
  go_enter Try.func203, Try.ntmps203
  go_wp2
  go_ret2
  exact ⟨rfl, rfl⟩
theorem mul64_4 (w : World) : Calls Try.prog 203 #[.int .u64 1, .int .u64 4] w fun e w' => e = .returned (.tuple #[.int .u64 0, .int .u64 4]) ∧ w = w' := by
  go_enter Try.func203, Try.ntmps203
  go_wp2
  go_ret2
  exact ⟨rfl, rfl⟩
theorem mul64_5 (w : World) : Calls Try.prog 203 #[.int .u64 1, .int .u64 5] w fun e w' => e = .returned (.tuple #[.int .u64 0, .int .u64 5]) ∧ w = w' := by
  go_enter Try.func203, Try.ntmps203
  go_wp2
  go_ret2
  exact ⟨rfl, rfl⟩
theorem mul64_any (k : Nat) (hk : k ≤ 5) (w : World) : Calls Try.prog 203 #[.int .u64 1, .int .u64 (k : Int)] w fun e w' => e = .returned (.tuple #[.int .u64 0, .int .u64 (k : Int)]) ∧ w = w' := by
  rcases (show k = 0 ∨ k = 1 ∨ k = 2 ∨ k = 3 ∨ k = 4 ∨ k = 5 by omega) with rfl | rfl | rfl | rfl | rfl | rfl
  · exact mul64_0 w
  · exact mul64_1 w
  · exact mul64_2 w
  · exact mul64_3 w
  · exact mul64_4 w
  · exact mul64_5 w
theorem mul_any (k : Nat) (hk : k ≤ 5) (w : World) : Calls Try.prog 177 #[.int .u64 1, .int .u64 (k : Int)] w fun e w' => e = .returned (.tuple #[.int .u64 0, .int .u64 (k : Int)]) ∧ w = w' := by
  go_enter Try.func177, Try.ntmps177
  go_wp2_with (go_at_call 203; refine (mul64_any k hk _).mono ?_; rintro e w' ⟨rfl, rfl⟩)
  go_ret2
  exact ⟨rfl, rfl⟩

/-- The first m numbers copied behind themselves. -/
def overAt (zs : List Int) (m c : Nat) : List Int := zs.take m ++ (zs.take c ++ zs.drop (m + c))
theorem length_overAt {zs : List Int} {m c : Nat} (h : m + c ≤ zs.length) : (overAt zs m c).length = zs.length := by simp [overAt]; omega
theorem overAt_rep {zs : List Int} {m c : Nat} {x : Int} (hc : c ≤ m) (hz : zs.take m = List.replicate m x) : (overAt zs m c).take (m + c) = List.replicate (m + c) x := by
  unfold overAt
  have h1 : zs.take c = List.replicate c x := by
    have := congrArg (List.take c) hz
    rw [List.take_take, Nat.min_eq_left hc] at this
    rw [this]
    simp [Nat.min_eq_left hc]
  rw [hz, h1, List.take_append, List.take_of_length_le (by simp), List.length_replicate, Nat.add_sub_cancel_left, List.take_append, List.take_of_length_le (by simp), List.length_replicate, Nat.sub_self, List.take_zero, List.append_nil, List.replicate_append_replicate]

theorem int_size : (Try.prog.info? 3).map (·.size) = some 1 := by
  obtain ⟨i0, hi, hz0, hz1, hz2⟩ := info_parts Try.infoInt
  rw [hi]; simp [hz1]

theorem take_three {α : Type} {A X Z : List α} {n m c : Nat} (hA : A.length = m) (hX : X.length = c) (h : m + c ≤ n) : (A ++ (X ++ Z)).take n = A ++ (X ++ Z.take (n - (m + c))) := by
  subst hA hX
  rw [← List.append_assoc, List.take_append, List.take_of_length_le (by simp; omega), List.append_assoc, List.length_append]

theorem step_copy_self {ops : Array Oper} {o : Oper} {a : Act} {w : World} {K : Act → World → Prop} {Q : Exit → Act → World → Prop} {E : Prop} (hgd : o.guard = none) (d s : Operand)
    (ho : o.op = .call { callee := .builtin .copy, args := #[d, s], argTypes := #[22, 22] })
    (B g n cap m c : Nat) (zs : List Int) (hd : a.eval d = .slice (some ⟨g, m, none⟩) (n - m) (cap - m)) (hs : a.eval s = .slice (some ⟨g, 0, none⟩) m cap)
    (hown : Own w B (some ⟨g, 0, none⟩) n cap zs) (hm : m ≤ n) (hc : c = Nat.min m (n - m))
    (h : ∀ w', Own w' B (some ⟨g, 0, none⟩) n cap (overAt zs m c) → Below B w w' → K (a.put o.dst (.int .i64 (c : Int))) w') :
    if Region.wanted o (yielded ops a.tmps) = true then Oper.wp Try.prog o a w K Q else E := by
  have hlx := hown.len
  have hcm : c ≤ m ∧ c ≤ n - m := by rw [hc]; exact ⟨Nat.min_le_left _ _, Nat.min_le_right _ _⟩
  have hcells := has_cells (hown.has)
  obtain ⟨⟨h1, h2⟩, h3⟩ := hown
  obtain ⟨i0, hi, hz0, hz1, hz2⟩ := info_parts Try.infoInt
  have hsz : (Try.prog.info? 3).map (·.size) = some 1 := by rw [hi]; simp [hz1]
  rcases h2 with ⟨hv, hn⟩ | ⟨g', cap', cur, hv, hg, hh, hnc, hcm', hcs, htake⟩
  · simp at hv
  · simp at hv
    obtain ⟨rfl, rfl⟩ := hv
    have htk : cur.toList.take n = zs.map (Value.int .i64) := by simpa using htake
    refine step_copy_splice hgd d s 22 22 ho 3 Try.underlying22 hsz (some ⟨g, m, none⟩) (some ⟨g, 0, none⟩) (n - m) (cap - m) m cap hd hs g m cur.toList 3 (by simpa using hh) ((zs.take c).map (Value.int .i64)) (by simp; omega) (fun hp => ⟨rfl, _, rfl, fun j v hj => ?_⟩) (by simp; omega) (by intro v hv; obtain ⟨y, _, rfl⟩ := List.mem_map.1 hv; rfl) B w (Below.refl _ _) hg ?_
    · refine hcells j v ?_
      rw [List.getElem?_map] at hj ⊢
      rw [List.getElem?_take] at hj
      split at hj
      · exact hj
      · simp at hj
    · intro w' hw' hb
      have hl : ((zs.take c).map (Value.int .i64)).length = c := by simp; omega
      have e : (a.put o.dst (goInt ((zs.take c).map (Value.int .i64)).length)) = a.put o.dst (.int .i64 (c : Int)) := by rw [hl]; simp [goInt]
      rw [e]
      refine h w' ⟨⟨by rw [List.length_map, length_overAt (by omega)]; simpa using h1, .inr ⟨g, cap, _, rfl, hg, hw'.out, hnc, hcm', ?_, ?_⟩⟩, by rw [length_overAt (by omega)]; exact h3.1, h3.2⟩ hb
      · simp only [splice, hl]
        simp
        omega
      · simp only [splice]
        rw [hl]
        simp only [Nat.mul_one, overAt, List.map_append, List.map_take, List.map_drop]
        rw [← htk]
        have e1 : (cur.toList.take n).take m = cur.toList.take m := by rw [List.take_take, Nat.min_eq_left hm]
        have hlen : n ≤ cur.toList.length := by
          have := congrArg List.length htk
          simp at this
          simp
          omega
        rw [e1, List.drop_take]
        exact take_three (by rw [List.length_take]; omega) (by rw [List.length_take, List.length_take]; omega) (by omega)

set_option maxRecDepth 100000 in
set_option maxHeartbeats 1000000 in
theorem repeat_any (a : Option Addr) (cap k : Nat) (x : Int) (w : World) (h : Has w a 1 cap [x]) (hk : k ≤ 5) :
    Calls Try.prog 147 #[.slice a 1 cap, .int .i64 (k : Int)] w fun e w' => ∃ a' cap', e = .returned (.slice a' k cap') ∧ Own w' w.heap.size a' k cap' (List.replicate k x) ∧ Below w.heap.size w w' := by
  by_cases hk0 : k = 0
  · subst hk0
    go_enter Try.func147, Try.ntmps147
    go_wp2_with (first | (go_at_call 177; refine (mul_any 0 hk _).mono ?_; rintro e w' ⟨rfl, rfl⟩) | (at_make; refine wpList_make_ints _ rfl _ _ rfl 0 rfl rfl (by omega) ?_; intro a1 cap1 w1 hown1 hb1) | (with_reducible refine wpList_copy_nothing rfl _ _ _ _ rfl 3 Try.underlying22 int_size _ _ _ _ _ _ rfl rfl (Nat.min_eq_right (Nat.zero_le _)) ?_))
    refine wp_loop_rounds 1 ?_
    rw [rounds_succ]
    go_wp2_with fail
    go_ret
    exact ⟨_, _, rfl, hown1, hb1⟩
  · have hk1 : 1 ≤ k := by omega
    clear hk0
    go_enter Try.func147, Try.ntmps147
    go_wp2_with (first | (go_at_call 177; refine (mul_any k hk _).mono ?_; rintro e w' ⟨rfl, rfl⟩) | (at_make; refine wpList_make_ints _ rfl _ _ rfl k rfl rfl (by omega) ?_; intro a1 cap1 w1 hown1 hb1) | (with_reducible refine wpList_copy_ints _ rfl _ _ rfl w.heap.size _ _ _ _ _ _ _ _ rfl rfl hown1 (h.below hb1 (Nat.le_refl _)) (by omega) ?_; intro w2 hown2 hb2))
    have hT : (over0 (List.replicate k 0) [x]).take 1 = List.replicate 1 x := by
      obtain ⟨j, rfl⟩ : ∃ j, k = j + 1 := ⟨k - 1, by omega⟩
      simp [over0]
    obtain ⟨g, rfl, hg1, hg2, -, -⟩ := hown1.opened (by omega)
    have HT := hid hT
    have hbw := hb1.trans hb2
    clear hT hown1 hb1 hb2 hg2
    go_wp2_with fail
    go_loopw [8] (fun i wr => ∃ (m : Nat) (zs : List Int), i = .int .i64 m ∧ 1 ≤ m ∧ m ≤ k ∧ Own wr w.heap.size (some ⟨g, 0, none⟩) k cap1 zs ∧ Hid (zs.take m = List.replicate m x) ∧ Below w.heap.size w wr) (fun i _ => k - (intOf i).toNat)
    case atStart => exact ⟨1, _, rfl, Nat.le_refl _, hk1, hown2, HT, hbw⟩
    case round =>
      clear HT hown2 hbw
      obtain ⟨m, zs, rfl, hm1, hm2, hown, HZ, hb⟩ := hrel
      by_cases hlt : m < k
      · have hcap := hown.has.2.1
        have hm3 : m ≤ cap1 := by omega
        have hcm : ¬ cap1 = m := by omega
        have HL := hid hown.len
        obtain ⟨c, hc⟩ : ∃ c, c = Nat.min m (k - m) := ⟨_, rfl⟩
        have hc1 : c ≤ m ∧ c ≤ k - m ∧ 1 ≤ c := by rw [hc]; exact ⟨Nat.min_le_left _ _, Nat.min_le_right _ _, Nat.le_min.2 ⟨hm1, by omega⟩⟩
        obtain ⟨hc2, hc3, hc4⟩ := hc1
        have HC := hid hc
        have hwr : IntKind.i64.wrap ((m : Int) + (c : Int)) = (m : Int) + (c : Int) := IntWalk.i64_in _ (by omega)
        have HZ2 := hid (overAt_rep (zs := zs) hc2 HZ.out)
        clear hc
        go_wp2_with fail
        go_region_law (refine step_copy_self rfl (.tmp 41) (.tmp 44) rfl w.heap.size g k cap1 m c zs (by simp [Act.eval, Act.put]) (by simp [Act.eval, Act.put]) hown hm2 HC.out ?_; intro w4 hown4 hb4)
        all_goals
          have hbd := hb.trans (((Below.refl w.heap.size wr).drew).trans hb4)
          clear hb4
          simp [Act.put]
          go_wp2_with fail
          go_roundw
          case rel => exact ⟨m + c, _, by go_num, by omega, by omega, hown4, HZ2, hbd⟩
          case measure => simp [intOf]; omega
      · obtain rfl : m = k := by omega
        have HL := hid hown.len
        go_wp2_with fail
        go_ret
        have hz := HZ.out
        rw [List.take_of_length_le (by rw [HL.out]; exact Nat.le_refl _)] at hz
        exact ⟨_, _, rfl, by rw [← hz]; exact hown, hb⟩
end Go.Proofs.Ytlfbmpgjhnpceab

namespace Go.Proofs.Ytlfbmpgjhnpceab
open Go.RowKit

set_option maxHeartbeats 2000000 in
theorem stepApart_any (B : Nat) (a al ah : Option Addr) (n cap capl caph : Nat) (ys ls hs : List Int) (w : World) (h : Own w B a n cap ys) (hl : Has w al n capl ls) (hh : Has w ah n caph hs)
    (hal : ∀ g, a = some ⟨g, 0, none⟩ → ∀ q, al = some q → q.block ≠ g) (hah : ∀ g, a = some ⟨g, 0, none⟩ → ∀ q, ah = some q → q.block ≠ g) (hbd : ∀ i, i < n → nth hs i ≤ 1000) (hys : ∀ i, i < n → 0 ≤ nth ys i) :
    Calls Try.prog 149 #[.slice a n cap, .slice al n capl, .slice ah n caph] w fun e w' => e = .returned (.tuple #[]) ∧ Own w' B a n cap (stepC ys ls hs).1 ∧ Marked w w' a := by
  have hn := h.le
  have HLY := hid h.len
  have HLL := hid hl.len
  have HLH := hid hh.len
  by_cases h0 : n = 0
  · have hn0 : n ≤ 0 := by omega
    have HR : Hid ((stepC ys ls hs).1 = ys) := hid (by
      have : ys = [] := List.eq_nil_of_length_eq_zero (by rw [HLY.out]; omega)
      subst this
      simp [stepC])
    clear h0
    go_enter Try.func149, Try.ntmps149
    go_wp2_with fail
    refine wp_loop_rounds 1 ?_
    rw [rounds_succ]
    go_wp2_with fail
    go_end0
    exact ⟨rfl, by rw [HR.out]; exact h, ⟨none, World.grownBy.refl _ _, by simp⟩⟩
  · obtain ⟨g, rfl, hg1, hg2, hg3, hg4⟩ := h.opened (by omega)
    obtain ⟨bl, ol, rfl, hbl, hcl⟩ := hl.2.2.2.2 (by omega)
    obtain ⟨bh, oh, rfl, hbh, hch⟩ := hh.2.2.2.2 (by omega)
    have hl1 : bl ≠ g := hal _ rfl _ rfl
    have hh1 : bh ≠ g := hah _ rfl _ rfl
    clear hg3 hg4 hal hah
    go_enter Try.func149, Try.ntmps149
    go_wp2_with fail
    go_loopw [6] (fun i wr => ∃ (k : Nat), k ≤ n ∧ i = .int .i64 ((k : Int) - 1) ∧ Own wr B (some ⟨g, 0, none⟩) n cap (midStep ys ls hs k) ∧ Hid ((stepC (ys.drop k) (ls.drop k) (hs.drop k)).2 = true) ∧ w.grownBy wr (some g)) (fun i _ => (intOf i + 1).toNat)
    case atStart =>
      refine ⟨n, Nat.le_refl _, rfl, ?_, hid ?_, World.grownBy.refl _ _⟩
      · unfold midStep
        rw [List.drop_eq_nil_of_le (by rw [HLY.out]; omega), List.take_of_length_le (by rw [HLY.out]; omega)]
        simpa [stepC] using h
      · rw [List.drop_eq_nil_of_le (by rw [HLY.out]; omega)]; simp [stepC]
    case round =>
      obtain ⟨k, hk, rfl, hown, HC, hgr⟩ := hrel
      match k, hk, HC, hown with
      | 0, hk, HC, hown =>
        go_wp2_with fail
        go_end0
        refine ⟨rfl, ?_, ⟨some g, hgr, fun g' hg' => ⟨_, rfl, by simpa using hg'⟩⟩⟩
        simpa [midStep] using hown
      | j + 1, hk, HC, hown =>
        have e : ((j + 1 : Nat) : Int) - 1 = (j : Int) := by omega
        rw [e]
        clear e
        obtain ⟨g', hga, hg1', hg2', hg3', hg4'⟩ := hown.opened (by omega)
        cases hga
        have hcy := hg3' j (by omega)
        have hfy := hg4' j
        have e1 : nth (midStep ys ls hs (j + 1)) j = nth ys j := by
          unfold midStep
          rw [nth_append_left (by simp; rw [HLY.out]; omega), nth_take (by omega)]
        rw [e1] at hcy
        have hcl' : wr.cell? ⟨bl, ol + j, none⟩ = some (.int .i64 (nth ls j)) := grown_cell hgr (hcl j (by omega)) (by omega)
        have hch' : wr.cell? ⟨bh, oh + j, none⟩ = some (.int .i64 (nth hs j)) := grown_cell hgr (hch j (by omega)) (by omega)
        have hb1000 := hbd j (by omega)
        have hy0 := hys j (by omega)
        have hjn : (j : Int) < (n : Int) := by omega
        have hjz : (0 : Int) ≤ (j : Int) := by omega
        have HE := hid (stepC_at (ys := ys) (ls := ls) (hs := hs) (j := j) (by rw [HLY.out]; omega) (by rw [HLL.out]; omega) (by rw [HLH.out]; omega))
        have hset : ∀ z : Int, (midStep ys ls hs (j + 1)).set j z = ys.take j ++ z :: (stepC (ys.drop (j + 1)) (ls.drop (j + 1)) (hs.drop (j + 1))).1 := by
          intro z
          unfold midStep
          rw [take_succ_nth (by rw [HLY.out]; omega), List.append_assoc]
          have hlj : (ys.take j).length = j := by simp; rw [HLY.out]; omega
          rw [List.set_append_right _ _ (by omega), hlj, Nat.sub_self]
          rfl
        have HSET := hid hset
        clear hcl hch hg3' hg4' e1 hset hbd hys hg2' hg1'
        by_cases hlt : nth ys j < nth hs j
        · have htd : decide (nth ys j < nth hs j) = true := by simpa using hlt
          have HR : Hid ((midStep ys ls hs (j + 1)).set j (nth ys j + 1) = (stepC ys ls hs).1) := hid (by
            have he := HE.out
            simp only [HC.out, if_true, if_pos hlt] at he
            rw [HSET.out, stepC_done (ys := ys) (ls := ls) (hs := hs) j (by rw [HLY.out]; omega) (by rw [HLY.out, HLL.out]) (by rw [HLY.out, HLH.out]) (by rw [he]), he])
          go_wp2_with fail
          go_quiet (fail)
          go_wp2_with fail
          refine bodyPost_ret (results_none rfl _ _ _) rfl ?_
          have hd : Own (wr.drewN nq) B (some ⟨g, 0, none⟩) n cap (midStep ys ls hs (j + 1)) := hown
          obtain ⟨s1, s2⟩ := hd.set j (nth ys j + 1)
          rw [HR.out] at s1
          exact ⟨rfl, s1, ⟨some g, grown_trans (grown_drewN hgr nq) s2, fun g' hg' => ⟨_, rfl, by simpa using hg'⟩⟩⟩
        · have htd : decide (nth ys j < nth hs j) = false := by simp; omega
          have HR : Hid ((midStep ys ls hs (j + 1)).set j (nth ls j) = midStep ys ls hs j ∧ (stepC (ys.drop j) (ls.drop j) (hs.drop j)).2 = true) := hid (by
            have he := HE.out
            simp only [HC.out, if_true, if_neg hlt] at he
            refine ⟨?_, by rw [he]⟩
            rw [HSET.out]
            unfold midStep
            rw [he])
          go_wp2_with fail
          go_quiet (fail)
          go_wp2_with fail
          go_roundw
          case rel =>
            have hd : Own (wr.drewN nq) B (some ⟨g, 0, none⟩) n cap (midStep ys ls hs (j + 1)) := hown
            obtain ⟨s1, s2⟩ := hd.set j (nth ls j)
            rw [HR.out.1] at s1
            exact ⟨j, by omega, by go_num, s1, hid HR.out.2, grown_trans (grown_drewN hgr nq) s2⟩
          case measure => simp [intOf]

end Go.Proofs.Ytlfbmpgjhnpceab

namespace Go.Proofs.Ytlfbmpgjhnpceab
open Go.RowKit Go.Shelf

attribute [local go_sem] Oper.semAt_some

def zcells (n : Nat) : Array Value := madeCells #[.int .i64 0] n
theorem run_mk (n : Nat) (hn : n ≤ 2097152) (w : World) : (Instr.makeSlice 22 (.int .i64 (n : Int)) (.int .i64 (n : Int))).run Try.prog w = .ok (.slice (some ⟨w.heap.size, 0, none⟩) n n) (w.alloc (.cells (zcells n) 3)) := by
  obtain ⟨i0, hi, hz0, hz1, hz2⟩ := info_parts Try.infoInt
  have h := run_makeSlice (P := Try.prog) w 22 3 i0 (.int .i64 0) Try.underlying22 hi hz0 .i64 .i64 n n (by omega) (Int.le_refl _) (by simp [hz1]; omega) (by rw [hz2]; omega) (by omega)
  simp only [Int.toNat_natCast, hz1, Nat.mul_one] at h
  exact h
/-- What such a make lays. -/
theorem own_mk {W : World} {B n b : Nat} (hn : n ≤ 2097152) (hb : b = W.heap.size) (hB : B ≤ W.heap.size) : Own (W.alloc (.cells (zcells n) 3)) B (some ⟨b, 0, none⟩) n n (List.replicate n 0) := by
  subst hb
  have hz : (zcells n).toList = (List.replicate n (0 : Int)).map (Value.int .i64) := by
    unfold zcells
    rw [toList_madeCells_one]
    simp
  refine ⟨⟨by simp, .inr ⟨W.heap.size, n, zcells n, rfl, hB, heap_alloc_new W _, Nat.le_refl _, by unfold maxLen; omega, by simp [zcells, size_madeCells], ?_⟩⟩, by simp, hn⟩
  rw [hz]
  simp
theorem Own.al {W : World} {B : Nat} {a : Option Addr} {n cap : Nat} {xs : List Int} (h : Own W B a n cap xs) (O : Obj) : Own (W.alloc O) B a n cap xs := h.below ((Below.refl W.heap.size W).alloc (Nat.le_refl _) O) (Nat.le_refl _)
theorem Own.ct {W W' : World} {B : Nat} {a : Option Addr} {n cap : Nat} {xs : List Int} (hb : Below W.heap.size W W') (h : Own W B a n cap xs) : Own W' B a n cap xs := h.below hb (Nat.le_refl _)
theorem Own.dr {W : World} {B : Nat} {a : Option Addr} {n cap : Nat} {xs : List Int} (h : Own W B a n cap xs) : Own W.drew B a n cap xs := h
theorem below_al {B : Nat} {W V : World} {O : Obj} (hB : B ≤ V.heap.size) (h : Below B W V) : Below B W (V.alloc O) := h.alloc hB O
theorem below_dr {B : Nat} {W V : World} (h : Below B W V) : Below B W V.drew := h.drew
theorem below_ct {B K : Nat} {W V V' : World} (hb : Below K V V') (hK : B ≤ K) (h : Below B W V) : Below B W V' := h.trans (hb.mono hK)
theorem has_cell {W : World} {b : Nat} {x : Int} (hb : b < W.heap.size) (hc : W.cell? ⟨b, 0, none⟩ = some (.int .i64 x)) : Has W (some ⟨b, 0, none⟩) 1 1 [x] := by
  refine ⟨rfl, Nat.le_refl _, by unfold maxLen; omega, by omega, fun _ => ⟨b, 0, rfl, hb, fun i hi => ?_⟩⟩
  obtain rfl : i = 0 := by omega
  exact hc
theorem cell_past {w : World} {bn : Nat} {v : Value} (hb : bn < w.heap.size) (hc : w.cell? ⟨bn, 0, none⟩ = some v) :
    (∀ O, (w.alloc O).cell? ⟨bn, 0, none⟩ = some v) ∧ (∀ O1 O2, ((w.alloc O1).alloc O2).cell? ⟨bn, 0, none⟩ = some v) ∧ (∀ O1 O2 O3, (((w.alloc O1).alloc O2).alloc O3).cell? ⟨bn, 0, none⟩ = some v) := by
  have k1 : ∀ (w : World), bn < w.heap.size → w.cell? ⟨bn, 0, none⟩ = some v → ∀ O, (w.alloc O).cell? ⟨bn, 0, none⟩ = some v := fun w hb hc O => by rw [World.cell?_alloc_past _ _ _ (by simpa using hb)]; exact hc
  exact ⟨k1 w hb hc, fun O1 O2 => k1 _ (by simp; omega) (k1 w hb hc O1) O2, fun O1 O2 O3 => k1 _ (by simp; omega) (k1 _ (by simp; omega) (k1 w hb hc O1) O2) O3⟩
theorem lit0 (W : World) (b : Nat) (x : Int) (t : TypeId) (h : b = W.heap.size) : ((W.alloc (.cells #[.int .i64 x] t)).drew).cell? ⟨b, 0, none⟩ = some (.int .i64 x) := by
  show (W.alloc (.cells #[.int .i64 x] t)).cell? ⟨b, 0, none⟩ = _
  rw [World.cell?_alloc_at _ _ _ _ (by simpa using h)]; rfl
theorem lit1 (W : World) (O : Obj) (b : Nat) (x : Int) (t : TypeId) (h : b = W.heap.size) : (((W.alloc (.cells #[.int .i64 x] t)).alloc O).drew).cell? ⟨b, 0, none⟩ = some (.int .i64 x) := by
  show ((W.alloc (.cells #[.int .i64 x] t)).alloc O).cell? ⟨b, 0, none⟩ = _
  rw [World.cell?_alloc_past _ _ _ (by simp; omega)]
  exact lit0 W b x t h
theorem lit2 (W : World) (O O' : Obj) (b : Nat) (x : Int) (t : TypeId) (h : b = W.heap.size) : ((((W.alloc (.cells #[.int .i64 x] t)).alloc O).alloc O').drew).cell? ⟨b, 0, none⟩ = some (.int .i64 x) := by
  show (((W.alloc (.cells #[.int .i64 x] t)).alloc O).alloc O').cell? ⟨b, 0, none⟩ = _
  rw [World.cell?_alloc_past _ _ _ (by simp; omega)]
  exact lit1 W O b x t h

/-- What lies at or beyond a block, and lay there, lies as it lay. -/
def Kept (base : Nat) (W W' : World) : Prop := W.heap.size ≤ W'.heap.size ∧ ∀ b, base ≤ b → b < W.heap.size → W'.heap[b]? = W.heap[b]?
theorem Own.keptFrom {W W' : World} {B : Nat} {a : Option Addr} {n cap : Nat} {xs : List Int} (h : Own W B a n cap xs) (hk : Kept B W W') : Own W' B a n cap xs := by
  obtain ⟨⟨h1, h2⟩, h3⟩ := h
  refine ⟨⟨h1, ?_⟩, h3⟩
  rcases h2 with h2 | ⟨g, cap', cur, hv, hg, hh, r⟩
  · exact .inl h2
  · exact .inr ⟨g, cap', cur, hv, hg, by rw [hk.2 g hg (Array.getElem?_eq_some_iff.1 hh).1]; exact hh, r⟩

/-- The three lists of the iterator: the present one, the least and the greatest. -/
structure Tri (W : World) (base n g1 : Nat) (a2 a3 : Option Addr) (c2 c3 : Nat) (zs : List Int) : Prop where
  l : Own W base (some ⟨g1, 0, none⟩) n n zs
  lo : Own W base a2 n c2 (List.replicate n 0)
  hi : Own W base a3 n c3 (List.replicate n ((n : Int) - 1))
  ne2 : ∀ g, (some ⟨g1, 0, none⟩ : Option Addr) = some ⟨g, 0, none⟩ → ∀ q, a2 = some q → q.block ≠ g
  ne3 : ∀ g, (some ⟨g1, 0, none⟩ : Option Addr) = some ⟨g, 0, none⟩ → ∀ q, a3 = some q → q.block ≠ g

theorem Own.marked_ne {w w' : World} {B : Nat} {a : Option Addr} {g1 n cap : Nat} {xs : List Int} (h : Own w B a n cap xs) (hm : Marked w w' (some ⟨g1, 0, none⟩)) (hne : ∀ q, a = some q → q.block ≠ g1) : Own w' B a n cap xs := by
  obtain ⟨row, hgr, hr⟩ := hm
  cases row with
  | none => exact ⟨h.1.kept hgr ((Classical.em _).elim .inl fun h => .inr h), h.2⟩
  | some g =>
    obtain ⟨p, hp, rfl⟩ := hr g rfl
    cases hp
    exact h.kept hgr (.inr hne)
theorem Tri.keptFrom {W W' : World} {base n g1 : Nat} {a2 a3 : Option Addr} {c2 c3 : Nat} {zs : List Int} (h : Tri W base n g1 a2 a3 c2 c3 zs) (hk : Kept base W W') : Tri W' base n g1 a2 a3 c2 c3 zs :=
  ⟨h.l.keptFrom hk, h.lo.keptFrom hk, h.hi.keptFrom hk, h.ne2, h.ne3⟩

/-- Behind the statement that makes the three lists. -/
def RegPost (W : World) (base n : Nat) (y : Value) (bn : Nat) (e : Exit) (a : Act) (w' : World) : Prop :=
  e = .normal ∧ ∃ (g1 g2 g0 : Nat) (a3 : Option Addr) (c3 : Nat), a = { tmps := #[y, .pointer (some ⟨bn, 0, none⟩), undef, .slice (some ⟨g1, 0, none⟩) n n, .slice (some ⟨g2, 0, none⟩) n n, .slice a3 n c3, .int .i64 (n : Int), .slice (some ⟨g1, 0, none⟩) n n, .int .i64 (n : Int), .slice (some ⟨g2, 0, none⟩) n n, .int .i64 (n : Int), .int .i64 ((n : Int) - 1), .slice (some ⟨g0, 0, none⟩) 1 1, .int .i64 (n : Int), .slice a3 n c3, undef, undef, undef, undef, undef, undef, undef, undef, undef, undef, undef, undef, undef, undef], defers := [] } ∧
    Tri w' base n g1 (some ⟨g2, 0, none⟩) a3 n c3 (List.replicate n 0) ∧ Below base W w'

set_option maxRecDepth 100000 in
set_option maxHeartbeats 8000000 in
theorem tried1_in (m l bn n N : Nat) (hN : n ^ n = N) (hn1 : 1 ≤ n) (hn5 : n ≤ 5) (J : Nat → World → Prop) (W : World) (base : Nat) (hbase : base = W.heap.size) (hbn : bn < base)
    (hJc : ∀ k V, J k V → V.cell? ⟨bn, 0, none⟩ = some (.int .i64 (n : Int)) ∧ base ≤ V.heap.size)
    (hJb : ∀ k V V', J k V → Below base V V' → J k V')
    (hY : ∀ k V g, J k V → k < N → Own V base (some ⟨g, 0, none⟩) n n ((allTried n).getD k []) → YieldAt Fence.wide (m - 1) Try.prog l #[.slice (some ⟨g, 0, none⟩) n n] V fun e V' => e = .returned (.bool true) ∧ J (k + 1) V' ∧ Kept base V V')
    (h0 : J 0 W) :
    CallsIn Fence.wide m Try.prog 146 #[.func (.yield l) #[] #[], .pointer (some ⟨bn, 0, none⟩)] W fun e W' => (∃ r, e = .returned r) ∧ J N W' := by
  subst hbase
  obtain ⟨hc, -⟩ := hJc 0 W h0
  have hb : bn < W.heap.size := hbn
  have hmk := run_mk n (by omega)
  have hwr : IntKind.i64.wrap ((n : Int) - 1) = (n : Int) - 1 := IntWalk.i64_in _ (by omega)
  obtain ⟨k1, k2, k3⟩ := cell_past hb hc
  refine callsIn_of_wp Try.func146 rfl trivial ?_ rfl
  simp only [Try.ntmps146, List.size_toArray, List.length_cons, List.length_nil, Nat.reduceAdd, Nat.reduceSub, Array.replicate_succ, Array.replicate_zero, List.push_toArray, List.append_toArray, List.nil_append, List.cons_append]
  gi_wp2
  refine wpIn_wide.2 (Code.wp_mono (Q := RegPost W W.heap.size n (.func (.yield l) #[] #[]) bn) ?_ ?_)
  · rintro e a w1 ⟨rfl, g1, g2, g0, a3, c3, rfl, T, hb1⟩
    have hN5 : N ≤ 3125 := by
      rw [← hN]
      exact Nat.le_trans (Nat.pow_le_pow_left hn5 n) (Nat.pow_le_pow_right (by omega) hn5)
    have HNN := hid hN
    have HLS := hid (SeqTo.at [] (tried_seq hn1))
    have HLL : Hid ((allTried n).length = N) := hid (by rw [length_allTried hn1, hN])
    have hJ0 := hJb 0 W w1 h0 hb1
    have HY := hid hY
    have HJC := hid hJc
    have HJB := hid hJb
    obtain ⟨hc1, -⟩ := hJc 0 w1 hJ0
    clear hY hN k1 k2 k3 hmk hJc hJb hc h0
    have hwd : Fence.wide.depth.isSome = true → 1 ≤ m := fun h => by cases h
    gi_wp2_with (refine ⟨trivial, hwd, ?_⟩; gi_at_call 148; refine (callsIn_wide.2 (power_at n n N _ _ _ rfl rfl (by omega) (by omega) HNN)).mono ?_; rintro e w' ⟨rfl, rfl⟩)
    gi_loopw [18] (fun i wr => ∃ (k : Nat) (zs : List Int), k ≤ N ∧ i = .int .i64 k ∧ J k wr ∧ Tri wr W.heap.size n g1 (some ⟨g2, 0, none⟩) a3 n c3 zs ∧ Hid (k < N → zs = (allTried n).getD k []) ∧ Hid (∀ x ∈ zs, 0 ≤ x)) (fun i _ => N - (intOf i).toNat)
    case atStart => exact ⟨0, _, Nat.zero_le _, rfl, hJ0, T, hid (fun _ => HLS.out.1.symm), hid (fun x hx => by have := List.eq_of_mem_replicate hx; omega)⟩
    case round =>
      clear T hJ0 hc1
      obtain ⟨k, zs, hk, rfl, hJ, T, HZ, HZN⟩ := hrel
      by_cases hlt : k < N
      · obtain ⟨fn, tmps, assign, body, hy, hR⟩ := HY.out k wr g1 hJ hlt (by rw [← HZ.out hlt]; exact T.l)
        have HR := hid hR
        clear hR
        gi_wp2
        refine ⟨hwd, HR.out.mono ?_⟩
        rintro e W3 ⟨rfl, hJ3, hK3⟩
        have T3 := T.keptFrom hK3
        have STEP := stepApart_any W.heap.size _ _ _ n n n c3 zs _ _ W3 T3.l T3.lo.has T3.hi.has T3.ne2 T3.ne3 (fun i hi => by rw [nth_rep hi]; omega) (fun i hi => HZN.out _ (nth_mem (by rw [T3.l.len]; exact hi)))
        have HS := hid STEP
        obtain ⟨-, hb3⟩ := HJC.out (k + 1) W3 hJ3
        clear STEP
        gi_wp2_with (refine ⟨trivial, hwd, ?_⟩; gi_at_call 149; refine (callsIn_wide.2 HS.out).mono ?_; rintro e W4 ⟨rfl, hl4, hm4⟩)
        go_roundw
        case rel =>
          refine ⟨k + 1, _, by omega, by go_num, HJB.out (k + 1) W3 W4 hJ3 (hm4.below T3.l.ge hb3), ⟨hl4, T3.lo.marked_ne hm4 (T3.ne2 _ rfl), T3.hi.marked_ne hm4 (T3.ne3 _ rfl), T3.ne2, T3.ne3⟩, hid (fun hlt2 => ?_), hid (stepC_nonneg _ _ _ HZN.out (fun x hx => by have := List.eq_of_mem_replicate hx; omega))⟩
          rw [HZ.out hlt]
          exact HLS.out.2 k (by rw [HLL.out]; exact hlt2)
        case measure => simp [intOf]; omega
      · obtain rfl : k = N := by omega
        gi_wp2
        go_end0
        exact ⟨⟨_, rfl⟩, hJ⟩
  · go_region_held3 (fun w' => w'.cell? ⟨bn, 0, none⟩ = some (.int .i64 (n : Int))) (first | go_keep | skip) (first | (go_at_call 147; refine (repeat_any _ 1 n ((n : Int) - 1) _ (has_cell (by simp; try omega) (by first | exact lit0 _ _ _ _ (by simp) | exact lit1 _ _ _ _ _ (by simp) | exact lit2 _ _ _ _ _ _ (by simp))) hn5).mono ?_; rintro e w' ⟨a', cap', rfl, hown, hbw⟩; have hkk : w'.cell? ⟨bn, 0, none⟩ = some (.int .i64 (n : Int)) := (by rw [hbw.cell (p := ⟨bn, 0, none⟩) (by simp; omega)]; simp [*]); obtain ⟨j1, j2, -⟩ := cell_past (show bn < w'.heap.size by have := hbw.size; simp at this; omega) hkk))
    all_goals
      have hsz := hbw.size
      simp at hsz
      refine ⟨rfl, _, _, _, _, _, rfl, ⟨?_, ?_, ?_, ?_, ?_⟩, ?_⟩
      · repeat (first | ((with_reducible refine own_mk ?_ ?_ ?_) <;> first | omega | (simp; done) | (simp; omega)) | with_reducible refine Own.dr ?_ | with_reducible refine Own.al ?_ _ | with_reducible refine Own.ct hbw ?_)
      · repeat (first | ((with_reducible refine own_mk ?_ ?_ ?_) <;> first | omega | (simp; done) | (simp; omega)) | with_reducible refine Own.dr ?_ | with_reducible refine Own.al ?_ _ | with_reducible refine Own.ct hbw ?_)
      · repeat (first | ((with_reducible refine hown.mono ?_); focus (first | (simp; done) | (simp; omega))) | with_reducible refine Own.al ?_ _)
      · intro g e q hq; cases e; cases hq; simp; try omega
      · intro g e q hq; cases e
        have hg3 := hown.ge q hq
        have hl3 := hown.lt q hq
        simp at hg3
        omega
      · repeat (first | with_reducible exact Below.refl _ _ | ((with_reducible refine below_al ?_ ?_); (focus first | omega | (simp; omega) | simp)) | with_reducible refine below_dr ?_ | ((with_reducible refine below_ct hbw ?_ ?_); (focus first | omega | (simp; omega) | simp)))
/-! END OF tried1_in -/

/-- The iterator that triedLists hands back: the block of n. -/
def TrFn (bn : Nat) : Value := .func (.func 146) #[] #[.pointer (some ⟨bn, 0, none⟩)]
theorem tried_any (v : Int) (w : World) :
    Calls Try.prog 89 #[.int .i64 v] w fun e w' => e = .returned (TrFn w.heap.size) ∧ w' = w.alloc (.cells #[.int .i64 v] 3) := by
  have hmf : ∀ (fn : Fn) (first cap : Array Value) (w : World), (Instr.makeFunc fn first cap).run Try.prog w = .ok (.func fn first cap) w := fun _ _ _ _ => rfl
  go_enter Try.func89, Try.ntmps89
  go_wp2_with fail
  go_ret
  exact ⟨rfl, rfl⟩

/-- How a round of such a loop ends: it goes on. -/
def trPost (B base : Nat) (I : Nat → World → Prop) (k : Nat) (W : World) : Exit → Act → World → Prop
  | .normal, _, W' => KeepsFrom B W W' ∧ I (k + 1) W' ∧ Kept base W W'
  | _, _, _ => False

set_option maxHeartbeats 1000000 in
/-- 'for list := range triedLists(n)'. -/
theorem wpIn_tried (m : Nat) {g : Operand} {tp : Tmp} {assign body : Code} {Q : Exit → Act → World → Prop} {a : Act} {w : World} (bn n N : Nat) (hN : n ^ n = N) (hn1 : 1 ≤ n) (hn5 : n ≤ 5) (hbn : bn < w.heap.size)
    (hg : a.eval g = TrFn bn) (I : Nat → World → Prop) (hIc : ∀ k V, I k V → V.cell? ⟨bn, 0, none⟩ = some (.int .i64 (n : Int)))
    (hIb : ∀ k V V', I k V → Below (w.heap.size + 2) V V' → I k V') (hI : OwnFrom w.heap.size I) (h0 : I 0 w) (a₁ : Value → Act)
    (hassign : ∀ (l : Nat) (x : Value) (W : World) (K : Act → World → Prop), K (a₁ x) W →
      assign.wpIn (Fence.wide.inRound l) (m - 1 - 1) Try.prog (Exit.then K (fun _ _ _ => False)) { tmps := a.tmps.setIfInBounds tp x, defers := [] } W)
    (hbody : ∀ (l k gl : Nat) (W : World), I k W → w.heap.size + 2 ≤ W.heap.size → k < N → Own W (w.heap.size + 2) (some ⟨gl, 0, none⟩) n n ((allTried n).getD k []) → body.wpIn (Fence.wide.inRound l) (m - 1 - 1) Try.prog (trPost w.heap.size (w.heap.size + 2) I k W) (a₁ (.slice (some ⟨gl, 0, none⟩) n n)) W)
    (hdone : ∀ (D : Nat) (W : World), w.heap.size ≤ D → I N W → W.heap[D]? = some (.deferred (some [])) → Q .normal { a with defers := { target := .collected D, args := #[] } :: a.defers } W) :
    (Code.rangeFunc g #[tp] assign body).wpIn Fence.wide m Try.prog Q a w := by
  refine wpIn_rangeFunc fun fn hfn => ?_
  have key : ∀ rec : LoopState → Option Code → Loop, rec = (fun st pe => { state := st, pending := pe, fn := fn, tmps := a.tmps, params := #[tp], assign := assign, body := body, defers := w.heap.size }) →
      ∀ W1, (w.alloc (.deferred (some []))).alloc (.loop (rec .ready none)) = W1 → CallsIn Fence.wide (m - 1) Try.prog 146 #[.func (.yield (w.heap.size + 1)) #[] #[], .pointer (some ⟨bn, 0, none⟩)] W1
        (rangePost Fence.wide m Try.prog (w.heap.size + 1) Q { a with defers := { target := .collected w.heap.size, args := #[] } :: a.defers }) := by
    intro rec hrec W1 hW1
    have hblk : (w.alloc (.deferred (some []))).heap.size = w.heap.size + 1 := World.size_alloc w _
    have hsz1 : W1.heap.size = w.heap.size + 2 := by rw [← hW1]; simp
    have hl1 : W1.heap[w.heap.size + 1]? = some (.loop (rec .ready none)) := by
      rw [← hW1, ← hblk]; exact World.alloc_heap_new _ _
    have hd1 : W1.heap[w.heap.size]? = some (.deferred (some [])) := by
      rw [← hW1]; exact (Below.heap_alloc _ _ _ (by simp)).trans (World.alloc_heap_new w _)
    have hi1 : I 0 W1 := by rw [← hW1]; exact hI.alloc _ (hI.alloc _ h0)
    refine (tried1_in (m - 1) (w.heap.size + 1) bn n N hN hn1 hn5
      (fun k W => I k W ∧ W.heap[w.heap.size + 1]? = some (.loop (rec .ready none)) ∧ W.heap[w.heap.size]? = some (.deferred (some [])))
      W1 W1.heap.size rfl (by rw [hsz1]; omega) (fun k V h => ⟨hIc k V h.1, by rw [hsz1]; have := (Array.getElem?_eq_some_iff.1 h.2.1).1; omega⟩) ?_ ?_ ⟨hi1, hl1, hd1⟩).mono ?_
    · rintro k V V' ⟨h1, h2, h3⟩ hb
      rw [hsz1] at hb
      exact ⟨hIb k V V' h1 hb, by rw [hb.block _ (by omega)]; exact h2, by rw [hb.block _ (by omega)]; exact h3⟩
    · rintro k W gl ⟨hi, hl, hd⟩ hlt hown
      have hlt2 : w.heap.size + 1 < W.heap.size := (Array.getElem?_eq_some_iff.1 hl).1
      have hy := run_yield (P := Try.prog) (args := #[.slice (some ⟨gl, 0, none⟩) n n]) hl (by rw [hrec]; rfl)
      rw [hrec] at hy
      have hz : ∀ (ts : Array Value) (y : Value), ((#[tp] : Array Tmp).zip #[y]).foldl (fun t (p, v) => t.setIfInBounds p v) ts = ts.setIfInBounds tp y := fun ts y => by simp
      refine ⟨fn, _, assign, body, hy, roundIn_of_wpIn hfn ?_⟩
      rw [hz]
      refine hassign _ (.slice (some ⟨gl, 0, none⟩) n n) W _ ?_
      clear hy
      refine ⟨_, run_beginRound hl (by rw [hrec]), ?_⟩
      generalize hWb : W.putObj (w.heap.size + 1) (.loop { rec .ready none with state := .busy }) = Wb
      have hszb : Wb.heap.size = W.heap.size := by rw [← hWb]; simp
      have hlb : Wb.heap[w.heap.size + 1]? = some (.loop { rec .ready none with state := .busy }) := by rw [← hWb]; exact World.putObj_heap_same hlt2
      have hdb : Wb.heap[w.heap.size]? = some (.deferred (some [])) := by rw [← hWb]; exact (World.putObj_heap_other (by omega)).trans hd
      have hib : I k Wb := by rw [← hWb]; exact hI.putObj _ hi (by omega) hl rfl
      have hkb : Kept W1.heap.size W Wb := ⟨by omega, fun b h1 h2 => by rw [← hWb]; exact World.putObj_heap_other (by omega)⟩
      have hob := hown.keptFrom hkb
      rw [hsz1] at hob
      refine wpIn_mono (hbody _ k gl Wb hib (by omega) hlt hob) ?_
      rintro e a3 W3 hp
      cases e with
      | normal =>
        obtain ⟨hk3, hi3, hkk⟩ := hp
        have h3 := hk3.same _ _ (by omega) hlb rfl
        have h4 := hk3.same _ _ (Nat.le_refl _) hdb rfl
        have he := run_endRound (P := Try.prog) none h3
        rw [hrec] at he h3
        have hsz3 : w.heap.size + 1 < W3.heap.size := (Array.getElem?_eq_some_iff.1 h3).1
        refine ⟨_, _, he, rfl, ⟨hI.putObj _ hi3 (by omega) h3 rfl, by rw [hrec]; exact World.putObj_heap_same hsz3, (World.putObj_heap_other (by omega)).trans h4⟩, ?_⟩
        refine ⟨?_, fun b h1 h2 => ?_⟩
        · have := hkk.1
          simp
          omega
        · rw [World.putObj_heap_other (by omega), hkk.2 b (by omega) (by omega)]
          exact hkb.2 b h1 h2
      | ret => exact hp.elim
      | exit id => exact hp.elim
      | goto t => exact hp.elim
      | panic ch => exact hp.elim
      | outgrown => exact hp.elim
    · rintro e W2 ⟨⟨r, rfl⟩, hi, hl, hd⟩
      refine ⟨none, _, by have := run_endLoop (P := Try.prog) hl (by rw [hrec]; simp); rw [hrec] at this; exact this, ?_⟩
      exact hdone _ _ (Nat.le_refl _) (hI.putObj _ hi (by omega) hl rfl) ((World.putObj_heap_other (by omega)).trans hd)
  obtain ⟨W1, hW1⟩ : ∃ W1, (w.alloc (.deferred (some []))).alloc (.loop { state := .ready, pending := none, fn := fn, tmps := a.tmps, params := #[tp], assign := assign, body := body, defers := w.heap.size }) = W1 := ⟨_, rfl⟩
  refine ⟨w.heap.size + 1, [{ target := .collected w.heap.size, args := #[] }], W1, { target := .fn (.func 146) #[.pointer (some ⟨bn, 0, none⟩)], args := #[.func (.yield (w.heap.size + 1)) #[] #[]] }, W1, 146,
    #[.func (.yield (w.heap.size + 1)) #[] #[], .pointer (some ⟨bn, 0, none⟩)], W1, (by rw [← hW1]; exact run_enterLoop_outer _ _ _ _ _), ?_, (fun _ _ => trivial), ?_, (fun h => by cases h), key _ rfl W1 hW1⟩
  · simp only [resolve, hg, TrFn]
    simp [go_sem]
  · simp [invoke, go_sem]
end Go.Proofs.Ytlfbmpgjhnpceab

namespace Go.Proofs.Ytlfbmpgjhnpceab
open Go.RowKit Go.Shelf

attribute [local go_sem] Oper.semAt_some

theorem isTried_any (n : Int) (w : World) : Calls Try.prog 88 #[.int .i64 n] w fun e w' => e = .returned (.bool (inB n 1 5)) ∧ w = w' := by
  by_cases h1 : 1 ≤ n
  · by_cases h2 : n ≤ 5
    · have HR : Hid (inB n 1 5 = true) := hid (inB_iff.2 ⟨h1, h2⟩)
      go_enter Try.func88, Try.ntmps88
      go_wp2_with fail
      go_ret
      exact ⟨ret_bool HR.out.symm, rfl⟩
    · have HR : Hid (inB n 1 5 = false) := hid (inB_not.2 (by omega))
      go_enter Try.func88, Try.ntmps88
      go_wp2_with fail
      go_ret
      exact ⟨ret_bool HR.out.symm, rfl⟩
  · have HR : Hid (inB n 1 5 = false) := hid (inB_not.2 (by omega))
    go_enter Try.func88, Try.ntmps88
    go_wp2_with fail
    go_ret
    exact ⟨ret_bool HR.out.symm, rfl⟩

theorem keeps_below {B K : Nat} {W W' : World} (hb : Below K W W') (hK : W.heap.size ≤ K) : KeepsFrom B W W' :=
  ⟨hb.size, fun k o _ hk _ => by rw [hb.block k (by have := (Array.getElem?_eq_some_iff.1 hk).1; omega)]; exact hk⟩
theorem kept_below {base K : Nat} {W W' : World} (hb : Below K W W') (hK : W.heap.size ≤ K) : Kept base W W' :=
  ⟨hb.size, fun b _ h2 => hb.block b (by omega)⟩
theorem kept_set {base : Nat} (W : World) (g i : Nat) (v : Value) (hg : g < base) : Kept base W (W.setCell ⟨g, i, none⟩ v) :=
  ⟨by simp, fun b h1 _ => heap_setCell_other W ⟨g, i, none⟩ b v (by simp; omega)⟩
theorem Kept.trans {base : Nat} {A B C : World} (h : Kept base A B) (h' : Kept base B C) : Kept base A C :=
  ⟨Nat.le_trans h.1 h'.1, fun b h1 h2 => by rw [h'.2 b h1 (by have := h.1; omega), h.2 b h1 h2]⟩

theorem alloc_keep {w : World} {b : Nat} {v : Value} (h : w.cell? ⟨b, 0, none⟩ = some v) (hb : b < w.heap.size) (O : Obj) : (w.alloc O).cell? ⟨b, 0, none⟩ = some v := by
  rw [World.cell?_alloc_past _ _ _ (by simpa using hb)]; exact h
end Go.Proofs.Ytlfbmpgjhnpceab

namespace Go.Proofs.Ytlfbmpgjhnpceab
open Go.RowKit

set_option maxHeartbeats 2000000 in
theorem treeOfWord_any (a : Option Addr) (m cap : Nat) (ws : List Int) (w : World) (h : Has w a m cap ws) (hw : Word ws (m + 1)) :
    Calls Try.prog 170 #[.slice a m cap] w fun e w' => ∃ a' cap', e = .returned (.slice a' (m + 1) cap') ∧ Own w' w.heap.size a' (m + 1) cap' (unOf ws) ∧ Below w.heap.size w w' := by
  have HW := hid hw
  have h8 : m ≤ 7 := by have := hw.le; omega
  have HL := hid h.len
  have HB : Hid (∀ i, i < m + 1 → 0 ≤ nth (ws ++ [0]) i ∧ nth (ws ++ [0]) i ≤ ((m + 1 : Nat) : Int)) := hid (fun i hi => by
    by_cases e : i < m
    · rw [nth_left (by rw [HL.out]; exact e)]
      exact hw.nthB i (by rw [HL.out]; exact e)
    · have hm : i = ws.length := by rw [HL.out]; omega
      rw [hm, nth_append_at]; omega)
  have HC : Hid ((m : Int) + 1 = ((m + 1 : Nat) : Int)) := hid (by omega)
  have h8' : m + 1 ≤ 8 := by omega
  clear hw
  go_enter Try.func170, Try.ntmps170
  go_wp2_with fail
  refine (cloneT_any _ _ _ _ _ h).mono ?_
  rintro e w1 ⟨a1, cap1, rfl, hown1, hb1⟩
  have hs1 := hb1.size
  go_wp2_with (first | (go_at_call 192; refine (degreesOf_any _ _ _ _ _ hown2.has h8' HB.out).mono ?_; rintro e w3 ⟨a3, cap3, rfl, hown3, hb3⟩) | (at_make; refine wpList_make_ints _ rfl _ _ rfl (m + 1) (by rw [← HC.out]; rfl) (by rw [← HC.out]; rfl) (by omega) ?_; intro a4 cap4 w4 hown4 hb4) | (at_builtin; refine wpList_append_int _ rfl _ _ rfl w.heap.size _ _ _ _ _ rfl rfl hown1 (by omega) hs1 ?_; intro a2 cap2 w2 hown2 hb2))
  have hs2 := (hb1.trans hb2).size
  have hs3 := hb3.size
  have hs4 := hb4.size
  obtain ⟨g2, rfl, hg21, hg22, hg23, hg24⟩ := hown3.opened (by omega)
  have hownD := hown3.below hb4 (Nat.le_refl _)
  have hbx := ((hb1.trans hb2).trans (hb3.mono hs2)).trans (hb4.mono (by omega))
  have HLX : Hid ((ws ++ [0]).length = m + 1) := hid (by simp [HL.out])
  clear hg23 hg24 hown3
  go_loopw [18] (fun i wr => ∃ (k : Nat) (ds : List Int), k ≤ m ∧ i = .int .i64 k ∧ Own wr w2.heap.size (some ⟨g2, 0, none⟩) (m + 1 + 1) cap3 ds ∧ Own wr w3.heap.size a4 (m + 1) cap4 (unTo ws k) ∧ Degs ds (degW ws (untG ws k) k) (m + 1) ∧ Below w.heap.size w wr) (fun i _ => m - (intOf i).toNat)
  case atStart => exact ⟨0, _, by omega, rfl, hownD, by have : unTo ws 0 = List.replicate (m + 1) 0 := by { show List.replicate (ws.length + 1) 0 = _; rw [HL.out] }
                                                        rw [this]; exact hown4, (degL_degs _ HLX.out).congr (fun v _ => degW_nil ws v), hbx⟩
  case round =>
    clear hownD hown4 hbx
    obtain ⟨k, ds, hk, rfl, hD, hY, hds, hb⟩ := hrel
    have HDS := hid hds
    clear hds
    by_cases hlt : k < m
    · have HG2 := hid (untG_is HW.out k (by rw [HL.out]; omega))
      obtain ⟨x, x1, x2, x3, x4, x5, x6⟩ := unG_step HW.out HG2.out (by rw [HL.out]; exact hlt)
      have X3 := hid x3
      have HG1 : Hid (untG ws (k + 1) = untG ws k ++ [(x : Int)]) := hid (by simp only [untG]; rw [HL.out, x4])
      have HU1 : Hid (unTo ws (k + 1) = (unTo ws k).set (x - 1) (nth ws k)) := hid (by simp only [unTo]; rw [HL.out, x4, Int.toNat_natCast])
      have HDX : Hid (degW ws (untG ws k) k x = 1) := hid ((degW_leaf x1).2 x3)
      have HD2 : Hid (∀ v, x < v → v ≤ m + 1 → degW ws (untG ws k) k v ≠ 1) := hid (fun v h1 h2 e => by
        have := (degW_leaf (w := ws) (g := untG ws k) (k := k) (v := v) (by omega)).1 e
        rw [x5 v h1 h2] at this
        cases this)
      obtain ⟨t, rfl⟩ : ∃ t : Nat, x = t + 1 := ⟨x - 1, by omega⟩
      have hbt := HW.out.nthB k (by rw [HL.out]; exact hlt)
      obtain ⟨p, hp⟩ : ∃ p : Nat, nth ws k = (p : Int) := ⟨(nth ws k).toNat, by omega⟩
      have HP := hid hp
      obtain ⟨p1, p2, p3⟩ := degW_pos HW.out HG2.out (by rw [HL.out]; exact hlt) X3.out hp
      have P1 := hid p1
      clear x3 x4 x5 x6 p1 hbt
      have hsz := hb.size
      obtain ⟨b, off, rfl, hbb, hc⟩ := (h.below hb (Nat.le_refl _)).2.2.2.2 (by omega)
      have hct := hc k hlt
      rw [hp] at hct
      clear hc
      go_wp2_with fail
      refine (cutLeaf_any _ _ _ _ _ _ (t + 1) _ hD HDS.out h8' x2 HDX.out HD2.out).mono ?_
      rintro e w5 ⟨rfl, hD4, hgr⟩
      have hY4 := hY.kept hgr (.inl (by omega))
      have hb4 : Below w.heap.size w w5 := hb.trans (below_grown hgr hsz (by intro j hj; cases hj; omega))
      obtain ⟨g3, rfl, hh1, hh2, hh3, hh4⟩ := hY4.opened (by omega)
      have htm : t < m + 1 := by omega
      have hyk := hh3 t htm
      have hyf := hh4 t
      obtain ⟨y1, y2⟩ := hY4.set t (p : Int)
      have hD5 := hD4.kept y2 (.inr (fun q hq => by cases hq; show g2 ≠ g3; omega))
      obtain ⟨_, hgg, gg1, gg2, gg3, gg4⟩ := hD5.opened (by omega)
      cases hgg
      have hdp := gg3 p (by omega)
      have hdf := gg4 p
      have DC := HDS.out.cut x2
      have hpx : ¬ p = t + 1 := p2
      have DV : Hid (nth (ds.set (t + 1) 0) p = (degW ws (untG ws k) k p : Int)) := hid (by rw [DC.2 p p3]; show ((if p = t + 1 then 0 else degW ws (untG ws k) k p : Nat) : Int) = _; rw [if_neg hpx])
      have hd9 : degW ws (untG ws k) k p ≤ 9 := degW_le HW.out
      obtain ⟨z1, z2⟩ := hD5.set p (nth (ds.set (t + 1) 0) p - 1)
      have hY6 := y1.kept z2 (.inl (by omega))
      have DL := DC.less (p := p) p3 (by show 1 ≤ if p = t + 1 then 0 else degW ws (untG ws k) k p; rw [if_neg hpx]; exact P1.out)
      have HDL : Hid (Degs ((ds.set (t + 1) 0).set p (nth (ds.set (t + 1) 0) p - 1)) (degW ws (untG ws (k + 1)) (k + 1)) (m + 1)) := hid (DL.congr (fun v hv => by
        show _ = if v = p then (if p = t + 1 then 0 else degW ws (untG ws k) k p) - 1 else (if v = t + 1 then 0 else degW ws (untG ws k) k v)
        rw [HG1.out, degW_step HG2.out (by rw [HL.out]; exact hlt) x1 X3.out HP.out, if_neg hpx]))
      rw [DV.out] at hdp z1 z2 HDL hY6
      have HU2 : Hid ((unTo ws k).set t (p : Int) = unTo ws (k + 1)) := hid (by rw [HU1.out, HP.out, Nat.add_sub_cancel])
      have hb6 := (hb4.setCell (p := ⟨g3, t, none⟩) (by simp; omega) (.int .i64 (p : Int))).setCell (p := ⟨g2, p, none⟩) (by simp; omega) (.int .i64 ((degW ws (untG ws k) k p : Int) - 1))
      clear hh3 hh4 gg3 gg4 DC DL hD4 hD5 y1 y2 hY4 hY hD hp
      go_wp2_with fail
      go_roundw
      case rel => exact ⟨k + 1, _, by omega, by go_num, z1, by rw [← HU2.out]; exact hY6, HDL.out, hb6⟩
      case measure => simp [intOf]; omega
    · obtain rfl : k = m := by omega
      have HE : Hid (unTo ws k = unOf ws) := hid (by unfold unOf; rw [HL.out])
      go_wp2_with fail
      go_ret
      exact ⟨_, _, rfl, by rw [← HE.out]; exact hY.mono (by omega), hb⟩

end Go.Proofs.Ytlfbmpgjhnpceab

namespace Go.Proofs.Ytlfbmpgjhnpceab
open Go.RowKit Go.Shelf

/-- The three lists of words: the present one, the least and the greatest. -/
structure TriW (W : World) (base m g1 : Nat) (a2 a3 : Option Addr) (c2 c3 : Nat) (zs : List Int) : Prop where
  l : Own W base (some ⟨g1, 0, none⟩) m m zs
  lo : Own W base a2 m c2 (List.replicate m 0)
  hi : Own W base a3 m c3 (List.replicate m ((m : Int) + 1))
  ne2 : ∀ g, (some ⟨g1, 0, none⟩ : Option Addr) = some ⟨g, 0, none⟩ → ∀ q, a2 = some q → q.block ≠ g
  ne3 : ∀ g, (some ⟨g1, 0, none⟩ : Option Addr) = some ⟨g, 0, none⟩ → ∀ q, a3 = some q → q.block ≠ g

/-- Behind the statement that makes the three lists. -/
def RegPostW (w : World) (n m : Nat) (e : Exit) (a : Act) (w' : World) : Prop :=
  e = .normal ∧ ∃ (g1 g2 g0 : Nat) (a3 : Option Addr) (c3 : Nat), a = { tmps := #[.int .i64 (n : Int), undef, .slice none 0 0, .slice (some ⟨g1, 0, none⟩) m m, .slice (some ⟨g2, 0, none⟩) m m, .slice a3 m c3, undef, .int .i64 (n : Int), .bool false, undef, .int .i64 (n : Int), .int .i64 (m : Int), .slice (some ⟨g1, 0, none⟩) m m, .int .i64 (n : Int), .int .i64 (m : Int), .slice (some ⟨g2, 0, none⟩) m m, .int .i64 (n : Int), .slice (some ⟨g0, 0, none⟩) 1 1, .int .i64 (n : Int), .int .i64 (m : Int), .slice a3 m c3, undef, undef, undef, undef, undef, undef, undef, undef, undef, undef, undef, undef, undef, undef, undef, undef], defers := [] } ∧
    TriW w' w.heap.size m g1 (some ⟨g2, 0, none⟩) a3 m c3 (List.replicate m 0) ∧ Below w.heap.size w w'

set_option maxRecDepth 100000 in
set_option maxHeartbeats 8000000 in
theorem treesOf_any (n m : Nat) (hnm : n = m + 1) (hm : m < 5) (w : World) : Calls Try.prog 116 #[.int .i64 (n : Int)] w (RetRows w (allTrees m)) := by
  have hmk := run_mk m (by omega)
  have e1 : (n : Int) - 1 = (m : Int) := by omega
  have hwr : IntKind.i64.wrap ((n : Int) - 1) = (m : Int) := by rw [e1]; exact IntWalk.i64_in _ (by omega)
  have hbe : ((n : Int) == 0) = false := by simp; omega
  have HNM := hid hnm
  have hn1 : n ≤ m + 1 := by omega
  have hn2 : m + 1 ≤ n := by omega
  clear hnm e1
  go_enter Try.func116, Try.ntmps116
  go_wp2_with fail
  refine Code.wp_mono (Q := RegPostW w n m) ?_ ?_
  · rintro e a w1 ⟨rfl, g1, g2, g0, a3, c3, rfl, T, hb1⟩
    obtain ⟨N, hN⟩ : ∃ N, (m + 2) ^ m = N := ⟨_, rfl⟩
    have hN5 : N ≤ 1296 := by
      have : ∀ m, m < 5 → (m + 2) ^ m ≤ 1296 := by decide
      rw [← hN]; exact this m hm
    have HC : Hid (streetCnt n n = N) := hid (by rw [streetCnt_self n (by omega)]; unfold cnt; rw [if_neg (by omega), ← hN, HNM.out]; simp)
    have HT := hid (fun k (hk : k < N) => allTrees_take hm (by rw [hN]; exact hk))
    have HL : Hid ((allTrees m).length = N) := hid (by rw [length_allTrees hm, hN])
    have HWL : Hid ((wordsL m).length = N) := hid (by rw [words_len hm, hN])
    have HWG := hid (fun k (hk : k < N) => words_get hm (by rw [hN]; exact hk))
    have HLS := hid (SeqTo.at [] (words_seq m))
    have HWD := hid (fun k => dg_word (m := m) (k := k) hm)
    have hs1 := hb1.size
    clear hN hmk
    go_wp2_with (go_at_call 128; refine (streetN_any n n _ (by omega) (by omega)).mono ?_; rintro e w' ⟨rfl, rfl⟩; rw [HC.out])
    have lt1 := T.l.lt
    have lt2 := T.lo.lt
    have lt3 := T.hi.lt
    go_loopw [6, 24] (fun o i wr => ∃ (k : Nat) (a' : Option Addr) (cap' : Nat) (rs : List Rw) (zs : List Int), k ≤ N ∧ i = .int .i64 k ∧ o = .slice a' k cap' ∧ OwnR wr w1.heap.size a' k cap' rs ∧ Hid (numsOf rs = (allTrees m).take k) ∧
      TriW wr w.heap.size m g1 (some ⟨g2, 0, none⟩) a3 m c3 zs ∧ Hid (k < N → zs = (wordsL m).getD k []) ∧ Hid (∀ x ∈ zs, 0 ≤ x) ∧ Below w.heap.size w wr ∧ w1.heap.size ≤ wr.heap.size) (fun _ i _ => N - (intOf i).toNat)
    case atStart => exact ⟨0, none, 0, [], _, Nat.zero_le _, rfl, rfl, OwnR.nil _ _, hid rfl, T, hid (fun _ => HLS.out.1.symm), hid (fun x hx => by have := List.eq_of_mem_replicate hx; omega), hb1, Nat.le_refl _⟩
    case round =>
      clear T
      obtain ⟨k, a', cap', rs, zs, hk, rfl, rfl, hor, HNU, T, HZ, HZN, hb, hsz⟩ := hrel
      by_cases hlt : k < N
      · have hzd : zs = dg (m + 2) k m := by rw [HZ.out hlt, HWG.out k hlt]
        have hw : Word zs (m + 1) := by rw [hzd]; exact HWD.out k
        have HZD := hid hzd
        have HW := hid hw
        clear hzd hw
        go_wp2_with fail
        refine (treeOfWord_any _ _ _ _ _ T.l.has HW.out).mono ?_
        rintro e w5 ⟨a5, c5, rfl, o5, hb5⟩
        go_wp2_with (at_builtin; refine wpList_append_row wr w5 rfl _ _ rfl w1.heap.size _ _ _ _ _ _ _ _ rfl rfl hor hb5 o5 (by omega) hsz ?_; intro a6 c6 w6 o6 hb6)
        have T6 : TriW w6 w.heap.size m g1 (some ⟨g2, 0, none⟩) a3 m c3 zs := ⟨(T.l.below hb5 (Nat.le_refl _)).belowB hb6 lt1, (T.lo.below hb5 (Nat.le_refl _)).belowB hb6 lt2, (T.hi.below hb5 (Nat.le_refl _)).belowB hb6 lt3, T.ne2, T.ne3⟩
        have hb06 := (hb.trans (hb5.mono hb.size)).trans (hb6.mono hs1)
        have hsz6 := hb6.size
        have hsz5 := hb5.size
        have STEP := hid (stepApart_any w.heap.size _ _ _ m m m c3 zs _ _ w6 T6.l T6.lo.has T6.hi.has T6.ne2 T6.ne3 (fun i hi => by rw [nth_rep hi]; omega) (fun i hi => HZN.out _ (nth_mem (by rw [T6.l.len]; exact hi))))
        clear hor T hb5 hb6 o5
        refine STEP.out.mono ?_
        rintro e w7 ⟨rfl, oc7, hm7⟩
        have o7 := o6.marked_gt hm7 lt1
        have T7 : TriW w7 w.heap.size m g1 (some ⟨g2, 0, none⟩) a3 m c3 _ := ⟨oc7, T6.lo.marked_ne hm7 (T6.ne2 _ rfl), T6.hi.marked_ne hm7 (T6.ne3 _ rfl), T6.ne2, T6.ne3⟩
        have hbm := hm7.below T6.l.ge hb06.size
        have hb07 := hb06.trans hbm
        have hszm := hbm.size
        clear STEP o6 T6 hm7 oc7
        go_wp2_with fail
        go_roundw
        case rel =>
          refine ⟨k + 1, a6, c6, _, _, by omega, by go_num, rfl, o7, hid ?_, T7, hid (fun hlt2 => ?_), hid (stepC_nonneg _ _ _ HZN.out (fun x hx => by have := List.eq_of_mem_replicate hx; omega)), hb07, by have := hbm.size; have := hb06.size; omega⟩
          · rw [numsOf_append, HNU.out, HT.out k hlt, ← HZD.out]
            rfl
          · rw [HZ.out hlt]
            exact HLS.out.2 k (by rw [HWL.out]; exact hlt2)
        case measure => simp [intOf]; omega
      · obtain rfl : k = N := by omega
        go_wp2_with fail
        go_ret
        exact ⟨_, _, _, _, rfl, hor.mono hs1, by rw [HNU.out, List.take_of_length_le (by rw [HL.out]; exact Nat.le_refl _)], hb⟩
  · go_region_held3 (fun _ => True) (trivial) (first | (go_at_call 147; refine (repeat_any _ 1 m (n : Int) _ (has_cell (by simp; try omega) (by first | exact lit0 _ _ _ _ (by simp) | exact lit1 _ _ _ _ _ (by simp) | exact lit2 _ _ _ _ _ _ (by simp))) (by omega)).mono ?_; rintro e w' ⟨a', cap', rfl, hown, hbw⟩))
    all_goals
      have hsz := hbw.size
      simp at hsz
      have hnm : (n : Int) = (m : Int) + 1 := by omega
      rw [hnm] at hown
      refine ⟨rfl, _, _, _, _, _, rfl, ⟨?_, ?_, ?_, ?_, ?_⟩, ?_⟩
      · repeat (first | ((with_reducible refine own_mk ?_ ?_ ?_) <;> first | omega | (simp; done) | (simp; omega)) | with_reducible refine Own.dr ?_ | with_reducible refine Own.al ?_ _ | with_reducible refine Own.ct hbw ?_)
      · repeat (first | ((with_reducible refine own_mk ?_ ?_ ?_) <;> first | omega | (simp; done) | (simp; omega)) | with_reducible refine Own.dr ?_ | with_reducible refine Own.al ?_ _ | with_reducible refine Own.ct hbw ?_)
      · repeat (first | ((with_reducible refine hown.mono ?_); focus (first | (simp; done) | (simp; omega))) | with_reducible refine Own.al ?_ _)
      · intro g e q hq; cases e; cases hq; simp; try omega
      · intro g e q hq; cases e
        have hg3 := hown.ge q hq
        have hl3 := hown.lt q hq
        simp at hg3
        omega
      · repeat (first | with_reducible exact Below.refl _ _ | ((with_reducible refine below_al ?_ ?_); (focus first | omega | (simp; omega) | simp)) | with_reducible refine below_dr ?_ | ((with_reducible refine below_ct hbw ?_ ?_); (focus first | omega | (simp; omega) | simp)))

set_option maxHeartbeats 400000 in
theorem implAllTrees_any (n : Int) (w : World) : Calls Try.prog 40 #[.int .i64 n] w (PostRows w (allTr n)) := by
  by_cases h1 : 1 ≤ n
  · by_cases h2 : n ≤ 5
    · obtain ⟨p, rfl⟩ : ∃ p : Nat, n = (p : Int) := ⟨n.toNat, by omega⟩
      obtain ⟨m, hpm⟩ : ∃ m, p = m + 1 := ⟨p - 1, by omega⟩
      have hm : m < 5 := by omega
      have HR : Hid (allTr p = (allTrees m, true)) := hid (by rw [allTr_yes (inB_iff.2 ⟨h1, h2⟩), show (p : Int).toNat - 1 = m by omega])
      have HP := hid hpm
      clear hpm
      go_enter Try.func40, Try.ntmps40
      go_wp2_with fail
      refine (treesOf_any p m HP.out hm _).mono ?_
      rintro e w2 ⟨a2, q, cap2, rs, rfl, hown2, hn2, hb2⟩
      go_wp2_with fail
      go_ret2
      exact postRows HR.out hown2 hn2 hb2
    · have HR : Hid (allTr n = ([], false)) := hid (allTr_no (by rw [inB_iff]; omega))
      go_enter Try.func40, Try.ntmps40
      go_wp2_with fail
      go_ret2
      exact postRows_no HR.out (Below.refl _ _)
  · have HR : Hid (allTr n = ([], false)) := hid (allTr_no (by rw [inB_iff]; omega))
    go_enter Try.func40, Try.ntmps40
    go_wp2_with fail
    go_ret2
    exact postRows_no HR.out (Below.refl _ _)
end Go.Proofs.Ytlfbmpgjhnpceab

namespace Go.Proofs.Ytlfbmpgjhnpceab
open Go.RowKit

theorem treesNone_any (w : World) : Calls Try.prog 116 #[.int .i64 0] w (RetRows w [[]]) := by
  go_enter Try.func116, Try.ntmps116
  go_wp2_with fail
  go_ret
  exact ⟨_, 1, 1, [⟨none, 0, []⟩], rfl, ownR_lit1 (Own.nil _ _) (Nat.le_refl _), rfl, (Below.refl _ _).alloc (Nat.le_refl _) _⟩
theorem treesFor_any (p : Nat) (h5 : p ≤ 5) (w : World) : Calls Try.prog 116 #[.int .i64 (p : Int)] w (RetRows w (treesL p)) := by
  by_cases h0 : p = 0
  · subst h0
    exact treesNone_any w
  · rw [treesL, if_neg h0]
    exact treesOf_any p (p - 1) (by omega) (by omega) w

set_option maxRecDepth 100000 in
set_option maxHeartbeats 2000000 in
theorem implByInv_any (n : Int) (w : World) : Calls Try.prog 42 #[.int .i64 n] w (PostInts w (byInvOf n)) := by
  by_cases h1 : 0 ≤ n
  · by_cases h2 : n ≤ 5
    · obtain ⟨p, rfl⟩ : ∃ p : Nat, n = (p : Int) := ⟨n.toNat, by omega⟩
      have h5 : p ≤ 5 := by omega
      have HR : Hid (byInvOf p = (byInv p, true)) := hid (by simp [byInvOf, inB_iff.2 ⟨h1, h2⟩])
      have HTL := hid (length_invTs h5)
      obtain ⟨M, hM, hM20, hM2, hM10⟩ := pairs_int h5
      have hd2 : (M : Int).tdiv 2 = ((pairsN p : Nat) : Int) := by rw [← hM2]; rfl
      obtain ⟨K, hK⟩ : ∃ K, pairsN p = K := ⟨_, rfl⟩
      rw [hK] at hM10 hd2
      have HK := hid hK
      clear hK hM2
      have HC : Hid ((K : Int) + 1 = ((K + 1 : Nat) : Int)) := hid (by omega)
      have hq := treesQ_le h5
      have HT5 := hid h5
      have HTR := hid (treesFor_any p h5)
      go_enter Try.func42, Try.ntmps42
      go_wp2_with ((at_make; refine wpList_make_ints _ rfl _ _ rfl (K + 1) (by rw [← HC.out]; rfl) (by rw [← HC.out]; rfl) (by omega) ?_; intro a1 cap1 w1 hown1 hb1))
      refine (HTR.out w1).mono ?_
      rintro e w2 ⟨a2, q, cap2, rs, rfl, hown2, hn2, hb2⟩
      obtain ⟨hqq, hrow⟩ := rows_trees h5 hn2 hown2.len
      have HROW := hid hrow
      have HQ := hid hqq
      have hd : q ≤ 1296 := by omega
      have ho1 := hown1.below hb2 (Nat.le_refl _)
      obtain ⟨g1, rfl, hg1, hg2, -, -⟩ := hown1.opened (by omega)
      have hbw := hb1.trans (hb2.mono hb1.size)
      have HGE := hid (fun i (hi : i < q) => (show ∀ x, (nthR rs i).a = some x → x.block ≠ g1 from fun x hx => by
        have := (hown2.2.2.2.1 i hi).ge x hx
        omega))
      have HRR := hid hown2.has
      have HGA := hid (show ∀ x, a2 = some x → x.block ≠ g1 from fun x hx => by
        subst hx
        have := (hown2.1.lt x.block rfl).1
        omega)
      have HH0 := hid (hist5_first (invTs p) (K + 1))
      have hlt2 : g1 < w2.heap.size := Nat.lt_of_lt_of_le hg2 hb2.size
      clear hn2 hqq hrow hown2 hown1 hb1 hb2 hq hM hd2
      go_wp2_with fail
      go_loopw [25] (fun i wr => ∃ (k : Nat) (zs : List Int), k ≤ q ∧ i = .int .i64 (k : Int) ∧ Own wr w.heap.size (some ⟨g1, 0, none⟩) (K + 1) cap1 zs ∧ Hid (Hist5 (invTs p) (K + 1) k zs) ∧ w2.grownBy wr (some g1)) (fun i _ => q - (intOf i).toNat)
      case atStart => exact ⟨0, _, Nat.zero_le _, rfl, ho1, HH0, World.grownBy.refl _ _⟩
      case round =>
        clear ho1 HH0
        obtain ⟨k, zs, hk, rfl, hz, HH, hgr⟩ := hrel
        by_cases hkq : k < q
        · have p1 := HROW.out k hkq
          obtain ⟨r0, r1, r2, r3, r4, r5⟩ := HRR.out
          obtain ⟨b, off, rfl, hbb, hc⟩ := r4 (by omega)
          have hbg := HGA.out _ rfl
          have hck : wr.cell? ⟨b, off + k, none⟩ = some (nthR rs k).v := hgr.cell (hc k hkq) (by simpa using hbg)
          have hrow := (r5 k hkq).kept hgr (HGE.out k hkq)
          obtain ⟨ht, d, hd, hdp, hdn, hic⟩ := invTs_facts h5 (by rw [← HQ.out]; exact hkq) p1
          rw [HK.out] at hdp
          have p2 := ht.len
          rw [p2] at hrow
          unfold Rw.v at hck
          rw [p2] at hck
          have HH2 := hid (hist5_step HH.out (by rw [HTL.out, ← HQ.out]; exact hkq) hdn hdp hz.len)
          obtain ⟨z0, z1⟩ := hist5_le HH.out hdp (by rw [HTL.out, ← HQ.out]; omega)
          rw [HTL.out, ← HQ.out] at z1
          have HD := hid hd
          have HTT := hid hic
          generalize (nthR rs k).xs = xs at *
          generalize (nthR rs k).a = ax at *
          generalize (nthR rs k).c = cx at *
          have HL := hid (implInvs_any ax p cx xs wr hrow)
          clear hc r0 r1 r2 r3 r4 r5 p1 p2 hd hdn hrow ht hic
          go_wp2_with fail
          refine HL.out.mono ?_
          rintro e w5 ⟨rfl, hb5⟩
          rw [HTT.out]
          have hz5 := hz.below hb5 (Nat.le_refl _)
          obtain ⟨g', hga, -, -, hcg, hfg⟩ := hz5.opened (by omega)
          cases hga
          have hgd := hcg d hdp
          have hgf := hfg d
          have hdi : (d : Int) < ((K + 1 : Nat) : Int) := by omega
          have hdi2 : (d : Int) < (K : Int) + 1 := by omega
          have hdz : (0 : Int) ≤ (d : Int) := by omega
          clear hcg hfg
          go_wp2_with fail
          go_roundw
          case rel => exact ⟨k + 1, _, by omega, by go_num, (hz5.set d _).1, HH2, grownI_set (grownI_on hgr hb5) _⟩
          case measure => simp [intOf]; omega
        · obtain rfl : k = q := by omega
          have HF := hid (hist_inv (n := p) (by rw [HK.out]; exact HH.out) (by rw [HTL.out, HQ.out]) (by rw [hz.len, HK.out]))
          go_wp2_with fail
          go_ret2
          exact postInts (by rw [HR.out, ← HF.out]) hz (hbw.trans (below_grown hgr hbw.size (fun j hj => by cases hj; exact hg1)))
    · have HR : Hid (byInvOf n = ([], false)) := hid (by have : ¬ inB n 0 5 = true := by rw [inB_iff]; omega
                                                         simp [byInvOf, this])
      go_enter Try.func42, Try.ntmps42
      go_wp2_with fail
      go_ret2
      exact postInts_no HR.out (Below.refl _ _)
  · have HR : Hid (byInvOf n = ([], false)) := hid (by have : ¬ inB n 0 5 = true := by rw [inB_iff]; omega
                                                       simp [byInvOf, this])
    go_enter Try.func42, Try.ntmps42
    go_wp2_with fail
    go_ret2
    exact postInts_no HR.out (Below.refl _ _)
end Go.Proofs.Ytlfbmpgjhnpceab

