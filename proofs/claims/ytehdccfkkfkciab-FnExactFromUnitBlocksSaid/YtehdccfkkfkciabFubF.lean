/- Chapter 9: FromUnitBlocks, by the contracts of the functions. -/
import Derived.Test.YtehdccfkkfkciabMathVq
import Derived.Test.YtehdccfkkfkciabMathUa
import Derived.Test.YtehdccfkkfkciabMathO
import Derived.Test.YtehdccfkkfkciabHelp2
import Derived.Test.YtehdccfkkfkciabRowA
import Derived.Test.YtehdccfkkfkciabLawKit
import Derived.Maps.AppendAt
import Derived.Test.YtehdccfkkfkciabMathG
import Derived.Test.YtehdccfkkfkciabSpecS
import Derived.StillTailTactics
import Derived.Test.YtehdccfkkfkciabImplC
import Derived.Test.YtehdccfkkfkciabPartsA
import Derived.Test.YtehdccfkkfkciabSpecFr
import Derived.Test.YtehdccfkkfkciabWkF
import Derived.BigQuiet
import Derived.Test.YtehdccfkkfkciabSpecD
import Derived.Test.YtehdccfkkfkciabShelfG
import Derived.Lib.AppendZeros
import Derived.Laws.AppendOwn
import Derived.Test.YtehdccfkkfkciabShelf
import Derived.Sort.OwnSortedInts
import Derived.Test.YtehdccfkkfkciabImplA
namespace Go.Proofs.Ytehdccfkkfkciab
open Go.RowKit

/-! ### Blocks -/
def addLast (L : List (List Int)) (v : Int) : List (List Int) := L.dropLast ++ [L.getLast?.getD [] ++ [v]]
def blk (xs ls : List Int) : Nat → List (List Int)
  | 0 => []
  | k + 1 => if nth xs (nth ls k).toNat = (k : Int) then blk xs ls k ++ [[nth ls k]] else addLast (blk xs ls k) (nth ls k)
theorem addLast_snoc (L : List (List Int)) (r : List Int) (v : Int) : addLast (L ++ [r]) v = L ++ [r ++ [v]] := by simp [addLast]
def unitBlocksOf (xs : List Int) : List (List Int) × Bool := if isPark xs && unitB xs 1 then (blk xs (fairL xs) xs.length, true) else ([], false)
theorem fair_bounds {xs : List Int} (h : isPark xs = true) : ∀ c, c < xs.length → 0 ≤ nth xs c ∧ nth xs c < ((12 : Nat) : Int) := fun c hc => by
  have h1 := isPark_bounds h
  have := h1.2 _ (nth_mem hc)
  omega
theorem fair_perm {xs : List Int} (h : isPark xs = true) : (fairL xs).Perm (upto xs.length) := carsP_perm rfl (by have := (isPark_bounds h).1; omega) (fair_bounds h)
theorem fair_length {xs : List Int} (h : isPark xs = true) : (fairL xs).length = xs.length := by rw [(fair_perm h).length_eq, length_upto]
theorem keyC_le {xs : List Int} {u v : Int} (hu : 0 ≤ u) (hu2 : u < 50) (hv : 0 ≤ v) (hv2 : v < 50) (h : keyC xs u ≤ keyC xs v) : nth xs u.toNat ≤ nth xs v.toNat := by
  unfold keyC at h
  omega
/-- In the order by favourites, favourites do not fall. -/
theorem fair_sorted {xs : List Int} {n P : Nat} (hl : xs.length = n) (h8 : n ≤ 50) (hb : ∀ c, c < n → 0 ≤ nth xs c ∧ nth xs c < (P : Int)) : ((carsTo xs P).map fun c => nth xs c.toNat) = insSort xs := by
  have hp := carsP_perm hl h8 hb
  refine sorted_unique ?_ (insSort_sorted xs) ?_
  · rw [List.pairwise_map]
    refine (carsTo_sorted (by omega) (fun c hc => (hb c (by omega)).1) P).imp_of_mem fun {a b} ha hb' h => ?_
    obtain ⟨i, hi, rfl⟩ := mem_upto.1 (hp.subset ha)
    obtain ⟨j, hj, rfl⟩ := mem_upto.1 (hp.subset hb')
    exact keyC_le (by omega) (by omega) (by omega) (by omega) (by omega)
  · refine (hp.map _).trans ?_
    rw [← hl, ← self_upto xs]
    exact (insSort_perm xs).symm
theorem fair_at {xs : List Int} (h : isPark xs = true) {k : Nat} (hk : k < xs.length) : nth xs (nth (fairL xs) k).toNat = nth (insSort xs) k := by
  have h8 := (isPark_bounds h).1
  rw [← fair_sorted rfl (by omega) (fair_bounds h)]
  have hl := fair_length h
  unfold fairL at hl ⊢
  generalize carsTo xs 12 = ls at *
  simp [nth, hl, hk]
theorem app_congr {α : Type} {A B C D : List α} (h1 : A = B) (h2 : C = D) : A ++ C = B ++ D := by rw [h1, h2]
set_option maxHeartbeats 1000000 in
theorem blk_step {xs : List Int} (h : isPark xs = true) : ∀ k, k ≤ xs.length → blk xs (fairL xs) k = ((List.range k).filter (st xs)).map (grp xs ((fairL xs).take k))
  | 0, _ => rfl
  | k + 1, hk => by
    have ih := blk_step h k (by omega)
    have hl := fair_length h
    have hv : (fairL xs).take (k + 1) = (fairL xs).take k ++ [nth (fairL xs) k] := take_succ_nth (by omega)
    have hs := fair_at h (k := k) (by omega)
    have hps := park_sorted h k (by omega)
    have hst := st_at h (b := k) (by omega)
    obtain ⟨c, hc, hcn⟩ := carsP_nth rfl (by have := (isPark_bounds h).1; omega) (fair_bounds h) (k := k) (by omega)
    have hc : nth (fairL xs) k = (c : Int) := hc
    rw [blk, hs, hv, List.range_succ, List.filter_append]
    have hbc : begC xs (nth (fairL xs) k) = begF xs (nth (insSort xs) k).toNat := by unfold begC; rw [hs]
    by_cases e : nth (insSort xs) k = (k : Int)
    · have hsk := hst.2 e
      rw [if_pos e, ih]
      have e1 : begC xs (nth (fairL xs) k) = k := by
        rw [hbc, e, Int.toNat_natCast]
        exact begF_stop ((st_iff h (by omega)).1 hsk)
      have e2 : ([k].filter (st xs)) = [k] := by simp [hsk]
      rw [e2, List.map_append, List.map_singleton]
      refine app_congr ?_ ?_
      · refine List.map_congr_left fun a ha => ?_
        have := List.mem_range.1 (List.mem_filter.1 ha).1
        rw [grp_snoc, if_neg (by omega)]
      · rw [grp_snoc, if_pos e1]
        have : grp xs ((fairL xs).take k) k = [] := by
          unfold grp
          rw [List.filter_eq_nil_iff]
          intro u hu
          obtain ⟨j, hj, rfl⟩ := mem_nth hu
          have hjk : j < k := by rw [List.length_take] at hj; omega
          rw [nth_take hjk]
          have h1 := fair_at h (k := j) (by omega)
          have h2 := park_sorted h j (by omega)
          have h3 := begF_le xs (nth xs (nth (fairL xs) j).toNat).toNat
          unfold begC
          simp only [decide_eq_true_eq]
          omega
        rw [this]
        rfl
    · have hsk : st xs k = false := by rw [Bool.eq_false_iff]; exact fun hh => e (hst.1 hh)
      have hk0 : 0 < k := by
        rcases Nat.eq_zero_or_pos k with rfl | h0
        · exfalso; apply e; omega
        · exact h0
      have e2 : ([k].filter (st xs)) = [] := by simp [hsk]
      rw [if_neg e, e2, List.append_nil, ih]
      have h0 : st xs 0 = true := (st_iff h (Nat.zero_le _)).2 (by rw [show ((0 : Nat) : Int) = 0 from rfl, below_zero (fun x hx => ((isPark_bounds h).2 x hx).1)]; omega)
      have hne : (List.range k).filter (st xs) ≠ [] := List.ne_nil_of_mem (a := 0) (List.mem_filter.2 ⟨List.mem_range.2 hk0, h0⟩)
      have hsp := List.dropLast_concat_getLast hne
      have hlt : ((List.range k).filter (st xs)).Pairwise (· < ·) := List.Pairwise.filter _ List.pairwise_lt_range
      have hma := List.getLast_mem hne
      have hmem : ∀ z, z < k → st xs z = true → z ∈ (List.range k).filter (st xs) := fun z h1 h2 => List.mem_filter.2 ⟨List.mem_range.2 h1, h2⟩
      have hall : ∀ z ∈ (List.range k).filter (st xs), z < k ∧ st xs z = true := fun z hz => ⟨List.mem_range.1 (List.mem_filter.1 hz).1, (List.mem_filter.1 hz).2⟩
      generalize (List.range k).filter (st xs) = F at *
      generalize F.getLast hne = a at *
      generalize F.dropLast = G at *
      subst hsp
      rw [List.pairwise_append] at hlt
      have hGa : ∀ g ∈ G, g < a := fun g hg => hlt.2.2 g hg a (by simp)
      obtain ⟨ha1, ha2⟩ := hall a hma
      have e1 : begC xs (nth (fairL xs) k) = a := by
        rw [hbc]
        have q1 := (st_at h (b := a) (by omega)).1 ha2
        have q2 := sorted_nth (insSort_sorted xs) (i := a) (j := k) (by omega) (by rw [length_insSort]; omega)
        refine begF_eq h (by omega) (by omega) ha2 fun z h1 h2 => ?_
        rw [Bool.eq_false_iff]
        intro hz
        rcases List.mem_append.1 (hmem z (by omega) hz) with h3 | h3
        · have := hGa z h3; omega
        · rw [List.mem_singleton] at h3; omega
      rw [List.map_append, List.map_singleton, addLast_snoc, List.map_append, List.map_singleton]
      refine app_congr ?_ ?_
      · refine List.map_congr_left fun g hg => ?_
        have := hGa g hg
        rw [grp_snoc, if_neg (by omega)]
      · rw [grp_snoc, if_pos e1]
theorem blk_rows {xs : List Int} (h : isPark xs = true) : blk xs (fairL xs) xs.length = partRows xs (fairL xs) := by
  rw [blk_step h _ (Nat.le_refl _), partRows_starts h (fair_perm h), List.take_of_length_le (by rw [fair_length h]; exact Nat.le_refl _)]
  rfl
end Go.Proofs.Ytehdccfkkfkciab

namespace Go.Proofs.Ytehdccfkkfkciab
open Go.RowKit

def blkAt (bs : List (List Int)) (k : Nat) : List Int := bs.getD k []
def lenTo (bs : List (List Int)) : Nat → Nat
  | 0 => 0
  | k + 1 => lenTo bs k + (blkAt bs k).length
def flatTo (bs : List (List Int)) : Nat → List Int
  | 0 => []
  | k + 1 => flatTo bs k ++ blkAt bs k
def nonTo (bs : List (List Int)) (k : Nat) : Bool := (List.range k).all fun j => decide (0 < (blkAt bs j).length)
def plIn (f : Nat) (b ys : List Int) : Nat → List Int
  | 0 => ys
  | i + 1 => (plIn f b ys i).set (nth b i).toNat ((f : Int) + ((i - 1 : Nat) : Int))
def plTo (n : Nat) (bs : List (List Int)) : Nat → List Int
  | 0 => List.replicate n 0
  | k + 1 => plIn (lenTo bs k) (blkAt bs k) (plTo n bs k) (blkAt bs k).length
def okBl (bs : List (List Int)) : Bool := nonTo bs bs.length && outB (flatTo bs bs.length)
def placeBl (bs : List (List Int)) : List Int := plTo (lenTo bs bs.length) bs bs.length
def fromUnit (bs : List (List Int)) : List Int × Bool := if okBl bs = true ∧ unitBlocksOf (placeBl bs) = (bs, true) then (placeBl bs, true) else ([], false)
theorem blkAt_nums {rs : List Rw} {k : Nat} (h : k < rs.length) : blkAt (numsOf rs) k = (nthR rs k).xs := by
  have h1 : (numsOf rs)[k]? = some (nthR rs k).xs := map_nthR Rw.xs h
  unfold blkAt
  rw [List.getD_eq_getElem?_getD, h1]
  rfl
theorem length_flatTo (bs : List (List Int)) : ∀ k, (flatTo bs k).length = lenTo bs k
  | 0 => rfl
  | k + 1 => by rw [flatTo, lenTo, List.length_append, length_flatTo bs k]
theorem lenTo_mono (bs : List (List Int)) {k : Nat} : ∀ m, lenTo bs k ≤ lenTo bs (k + m)
  | 0 => Nat.le_refl _
  | m + 1 => Nat.le_trans (lenTo_mono bs m) (Nat.le_add_right _ _)
theorem nonTo_succ {bs : List (List Int)} {k : Nat} : nonTo bs (k + 1) = (nonTo bs k && decide (0 < (blkAt bs k).length)) := by simp [nonTo, List.range_succ]
theorem nonTo_no {bs : List (List Int)} {k m : Nat} (hk : k < m) (h : (blkAt bs k).length = 0) : nonTo bs m = false := by
  unfold nonTo
  rw [List.all_eq_false]
  exact ⟨k, by simpa using hk, by simp [h]⟩
theorem nonTo_len {bs : List (List Int)} : ∀ {k : Nat}, nonTo bs k = true → k ≤ lenTo bs k
  | 0, _ => Nat.le_refl _
  | k + 1, h => by
    rw [nonTo_succ, Bool.and_eq_true, decide_eq_true_eq] at h
    have := nonTo_len h.1
    rw [lenTo]
    omega
theorem length_plIn (f : Nat) (b ys : List Int) : ∀ i, (plIn f b ys i).length = ys.length
  | 0 => rfl
  | i + 1 => by rw [plIn, List.length_set, length_plIn f b ys i]
theorem length_plTo (n : Nat) (bs : List (List Int)) : ∀ k, (plTo n bs k).length = n
  | 0 => by simp [plTo]
  | k + 1 => by rw [plTo, length_plIn, length_plTo n bs k]
/-- Different numbers below n. -/
def preB (n : Nat) (s : List Int) : Prop := s.Nodup ∧ ∀ x ∈ s, 0 ≤ x ∧ x < (n : Int)
theorem pre_snoc {n : Nat} {s : List Int} {x : Int} (h : preB n s) (hx : 0 ≤ x ∧ x < (n : Int)) (hn : x ∉ s) : preB n (s ++ [x]) := by
  refine ⟨?_, fun y hy => ?_⟩
  · rw [List.nodup_append]
    refine ⟨h.1, by simp, fun a ha b hb => ?_⟩
    rw [List.mem_singleton] at hb
    subst hb
    rintro rfl
    exact hn ha
  · rcases List.mem_append.1 hy with hy | hy
    · exact h.2 y hy
    · rw [List.mem_singleton] at hy; subst hy; exact hx
theorem out_pre {xs : List Int} : outB xs = true ↔ xs.length ≤ 8 ∧ preB xs.length xs := by
  constructor
  · intro h
    have h1 := out_le h
    unfold outB at h
    rw [Bool.and_eq_true, carsB_iff] at h
    have h2 := nodup_take _ (Nat.le_refl _) h.2
    rw [List.take_length] at h2
    exact ⟨h1, h2, fun x hx => by have := h.1.2 x hx; omega⟩
  · rintro ⟨h1, h2, h3⟩
    unfold outB
    rw [Bool.and_eq_true, carsB_iff]
    refine ⟨⟨h1, fun x hx => by have := h3 x hx; omega⟩, ?_⟩
    unfold distB
    rw [List.all_eq_true]
    intro i hi
    rw [List.mem_range] at hi
    rw [Bool.not_eq_true', Bool.eq_false_iff]
    intro hh
    have hm : nth xs i ∈ xs.take i := by simpa [hasB] using hh
    have h4 : xs = xs.take i ++ nth xs i :: xs.drop (i + 1) := by
      conv => lhs; rw [← List.take_append_drop i xs]
      rw [List.drop_eq_getElem_cons hi]
      simp [nth, hi]
    rw [h4, List.nodup_append] at h2
    exact h2.2.2 _ hm _ List.mem_cons_self rfl
theorem flat_prefix (bs : List (List Int)) {k : Nat} : ∀ m, flatTo bs k <+: flatTo bs (k + m)
  | 0 => List.prefix_refl _
  | m + 1 => (flat_prefix bs m).trans (List.prefix_append _ _)
theorem flat_part (bs : List (List Int)) {k q : Nat} (hk : k < q) (i : Nat) : flatTo bs k ++ (blkAt bs k).take i <+: flatTo bs q := by
  have h1 : flatTo bs k ++ (blkAt bs k).take i <+: flatTo bs (k + 1) := by
    rw [flatTo]
    exact (List.prefix_append_right_inj _).2 (List.take_prefix _ _)
  have h2 := flat_prefix bs (k := k + 1) (q - (k + 1))
  rw [show k + 1 + (q - (k + 1)) = q by omega] at h2
  exact h1.trans h2
/-- Where the model and the program say no. -/
theorem from_empty {bs : List (List Int)} {k : Nat} (hk : k < bs.length) (h : (blkAt bs k).length = 0) : fromUnit bs = ([], false) := by
  unfold fromUnit
  rw [if_neg]
  rintro ⟨h1, _⟩
  unfold okBl at h1
  rw [nonTo_no hk h] at h1
  simp at h1
theorem from_long {bs : List (List Int)} {k : Nat} (hk : k < bs.length) (h : 8 < lenTo bs (k + 1)) : fromUnit bs = ([], false) := by
  unfold fromUnit
  rw [if_neg]
  rintro ⟨h1, _⟩
  unfold okBl at h1
  rw [Bool.and_eq_true, out_pre, length_flatTo] at h1
  have := lenTo_mono bs (k := k + 1) (bs.length - (k + 1))
  rw [show k + 1 + (bs.length - (k + 1)) = bs.length by omega] at this
  omega
theorem from_range {bs : List (List Int)} {k i : Nat} (hk : k < bs.length) (hi : i < (blkAt bs k).length) (h : ¬ (0 ≤ nth (blkAt bs k) i ∧ nth (blkAt bs k) i < (lenTo bs bs.length : Int))) : fromUnit bs = ([], false) := by
  unfold fromUnit
  rw [if_neg]
  rintro ⟨h1, _⟩
  unfold okBl at h1
  rw [Bool.and_eq_true, out_pre, length_flatTo] at h1
  refine h (h1.2.2.2 _ ((flat_part bs hk (i + 1)).subset ?_))
  rw [take_succ_nth hi]
  simp
theorem from_twice {bs : List (List Int)} {k i : Nat} (hk : k < bs.length) (hi : i < (blkAt bs k).length) (h : nth (blkAt bs k) i ∈ flatTo bs k ++ (blkAt bs k).take i) : fromUnit bs = ([], false) := by
  unfold fromUnit
  rw [if_neg]
  rintro ⟨h1, _⟩
  unfold okBl at h1
  rw [Bool.and_eq_true, out_pre] at h1
  have h2 := (flat_part bs hk (i + 1)).sublist.nodup h1.2.2.1
  rw [take_succ_nth hi, ← List.append_assoc, List.nodup_append] at h2
  exact h2.2.2 _ h _ (List.mem_singleton_self _) rfl
theorem from_other {bs : List (List Int)} (h : ¬ unitBlocksOf (placeBl bs) = (bs, true)) : fromUnit bs = ([], false) := by
  unfold fromUnit
  rw [if_neg]
  rintro ⟨_, h1⟩
  exact h h1
theorem from_yes {bs : List (List Int)} (h0 : nonTo bs bs.length = true) (h8 : lenTo bs bs.length ≤ 8) (hp : preB (lenTo bs bs.length) (flatTo bs bs.length)) (h : unitBlocksOf (placeBl bs) = (bs, true)) : fromUnit bs = (placeBl bs, true) := by
  unfold fromUnit
  rw [if_pos]
  refine ⟨?_, h⟩
  unfold okBl
  rw [h0, Bool.true_and, out_pre, length_flatTo]
  exact ⟨h8, hp⟩
theorem blks_same {bs ls : List (List Int)} (hl : ls.length = bs.length) (h : ∀ j, j < bs.length → blkAt bs j = blkAt ls j) : ls = bs := by
  apply List.ext_getElem hl
  intro i h1 h2
  have := h i h2
  unfold blkAt at this
  simp [List.getD_eq_getElem?_getD, h1, h2] at this
  exact this.symm
end Go.Proofs.Ytehdccfkkfkciab

namespace Go.Proofs.Ytehdccfkkfkciab
open Go.RowKit

/-- The rows' own block is no row's. -/
theorem hdr_ne {w : World} {B B' n cap m c : Nat} {a a2 : Option Addr} {us : List Value} {xs : List Int} (h : w.ownsRow B 25 1 (.slice a n cap) n us) (h2 : Own w B' a2 m c xs) : ∀ p q, a = some p → a2 = some q → p.block ≠ q.block := by
  rintro p q rfl rfl e
  rcases h.2 with ⟨hv, _⟩ | ⟨g1, cap1, cur1, hv1, _, hh1, _⟩
  · simp at hv
  · simp at hv1
    rcases h2.1.2 with ⟨hv2, _⟩ | ⟨g2, cap2, cur2, hv2, _, hh2, _⟩
    · simp at hv2
    · simp at hv2
      rw [hv1.1, hv2.1] at e
      simp at e
      rw [e, hh2] at hh1
      simp at hh1
theorem own_other {w w' : World} {B m c g : Nat} {a2 : Option Addr} {xs : List Int} (h : Own w B a2 m c xs) (hg : w.grownBy w' (some g)) (hne : ∀ q, a2 = some q → q.block ≠ g) : Own w' B a2 m c xs := h.kept hg (.inr hne)
theorem nthR_setB {rs : List Rw} {i j : Nat} {r : Rw} (h : i < rs.length) : nthR (rs.set i r) j = if i = j then r else nthR rs j := by
  by_cases e : i = j
  · subst e; simp [nthR, h]
  · simp [nthR, e]
/-- Behind a growth of the k-th row the rows' own cells are as they were. -/
theorem OwnR.ready {w w1 : World} {B g n cap : Nat} {rs : List Rw} (h : OwnR w B (some ⟨g, 0, none⟩) n cap rs) {k : Nat} (hk : k < n) (hg : w.grownBy w1 (Value.ownBlock (.slice (nthR rs k).a (nthR rs k).xs.length (nthR rs k).c))) :
    w1.frozen? ⟨g, k, none⟩ = false ∧ w1.cell? ⟨g, k, none⟩ = some (.slice (nthR rs k).a (nthR rs k).xs.length (nthR rs k).c) := by
  have hhdr1 : w1.ownsRow B 25 1 (.slice (some ⟨g, 0, none⟩) n cap) n (rs.map Rw.v) := by
    refine h.1.kept hg ?_
    cases e : (nthR rs k).a with
    | none => right; simp [Value.ownBlock]
    | some q =>
      right
      have := hdr_ne h.1 (h.row hk) _ _ rfl e
      simpa [Value.ownBlock] using this
  have hc := hhdr1.cellAt k (by omega)
  rw [map_nthR Rw.v (by rw [h.len]; exact hk)] at hc
  exact ⟨hhdr1.frozenAt k, hc⟩
/-- The k-th row is set anew. -/
theorem OwnR.setRow {w w1 : World} {B g n cap : Nat} {rs : List Rw} (h : OwnR w B (some ⟨g, 0, none⟩) n cap rs) {k : Nat} (hk : k < n) (hg : w.grownBy w1 (Value.ownBlock (.slice (nthR rs k).a (nthR rs k).xs.length (nthR rs k).c))) {a' : Option Addr} {m' c' : Nat} {ys : List Int} (hown' : Own w1 B a' m' c' ys)
    (hloc : Value.ownBlock (.slice a' m' c') = Value.ownBlock (.slice (nthR rs k).a (nthR rs k).xs.length (nthR rs k).c) ∨ ∃ g', Value.ownBlock (.slice a' m' c') = some g' ∧ w.heap.size ≤ g') :
    OwnR (w1.setCell ⟨g, k, none⟩ (.slice a' m' c')) B (some ⟨g, 0, none⟩) n cap (rs.set k ⟨a', c', ys⟩) ∧ w1.grownBy (w1.setCell ⟨g, k, none⟩ (.slice a' m' c')) (some g) := by
  have hl := h.len
  have hm : ys.length = m' := hown'.len
  have hrk := h.row hk
  have hhdr1 : w1.ownsRow B 25 1 (.slice (some ⟨g, 0, none⟩) n cap) n (rs.map Rw.v) := by
    refine h.1.kept hg ?_
    cases e : (nthR rs k).a with
    | none => right; simp [Value.ownBlock]
    | some q =>
      right
      have := hdr_ne h.1 hrk _ _ rfl e
      simpa [Value.ownBlock] using this
  obtain ⟨s1, s2⟩ := hhdr1.stored k (.slice a' m' c')
  -- the other rows
  have other : ∀ j, j < n → j ≠ k → Own w1 B (nthR rs j).a (nthR rs j).xs.length (nthR rs j).c (nthR rs j).xs := fun j hj hjk => by
    refine ⟨(h.row hj).1.kept hg ?_, (h.row hj).2⟩
    cases e : (nthR rs j).a with
    | none => left; rfl
    | some p =>
      right
      cases e2 : (nthR rs k).a with
      | none => simp [Value.ownBlock]
      | some q =>
        have : p.block ≠ q.block := by
          rcases Nat.lt_or_gt_of_ne hjk with h5 | h5
          · exact h.2.2.2.2 j k p q h5 hk e e2
          · exact fun e3 => h.2.2.2.2 k j q p h5 hj e2 e e3.symm
        simpa [Value.ownBlock] using this
  have newOther : ∀ j, j < n → j ≠ k → ∀ p q, (nthR rs j).a = some p → a' = some q → p.block ≠ q.block := fun j hj hjk p q hp hq => by
    subst hq
    rcases hloc with h5 | ⟨g', h5, h6⟩
    · cases e2 : (nthR rs k).a with
      | none => rw [e2] at h5; simp [Value.ownBlock] at h5
      | some q' =>
        rw [e2] at h5
        simp [Value.ownBlock] at h5
        rw [h5]
        rcases Nat.lt_or_gt_of_ne hjk with h7 | h7
        · exact h.2.2.2.2 j k p q' h7 hk hp e2
        · exact fun e3 => h.2.2.2.2 k j q' p h7 hj e2 hp e3.symm
    · simp [Value.ownBlock] at h5
      have := (h.row hj).lt p hp
      omega
  refine ⟨⟨?_, by simpa using hl, h.2.2.1, fun j hj => ?_, fun i j p q hij hj hp hq => ?_⟩, s2⟩
  · have e : (rs.set k ⟨a', c', ys⟩).map Rw.v = (rs.map Rw.v).set k (.slice a' m' c') := by
      rw [List.map_set]
      simp [Rw.v, hm]
    rw [e]
    exact s1
  · rw [nthR_setB (by omega)]
    by_cases e : k = j
    · subst e
      rw [if_pos rfl]
      simp only
      rw [hm]
      exact own_other hown' s2 fun q hq e2 => hdr_ne hhdr1 hown' _ q rfl hq e2.symm
    · rw [if_neg e]
      exact own_other (other j hj (fun h => e h.symm)) s2 fun q hq e2 => hdr_ne hhdr1 (other j hj (fun h => e h.symm)) _ q rfl hq e2.symm
  · rw [nthR_setB (by omega)] at hp hq
    by_cases e1 : k = i
    · rw [if_pos e1] at hp
      by_cases e2 : k = j
      · omega
      · rw [if_neg e2] at hq
        exact fun e3 => newOther j hj (fun h => e2 h.symm) q p hq hp e3.symm
    · rw [if_neg e1] at hp
      by_cases e2 : k = j
      · rw [if_pos e2] at hq
        exact newOther i (by omega) (fun h => e1 h.symm) p q hp hq
      · rw [if_neg e2] at hq
        exact h.2.2.2.2 i j p q hij hj hp hq
end Go.Proofs.Ytehdccfkkfkciab

namespace Go.Proofs.Ytehdccfkkfkciab
open Go.RowKit

theorem chs_70 : ∀ n, n < 9 → ∀ i, i < 9 → chs n i ≤ 70 := by decide +kernel
/-- The table of those that have chosen: k kinds are done, of the next one M. -/
def Next (c : Nat → Bool) (v : Nat → Nat) (L k M : Nat) (zs : List Int) : Prop :=
  ∀ s, s ≤ L → nth zs s = if c s = true then ((chs L s * (sumTo (fun j => chs s j * v j) k + if k ≤ s ∧ s < k + M then chs s k * v k else 0) : Nat) : Int) else 0
/-- A table. -/
def Tab (v : Nat → Nat) (L : Nat) (ys : List Int) : Prop := ∀ s, s ≤ L → nth ys s = ((chs L s * v s : Nat) : Int)
theorem nth_replicate0 (n i : Nat) : nth (List.replicate n 0) i = 0 := by
  simp only [nth, List.getD_eq_getElem?_getD, List.getElem?_replicate]
  split <;> rfl
theorem next_zero (c : Nat → Bool) (v : Nat → Nat) (L : Nat) : Next c v L 0 0 (List.replicate (L + 1) 0) := fun s _ => by
  rw [nth_replicate0]
  simp [sumTo]
theorem next_skip {c : Nat → Bool} {v : Nat → Nat} {L k M : Nat} {zs : List Int} (h : Next c v L k M zs) (hc : c (k + M) = false) : Next c v L k (M + 1) zs := fun s hs => by
  rw [h s hs]
  by_cases e : s = k + M
  · subst e; simp [hc]
  · have : (k ≤ s ∧ s < k + M) = (k ≤ s ∧ s < k + (M + 1)) := by apply propext; omega
    simp only [this]
theorem next_store {c : Nat → Bool} {v : Nat → Nat} {L k M : Nat} {ys zs : List Int} (h : Next c v L k M zs) (hy : Tab v L ys) (hl : zs.length = L + 1) (h8 : L ≤ 8) (hkM : k + M ≤ L) (hc : c (k + M) = true) :
    Next c v L k (M + 1) (zs.set (k + M) (nth zs (k + M) + nth ys k * (chs (L - k) M : Int))) := fun s hs => by
  rw [nth_set (by omega)]
  by_cases e : k + M = s
  · rw [if_pos e, h _ hkM, hy k (by omega), if_pos hc, if_neg (by omega), if_pos (by rw [← e]; exact hc), if_pos (by omega)]
    subst e
    have := chs_chs L (by omega) (k + M) (by omega) k (by omega) (by omega) (by omega)
    rw [show k + M - k = M by omega] at this
    rw [Nat.add_zero, Nat.mul_add, ← Nat.mul_assoc (chs L (k + M)) (chs (k + M) k), ← this]
    simp only [Int.natCast_mul, Int.natCast_add]
    rw [Int.mul_right_comm]
  · rw [if_neg e, h s hs]
    have : (k ≤ s ∧ s < k + M) = (k ≤ s ∧ s < k + (M + 1)) := by apply propext; omega
    simp only [this]
theorem next_done {c : Nat → Bool} {v : Nat → Nat} {L k M : Nat} {zs : List Int} (h : Next c v L k M zs) (hM : L < k + M) : Next c v L (k + 1) 0 zs := fun s hs => by
  rw [h s hs, if_neg (by omega : ¬ (k + 1 ≤ s ∧ s < k + 1 + 0)), Nat.add_zero, sumTo]
  by_cases e : k ≤ s
  · rw [if_pos (show k ≤ s ∧ s < k + M from ⟨e, by omega⟩)]
  · rw [if_neg (show ¬ (k ≤ s ∧ s < k + M) by omega), chs_big s k (by omega), Nat.zero_mul]
theorem sum_past {v : Nat → Nat} {s : Nat} : ∀ L, s ≤ L → sumTo (fun j => chs s j * v j) (L + 1) = sumTo (fun j => chs s j * v j) (s + 1)
  | L, h => by
    obtain ⟨d, rfl⟩ : ∃ d, L = s + d := ⟨L - s, by omega⟩
    induction d with
    | zero => rfl
    | succ d ih =>
      rw [show s + (d + 1) + 1 = (s + d + 1) + 1 from rfl, sumTo, ih (by omega), chs_big s (s + d + 1) (by omega), Nat.zero_mul, Nat.add_zero]
theorem next_final {c : Nat → Bool} {v : Nat → Nat} {L : Nat} {zs : List Int} (h : Next c v L (L + 1) 0 zs) : Tab (fun s => if c s = true then sumTo (fun j => chs s j * v j) (s + 1) else 0) L zs := fun s hs => by
  rw [h s hs, if_neg (by omega : ¬ (L + 1 ≤ s ∧ s < L + 1 + 0)), Nat.add_zero, sum_past L hs]
  split <;> simp [*]
theorem tab_le {v : Nat → Nat} {L : Nat} {ys : List Int} (h : Tab v L ys) (h8 : L ≤ 8) (hv : ∀ s, s ≤ 8 → v s ≤ 16777216) {s : Nat} (hs : s ≤ L) : 0 ≤ nth ys s ∧ nth ys s ≤ 1174405120 := by
  rw [h s hs]
  have := Nat.mul_le_mul (chs_70 L (by omega) s (by omega)) (hv s (by omega))
  omega
theorem next_le {c : Nat → Bool} {v : Nat → Nat} {L k M : Nat} {zs : List Int} (h : Next c v L k M zs) (h8 : L ≤ 8) (hk : k ≤ L) (hv : ∀ s, s ≤ 8 → v s ≤ 16777216) {s : Nat} (hs : s ≤ L) : 0 ≤ nth zs s ∧ nth zs s ≤ 1000000000000 := by
  rw [h s hs]
  split
  · have h1 : sumTo (fun j => chs s j * v j) k ≤ sumTo (fun _ => 1174405120) k := sumTo_le fun i hi => by
      have := Nat.mul_le_mul (chs_70 s (by omega) i (by omega)) (hv i (by omega))
      omega
    have h2 : ∀ k, sumTo (fun _ => 1174405120) k = k * 1174405120 := by
      intro k
      induction k with
      | zero => rfl
      | succ k ih => simp only [sumTo]; rw [ih]; omega
    rw [h2] at h1
    have h3 : k * 1174405120 ≤ 8 * 1174405120 := Nat.mul_le_mul_right _ (by omega)
    have h4 : (if k ≤ s ∧ s < k + M then chs s k * v k else 0) ≤ 1174405120 := by
      split
      · have := Nat.mul_le_mul (chs_70 s (by omega) k (by omega)) (hv k (by omega))
        omega
      · omega
    have := Nat.mul_le_mul (chs_70 L (by omega) s (by omega)) (Nat.add_le_add (Nat.le_trans h1 h3) h4)
    omega
  · omega
theorem prod_le {v : Nat → Nat} {L : Nat} {ys : List Int} (h : Tab v L ys) (h8 : L ≤ 8) (hv : ∀ s, s ≤ 8 → v s ≤ 16777216) {s : Nat} (hs : s ≤ L) {n k : Nat} (hn : n ≤ 8) (hk : k ≤ 8) :
    0 ≤ nth ys s * (chs n k : Int) ∧ nth ys s * (chs n k : Int) ≤ 1000000000000 := by
  rw [h s hs]
  have := Nat.mul_le_mul (Nat.mul_le_mul (chs_70 L (by omega) s (by omega)) (hv s (by omega))) (chs_70 n (by omega) k (by omega))
  rw [← Int.natCast_mul]
  omega
theorem V_le8 (b : Nat → Nat) {P : Nat} (hP : P ≤ 8) : ∀ s, s ≤ 8 → V b P s ≤ 16777216 := fun s hs => by
  refine Nat.le_trans (V_le b P (by omega) s (by omega)) ?_
  have : ∀ P, P < 9 → ∀ s, s < 9 → P ^ s ≤ 16777216 := by decide +kernel
  exact this P (by omega) s (by omega)
theorem tab_step {b : Nat → Nat} {P L : Nat} {zs : List Int} (h : Next (fun s => decide (P < b P + s)) (V b P) L (L + 1) 0 zs) : Tab (V b (P + 1)) L zs := fun s hs => by
  rw [next_final h s hs]
  simp only [V, decide_eq_true_eq]
/-- A first table. -/
theorem tab_first (b : Nat → Nat) (L : Nat) : Tab (V b 0) L ((List.replicate (L + 1) 0).set 0 1) := fun s _ => by
  rw [nth_set (by simp)]
  by_cases e : s = 0
  · subst e; simp [V, chs_zero]
  · rw [if_neg (by omega), nth_replicate0]
    simp [V, e]
theorem below_upto {xs : List Int} {n : Nat} (h0 : ∀ i, i < n → 0 ≤ nth xs i) (hn : xs.length = n) : below xs 0 = 0 := by
  unfold below
  rw [List.countP_eq_zero]
  intro x hx
  obtain ⟨i, hi, rfl⟩ := mem_nth hx
  have := h0 i (by omega)
  simp
  omega
theorem pow_small : ∀ b, b < 14 → ∀ k, k < 9 → b ^ k ≤ 815730721 := by decide +kernel
end Go.Proofs.Ytehdccfkkfkciab

namespace Go.Proofs.Ytehdccfkkfkciab
open Go.RowKit

theorem cnCars_any (n : Int) (w : World) :
    Calls Try.prog 28 #[.int .i64 n] w fun e w' => e = .returned (.bool (inB n 0 8)) ∧ w = w' := by
  go_enter Try.func28, Try.ntmps28
  go_wp2_with (go_at_call 27; refine (l1In_any _ _ _ _).mono ?_; rintro e w' ⟨rfl, rfl⟩)
  go_ret
  exact ⟨rfl, rfl⟩

theorem street_small : ∀ c, c < 9 → ∀ p, p < 13 → 1 ≤ c → c ≤ p → (p + 1 - c) * (p + 1) ^ (c - 1) ≤ 815730721 := by decide +kernel

theorem chs_times : ∀ n, n < 17 → ∀ i, i < n → chs n i * (n - i) ≤ 205920 := by decide +kernel

end Go.Proofs.Ytehdccfkkfkciab

namespace Go.Proofs.Ytehdccfkkfkciab
open Go.RowKit

def greatOf (xs : List Int) (p : Int) : Int × Bool := if good xs p && allPark p xs then (greatL (dists p xs), true) else (0, false)
theorem great_bounds {ys : List Int} (h : ∀ i, i < ys.length → 0 ≤ nth ys i ∧ nth ys i ≤ 12) : ∀ k, k ≤ ys.length → 0 ≤ greatL (ys.take k) ∧ greatL (ys.take k) ≤ 12
  | 0, _ => by simp [greatL]
  | k + 1, hk => by
    have := great_bounds h k (by omega)
    have := h k (by omega)
    rw [great_succ (by omega)]
    omega
set_option maxHeartbeats 800000 in
theorem greatest_any (a : Option Addr) (n cap : Nat) (xs : List Int) (p : Int) (w : World) (h : Has w a n cap xs) :
    Calls Try.prog 63 #[.slice a n cap, .int .i64 p] w (PostInt w (greatOf xs p)) := by
  by_cases hg : (good xs p && allPark p xs) = true
  · have HR : Hid (greatOf xs p = (greatL (dists p xs), true)) := hid (by simp only [greatOf, if_pos hg])
    have HD := hid (dists_yes hg)
    clear hg
    go_enter Try.func63, Try.ntmps63
    go_wp2_with fail
    refine (distancesOf_any _ _ _ _ _ _ h).mono ?_
    rw [HD.out]
    rintro e w1 ⟨a1, m, cap1, rfl, hown, hb⟩
    have HS := hid (fun k (hk : k < m) => great_succ (ys := dists p xs) (k := k) (by rw [hown.len]; exact hk))
    have HT := hid (List.take_of_length_le (l := dists p xs) (i := m) (by rw [hown.len]; exact Nat.le_refl _))
    obtain ⟨_, h1, h2, h3, h4⟩ := hown.has
    clear hown HD
    generalize dists p xs = ys at *
    go_wp2_with fail
    go_loop [8, 21] (fun g i => ∃ (k : Nat) (v : Int), k ≤ m ∧ i = .int .i64 (k : Int) ∧ g = .int .i64 v ∧ Hid (v = greatL (ys.take k))) (fun _ i => m - (intOf i).toNat)
    case atStart => exact ⟨0, 0, Nat.zero_le _, rfl, rfl, hid rfl⟩
    case round =>
      obtain ⟨k, v, hk, rfl, rfl, HV⟩ := hrel
      by_cases hlt : k < m
      · obtain ⟨b, off, rfl, hbb, hc⟩ := h4 (by omega)
        have hck := hc k hlt
        have HS' := hid (HS.out k hlt)
        clear hc
        go_wp2_with fail
        go_round
        case rel => exact ⟨k + 1, _, by omega, by go_num, rfl, hid (by rw [HS'.out, HV.out] <;> (split <;> omega))⟩
        case measure => simp [intOf]; omega
      · obtain rfl : k = m := by omega
        go_wp2_with fail
        go_ret2
        exact postInt (by rw [HR.out, HV.out, HT.out]) hb
  · have HR : Hid (greatOf xs p = (0, false)) := hid (by simp only [greatOf, if_neg hg])
    have HD := hid (dists_no hg)
    clear hg
    go_enter Try.func63, Try.ntmps63
    go_wp2_with fail
    refine (distancesOf_any _ _ _ _ _ _ h).mono ?_
    rw [HD.out]
    rintro e w1 ⟨a1, m, cap1, rfl, hown, hb⟩
    go_wp2_with fail
    go_ret2
    exact postInt HR.out hb
end Go.Proofs.Ytehdccfkkfkciab

namespace Go.Proofs.Ytehdccfkkfkciab
open Go.RowKit

/-! ### Unit ones -/
set_option maxHeartbeats 400000 in
theorem vaUnit_any (a : Option Addr) (n cap : Nat) (xs : List Int) (m : Int) (w : World) (h : Has w a n cap xs) (hp : isPark xs = true) :
    Calls Try.prog 30 #[.slice a n cap, .int .i64 m] w (PostBool w (unitB xs m)) := by
  have hl := h.len
  obtain ⟨h1, h2, h3⟩ := isPark_iff.1 hp
  have HD : Hid (unitB xs m = allB (dists n xs) 0 m) := hid (by unfold unitB; rw [hl])
  have hge : ∀ i, i < n → 0 ≤ nth xs i ∧ nth xs i ≤ (n : Int) - 1 := fun i hi => by have := h2 _ (nth_mem (xs := xs) (i := i) (by omega)); omega
  have h8 : n ≤ 8 := by omega
  have h12 : (n : Int) ≤ 12 := by omega
  clear hl h1 h2 h3
  go_enter Try.func30, Try.ntmps30
  go_wp2_with fail
  refine (paDistances_any _ _ _ _ _ _ h h8 h12 hge).mono ?_
  rintro e w1 ⟨a1, cap1, rfl, hown1, hb1⟩
  go_wp2_with (go_at_call 58; refine (l1All_any _ _ _ _ _ _ _ hown1.has).mono ?_; rintro e w' ⟨rfl, rfl⟩)
  go_ret
  exact postBool HD.out.symm hb1
/-! ### Unit ones -/
theorem dists12 {xs : List Int} (h : isPark xs = true) : distsOf xs 12 = (dists 12 xs, true) := by
  obtain ⟨g1, g2, _⟩ := park_good h
  simp [distsOf, g1, g2]
theorem isCarNumber9_any (m : Int) (w : World) : Calls Try.prog 60 #[.int .i64 m] w fun e w' => e = .returned (.bool (inB m 0 8)) ∧ w = w' := by
  by_cases h1 : 0 ≤ m
  · by_cases h2 : m ≤ 8
    · have HR : Hid (inB m 0 8 = true) := hid (inB_iff.2 ⟨h1, h2⟩)
      go_enter Try.func60, Try.ntmps60
      go_wp2_with fail
      go_ret
      exact ⟨ret_bool HR.out.symm, rfl⟩
    · have HR : Hid (inB m 0 8 = false) := hid (inB_not.2 (by omega))
      go_enter Try.func60, Try.ntmps60
      go_wp2_with fail
      go_ret
      exact ⟨ret_bool HR.out.symm, rfl⟩
  · have HR : Hid (inB m 0 8 = false) := hid (inB_not.2 (by omega))
    go_enter Try.func60, Try.ntmps60
    go_wp2_with fail
    go_ret
    exact ⟨ret_bool HR.out.symm, rfl⟩
theorem isMost_any (m : Int) (w : World) : Calls Try.prog 31 #[.int .i64 m] w fun e w' => e = .returned (.bool (inB m 0 8)) ∧ w = w' := by
  go_enter Try.func31, Try.ntmps31
  go_wp2_with (go_at_call 60; refine (isCarNumber9_any _ _).mono ?_; rintro e w' ⟨rfl, rfl⟩)
  go_ret
  exact ⟨rfl, rfl⟩
set_option maxHeartbeats 400000 in
theorem implUnitB_any (a : Option Addr) (n cap : Nat) (xs : List Int) (m : Int) (w : World) (h : Has w a n cap xs) (hp : isPark xs = true) (hm : 0 ≤ m) :
    Calls Try.prog 33 #[.slice a n cap, .int .i64 m] w (PostBool w (unitB xs m)) := by
  have HU := hid (unit_great hp hm)
  have HG : Hid (greatOf xs 12 = (greatL (dists 12 xs), true)) := hid (by
    obtain ⟨g1, g2, _⟩ := park_good hp
    simp [greatOf, g1, g2])
  clear hp
  generalize greatL (dists 12 xs) = g at *
  go_enter Try.func33, Try.ntmps33
  go_wp2_with fail
  refine (greatest_any _ _ _ _ _ _ h).mono ?_
  rw [HG.out]
  rintro e w1 ⟨rfl, hb⟩
  go_wp2_with fail
  go_ret
  exact postBool HU.out hb
end Go.Proofs.Ytehdccfkkfkciab

namespace Go.Proofs.Ytehdccfkkfkciab
open Go.RowKit Go.Maps

theorem blocks_yes {xs : List Int} (h : isPark xs = true) (hu : unitB xs 1 = true) : unitBlocksOf xs = (blk xs (fairL xs) xs.length, true) := by simp [unitBlocksOf, h, hu]
theorem blocks_no {xs : List Int} (h : ¬ (isPark xs = true ∧ unitB xs 1 = true)) : unitBlocksOf xs = ([], false) := by
  unfold unitBlocksOf
  rw [if_neg (by simpa using h)]
theorem nums_addLast {rs : List Rw} {a : Option Addr} {c : Nat} {v : Int} {q : Nat} (hq : rs.length = q + 1) : numsOf (rs.set q ⟨a, c, (nthR rs q).xs ++ [v]⟩) = addLast (numsOf rs) v := by
  obtain ⟨ss, r, rfl⟩ : ∃ ss r, rs = ss ++ [r] := ⟨rs.dropLast, rs.getLast (by intro e; subst e; simp at hq), (List.dropLast_concat_getLast _).symm⟩
  have hs : ss.length = q := by simpa using hq
  have e1 : nthR (ss ++ [r]) q = r := by rw [nthR_append_right (by omega), hs, Nat.sub_self, nthR_one]
  rw [e1]
  have e2 : (ss ++ [r]).set q ⟨a, c, r.xs ++ [v]⟩ = ss ++ [⟨a, c, r.xs ++ [v]⟩] := by
    rw [List.set_append_right _ _ (by omega), hs, Nat.sub_self]
    rfl
  rw [e2]
  simp only [numsOf, List.map_append, List.map_singleton]
  rw [addLast_snoc]
theorem blk_start {xs ls : List Int} {k : Nat} (h : nth xs (nth ls k).toNat = (k : Int)) : addLast (blk xs ls k ++ [[]]) (nth ls k) = blk xs ls (k + 1) := by
  rw [addLast_snoc, blk, if_pos h]
  rfl
theorem blk_on {xs ls : List Int} {k : Nat} (h : ¬ nth xs (nth ls k).toNat = (k : Int)) : addLast (blk xs ls k) (nth ls k) = blk xs ls (k + 1) := by rw [blk, if_neg h]
theorem length_blk {xs ls : List Int} : ∀ k, (blk xs ls k).length ≤ k ∧ (0 < k → 0 < (blk xs ls k).length)
  | 0 => ⟨Nat.le_refl _, fun h => absurd h (by omega)⟩
  | k + 1 => by
    obtain ⟨h1, _⟩ := length_blk (xs := xs) (ls := ls) k
    rw [blk]
    split
    · simp; omega
    · simp only [addLast, List.length_append, List.length_dropLast, List.length_singleton]
      rcases Nat.eq_zero_or_pos k with rfl | h0
      · simp [blk]
      · have := (length_blk (xs := xs) (ls := ls) k).2 h0
        omega

theorem row_blk {xs ls : List Int} : ∀ (k : Nat) (r : List Int), r ∈ blk xs ls k → r.length ≤ k
  | 0, r, h => by simp [blk] at h
  | k + 1, r, h => by
    rw [blk] at h
    split at h
    · rcases List.mem_append.1 h with h | h
      · have := row_blk k r h; omega
      · rw [List.mem_singleton] at h; subst h; simp
    · unfold addLast at h
      rcases List.mem_append.1 h with h | h
      · have := row_blk k r (List.dropLast_subset _ h); omega
      · rw [List.mem_singleton] at h
        subst h
        cases e : (blk xs ls k).getLast? with
        | none => simp
        | some r' =>
          have := row_blk k r' (List.mem_of_getLast? e)
          simp
          omega
set_option maxHeartbeats 4000000 in
theorem specBlocks_any (a : Option Addr) (n cap : Nat) (xs : List Int) (w : World) (h : Has w a n cap xs) :
    Calls Try.prog 10 #[.slice a n cap] w (PostRows w (unitBlocksOf xs)) := by
  have HL := hid h.len
  by_cases hg : isPark xs = true
  · have HG := hid hg
    by_cases hu : unitB xs 1 = true
    · have HU := hid hu
      have HR := hid (blocks_yes hg hu)
      have h8 : n ≤ 8 := by have := (isPark_bounds hg).1; rw [← h.len]; exact this
      have HB := fair_bounds hg
      rw [h.len] at HB
      have HF : Hid (fairTo xs n = fairL xs) := hid (fairTo_cars h.len (by omega) HB)
      have HN := hid (fun k (hk : k < n) => fair_cars h.len h8 HB hk)
      have H0 : Hid (∀ k, k < n → ¬ nth xs (nth (fairL xs) k).toNat = (k : Int) → 0 < k) := hid (fun k hk hne => by
        rcases Nat.eq_zero_or_pos k with rfl | h0
        · exfalso
          apply hne
          have h1 := fair_at hg (k := 0) (by rw [h.len]; exact hk)
          have h2 := park_sorted hg 0 (by rw [h.len]; exact hk)
          omega
        · exact h0)
      clear hg hu HB
      go_enter Try.func10, Try.ntmps10
      go_wp2_with (first | (go_at_call 34; refine (paParking_any _ _ _ _ _ h).mono ?_; rintro e w1 ⟨rfl, hb1⟩; rw [HG.out]) | (go_at_call 30; refine (vaUnit_any _ _ _ _ _ _ (h.below hb1 (Nat.le_refl _)) HG.out).mono ?_; rintro e w2 ⟨rfl, hb2⟩; rw [HU.out]))
      have hb12 := hb1.trans (hb2.mono hb1.size)
      refine (vaFair_any _ _ _ _ _ (h.below hb12 (Nat.le_refl _)) (by omega)).mono ?_
      rw [HF.out]
      rintro e w3 ⟨a3, cap3, rfl, hown3, hb3⟩
      have hb13 := hb12.trans (hb3.mono hb12.size)
      have hsz3 := hb13.size
      have HX3 := h.below hb13 (Nat.le_refl _)
      have HO3 := hown3.has
      clear hb1 hb2 hb12 hb3 hown3 HF
      generalize fairL xs = ls at *
      go_wp2_with fail
      go_loopw [4, 18] (fun o i wr => ∃ (k q : Nat) (a' : Option Addr) (cap' : Nat) (rs : List Rw), k ≤ n ∧ q ≤ k ∧ (0 < k → 0 < q) ∧ i = .int .i64 (k : Int) ∧ o = .slice a' q cap' ∧ OwnR wr w3.heap.size a' q cap' rs ∧ Hid (numsOf rs = blk xs ls k) ∧ Below w3.heap.size w3 wr) (fun _ i _ => n - (intOf i).toNat)
      case atStart => exact ⟨0, 0, none, 0, [], Nat.zero_le _, Nat.le_refl _, fun h => absurd h (by omega), rfl, rfl, OwnR.nil _ _, hid rfl, Below.refl _ _⟩
      case round =>
        obtain ⟨k, q, a', cap', rs, hk, hq, hq0, rfl, rfl, hown, HNU, hb⟩ := hrel
        by_cases hlt : k < n
        · obtain ⟨c, hc1, hc2⟩ := HN.out k hlt
          obtain ⟨b1, off1, rfl, hbb1, hx1⟩ := HX3.2.2.2.2 (by omega)
          obtain ⟨b2, off2, rfl, hbb2, hx2⟩ := HO3.2.2.2.2 (by omega)
          have hck : wr.cell? ⟨b1, off1 + c, none⟩ = some (.int .i64 (nth xs c)) := by rw [hb.cell (p := ⟨b1, off1 + c, none⟩) hbb1]; exact hx1 c hc1
          have hdk : wr.cell? ⟨b2, off2 + k, none⟩ = some (.int .i64 (c : Int)) := by rw [hb.cell (p := ⟨b2, off2 + k, none⟩) hbb2, hx2 k hlt, hc2]
          have BS := hid (fun h => blk_start (xs := xs) (ls := ls) (k := k) h)
          have BO := hid (fun h => blk_on (xs := xs) (ls := ls) (k := k) h)
          have HPOS := hid (H0.out k hlt)
          rw [hc2, Int.toNat_natCast] at BS BO HPOS
          have z1 : (c : Int) < (n : Int) := by omega
          have z0 : (0 : Int) ≤ (c : Int) := by omega
          have hszr := hb.size
          clear hx1 hx2 hc2
          by_cases hst : nth xs c = (k : Int)
          · have hbe : (nth xs c == (k : Int)) = true := by simp [hst]
            have HE := hid (BS.out hst)
            have hrl := hown.len
            have HRL := hid hrl
            clear hst BS BO HPOS hrl
            have EN : Hid (nthR (rs ++ [⟨none, 0, []⟩]) q = ⟨none, 0, []⟩) := hid (by rw [nthR_append_right (by rw [HRL.out]; exact Nat.le_refl _), HRL.out, Nat.sub_self, nthR_one])
            have NA := hid (fun (a7 : Option Addr) (c7 : Nat) => nums_addLast (rs := rs ++ [⟨none, 0, []⟩]) (a := a7) (c := c7) (v := (c : Int)) (q := q) (by simp [HRL.out]))
            have NE : Hid (numsOf (rs ++ [⟨none, 0, []⟩]) = blk xs ls k ++ [[]]) := hid (by rw [numsOf_app, HNU.out]; rfl)
            rw [EN.out] at NA
            go_wp2_with (first | (at_builtin; refine wpList_append_rowA _ rfl _ _ rfl w3.heap.size w3.heap.size _ _ _ _ none 0 0 [] rfl rfl hown (Own.nil _ _) (fun i _ p q _ hq => (by cases hq)) (by omega) (ownsRow_ge hown.1) (Nat.le_refl _) hszr ?_; intro a6 cap6 w6 hown6 hge6 hb6; obtain ⟨g6, ea6, q1, q2, q3, q4⟩ := hown6.cellAt (by omega); cases ea6; have hc6 := q3 q (by omega); rw [EN.out] at hc6; have hsz6 := hb6.size; clear q3 q4) | (at_builtin; refine wpList_append_int_at _ rfl _ _ rfl w3.heap.size none 0 0 [] _ rfl rfl (Own.nil _ _) (by omega) (Nat.le_trans hszr hsz6) ?_; intro a7 c7 w7 hown7 hgr7 hloc7; obtain ⟨hf7, hc7⟩ := hown6.ready (k := q) (w1 := w7) (by omega) (by rw [EN.out]; exact hgr7); rw [EN.out] at hc7))
            obtain ⟨s1, s2⟩ := hown6.setRow (k := q) (by omega) (by rw [EN.out]; exact hgr7) hown7 (by rw [EN.out]; exact hloc7)
            have hb7 : Below w3.heap.size w6 w7 := (Below.refl _ w6).grown hgr7 (Nat.le_trans hszr hsz6) (fun j hj => by simp [Value.ownBlock] at hj)
            have hb8 : Below w3.heap.size w7 (w7.setCell ⟨g6, q, none⟩ (.slice a7 (0 + 1) c7)) := (Below.refl _ w7).grown s2 (Nat.le_trans (Nat.le_trans hszr hsz6) hb7.size) (fun j hj => by cases hj; exact q1)
            go_roundw
            case rel => exact ⟨k + 1, q + 1, _, cap6, _, by omega, by omega, fun _ => by omega, by go_num, rfl, s1, hid (by rw [← HE.out, ← NE.out, ← NA.out]), ((hb.trans hb6).trans hb7).trans hb8⟩
            case measure => simp [intOf]; omega
          · have hbe : (nth xs c == (k : Int)) = false := by simp [hst]
            have HE := hid (BO.out hst)
            have hk0 := HPOS.out hst
            obtain ⟨t, rfl⟩ : ∃ t, q = t + 1 := ⟨q - 1, by have := hq0 hk0; omega⟩
            have hrl := hown.len
            have HRL := hid hrl
            obtain ⟨g6, rfl, q1, q2, q3, q4⟩ := hown.cellAt (by omega)
            have hc6 := q3 t (by omega)
            have hrow := hown.row (k := t) (by omega)
            have hr8 : (nthR rs t).xs.length ≤ 2097151 := (by
              have ht : t < rs.length := by rw [HRL.out]; omega
              have hm : (nthR rs t).xs ∈ numsOf rs := by
                have e : nthR rs t = rs[t] := by simp [nthR, ht]
                rw [e]
                exact List.mem_map_of_mem (List.getElem_mem ht)
              rw [HNU.out] at hm
              have := row_blk k _ hm
              omega)
            have NA := hid (fun (a7 : Option Addr) (c7 : Nat) => nums_addLast (rs := rs) (a := a7) (c := c7) (v := (c : Int)) (q := t) HRL.out)
            have hrg : BlkGe (nthR rs t).a w3.heap.size := hrow.ge
            clear hst BS BO HPOS hrl q3 q4
            go_wp2_with (first | (at_builtin; refine wpList_append_int_at _ rfl _ _ rfl w3.heap.size _ _ _ _ _ rfl rfl hrow (by omega) hszr ?_; intro a7 c7 w7 hown7 hgr7 hloc7; obtain ⟨hf7, hc7⟩ := hown.ready (k := t) (w1 := w7) (by omega) hgr7))
            obtain ⟨s1, s2⟩ := hown.setRow (k := t) (by omega) hgr7 hown7 hloc7
            have hb7 : Below w3.heap.size wr w7 := (Below.refl _ wr).grown hgr7 hszr (fun j hj => by
              cases e : (nthR rs t).a with
              | none => rw [e] at hj; simp [Value.ownBlock] at hj
              | some p => rw [e] at hj; simp [Value.ownBlock] at hj; have := hrg p e; omega)
            have hb8 : Below w3.heap.size w7 (w7.setCell ⟨g6, t, none⟩ (.slice a7 ((nthR rs t).xs.length + 1) c7)) := (Below.refl _ w7).grown s2 (Nat.le_trans hszr hb7.size) (fun j hj => by cases hj; exact q1)
            go_roundw
            case rel => exact ⟨k + 1, t + 1, _, cap', _, by omega, by omega, fun _ => by omega, by go_num, rfl, s1, hid (by rw [← HE.out, ← HNU.out, ← NA.out]), (hb.trans hb7).trans hb8⟩
            case measure => simp [intOf]; omega
        · obtain rfl : k = n := by omega
          go_wp2_with fail
          go_ret2
          exact postRows (by rw [HR.out, HL.out]) (hown.mono hsz3) HNU.out (hb13.trans (hb.mono hsz3))
    · have HR := hid (blocks_no (xs := xs) (fun h => hu h.2))
      have HU := hid hu
      clear hg hu
      go_enter Try.func10, Try.ntmps10
      go_wp2_with (first | (go_at_call 34; refine (paParking_any _ _ _ _ _ h).mono ?_; rintro e w1 ⟨rfl, hb1⟩; rw [HG.out]) | (go_at_call 30; refine (vaUnit_any _ _ _ _ _ _ (h.below hb1 (Nat.le_refl _)) HG.out).mono ?_; rintro e w2 ⟨rfl, hb2⟩; rw [Bool.eq_false_iff.2 HU.out]))
      go_ret2
      exact postRows_no HR.out (hb1.trans (hb2.mono hb1.size))
  · have HR := hid (blocks_no (xs := xs) (fun h => hg h.1))
    have HG := hid hg
    clear hg
    go_enter Try.func10, Try.ntmps10
    go_wp2_with (go_at_call 34; refine (paParking_any _ _ _ _ _ h).mono ?_; rintro e w1 ⟨rfl, hb1⟩; rw [Bool.eq_false_iff.2 HG.out])
    go_ret2
    exact postRows_no HR.out hb1

set_option maxHeartbeats 2000000 in
theorem implBlocks_any (a : Option Addr) (n cap : Nat) (xs : List Int) (w : World) (h : Has w a n cap xs) :
    Calls Try.prog 12 #[.slice a n cap] w (PostRows w (unitBlocksOf xs)) := by
  have HL := hid h.len
  by_cases hg : isPark xs = true
  · have HG := hid hg
    by_cases hu : unitB xs 1 = true
    · have HU := hid hu
      have HR : Hid (unitBlocksOf xs = (partRows xs (fairL xs), true)) := hid (by rw [blocks_yes hg hu, blk_rows hg])
      have h8 : n ≤ 8 := by have := (isPark_bounds hg).1; rw [← h.len]; exact this
      have HB := fair_bounds hg
      rw [h.len] at HB
      have HB8 : Hid (∀ i, i < n → 0 ≤ nth xs i ∧ nth xs i < 8) := hid (fun i hi => by
        have h1 := isPark_bounds hg
        have := h1.2 _ (nth_mem (xs := xs) (i := i) (by rw [h.len]; exact hi))
        omega)
      have HN := hid (fun k (hk : k < n) => fair_cars h.len h8 HB hk)
      have HB' := hid HB
      have HKEY := hid (partRows_keys xs (fairL xs))
      clear hg hu HB
      go_enter Try.func12, Try.ntmps12
      go_wp2_with (first | (go_at_call 36; refine (isParkingFunction_any _ _ _ _ _ h).mono ?_; rintro e w1 ⟨rfl, hb1⟩; rw [HG.out]) | (go_at_call 33; refine (implUnitB_any _ _ _ _ _ _ (h.below hb1 (Nat.le_refl _)) HG.out (by omega)).mono ?_; rintro e w2 ⟨rfl, hb2⟩; rw [HU.out]))
      have hb12 := hb1.trans (hb2.mono hb1.size)
      refine (carsByP_any 12 _ _ _ _ _ (h.below hb12 (Nat.le_refl _)) h8 HB'.out).mono ?_
      rintro e w3 ⟨a3, c3, rfl, hown3, hb3⟩
      have hb13 := hb12.trans (hb3.mono hb12.size)
      go_wp2_with fail
      refine (partsOf_any _ _ _ _ _ _ _ _ _ (h.below hb13 (Nat.le_refl _)) hown3.has HB8.out HN.out).mono ?_
      rintro e w4 ⟨rfl, ⟨r, hp⟩, hb4⟩
      have hb14 := hb13.trans (hb4.mono hb13.size)
      have hlt4 := hp.1.lt
      go_wp2_with fail
      refine (takeAll_any _ _ _ r _ hp (by omega)).mono ?_
      rintro e w5 ⟨a5, q, cap5, rs, rfl, hown5, hn5, hb5⟩
      have hn5' : numsOf rs = partRows xs (fairL xs) := hn5.trans HKEY.out
      go_wp2_with fail
      go_ret2
      exact postRows HR.out (hown5.mono (by have := hb13.size; omega)) hn5' (hb14.trans (hb5.mono hb13.size))
    · have HR := hid (blocks_no (xs := xs) (fun h => hu h.2))
      have HU := hid hu
      clear hg hu
      go_enter Try.func12, Try.ntmps12
      go_wp2_with (first | (go_at_call 36; refine (isParkingFunction_any _ _ _ _ _ h).mono ?_; rintro e w1 ⟨rfl, hb1⟩; rw [HG.out]) | (go_at_call 33; refine (implUnitB_any _ _ _ _ _ _ (h.below hb1 (Nat.le_refl _)) HG.out (by omega)).mono ?_; rintro e w2 ⟨rfl, hb2⟩; rw [Bool.eq_false_iff.2 HU.out]))
      go_ret2
      exact postRows_no HR.out (hb1.trans (hb2.mono hb1.size))
  · have HR := hid (blocks_no (xs := xs) (fun h => hg h.1))
    have HG := hid hg
    clear hg
    go_enter Try.func12, Try.ntmps12
    go_wp2_with (go_at_call 36; refine (isParkingFunction_any _ _ _ _ _ h).mono ?_; rintro e w1 ⟨rfl, hb1⟩; rw [Bool.eq_false_iff.2 HG.out])
    go_ret2
    exact postRows_no HR.out hb1
end Go.Proofs.Ytehdccfkkfkciab

namespace Go.Proofs.Ytehdccfkkfkciab
open Go.RowKit

set_option maxHeartbeats 400000 in
theorem l1Same_any (a b : Option Addr) (n m cap cap' : Nat) (xs ys : List Int) (w : World) (h : Has w a n cap xs) (h' : Has w b m cap' ys) :
    Calls Try.prog 43 #[.slice a n cap, .slice b m cap'] w fun e w' => e = .returned (.bool (same xs ys)) ∧ Quiet w w' := by
  obtain ⟨h0, h1, h2, h3, h4⟩ := h
  obtain ⟨k0, k1, k2, k3, k4⟩ := h'
  by_cases hnm : n = m
  · have hb : ((n : Int) != (m : Int)) = false := by simp [hnm]
    subst hnm
    go_enter Try.func43, Try.ntmps43
    go_wp2_with fail
    go_loopw [13] (fun i wr => ∃ k : Nat, k ≤ n ∧ i = .int .i64 k ∧ FromTo xs ys k ∧ Quiet w wr) (fun i _ => n - (intOf i).toNat)
    case atStart => exact ⟨0, Nat.zero_le _, rfl, fun i hi => by omega, ⟨0, rfl⟩⟩
    case round =>
      obtain ⟨k, hk, rfl, hft, q, hq⟩ := hrel
      subst hq
      by_cases hlt : k < n
      · obtain ⟨b1, off1, rfl, hb1, hc1⟩ := h4 (by omega)
        obtain ⟨b2, off2, rfl, hb2, hc2⟩ := k4 (by omega)
        have hck := hc1 k hlt
        have hdk := hc2 k hlt
        have hkk : (k : Int) < (n : Int) := by omega
        have hkz : (0 : Int) ≤ (k : Int) := by omega
        clear hc1 hc2 h4 k4
        by_cases he : nth xs k = nth ys k
        · have hbe : (nth xs k != nth ys k) = false := by simp [he]
          have HE := hid he
          clear he
          go_wp2_with fail
          go_quiet (fail)
          go_wp2_with fail
          go_roundw
          case rel => exact ⟨k + 1, by omega, by go_num, fun i hi => by rcases Nat.lt_succ_iff_lt_or_eq.1 hi with h | rfl; exact hft i h; exact HE.out.symm, ⟨_, rfl⟩⟩
          case measure => simp [intOf]; omega
        · have hbe : (nth xs k != nth ys k) = true := by simp [he]
          have HE := hid he
          clear he
          go_wp2_with fail
          go_quiet (fail)
          go_wp2_with fail
          go_ret
          exact ⟨ret_bool (same_no HE.out).symm, (Quiet.more ⟨_, rfl⟩ _)⟩
      · obtain rfl : k = n := by omega
        go_wp2_with fail
        go_ret
        exact ⟨ret_bool (same_yes (by omega) (by rw [h0]; exact hft)).symm, ⟨_, rfl⟩⟩
  · have hb : ((n : Int) != (m : Int)) = true := by simp; omega
    go_enter Try.func43, Try.ntmps43
    go_wp2_with fail
    go_ret
    exact ⟨ret_bool (show false = same xs ys from by unfold same; symm; rw [decide_eq_false_iff_not]; rintro rfl; omega), ⟨0, rfl⟩⟩


end Go.Proofs.Ytehdccfkkfkciab

namespace Go.Proofs.Ytehdccfkkfkciab
open Go.RowKit

theorem HasR.rowAt {w W : World} {a : Option Addr} {q cap : Nat} {rs : List Rw} {bs : List (List Int)} (h : HasR w a q cap rs) (hb : Below w.heap.size w W) (hbs : numsOf rs = bs) {k : Nat} (hk : k < q) :
    ∃ b off ak ck, a = some ⟨b, off, none⟩ ∧ W.cell? ⟨b, off + k, none⟩ = some (.slice ak (blkAt bs k).length ck) ∧ Has w ak (blkAt bs k).length ck (blkAt bs k) := by
  obtain ⟨r0, r1, r2, r3, r4, -⟩ := h.below hb (Nat.le_refl _)
  have r5 := h.2.2.2.2.2
  obtain ⟨b, off, rfl, _, hc⟩ := r4 (by omega)
  have h3 := hc k hk
  have h4 := r5 k hk
  unfold Rw.v at h3
  subst hbs
  rw [blkAt_nums (by omega)]
  exact ⟨_, _, _, _, rfl, h3, h4⟩
theorem pred_max (i : Nat) : max ((i : Int) - 1) 0 = ((i - 1 : Nat) : Int) := by omega

set_option maxRecDepth 100000 in
set_option maxHeartbeats 8000000 in
theorem specFrom_any (a : Option Addr) (n cap : Nat) (rs : List Rw) (w : World) (h : HasR w a n cap rs) :
    Calls Try.prog 19 #[.slice a n cap] w (PostInts w (fromUnit (numsOf rs))) := by
  have hnl : (numsOf rs).length = n := by have := h.1; simpa [numsOf] using this
  have hn := h.2.2.2.1
  obtain ⟨bs, hbs⟩ : ∃ bs, numsOf rs = bs := ⟨_, rfl⟩
  have HROW := hid (fun (W : World) (hb : Below w.heap.size w W) (k : Nat) (hk : k < n) => HasR.rowAt h hb hbs hk)
  have HLE : Hid (∀ k, k < n → (blkAt bs k).length ≤ 2097152) := hid (fun k hk => (HasR.rowAt h (Below.refl _ _) hbs hk).choose_spec.choose_spec.choose_spec.choose_spec.2.2.le)
  rw [hbs] at hnl ⊢
  have E1 := hid (fun k (hk : k < n) => from_empty (bs := bs) (k := k) (by omega))
  have E2 := hid (fun k (hk : k < n) => from_long (bs := bs) (k := k) (by omega))
  have E3 := hid (fun k i (hk : k < n) => from_range (bs := bs) (k := k) (i := i) (by omega))
  have E4 := hid (fun k i (hk : k < n) => from_twice (bs := bs) (k := k) (i := i) (by omega))
  have E5 := hid (from_other (bs := bs))
  have E6 := hid (from_yes (bs := bs))
  have E7 := hid (fun ls => blks_same (bs := bs) (ls := ls))
  have HPB : Hid (placeBl bs = plTo (lenTo bs n) bs n) := hid (by unfold placeBl; rw [hnl])
  rw [hnl] at E3 E6 E7
  have HNL := hid hnl
  clear hnl h hbs
  go_enter Try.func19, Try.ntmps19
  go_wp2_with fail
  go_loop [4, 20] (fun g i => ∃ k : Nat, k ≤ n ∧ i = .int .i64 (k : Int) ∧ g = .int .i64 (lenTo bs k : Int) ∧ lenTo bs k ≤ 8 ∧ Hid (nonTo bs k = true)) (fun _ i => n - (intOf i).toNat)
  case atStart => exact ⟨0, Nat.zero_le _, rfl, rfl, Nat.zero_le _, hid rfl⟩
  case round =>
    obtain ⟨k, hk, rfl, rfl, h8, HN⟩ := hrel
    by_cases hlt : k < n
    · obtain ⟨b, off, ak, ck, rfl, hck, -⟩ := HROW.out w (Below.refl _ _) k hlt
      have hle := HLE.out k hlt
      have HS : Hid (lenTo bs (k + 1) = lenTo bs k + (blkAt bs k).length) := hid rfl
      have F1 := hid (E1.out k hlt)
      have F2 := hid (E2.out k hlt)
      have HNS := hid (nonTo_succ (bs := bs) (k := k))
      generalize (blkAt bs k).length = nk at *
      generalize lenTo bs k = L at *
      by_cases h0 : nk = 0
      · have hz : ((nk : Int) == 0) = true := by simp [h0]
        have HR := hid (F1.out h0)
        go_wp2_with fail
        go_ret2
        exact postInts_no HR.out (Below.refl _ _)
      · have hz : ((nk : Int) == 0) = false := by simp [h0]
        by_cases h1 : 8 < L + nk
        · have HR := hid (F2.out (by rw [HS.out]; exact h1))
          have hgt : (8 : Int) < (L : Int) + (nk : Int) := by omega
          go_wp2_with fail
          go_ret2
          exact postInts_no HR.out (Below.refl _ _)
        · have hgt : ¬ (8 : Int) < (L : Int) + (nk : Int) := by omega
          go_wp2_with fail
          go_round
          case rel => exact ⟨k + 1, by omega, by go_num, by rw [HS.out]; go_num, by rw [HS.out]; omega, hid (by rw [HNS.out, HN.out, decide_eq_true (by omega)]; rfl)⟩
          case measure => simp [intOf]; omega
    · obtain rfl : k = n := by omega
      obtain ⟨N, hN⟩ : ∃ N, lenTo bs k = N := ⟨_, rfl⟩
      rw [hN] at h8 HPB E3 E6 ⊢
      have HNN := hid hN
      have hlk : k ≤ N := by rw [← hN]; exact nonTo_len HN.out
      have HLM : Hid (∀ j, j < k → lenTo bs j + (blkAt bs j).length ≤ N) := hid (fun j hj => by
        have := lenTo_mono bs (k := j + 1) (k - (j + 1))
        rw [show j + 1 + (k - (j + 1)) = k by omega, hN] at this
        exact this)
      clear hN E1 E2
      go_wp2_with (first | (at_make; refine wpList_make_ints _ rfl _ _ rfl N rfl rfl (by omega) ?_; intro a2 cap2 w2 hown2 hb2))
      have hltL := hown2.lt
      have hs2 := hb2.size
      go_loopw [8, 9, 40] (fun s f i wr => ∃ (j : Nat) (a8 : Option Addr) (m8 c8 : Nat), j ≤ k ∧ i = .int .i64 (j : Int) ∧ f = .int .i64 (lenTo bs j : Int) ∧ s = .slice a8 m8 c8 ∧ Own wr w2.heap.size a8 m8 c8 (flatTo bs j) ∧ Own wr w.heap.size a2 N cap2 (plTo N bs j) ∧ Below w.heap.size w wr ∧ w2.heap.size ≤ wr.heap.size ∧ Hid (preB N (flatTo bs j))) (fun _ _ i _ => k - (intOf i).toNat)
      case atStart => exact ⟨0, none, 0, 0, Nat.zero_le _, rfl, rfl, rfl, Own.nil _ _, hown2, hb2, Nat.le_refl _, hid ⟨List.nodup_nil, fun x hx => by simp [flatTo] at hx⟩⟩
      case round =>
        obtain ⟨j, a8, m8, c8, hj, rfl, rfl, rfl, o8, oL, hb, hsz, HP⟩ := hrel
        clear hown2 hb2
        by_cases hlt : j < k
        · obtain ⟨b, off, ak, ck, rfl, hck, H_k⟩ := HROW.out wr hb j hlt
          have hle := HLM.out j hlt
          have F3 := hid (fun i => E3.out j i hlt)
          have F4 := hid (fun i => E4.out j i hlt)
          have HS : Hid (lenTo bs (j + 1) = lenTo bs j + (blkAt bs j).length) := hid rfl
          have HFS : Hid (flatTo bs (j + 1) = flatTo bs j ++ blkAt bs j) := hid rfl
          have HPS : Hid (plTo N bs (j + 1) = plIn (lenTo bs j) (blkAt bs j) (plTo N bs j) (blkAt bs j).length) := hid rfl
          have hjk : (j : Int) < (k : Int) := by omega
          have hF8 : lenTo bs j ≤ 8 := by omega
          generalize lenTo bs j = F at *
          generalize plTo N bs j = ys at *
          generalize flatTo bs j = fl at *
          obtain ⟨blk, hblk⟩ : ∃ blk, blkAt bs j = blk := ⟨_, rfl⟩
          rw [hblk] at hck H_k hle F3 F4 HS HFS HPS
          have HBLK := hid hblk
          clear hblk
          obtain ⟨nk, hnk⟩ : ∃ nk, blk.length = nk := ⟨_, rfl⟩
          rw [hnk] at hck H_k hle HS HPS F3 F4
          have HNK := hid hnk
          clear hnk
          go_wp2_with fail
          go_loopw [8, 46] (fun s i wr => ∃ (t : Nat) (a8 : Option Addr) (m8 c8 : Nat), t ≤ nk ∧ i = .int .i64 (t : Int) ∧ s = .slice a8 m8 c8 ∧ Own wr w2.heap.size a8 m8 c8 (fl ++ blk.take t) ∧ Own wr w.heap.size a2 N cap2 (plIn F blk ys t) ∧ Below w.heap.size w wr ∧ w2.heap.size ≤ wr.heap.size ∧ Hid (preB N (fl ++ blk.take t))) (fun _ i _ => nk - (intOf i).toNat)
          case atStart => exact ⟨0, a8, m8, c8, Nat.zero_le _, rfl, rfl, by rw [List.take_zero, List.append_nil]; exact o8, oL, hb, hsz, hid (by rw [List.take_zero, List.append_nil]; exact HP.out)⟩
          case round =>
            clear o8 oL hb hsz HP hck
            obtain ⟨t, a8, m8, c8, ht, rfl, rfl, o8, oL, hb, hsz, HP⟩ := hrel
            by_cases hlt2 : t < nk
            · obtain ⟨bb, ob, hab, hbb, hcb⟩ := H_k.2.2.2.2 (by omega)
              have hct : wr.cell? ⟨bb, ob + t, none⟩ = some (.int .i64 (nth blk t)) := by rw [hb.cell (p := ⟨bb, ob + t, none⟩) hbb]; exact hcb t hlt2
              subst hab
              have HT : Hid (blk.take (t + 1) = blk.take t ++ [nth blk t]) := hid (take_succ_nth (by rw [HNK.out]; exact hlt2))
              have G3 := hid (F3.out t hlt2)
              have G4 := hid (F4.out t hlt2)
              obtain ⟨x, hx⟩ : ∃ x, nth blk t = x := ⟨_, rfl⟩
              have HXX := hid hx
              rw [hx] at hct HT G3 G4
              have htn : (t : Int) < (nk : Int) := by omega
              have hwr : IntKind.i64.wrap ((N : Int) - 1) = (N : Int) - 1 := by rw [IntKind.wrap_i64]; omega
              clear hcb hx
              have hm8 : m8 ≤ N := by rw [← o8.len]; exact nodup_le N _ HP.out.1 HP.out.2
              by_cases hr : inB x 0 ((N : Int) - 1) = true
              · have HI := hid hr
                have hx2 := inB_iff.1 hr
                by_cases hh : hasB (fl ++ blk.take t) x = true
                · have HH := hid hh
                  have HR := hid (G4.out (by simpa [hasB] using hh))
                  clear hr hh
                  go_wp2_with (first | (go_at_call 27; refine (l1In_any _ _ _ _).mono ?_; rintro e w' ⟨rfl, rfl⟩; rw [HI.out]) | (go_at_call 41; refine (l1Has_any _ _ _ _ _ _ o8.has).mono ?_; rintro e w' ⟨rfl, rfl⟩; rw [HH.out]))
                  go_ret2
                  exact postInts_no HR.out hb
                · have hnm : x ∉ fl ++ blk.take t := by simpa [hasB] using hh
                  have HH := hid (Bool.eq_false_iff.2 hh)
                  have HP2 := hid (pre_snoc HP.out (by omega : 0 ≤ x ∧ x < (N : Int)) hnm)
                  obtain ⟨c, rfl⟩ : ∃ c : Nat, x = (c : Int) := ⟨x.toNat, by omega⟩
                  have hcN : c < N := by omega
                  have hcN2 : (c : Int) < (N : Int) := by omega
                  have hc0 : (0 : Int) ≤ (c : Int) := by omega
                  clear hr hh hnm hx2
                  obtain ⟨g2, rfl, r1, r2, -, -⟩ := oL.opened (by omega)
                  have hgB : g2 < w2.heap.size := by have := hltL _ rfl; simpa using this
                  obtain ⟨u, hu⟩ : ∃ u, t - 1 = u := ⟨_, rfl⟩
                  have hu8 : u ≤ 8 := by omega
                  have HMX : Hid (max ((t : Int) - 1) 0 = (u : Int)) := hid (by rw [pred_max, hu])
                  have HPI : Hid (plIn F blk ys (t + 1) = (plIn F blk ys t).set c ((F : Int) + (u : Int))) := hid (by rw [plIn, HXX.out, Int.toNat_natCast, hu])
                  have hwt : IntKind.i64.wrap ((t : Int) - 1) = (t : Int) - 1 := by rw [IntKind.wrap_i64]; omega
                  go_wp2_with (first | (go_at_call 27; refine (l1In_any _ _ _ _).mono ?_; rintro e w' ⟨rfl, rfl⟩; rw [HI.out]) | (go_at_call 41; refine (l1Has_any _ _ _ _ _ _ o8.has).mono ?_; rintro e w' ⟨rfl, rfl⟩; rw [HH.out]) | (at_builtin; refine wpList_append_int _ rfl _ _ rfl w2.heap.size _ _ _ _ _ rfl rfl o8 (by omega) hsz ?_; intro a9 c9 w9 o9 hb9; have oL9 := oL.belowB hb9 hltL; obtain ⟨g9, hg9, -, -, hc9, hf9⟩ := oL9.opened (by omega); cases hg9; have hcc := hc9 c hcN; have hcf := hf9 c; clear hc9 hf9) | (go_at_call 42; refine (l1Most_any _ _ _).mono ?_; rintro e w' ⟨rfl, rfl⟩; rw [HMX.out]))
                  obtain ⟨s1, s2⟩ := oL9.set c ((F : Int) + (u : Int))
                  have o9' := o9.kept s2 (.inl hgB)
                  have hb9' := (hb.trans (hb9.mono hs2)).setCell (p := ⟨g2, c, none⟩) r1 (.int .i64 ((F : Int) + (u : Int)))
                  have hsz9 : w2.heap.size ≤ (w9.setCell ⟨g2, c, none⟩ (.int .i64 ((F : Int) + (u : Int)))).heap.size := Nat.le_trans hsz (Nat.le_trans hb9.size s2.size)
                  go_roundw
                  case rel => exact ⟨t + 1, a9, m8 + 1, c9, by omega, by go_num, rfl, by rw [HT.out, ← List.append_assoc]; exact o9', by rw [HPI.out]; exact s1, hb9', hsz9, hid (by rw [HT.out, ← List.append_assoc]; exact HP2.out)⟩
                  case measure => simp [intOf]; omega
              · have HI := hid (Bool.eq_false_iff.2 hr)
                have HR := hid (G3.out (fun hc => hr (inB_iff.2 ⟨hc.1, by omega⟩)))
                clear hr
                go_wp2_with (go_at_call 27; refine (l1In_any _ _ _ _).mono ?_; rintro e w' ⟨rfl, rfl⟩; rw [HI.out])
                go_ret2
                exact postInts_no HR.out hb
            · obtain rfl : t = nk := by omega
              have htk : blk.take t = blk := List.take_of_length_le (by rw [HNK.out]; exact Nat.le_refl _)
              rw [htk] at o8 HP
              go_wp2_with fail
              go_roundw
              case rel => exact ⟨j + 1, a8, m8, c8, by omega, by go_num, by rw [HS.out]; go_num, rfl, by rw [HFS.out]; exact o8, by rw [HPS.out]; exact oL, hb, hsz, hid (by rw [HFS.out]; exact HP.out)⟩
              case measure => simp [intOf]; omega
        · obtain rfl : j = k := by omega
          obtain ⟨pl, hpl⟩ : ∃ pl, plTo N bs j = pl := ⟨_, rfl⟩
          rw [hpl] at oL HPB
          obtain ⟨⟨ls, ok⟩, hu⟩ : ∃ r, unitBlocksOf pl = r := ⟨_, rfl⟩
          have HU := hid hu
          rw [HPB.out, hu] at E5 E6
          have G5 := hid (fun h => E5.out h)
          have G6 := hid (E6.out HN.out h8 HP.out)
          clear hu hpl hlt
          go_wp2_with fail
          refine (specBlocks_any _ _ _ _ _ oL.has).mono ?_
          rw [HU.out]
          rintro e w3 ⟨a3, n3, c3, ss, rfl, R3, hn3, hb3⟩
          have oL3 := oL.below hb3 (Nat.le_refl _)
          have hb13 := hb.trans (hb3.mono hb.size)
          replace hn3 : numsOf ss = ls := hn3
          have hl3 : ls.length = n3 := by have := R3.len; rw [← hn3]; simpa [numsOf] using this
          have HL3 := hid hl3
          have HN3 := hid hn3
          have R3h := R3.has
          have hn3b := R3.le
          clear oL hb hb3 R3 hn3 o8
          cases ok with
          | false =>
            have HR := hid (G5.out (by simp))
            go_wp2_with fail
            go_ret2
            exact postInts_no HR.out hb13
          | true =>
            by_cases hnn : n3 = j
            · subst hnn
              have hne := neq_self_int (n3 : Int)
              go_wp2_with fail
              go_loopw [95] (fun i wr => ∃ t : Nat, t ≤ n3 ∧ i = .int .i64 (t : Int) ∧ Quiet w3 wr ∧ Hid (∀ q, q < t → blkAt bs q = blkAt ls q)) (fun i _ => n3 - (intOf i).toNat)
              case atStart => exact ⟨0, Nat.zero_le _, rfl, ⟨0, rfl⟩, hid (fun q hq => absurd hq (by omega))⟩
              case round =>
                obtain ⟨t, ht, rfl, hq, HQ⟩ := hrel
                have hbq := hb13.trans (hq.below _)
                by_cases hlt : t < n3
                · obtain ⟨b, off, ak, ck, rfl, hck, H_k⟩ := HROW.out wr hbq t hlt
                  obtain ⟨b', off', ak', ck', rfl, hck', H_k'⟩ := HasR.rowAt R3h (hq.below _) HN3.out hlt
                  have H1 := H_k.below hbq (Nat.le_refl _)
                  have H2 := H_k'.below (hq.below _) (Nat.le_refl _)
                  have htn : (t : Int) < (n3 : Int) := by omega
                  clear H_k H_k'
                  by_cases hs : blkAt bs t = blkAt ls t
                  · have HS : Hid (same (blkAt bs t) (blkAt ls t) = true) := hid (by rw [hs]; exact same_self _)
                    have HQ2 : Hid (∀ q, q < t + 1 → blkAt bs q = blkAt ls q) := hid (fun q hq => by
                      by_cases e : q = t
                      · rw [e]; exact hs
                      · exact HQ.out q (by omega))
                    clear hs
                    go_wp2_with fail
                    refine (l1Same_any _ _ _ _ _ _ _ _ _ H1 H2).mono ?_
                    rintro e w5 ⟨rfl, q5, rfl⟩
                    rw [HS.out]
                    go_wp2_with fail
                    go_roundw
                    case rel => exact ⟨t + 1, by omega, by go_num, Quiet.more hq _, HQ2⟩
                    case measure => simp [intOf]; omega
                  · have HS : Hid (same (blkAt bs t) (blkAt ls t) = false) := hid (by simp [same, hs])
                    have HR := hid (G5.out (fun e => hs (by simp at e; rw [e])))
                    clear hs
                    go_wp2_with fail
                    refine (l1Same_any _ _ _ _ _ _ _ _ _ H1 H2).mono ?_
                    rintro e w5 ⟨rfl, q5⟩
                    rw [HS.out]
                    go_wp2_with fail
                    go_ret2
                    exact postInts_no HR.out (hbq.trans (q5.below _))
                · obtain rfl : t = n3 := by omega
                  have HR := hid (G6.out (by rw [E7.out ls HL3.out HQ.out]))
                  have oL4 := oL3.below (hq.below _) (Nat.le_refl _)
                  go_wp2_with fail
                  go_ret2
                  exact postInts HR.out oL4 hbq
            · have hne : ((n3 : Int) != (j : Int)) = true := by simp; omega
              have HR := hid (G5.out (fun e => hnn (by simp at e; rw [← HL3.out, e]; exact HNL.out)))
              go_wp2_with fail
              go_ret2
              exact postInts_no HR.out hb13
end Go.Proofs.Ytehdccfkkfkciab

namespace Go.Proofs.Ytehdccfkkfkciab
open Go.RowKit

set_option maxRecDepth 100000 in
set_option maxHeartbeats 1600000 in
theorem grow_any (n : Nat) (hn : n ≤ 1000) (w : World) : Calls Try.prog 82 #[.slice none 0 0, .int .i64 (n : Int)] w fun e w' => ∃ a' cap', e = .returned (.slice a' 0 cap') ∧ Own w' w.heap.size a' 0 cap' [] ∧ Below w.heap.size w w' := by
  obtain ⟨i0, hi, hz0, hz1, hz2⟩ := info_parts Try.infoInt
  by_cases h0 : n = 0
  · subst h0
    go_enter Try.func82, Try.ntmps82
    go_wp2_with fail
    go_ret
    exact ⟨none, 0, rfl, Own.nil _ _, Below.refl _ _⟩
  · have hp : (0 : Int) < (n : Int) := by omega
    have hwn : wrap64 ((n : Int) - 0) = (n : Int) := by unfold wrap64; omega
    go_enter Try.func82, Try.ntmps82
    go_wp2_with (at_builtin; refine Lib.wpList_append_run _ rfl _ _ _ _ rfl _ _ rfl rfl _ _ (Lib.run_append_nil_zeros (P := Try.prog) w 25 3 _ 3 i0 (.int .i64 0) .i64 .i64 Try.underlying25 Try.underlying3 hi hz0 n (by omega) (by omega) (by omega) (by rw [hz2]; omega)) ?_)
    go_ret
    have hge := grownCap_ge w n 0 3
    have hcm := grownCap_le_maxLen w n 0 3 (by unfold maxLen; omega)
    refine ⟨_, _, rfl, ⟨⟨rfl, .inr ⟨w.heap.size, _, _, rfl, Nat.le_refl _, heap_alloc_new _ _, Nat.zero_le _, hcm, ?_, rfl⟩⟩, rfl, by omega⟩, ?_⟩
    · simp [Builtin.zeroCells]
      omega
    · exact (below_drewN (Below.refl _ w) 1).alloc (Nat.le_refl _) _

theorem flat_len8 {bs : List (List Int)} {n : Nat} (h : ∀ k, k < n → (blkAt bs k).length ≤ 8) : ∀ k, k ≤ n → lenTo bs k ≤ 8 * k
  | 0, _ => Nat.le_refl _
  | k + 1, hk => by
    have := flat_len8 h k (by omega)
    have := h k (by omega)
    rw [lenTo]
    omega
set_option maxHeartbeats 2000000 in
theorem concat_any (a : Option Addr) (n cap : Nat) (rs : List Rw) (bs : List (List Int)) (w : World) (h : HasR w a n cap rs) (hbs : numsOf rs = bs) (hn : n ≤ 8) (h8 : ∀ k, k < n → (blkAt bs k).length ≤ 8) :
    Calls Try.prog 73 #[.slice a n cap] w fun e w' => ∃ a' m' cap', e = .returned (.slice a' m' cap') ∧ Own w' w.heap.size a' m' cap' (flatTo bs n) ∧ Below w.heap.size w w' := by
  have HROW := hid (fun (W : World) (hb : Below w.heap.size w W) (k : Nat) (hk : k < n) => HasR.rowAt h hb hbs hk)
  have HL := hid (flat_len8 h8)
  have HLF := hid (length_flatTo bs)
  have H8 := hid h8
  clear h h8 hbs
  go_enter Try.func73, Try.ntmps73
  go_wp2_with fail
  go_loop [3, 11] (fun g i => ∃ k : Nat, k ≤ n ∧ i = .int .i64 (k : Int) ∧ g = .int .i64 (lenTo bs k : Int)) (fun _ i => n - (intOf i).toNat)
  case atStart => exact ⟨0, Nat.zero_le _, rfl, rfl⟩
  case round =>
    obtain ⟨k, hk, rfl, rfl⟩ := hrel
    have hLk := HL.out k hk
    by_cases hlt : k < n
    · obtain ⟨b, off, ak, ck, rfl, hck, -⟩ := HROW.out w (Below.refl _ _) k hlt
      have hle := H8.out k hlt
      have HS : Hid (lenTo bs (k + 1) = lenTo bs k + (blkAt bs k).length) := hid rfl
      generalize (blkAt bs k).length = nk at *
      generalize lenTo bs k = L at *
      have hng : ¬ (L : Int) + (nk : Int) < 0 := by omega
      go_wp2_with fail
      go_round
      case rel => exact ⟨k + 1, by omega, by go_num, by rw [HS.out]; go_num⟩
      case measure => simp [intOf]; omega
    · obtain rfl : k = n := by omega
      obtain ⟨N, hN⟩ : ∃ N, lenTo bs k = N := ⟨_, rfl⟩
      rw [hN] at hLk ⊢
      clear hN
      go_wp2_with fail
      refine (grow_any N (by omega) _).mono ?_
      rintro e w2 ⟨a2, c2, rfl, o2, hb2⟩
      go_wp2_with fail
      go_loopw [6, 27] (fun s i wr => ∃ (j : Nat) (a6 : Option Addr) (m6 c6 : Nat), j ≤ k ∧ i = .int .i64 (j : Int) ∧ s = .slice a6 m6 c6 ∧ Own wr w.heap.size a6 m6 c6 (flatTo bs j) ∧ Below w.heap.size w wr) (fun _ i _ => k - (intOf i).toNat)
      case atStart => exact ⟨0, a2, 0, c2, Nat.zero_le _, rfl, rfl, o2, hb2⟩
      case round =>
        obtain ⟨j, a6, m6, c6, hj, rfl, rfl, o6, hb⟩ := hrel
        clear o2 hb2
        by_cases hlt : j < k
        · obtain ⟨b, off, ak, ck, rfl, hck, H_k⟩ := HROW.out wr hb j hlt
          have hle := H8.out j hlt
          have hm6 : m6 ≤ 64 := by rw [← o6.len, HLF.out]; have := HL.out j hj; omega
          have HFS : Hid (flatTo bs (j + 1) = flatTo bs j ++ blkAt bs j) := hid rfl
          have H1 := H_k.below hb (Nat.le_refl _)
          have hjk : (j : Int) < (k : Int) := by omega
          clear H_k
          go_wp2_with (at_builtin; refine wpList_append_ints _ rfl _ _ rfl w.heap.size _ _ _ _ _ _ _ _ rfl rfl o6 H1 (by omega) hb.size ?_; intro a4 n4 cap4 w4 hn4 hown4 hb4; subst hn4)
          go_roundw
          case rel => exact ⟨j + 1, a4, _, cap4, by omega, by go_num, rfl, by rw [HFS.out]; exact hown4, hb.trans hb4⟩
          case measure => simp [intOf]; omega
        · obtain rfl : j = k := by omega
          go_wp2_with fail
          go_ret
          exact ⟨a6, m6, c6, rfl, o6, hb⟩

theorem eq_any (a b : Option Addr) (n m cap cap' : Nat) (xs ys : List Int) (w : World) (h : Has w a n cap xs) (h' : Has w b m cap' ys) :
    Calls Try.prog 47 #[.slice a n cap, .slice b m cap'] w fun e w' => e = .returned (.bool (same xs ys)) ∧ Quiet w w' := by
  have hx := h.len
  have hy := h'.len
  have l1 := h.le
  have l2 := h'.le
  by_cases e : n = m
  · subst e
    by_cases h0 : n = 0
    · subst h0
      obtain rfl : xs = [] := List.eq_nil_of_length_eq_zero hx
      obtain rfl : ys = [] := List.eq_nil_of_length_eq_zero hy
      refine (Try.slices_Equal_int_empty a b cap 0 cap' w (by omega)).mono ?_
      rintro e w' ⟨rfl, rfl⟩
      exact ⟨rfl, ⟨0, rfl⟩⟩
    · obtain ⟨b1, o1, rfl, _, c1⟩ := h.2.2.2.2 (by omega)
      obtain ⟨b2, o2, rfl, _, c2⟩ := h'.2.2.2.2 (by omega)
      refine (Try.slices_Equal_int b1 o1 n cap b2 o2 n cap' xs ys w (by omega) (by omega) (by omega) (by omega) (fun j hj => c1 j (by omega)) (fun j hj => c2 j (by omega))).mono ?_
      rintro e w' ⟨rfl, q, rfl⟩
      refine ⟨?_, ⟨q, rfl⟩⟩
      rw [List.take_of_length_le (by omega), List.take_of_length_le (by omega)]
      congr 2
      unfold same
      rw [Bool.eq_iff_iff, beq_iff_eq, decide_eq_true_eq]
  · refine (Try.slices_Equal_int_lens a b n cap m cap' w e).mono ?_
    rintro e' w' ⟨rfl, rfl⟩
    refine ⟨?_, ⟨0, rfl⟩⟩
    have : same xs ys = false := by
      unfold same
      rw [decide_eq_false]
      rintro rfl
      omega
    rw [this]

set_option maxHeartbeats 2000000 in
theorem eqFunc_any (a b : Option Addr) (n m cap cap' : Nat) (rs ss : List Rw) (ls bs : List (List Int)) (w : World) (h : HasR w a n cap rs) (h' : HasR w b m cap' ss) (hls : numsOf rs = ls) (hbs : numsOf ss = bs) :
    Calls Try.prog 46 #[.slice a n cap, .slice b m cap', .func (.func 47) #[] #[]] w fun e w' => e = .returned (.bool (decide (ls = bs))) ∧ Quiet w w' := by
  have n1 : ls.length = n := by have := h.1; rw [← hls]; simpa [numsOf] using this
  have n2 : bs.length = m := by have := h'.1; rw [← hbs]; simpa [numsOf] using this
  have hl := h.2.2.2.1
  have hl' := h'.2.2.2.1
  have HR1 := hid (fun (W : World) (hb : Below w.heap.size w W) (k : Nat) (hk : k < n) => HasR.rowAt h hb hls hk)
  have HR2 := hid (fun (W : World) (hb : Below w.heap.size w W) (k : Nat) (hk : k < m) => HasR.rowAt h' hb hbs hk)
  clear h h' hls hbs
  by_cases e : n = m
  · subst e
    have HSA := hid (blks_same (bs := bs) (ls := ls) (by omega))
    rw [n2] at HSA
    have hne := neq_self_int (n : Int)
    go_enter Try.func46, Try.ntmps46
    go_wp2_with fail
    go_loopw [17] (fun i wr => ∃ t : Nat, t ≤ n ∧ i = .int .i64 (t : Int) ∧ Quiet w wr ∧ Hid (∀ q, q < t → blkAt bs q = blkAt ls q)) (fun i _ => n - (intOf i).toNat)
    case atStart => exact ⟨0, Nat.zero_le _, rfl, ⟨0, rfl⟩, hid (fun q hq => absurd hq (by omega))⟩
    case round =>
      obtain ⟨t, ht, rfl, hq, HQ⟩ := hrel
      by_cases hlt : t < n
      · obtain ⟨b1, o1, ak, ck, rfl, hck, H_1⟩ := HR1.out wr (hq.below _) t hlt
        obtain ⟨b2, o2, ak', ck', rfl, hck', H_2⟩ := HR2.out wr (hq.below _) t hlt
        have H1 := H_1.below (hq.below _) (Nat.le_refl _)
        have H2 := H_2.below (hq.below _) (Nat.le_refl _)
        have htn : (t : Int) < (n : Int) := by omega
        clear H_1 H_2
        by_cases hs : blkAt bs t = blkAt ls t
        · have HS : Hid (same (blkAt ls t) (blkAt bs t) = true) := hid (by rw [hs]; exact same_self _)
          have HQ2 : Hid (∀ q, q < t + 1 → blkAt bs q = blkAt ls q) := hid (fun q hq => by
            by_cases e : q = t
            · rw [e]; exact hs
            · exact HQ.out q (by omega))
          clear hs
          go_wp2_with fail
          refine (eq_any _ _ _ _ _ _ _ _ _ H1 H2).mono ?_
          rintro e w5 ⟨rfl, q5, rfl⟩
          rw [HS.out]
          go_wp2_with fail
          go_roundw
          case rel => exact ⟨t + 1, by omega, by go_num, Quiet.more hq _, HQ2⟩
          case measure => simp [intOf]; omega
        · have HS : Hid (same (blkAt ls t) (blkAt bs t) = false) := hid (by unfold same; rw [decide_eq_false]; exact fun e => hs e.symm)
          have HD : Hid (decide (ls = bs) = false) := hid (decide_eq_false (fun e => hs (by rw [e])))
          clear hs
          go_wp2_with fail
          refine (eq_any _ _ _ _ _ _ _ _ _ H1 H2).mono ?_
          rintro e w5 ⟨rfl, q5, rfl⟩
          rw [HS.out]
          go_wp2_with fail
          go_ret
          exact ⟨ret_bool HD.out.symm, Quiet.more hq _⟩
      · obtain rfl : t = n := by omega
        have HD : Hid (decide (ls = bs) = true) := hid (decide_eq_true (HSA.out HQ.out))
        go_wp2_with fail
        go_ret
        exact ⟨ret_bool HD.out.symm, hq⟩
  · have hne : ((n : Int) != (m : Int)) = true := by simp; omega
    have HD : Hid (decide (ls = bs) = false) := hid (decide_eq_false (fun e' => e (by rw [← n1, ← n2, e'])))
    go_enter Try.func46, Try.ntmps46
    go_wp2_with fail
    go_ret
    exact ⟨ret_bool HD.out.symm, ⟨0, rfl⟩⟩
end Go.Proofs.Ytehdccfkkfkciab

namespace Go.Proofs.Ytehdccfkkfkciab
open Go.RowKit

set_option maxHeartbeats 400000 in
theorem sort_any (B : Nat) (a : Option Addr) (n cap : Nat) (xs : List Int) (w : World) (h : Own w B a n cap xs) :
    Calls Try.prog 86 #[.slice a n cap] w fun e w' => e = .returned (.tuple #[]) ∧ Own w' B a n cap (insSort xs) ∧ Marked w w' a := by
  have hlen := h.len
  by_cases h0 : n = 0
  · subst h0
    refine (Try.slices_Sort_int_none a cap w).mono fun e w' ⟨he, hw⟩ => ⟨he, ?_, ?_⟩
    · subst hw
      obtain rfl : xs = [] := List.eq_nil_of_length_eq_zero hlen
      exact h
    · subst hw
      exact ⟨none, World.grownBy.refl _ _, by simp⟩
  · obtain ⟨g, rfl, hg1, hg2, hg3, hg4⟩ := h.opened (by omega)
    have hH : Go.Sort.Holds (Value.int .i64) w g 0 xs.toArray := by
      intro j hj
      have hj' : j < xs.length := by simpa using hj
      refine ⟨?_, hg4 _⟩
      rw [Nat.zero_add, hg3 j (by omega)]
      simp [nth, hj']
    subst hlen
    have hle := h.le
    refine (Try.slices_Sort_int g 0 cap xs w hH hg2 (by omega)).mono fun e w' ⟨he, k, os, hw⟩ => ⟨he, ?_, ?_⟩
    · rw [mergeSort_insSort] at hw
      subst hw
      rcases h.1.2 with ⟨h1, _⟩ | ⟨g', cap', cur, hv, hbase, hb, h1, h2, h3, h4⟩
      · simp at h1
      · simp at hv
        obtain ⟨rfl, rfl⟩ := hv
        exact ⟨Go.ownsRow_sortedI (length_insSort xs) hbase hb h1 h2 h3, length_insSort xs, hle⟩
    · subst hw
      exact ⟨some g, Go.grownBy_sortedI _, fun g' hg' => ⟨_, rfl, by simpa using hg'⟩⟩

set_option maxHeartbeats 400000 in
theorem clone_any (a : Option Addr) (n cap : Nat) (xs : List Int) (w : World) (h : Has w a n cap xs) :
    Calls Try.prog 45 #[.slice a n cap] w fun e w' => ∃ a' cap', e = .returned (.slice a' n cap') ∧ Own w' w.heap.size a' n cap' xs ∧ Below w.heap.size w w' := by
  obtain ⟨h0, h1, h2, h3, h4⟩ := h
  by_cases hn : n = 0
  · subst hn
    obtain rfl : xs = [] := List.eq_nil_of_length_eq_zero h0
    cases a with
    | none => exact (Try.slices_Clone_int_nil 0 cap w).mono fun e w' ⟨he, hw⟩ => by subst hw; exact ⟨none, 0, he, Own.nil _ _, Below.refl _ _⟩
    | some p =>
      refine (Try.slices_Clone_int_zero p cap w).mono fun e w' ⟨v', he, ho, _, hb⟩ => ?_
      obtain ⟨a', cap', rfl, ho'⟩ := own_of_row (xs := []) ho rfl rfl (by simp)
      exact ⟨a', cap', he, ho', hb⟩
  · obtain ⟨b, off, rfl, _, hc⟩ := h4 (by omega)
    refine (Try.slices_Clone_int b off n cap xs w (by omega) (by omega) (fun j hj => hc j (by omega))).mono fun e w' ⟨v', he, ho, _, hb⟩ => ?_
    obtain ⟨a', cap', rfl, ho'⟩ := own_of_row (xs := xs) ho h0.symm (by rw [List.take_of_length_le (by omega)]) (by omega)
    exact ⟨a', cap', he, ho', hb⟩

end Go.Proofs.Ytehdccfkkfkciab

namespace Go.Proofs.Ytehdccfkkfkciab
open Go.RowKit

set_option maxHeartbeats 800000 in
theorem paOutcome_any (a : Option Addr) (n cap : Nat) (xs : List Int) (w : World) (h : Has w a n cap xs) :
    Calls Try.prog 49 #[.slice a n cap] w fun e w' => e = .returned (.bool (outB xs)) ∧ w = w' := by
  have hlen := h.len
  have hle := h.le
  by_cases h8 : n ≤ 8
  · by_cases ha : allB xs 0 ((n : Int) - 1) = true
    · have HA := hid ha
      have HR : Hid (outB xs = distB xs n) := hid (by simp [outB, carsB, hlen, h8, ha])
      have HL := hid hlen
      clear ha hlen
      have hcap := h.2.1
      have hmx : cap ≤ maxLen := h.2.2.1
      go_enter Try.func49, Try.ntmps49
      go_wp2_with (go_at_call 58; refine (l1All_any _ _ _ _ _ _ _ h).mono ?_; rintro e w' ⟨rfl, rfl⟩; rw [HA.out])
      go_loop [18] (fun i => ∃ k : Nat, k ≤ n ∧ i = .int .i64 k ∧ Hid (distB xs k = true)) (fun i => n - (intOf i).toNat)
      case atStart => exact ⟨0, Nat.zero_le _, rfl, hid rfl⟩
      case round =>
        obtain ⟨k, hk, rfl, HD⟩ := hrel
        by_cases hlt : k < n
        · obtain ⟨b, off, rfl, hb, hc⟩ := h.2.2.2.2 (by omega)
          have hck := hc k hlt
          have ht := h.take (k := k) (by omega)
          clear hc
          by_cases hq : hasB (xs.take k) (nth xs k) = true
          · have HQ := hid hq
            have HN := hid (distB_no (n := n) hlt hq)
            clear hq
            go_wp2_with fail
            refine (l1Has_any _ _ _ _ _ _ ht).mono ?_
            rintro e w' ⟨rfl, rfl⟩
            rw [HQ.out]
            go_wp2_with fail
            go_ret
            exact ⟨ret_bool (by rw [HR.out, HN.out]), rfl⟩
          · have HQ := hid hq
            clear hq
            go_wp2_with fail
            refine (l1Has_any _ _ _ _ _ _ ht).mono ?_
            rintro e w' ⟨rfl, rfl⟩
            rw [Bool.eq_false_iff.2 HQ.out]
            go_wp2_with fail
            go_round
            case rel => exact ⟨k + 1, by omega, by go_num, hid (by rw [distB_succ, HD.out, Bool.eq_false_iff.2 HQ.out]; rfl)⟩
            case measure => simp [intOf]; omega
        · obtain rfl : k = n := by omega
          go_wp2_with fail
          go_ret
          exact ⟨ret_bool (by rw [HR.out, HD.out]), rfl⟩
    · have HA := hid ha
      have HR : Hid (outB xs = false) := hid (by simp [outB, carsB, hlen, ha])
      clear ha
      go_enter Try.func49, Try.ntmps49
      go_wp2_with (go_at_call 58; refine (l1All_any _ _ _ _ _ _ _ h).mono ?_; rintro e w' ⟨rfl, rfl⟩; rw [Bool.eq_false_iff.2 HA.out])
      go_ret
      exact ⟨ret_bool HR.out.symm, rfl⟩
  · have HR : Hid (outB xs = false) := hid (by simp [outB, carsB, hlen, h8])
    go_enter Try.func49, Try.ntmps49
    go_wp2_with fail
    go_ret
    exact ⟨ret_bool HR.out.symm, rfl⟩

/-- A local array of eight cells: what each holds. -/
structure Arr (w : World) (blk : Nat) (f : Nat → Value) : Prop where
  cell : ∀ z, z < 8 → w.cell? ⟨blk, z, none⟩ = some (f z)
  free : ∀ z, w.frozen? ⟨blk, z, none⟩ = false
theorem eight {v : Value} {z : Nat} (h : z < 8) : (#[v, v, v, v, v, v, v, v] : Array Value)[z]? = some v := by
  rcases (show z = 0 ∨ z = 1 ∨ z = 2 ∨ z = 3 ∨ z = 4 ∨ z = 5 ∨ z = 6 ∨ z = 7 by omega) with rfl | rfl | rfl | rfl | rfl | rfl | rfl | rfl <;> rfl
theorem arr_new (w : World) (v : Value) (t : TypeId) : Arr (w.alloc (.cells #[v, v, v, v, v, v, v, v] t)) w.heap.size fun _ => v :=
  ⟨fun z hz => by rw [World.cell?_alloc_at _ _ _ _ rfl, eight hz], fun z => by rw [World.frozen?_alloc_at _ _ _ _ rfl]⟩
theorem Arr.set {w : World} {blk : Nat} {f : Nat → Value} (h : Arr w blk f) {z : Nat} (hz : z < 8) (v : Value) : Arr (w.setCell ⟨blk, z, none⟩ v) blk fun y => if y = z then v else f y := by
  refine ⟨fun y hy => ?_, fun y => by rw [World.frozen?_setCell]; exact h.free y⟩
  by_cases e : y = z
  · subst e
    rw [World.cell?_setCell_same _ _ _ (h.cell y hy), if_pos rfl]
  · rw [World.cell?_setCell_other _ _ _ _ (by intro hh; injection hh with _ h5 _; exact e h5.symm), if_neg e]
    exact h.cell y hy
theorem Arr.congr {w : World} {blk : Nat} {f g : Nat → Value} (h : Arr w blk f) (e : ∀ z, z < 8 → g z = f z) : Arr w blk g := ⟨fun z hz => by rw [e z hz]; exact h.cell z hz, h.free⟩
theorem has_take_succ {xs : List Int} {k : Nat} (h : k < xs.length) (z : Int) : hasB (xs.take (k + 1)) z = (hasB (xs.take k) z || decide (z = nth xs k)) := by
  rw [Bool.eq_iff_iff]
  simp [hasB, take_succ_nth h]
theorem Arr.below {w w' : World} {blk B : Nat} {f : Nat → Value} (h : Arr w blk f) (hb : Below B w w') (hB : blk < B) : Arr w' blk f :=
  ⟨fun z hz => by rw [hb.cell (p := ⟨blk, z, none⟩) hB]; exact h.cell z hz, fun z => by rw [hb.frozen (p := ⟨blk, z, none⟩) hB]; exact h.free z⟩

set_option maxHeartbeats 800000 in
theorem isOutcome_any (a : Option Addr) (n cap : Nat) (xs : List Int) (w : World) (h : Has w a n cap xs) :
    Calls Try.prog 52 #[.slice a n cap] w (PostBool w (outB xs)) := by
  have hlen := h.len
  by_cases hg : carsB xs n = true
  · have HR : Hid (outB xs = distB xs n) := hid (by simp [outB, hlen, hg])
    have g1 : n ≤ 8 := by have := (carsB_iff.1 hg).1; omega
    have g4 : ∀ i, i < n → 0 ≤ nth xs i ∧ nth xs i ≤ (n : Int) - 1 := fun i hi => (carsB_iff.1 hg).2 _ (nth_mem (by omega))
    have HL := hid hlen
    have HG := hid hg
    clear hg hlen
    go_enter Try.func52, Try.ntmps52
    go_wp2_with (go_at_call 64; refine (areCarsBelow_any _ _ _ _ _ _ h).mono ?_; rintro e w' ⟨rfl, rfl⟩; rw [HG.out])
    have A0 := arr_new w (.bool false) 70
    have B0 : Below w.heap.size w (w.alloc (.cells #[.bool false, .bool false, .bool false, .bool false, .bool false, .bool false, .bool false, .bool false] 70)) := (Below.refl _ _).alloc (Nat.le_refl _) _
    go_loopw [13] (fun i wr => ∃ k : Nat, k ≤ n ∧ i = .int .i64 k ∧ Arr wr w.heap.size (fun z => .bool (hasB (xs.take k) z)) ∧ Hid (distB xs k = true) ∧ Below w.heap.size w wr) (fun i _ => n - (intOf i).toNat)
    case atStart => exact ⟨0, Nat.zero_le _, rfl, A0.congr (fun z _ => by simp [hasB]), hid rfl, B0⟩
    case round =>
      obtain ⟨k, hk, rfl, HA, HD, hb⟩ := hrel
      clear A0 B0
      by_cases hlt : k < n
      · obtain ⟨b, off, rfl, hbb, hc⟩ := h.2.2.2.2 (by omega)
        have hck : wr.cell? ⟨b, off + k, none⟩ = some (.int .i64 (nth xs k)) := by rw [hb.cell (p := ⟨b, off + k, none⟩) hbb]; exact hc k hlt
        obtain ⟨hx0, hx1⟩ := g4 k hlt
        obtain ⟨v, hv⟩ : ∃ v : Nat, nth xs k = (v : Int) := ⟨_, (Int.toNat_of_nonneg hx0).symm⟩
        have hac := HA.cell v (by omega)
        have haf := HA.free v
        rw [hv] at hck hx0 hx1
        have HV := hid hv
        clear hc g4 hv
        by_cases hq : hasB (xs.take k) v = true
        · have HN := hid (distB_no (n := n) hlt (by rw [HV.out]; exact hq))
          rw [hq] at hac
          clear hq
          go_wp2_with fail
          go_ret
          exact postBool (by rw [HR.out, HN.out]) hb
        · have hq' := Bool.eq_false_iff.2 hq
          have HQ := hid hq'
          rw [hq'] at hac
          clear hq hq'
          go_wp2_with fail
          go_roundw
          case rel =>
            refine ⟨k + 1, by omega, by go_num, (HA.set (z := v) (by omega) (.bool true)).congr (fun z hz => ?_), hid (by rw [distB_succ, HD.out, HV.out, HQ.out]; rfl), hb.setCell (by simp) _⟩
            rw [has_take_succ (by rw [HL.out]; omega), HV.out]
            by_cases e : z = v
            · subst e; simp
            · have e' : ¬ (z : Int) = (v : Int) := by omega
              simp [e, e']
          case measure => simp [intOf]; omega
      · obtain rfl : k = n := by omega
        go_wp2_with fail
        go_ret
        exact postBool (by rw [HR.out, HD.out]) hb
  · have HR : Hid (outB xs = false) := hid (by simp [outB, hlen, hg])
    have HG := hid hg
    clear hg
    go_enter Try.func52, Try.ntmps52
    go_wp2_with (go_at_call 64; refine (areCarsBelow_any _ _ _ _ _ _ h).mono ?_; rintro e w' ⟨rfl, rfl⟩; rw [Bool.eq_false_iff.2 HG.out])
    go_ret
    exact postBool HR.out.symm (Below.refl _ _)

/-- What the array of cars holds, behind the first k cars. -/
def carAt (xs : List Int) : Nat → Nat → Int
  | 0, _ => 0
  | k + 1, z => if nth xs k = (z : Int) then (k : Int) else carAt xs k z
theorem carAt_at {xs : List Int} (h : outB xs = true) {j : Nat} (hj : j < xs.length) {v : Nat} (hv : nth xs j = (v : Int)) : ∀ k, j < k → k ≤ xs.length → carAt xs k v = (j : Int)
  | 0, h1, _ => by omega
  | k + 1, h1, h2 => by
    simp only [carAt]
    by_cases e : nth xs k = (v : Int)
    · have := out_inj h (i := k) (j := j) (by omega) hj (by rw [e, hv])
      rw [if_pos e]; omega
    · rw [if_neg e]
      have hne : j ≠ k := by rintro rfl; exact e hv
      exact carAt_at h hj hv k (by omega) (by omega)
/-- The car at a place is an earlier one exactly if the place is among the earlier places. -/
theorem carAt_lt {xs : List Int} (h : outB xs = true) {i v : Nat} (hi : i < xs.length) (hv : v < xs.length) : carAt xs xs.length v < (i : Int) ↔ (v : Int) ∈ xs.take i := by
  obtain ⟨j, hj, e⟩ := mem_nth (out_all h hv)
  rw [carAt_at h hj e xs.length hj (Nat.le_refl _), ← e, out_before h hi hj]
  omega
theorem carAt_bounds (xs : List Int) (z : Nat) : ∀ k, 0 ≤ carAt xs k z ∧ carAt xs k z ≤ (k : Int)
  | 0 => by simp [carAt]
  | k + 1 => by
    have := carAt_bounds xs z k
    simp only [carAt]
    split <;> omega

end Go.Proofs.Ytehdccfkkfkciab

namespace Go.Proofs.Ytehdccfkkfkciab
open Go.RowKit

def areB (bs : List (List Int)) (n : Nat) : Bool := decide (n ≤ 8) && (((List.range n).all fun k => carsB (blkAt bs k) 8) && outB (flatTo bs n))
theorem areB_rows {bs : List (List Int)} {n : Nat} : areB bs n = true ↔ n ≤ 8 ∧ (∀ k, k < n → carsB (blkAt bs k) 8 = true) ∧ outB (flatTo bs n) = true := by
  unfold areB
  rw [Bool.and_eq_true, Bool.and_eq_true, decide_eq_true_eq, List.all_eq_true]
  simp only [List.mem_range]
theorem ok_are {bs : List (List Int)} {n : Nat} (hl : bs.length = n) (h : okBl bs = true) : areB bs n = true := by
  unfold okBl at h
  rw [hl, Bool.and_eq_true] at h
  obtain ⟨h1, h2⟩ := h
  have h3 := out_pre.1 h2
  rw [length_flatTo] at h3
  have h4 := nonTo_len h1
  refine areB_rows.2 ⟨by omega, fun k hk => carsB_iff.2 ⟨?_, fun x hx => ?_⟩, h2⟩
  · have := lenTo_mono bs (k := k + 1) (n - (k + 1))
    rw [show k + 1 + (n - (k + 1)) = n by omega, lenTo] at this
    omega
  · have hm : x ∈ flatTo bs n := (flat_part bs hk (blkAt bs k).length).subset (by rw [List.take_length]; exact List.mem_append_right _ hx)
    have := h3.2.2 x hm
    omega
theorem from_not {bs : List (List Int)} {n : Nat} (hl : bs.length = n) (h : ¬ areB bs n = true) : fromUnit bs = ([], false) := by
  unfold fromUnit
  rw [if_neg]
  rintro ⟨h1, _⟩
  exact h (ok_are hl h1)
theorem blk_full {xs ls : List Int} : ∀ k, ∀ r ∈ blk xs ls k, 0 < r.length
  | 0, r, h => by simp [blk] at h
  | k + 1, r, h => by
    rw [blk] at h
    split at h
    · rcases List.mem_append.1 h with h | h
      · exact blk_full k r h
      · rw [List.mem_singleton] at h; subst h; simp
    · unfold addLast at h
      rcases List.mem_append.1 h with h | h
      · exact blk_full k r (List.dropLast_subset _ h)
      · rw [List.mem_singleton] at h; subst h; simp
theorem from_own {bs : List (List Int)} {n : Nat} (hl : bs.length = n) (h : areB bs n = true) (hu : unitBlocksOf (placeBl bs) = (bs, true)) : fromUnit bs = (placeBl bs, true) := by
  have h1 := areB_rows.1 h
  unfold fromUnit
  rw [if_pos]
  refine ⟨?_, hu⟩
  unfold okBl
  rw [hl, h1.2.2, Bool.and_true]
  unfold nonTo
  rw [List.all_eq_true]
  intro k hk
  rw [List.mem_range] at hk
  rw [decide_eq_true_eq]
  unfold unitBlocksOf at hu
  split at hu
  · simp only [Prod.mk.injEq, and_true] at hu
    refine blk_full (xs := placeBl bs) (ls := fairL (placeBl bs)) (placeBl bs).length _ ?_
    rw [hu]
    unfold blkAt
    rw [List.getD_eq_getElem?_getD, List.getElem?_eq_getElem (by omega)]
    exact List.getElem_mem _
  · simp at hu
theorem plIn_take (f : Nat) (b ys : List Int) (N : Nat) : ∀ i, (plIn f b ys i).take N = plIn f b (ys.take N) i
  | 0 => rfl
  | i + 1 => by rw [plIn, plIn, List.take_set, plIn_take f b ys N i]
theorem plTo_take (bs : List (List Int)) {N : Nat} (hN : N ≤ 8) : ∀ k, (plTo 8 bs k).take N = plTo N bs k
  | 0 => by rw [plTo, plTo, List.take_replicate, Nat.min_eq_left hN]
  | k + 1 => by rw [plTo, plTo, plIn_take, plTo_take bs hN k]

set_option maxHeartbeats 1600000 in
theorem areBlocks_any (a : Option Addr) (n cap : Nat) (rs : List Rw) (bs : List (List Int)) (w : World) (h : HasR w a n cap rs) (hbs : numsOf rs = bs) :
    Calls Try.prog 44 #[.slice a n cap] w (PostBool w (areB bs n)) := by
  have hnb := h.2.2.2.1
  by_cases h8 : n ≤ 8
  · have HROW := hid (fun (k : Nat) (hk : k < n) => HasR.rowAt h (Below.refl _ _) hbs hk)
    have HC := hid (fun (hh : ∀ k, k < n → (blkAt bs k).length ≤ 8) => concat_any a n cap rs bs w h hbs h8 hh)
    have HNO : Hid (∀ k, k < n → ¬ carsB (blkAt bs k) 8 = true → areB bs n = false) := hid (fun k hk hc => Bool.eq_false_iff.2 (fun e => hc ((areB_rows.1 e).2.1 k hk)))
    have HYE : Hid ((∀ k, k < n → carsB (blkAt bs k) 8 = true) → areB bs n = outB (flatTo bs n)) := hid (fun hh => by
      unfold areB
      rw [decide_eq_true h8, Bool.true_and, List.all_eq_true.2 (fun k hk => hh k (List.mem_range.1 hk)), Bool.true_and])
    have hg : ¬ (8 : Int) < (n : Int) := by omega
    clear h hbs
    go_enter Try.func44, Try.ntmps44
    go_wp2_with fail
    go_loop [10] (fun i => ∃ k : Nat, k ≤ n ∧ i = .int .i64 (k : Int) ∧ Hid (∀ j, j < k → carsB (blkAt bs j) 8 = true)) (fun i => n - (intOf i).toNat)
    case atStart => exact ⟨0, Nat.zero_le _, rfl, hid (fun j hj => absurd hj (by omega))⟩
    case round =>
      obtain ⟨k, hk, rfl, HK⟩ := hrel
      by_cases hlt : k < n
      · obtain ⟨b, off, ak, ck, rfl, hck, H_k⟩ := HROW.out k hlt
        by_cases hc : carsB (blkAt bs k) 8 = true
        · have HCB := hid hc
          have HK2 : Hid (∀ j, j < k + 1 → carsB (blkAt bs j) 8 = true) := hid (fun j hj => by
            by_cases e : j = k
            · rw [e]; exact hc
            · exact HK.out j (by omega))
          clear hc
          go_wp2_with (go_at_call 64; refine (areCarsBelow_any _ _ _ _ _ _ H_k).mono ?_; rintro e w' ⟨rfl, rfl⟩; rw [HCB.out])
          go_round
          case rel => exact ⟨k + 1, by omega, by go_num, HK2⟩
          case measure => simp [intOf]; omega
        · have HCB := hid (Bool.eq_false_iff.2 hc)
          have HR := hid (HNO.out k hlt hc)
          clear hc
          go_wp2_with (go_at_call 64; refine (areCarsBelow_any _ _ _ _ _ _ H_k).mono ?_; rintro e w' ⟨rfl, rfl⟩; rw [HCB.out])
          go_ret
          exact postBool HR.out.symm (Below.refl _ _)
      · obtain rfl : k = n := by omega
        have HR := hid (HYE.out HK.out)
        go_wp2_with fail
        refine (HC.out (fun j hj => (carsB_iff.1 (HK.out j hj)).1)).mono ?_
        rintro e w2 ⟨a2, m2, c2, rfl, o2, hb2⟩
        go_wp2_with fail
        refine (isOutcome_any _ _ _ _ _ o2.has).mono ?_
        rintro e w3 ⟨rfl, hb3⟩
        go_wp2_with fail
        go_ret
        exact postBool HR.out.symm (hb2.trans (hb3.mono hb2.size))
  · have HR : Hid (areB bs n = false) := hid (Bool.eq_false_iff.2 (fun e => h8 (areB_rows.1 e).1))
    have hg : (8 : Int) < (n : Int) := by omega
    go_enter Try.func44, Try.ntmps44
    go_wp2_with fail
    go_ret
    exact postBool HR.out.symm (Below.refl _ _)
theorem are_len {bs : List (List Int)} {n : Nat} (h : areB bs n = true) : n ≤ 8 ∧ lenTo bs n ≤ 8 ∧ (∀ j, j < n → lenTo bs j + (blkAt bs j).length ≤ lenTo bs n) ∧ ∀ j i, j < n → i < (blkAt bs j).length → ∃ c : Nat, nth (blkAt bs j) i = (c : Int) ∧ c < 8 := by
  obtain ⟨h1, h2, h3⟩ := areB_rows.1 h
  have h4 := (out_pre.1 h3).1
  rw [length_flatTo] at h4
  refine ⟨h1, h4, fun j hj => ?_, fun j i hj hi => ?_⟩
  · have := lenTo_mono bs (k := j + 1) (n - (j + 1))
    rw [show j + 1 + (n - (j + 1)) = n by omega] at this
    exact this
  · have := (carsB_iff.1 (h2 j hj)).2 _ (nth_mem hi)
    exact ⟨(nth (blkAt bs j) i).toNat, by omega, by omega⟩
theorem nth_zeros (n z : Nat) : nth (List.replicate n (0 : Int)) z = 0 := by
  unfold nth
  rw [List.getD_eq_getElem?_getD, List.getElem?_replicate]
  split <;> rfl
theorem Arr.put {w : World} {blk : Nat} {ys : List Int} (h : Arr w blk (fun z => .int .i64 (nth ys z))) (hl : ys.length = 8) {c : Nat} (hc : c < 8) (v : Int) : Arr (w.setCell ⟨blk, c, none⟩ (.int .i64 v)) blk (fun z => .int .i64 (nth (ys.set c v) z)) := by
  refine (h.set hc (.int .i64 v)).congr fun z hz => ?_
  rw [nth_set (by omega)]
  by_cases e : z = c
  · rw [if_pos e, if_pos e.symm]
  · rw [if_neg e, if_neg (fun e' => e e'.symm)]

set_option maxRecDepth 100000 in
set_option maxHeartbeats 8000000 in
theorem implFrom_any (a : Option Addr) (n cap : Nat) (rs : List Rw) (w : World) (h : HasR w a n cap rs) :
    Calls Try.prog 21 #[.slice a n cap] w (PostInts w (fromUnit (numsOf rs))) := by
  have hnl : (numsOf rs).length = n := by have := h.1; simpa [numsOf] using this
  have hn := h.2.2.2.1
  obtain ⟨bs, hbs⟩ : ∃ bs, numsOf rs = bs := ⟨_, rfl⟩
  rw [hbs] at hnl ⊢
  have HAB := hid (areBlocks_any a n cap rs bs w h hbs)
  by_cases hA : areB bs n = true
  · have HA := hid hA
    obtain ⟨h8, hN8, hlen, hcar⟩ := are_len hA
    have HROW := hid (fun (W : World) (hb : Below w.heap.size w W) (k : Nat) (hk : k < n) => HasR.rowAt h hb hbs hk)
    have HH := hid h
    have HBS := hid hbs
    have HLM := hid hlen
    have HCA := hid hcar
    have HNO := hid (from_other (bs := bs))
    have HYE := hid (from_own hnl hA)
    have HPB : Hid (placeBl bs = plTo (lenTo bs n) bs n) := hid (by unfold placeBl; rw [hnl])
    clear hA h hbs hlen hcar hnl
    go_enter Try.func21, Try.ntmps21
    go_wp2_with fail
    refine HAB.out.mono ?_
    rw [HA.out]
    rintro e w1 ⟨rfl, hb1⟩
    have A0 : Arr (w1.alloc (.cells #[.int .i64 0, .int .i64 0, .int .i64 0, .int .i64 0, .int .i64 0, .int .i64 0, .int .i64 0, .int .i64 0] 51)) w1.heap.size (fun z => .int .i64 (nth (plTo 8 bs 0) z)) := (arr_new _ _ _).congr (fun z _ => by rw [plTo, nth_zeros])
    have hb2 : Below w.heap.size w (w1.alloc (.cells #[.int .i64 0, .int .i64 0, .int .i64 0, .int .i64 0, .int .i64 0, .int .i64 0, .int .i64 0, .int .i64 0] 51)) := hb1.alloc hb1.size _
    have hs1 := hb1.size
    have hsz1 : w1.heap.size < (w1.alloc (.cells #[.int .i64 0, .int .i64 0, .int .i64 0, .int .i64 0, .int .i64 0, .int .i64 0, .int .i64 0, .int .i64 0] 51)).heap.size := by simp
    obtain ⟨g, hg⟩ : ∃ g, w1.heap.size = g := ⟨_, rfl⟩
    go_wp2_with fail
    rw [hg] at A0 hs1 hsz1
    clear hb1 hg
    generalize w1.alloc (.cells #[.int .i64 0, .int .i64 0, .int .i64 0, .int .i64 0, .int .i64 0, .int .i64 0, .int .i64 0, .int .i64 0] 51) = w2 at *
    obtain ⟨N, hN⟩ : ∃ N, lenTo bs n = N := ⟨_, rfl⟩
    rw [hN] at hN8 HLM HPB
    have HNN := hid hN
    clear hN
    go_loopw [5, 18] (fun f i wr => ∃ j : Nat, j ≤ n ∧ i = .int .i64 (j : Int) ∧ f = .int .i64 (lenTo bs j : Int) ∧ lenTo bs j ≤ N ∧ Arr wr g (fun z => .int .i64 (nth (plTo 8 bs j) z)) ∧ Below w.heap.size w wr ∧ g < wr.heap.size) (fun _ i _ => n - (intOf i).toNat)
    case atStart => exact ⟨0, Nat.zero_le _, rfl, rfl, Nat.zero_le _, A0, hb2, hsz1⟩
    case round =>
      obtain ⟨j, hj, rfl, rfl, hLj, A, hb, hsz⟩ := hrel
      clear A0 hb2 hsz1
      by_cases hlt : j < n
      · obtain ⟨b, off, ak, ck, rfl, hck, H_k⟩ := HROW.out wr hb j hlt
        have hle := HLM.out j hlt
        have HCJ := hid (fun i hi => HCA.out j i hlt hi)
        have HS : Hid (lenTo bs (j + 1) = lenTo bs j + (blkAt bs j).length) := hid rfl
        have HPS : Hid (plTo 8 bs (j + 1) = plIn (lenTo bs j) (blkAt bs j) (plTo 8 bs j) (blkAt bs j).length) := hid rfl
        have HYL : Hid ((plTo 8 bs j).length = 8) := hid (length_plTo 8 bs j)
        have hjk : (j : Int) < (n : Int) := by omega
        generalize lenTo bs j = F at *
        generalize plTo 8 bs j = ys at *
        obtain ⟨blk, hblk⟩ : ∃ blk, blkAt bs j = blk := ⟨_, rfl⟩
        rw [hblk] at hck H_k hle HS HPS HCJ
        clear hblk
        obtain ⟨nk, hnk⟩ : ∃ nk, blk.length = nk := ⟨_, rfl⟩
        rw [hnk] at hck H_k hle HS HPS HCJ
        clear hnk
        go_wp2_with fail
        go_loopw [24] (fun i wr => ∃ t : Nat, t ≤ nk ∧ i = .int .i64 (t : Int) ∧ Arr wr g (fun z => .int .i64 (nth (plIn F blk ys t) z)) ∧ Below w.heap.size w wr ∧ g < wr.heap.size) (fun i _ => nk - (intOf i).toNat)
        case atStart => exact ⟨0, Nat.zero_le _, rfl, A, hb, hsz⟩
        case round =>
          clear A hb hsz hck
          obtain ⟨t, ht, rfl, A, hb, hsz⟩ := hrel
          by_cases hlt2 : t < nk
          · obtain ⟨bb, ob, hab, hbb, hcb⟩ := H_k.2.2.2.2 (by omega)
            obtain ⟨c, hc, hc8⟩ := HCJ.out t hlt2
            have hct : wr.cell? ⟨bb, ob + t, none⟩ = some (.int .i64 (c : Int)) := by rw [hb.cell (p := ⟨bb, ob + t, none⟩) hbb, hcb t hlt2, hc]
            subst hab
            have htn : (t : Int) < (nk : Int) := by omega
            have hc0 : (0 : Int) ≤ (c : Int) := by omega
            have hc9 : (c : Int) < 8 := by omega
            obtain ⟨u, hu⟩ : ∃ u, t - 1 = u := ⟨_, rfl⟩
            have hu8 : u ≤ 8 := by omega
            have hmx : max ((t : Int) - 1) 0 = (u : Int) := by rw [pred_max, hu]
            have HPI : Hid (plIn F blk ys (t + 1) = (plIn F blk ys t).set c ((F : Int) + (u : Int))) := hid (by rw [plIn, hc, Int.toNat_natCast, hu])
            have hwt : IntKind.i64.wrap ((t : Int) - 1) = (t : Int) - 1 := by rw [IntKind.wrap_i64]; omega
            have hfc := A.free c
            have hcc := A.cell c hc8
            have A2 := A.put (by rw [length_plIn, HYL.out]) hc8 ((F : Int) + (u : Int))
            have hb9 := hb.setCell (p := ⟨g, c, none⟩) hs1 (.int .i64 ((F : Int) + (u : Int)))
            have hsz9 : g < (wr.setCell ⟨g, c, none⟩ (.int .i64 ((F : Int) + (u : Int)))).heap.size := by simpa using hsz
            clear hcb hc A
            go_wp2_with fail
            go_roundw
            case rel => exact ⟨t + 1, by omega, by go_num, by rw [HPI.out]; exact A2, hb9, hsz9⟩
            case measure => simp [intOf]; omega
          · obtain rfl : t = nk := by omega
            go_wp2_with fail
            go_roundw
            case rel => exact ⟨j + 1, by omega, by go_num, by rw [HS.out]; go_num, by rw [HS.out]; omega, by rw [HPS.out]; exact A, hb, hsz⟩
            case measure => simp [intOf]; omega
      · obtain rfl : j = n := by omega
        rw [HNN.out]
        have HA2 : Has wr (some ⟨g, 0, none⟩) N 8 (plTo N bs j) := ⟨length_plTo _ _ _, by omega, by unfold maxLen; omega, by omega, fun _ => ⟨g, 0, rfl, hsz, fun i hi => by
          rw [Nat.zero_add, A.cell i (by omega), ← plTo_take bs hN8 j]
          congr 2
          simp [nth, hi]⟩⟩
        have HPL := hid (length_plTo N bs j)
        obtain ⟨pl, hpl⟩ : ∃ pl, plTo N bs j = pl := ⟨_, rfl⟩
        rw [hpl] at HA2 HPB HPL
        obtain ⟨⟨ls, ok⟩, hu⟩ : ∃ r, unitBlocksOf pl = r := ⟨_, rfl⟩
        have HU := hid hu
        have G5 := hid HNO.out
        have G6 := hid HYE.out
        rw [HPB.out, hu] at G5 G6
        clear hu hpl A HNO HYE
        have hN0 : (0 : Int) ≤ (N : Int) := by omega
        have hN9 : (N : Int) ≤ 8 := by omega
        go_wp2_with fail
        refine (clone_any _ _ _ _ _ HA2).mono ?_
        rintro e w3 ⟨a3, c3, rfl, o3, hb3⟩
        have hb13 := hb.trans (hb3.mono hb.size)
        go_wp2_with fail
        refine (implBlocks_any _ _ _ _ _ o3.has).mono ?_
        rw [HU.out]
        rintro e w4 ⟨a4, n4, c4, ss, rfl, R4, hn4, hb4⟩
        replace hn4 : numsOf ss = ls := hn4
        have o4 := o3.below hb4 (Nat.le_refl _)
        have hb14 := hb13.trans (hb4.mono hb13.size)
        have HN4 := hid hn4
        clear o3 hb3 hb4 hn4 hb13 HA2
        cases ok with
        | false =>
          have HR := hid (G5.out (by simp))
          go_wp2_with fail
          go_ret2
          exact postInts_no HR.out hb14
        | true =>
          by_cases hs : ls = bs
          · have HD : Hid (decide (ls = bs) = true) := hid (decide_eq_true hs)
            have HR := hid (G6.out (by rw [hs]))
            clear hs
            go_wp2_with fail
            refine (eqFunc_any _ _ _ _ _ _ _ _ ls bs _ R4.has (HH.out.below hb14 (Nat.le_refl _)) HN4.out HBS.out).mono ?_
            rintro e w5 ⟨rfl, q5⟩
            rw [HD.out]
            have o5 := o4.below (q5.below _) (Nat.le_refl _)
            have hb15 := hb14.trans (q5.below _)
            clear q5
            go_wp2_with fail
            go_ret2
            exact postInts HR.out (o5.mono hb.size) hb15
          · have HD : Hid (decide (ls = bs) = false) := hid (decide_eq_false hs)
            have HR := hid (G5.out (by simpa using hs))
            clear hs
            go_wp2_with fail
            refine (eqFunc_any _ _ _ _ _ _ _ _ ls bs _ R4.has (HH.out.below hb14 (Nat.le_refl _)) HN4.out HBS.out).mono ?_
            rintro e w5 ⟨rfl, q5⟩
            rw [HD.out]
            have hb15 := hb14.trans (q5.below _)
            clear q5
            go_wp2_with fail
            go_ret2
            exact postInts_no HR.out hb15
  · have HA := hid (Bool.eq_false_iff.2 hA)
    have HR := hid (from_not hnl hA)
    clear hA h hbs
    go_enter Try.func21, Try.ntmps21
    go_wp2_with fail
    refine HAB.out.mono ?_
    rw [HA.out]
    rintro e w1 ⟨rfl, hb1⟩
    go_wp2_with fail
    go_ret2
    exact postInts_no HR.out hb1
end Go.Proofs.Ytehdccfkkfkciab

namespace Go.Proofs.Ytehdccfkkfkciab
open Go.RowKit

/-- 'make([][]int, n)'. -/
theorem wpList_make_rowsN {ops : Array Oper} {rest : List Oper} {o : Oper} {a : Act} {Q : Exit → Act → World → Prop} (w : World) (hgd : o.guard = none) (l c : Operand) (ho : o.op = Op.makeSlice 26 l c)
    (n : Nat) (hl : a.eval l = .int .i64 (n : Int)) (hc : a.eval c = .int .i64 (n : Int)) (hn : n ≤ 2097152)
    (h : ∀ w', OwnR w' w.heap.size (some ⟨w.heap.size, 0, none⟩) n n (List.replicate n ⟨none, 0, []⟩) → Below w.heap.size w w' → wpList Try.prog ops Q rest (a.put o.dst (.slice (some ⟨w.heap.size, 0, none⟩) n n)) w') :
    wpList Try.prog ops Q (o :: rest) a w := by
  obtain ⟨i0, hi, hz0, hz1, hz2⟩ := info_parts Try.infoInts
  refine wpList_make_full (P := Try.prog) w hgd l c 26 ho w.heap.size 25 i0 (.slice none 0 0) 1 Try.underlying26 hi hz0 hz1 .i64 .i64 n n n hl hc rfl rfl (by rw [hz2]; omega) (by unfold maxLen; omega) (Nat.le_refl _) ?_
  intro w' hown hgrow
  have hr : ∀ i, i < n → nthR (List.replicate n (⟨none, 0, []⟩ : Rw)) i = ⟨none, 0, []⟩ := fun i hi => by simp [nthR, hi]
  have e : (madeCells (Value.slice none 0 0).cells (n * 1)).toList = (List.replicate n (⟨none, 0, []⟩ : Rw)).map Rw.v := by
    rw [show (Value.slice none 0 0).cells = #[Value.slice none 0 0] from rfl, toList_madeCells_one]
    simp [Rw.v]
  rw [e] at hown
  refine h _ ⟨hown, by simp, hn, fun i hi => ?_, fun i j p q hij hj hp _ => ?_⟩ (below_grown hgrow (Nat.le_refl _) (by simp))
  · rw [hr i hi]
    exact Own.nil _ _
  · rw [hr i (by omega)] at hp
    cases hp
theorem grown_none {w w' : World} (h : Below w.heap.size w w') : w.grownBy w' none := ⟨h.os, h.tape, h.output, h.size, fun i hi _ => h.block i hi⟩
theorem numsOf_set (rs : List Rw) (k : Nat) (r : Rw) : numsOf (rs.set k r) = (numsOf rs).set k r.xs := by simp [numsOf]
/-- The first k of some lists, then empty ones. -/
def firstR (bs : List (List Int)) (n : Nat) : Nat → List (List Int)
  | 0 => List.replicate n []
  | k + 1 => (firstR bs n k).set k (blkAt bs k)
theorem length_firstR (bs : List (List Int)) (n : Nat) : ∀ k, (firstR bs n k).length = n
  | 0 => by simp [firstR]
  | k + 1 => by rw [firstR, List.length_set, length_firstR bs n k]
theorem firstR_at (bs : List (List Int)) (n : Nat) : ∀ k j, j < n → (firstR bs n k)[j]? = some (if j < k then blkAt bs j else [])
  | 0, j, hj => by simp [firstR, hj]
  | k + 1, j, hj => by
    rw [firstR, List.getElem?_set, length_firstR, firstR_at bs n k j hj]
    by_cases e : k = j
    · subst e; simp [hj]
    · rw [if_neg e]
      by_cases e2 : j < k
      · rw [if_pos e2, if_pos (by omega)]
      · rw [if_neg e2, if_neg (by omega)]
theorem firstR_all {bs : List (List Int)} {n : Nat} (hl : bs.length = n) : firstR bs n n = bs := by
  apply List.ext_getElem?
  intro j
  by_cases hj : j < n
  · rw [firstR_at bs n n j hj, if_pos hj]
    unfold blkAt
    rw [List.getD_eq_getElem?_getD, List.getElem?_eq_getElem (by omega)]
    rfl
  · rw [List.getElem?_eq_none (by rw [length_firstR]; omega), List.getElem?_eq_none (by omega)]

set_option maxHeartbeats 1600000 in
theorem toIntSS_any (a : Option Addr) (n cap : Nat) (rs : List Rw) (bs : List (List Int)) (w : World) (h : HasR w a n cap rs) (hbs : numsOf rs = bs) :
    Calls Try.prog 20 #[.slice a n cap] w fun e w' => ∃ a' cap' rs', e = .returned (.slice a' n cap') ∧ OwnR w' w.heap.size a' n cap' rs' ∧ numsOf rs' = bs ∧ Below w.heap.size w w' := by
  have hn := h.2.2.2.1
  have hl : bs.length = n := by have := h.1; rw [← hbs]; simpa [numsOf] using this
  have HROW := hid (fun (W : World) (hb : Below w.heap.size w W) (k : Nat) (hk : k < n) => HasR.rowAt h hb hbs hk)
  have HALL := hid (firstR_all hl)
  clear h hbs hl
  go_enter Try.func20, Try.ntmps20
  go_wp2_with (at_make; refine wpList_make_rowsN _ rfl _ _ rfl n rfl rfl (by omega) ?_; intro w1 o1 hb1)
  go_loopw [4] (fun i wr => ∃ (k : Nat) (ss : List Rw), k ≤ n ∧ i = .int .i64 (k : Int) ∧ OwnR wr w.heap.size (some ⟨w.heap.size, 0, none⟩) n n ss ∧ Hid (numsOf ss = firstR bs n k) ∧ Hid (∀ j, k ≤ j → j < n → nthR ss j = ⟨none, 0, []⟩) ∧ Below w.heap.size w wr) (fun i _ => n - (intOf i).toNat)
  case atStart => exact ⟨0, _, Nat.zero_le _, rfl, o1, hid (by simp [numsOf, firstR]), hid (fun j _ hj => by simp [nthR, hj]), hb1⟩
  case round =>
    obtain ⟨k, ss, hk, rfl, o, HN, HE, hb⟩ := hrel
    clear o1 hb1
    by_cases hlt : k < n
    · obtain ⟨b, off, ak, ck, rfl, hck, H_k⟩ := HROW.out wr hb k hlt
      have H1 := H_k.below hb (Nat.le_refl _)
      have E := hid (HE.out k (Nat.le_refl _) hlt)
      have hkn : (k : Int) < (n : Int) := by omega
      have hw0 := hb.size
      have hrl := hid o.len
      clear H_k
      go_wp2_with (go_at_call 11; refine (toIntS_any _ _ _ _ _ H1).mono ?_; rintro e w5 ⟨a5, c5, rfl, o5, hb5⟩; obtain ⟨hf5, hc5⟩ := o.ready (k := k) (w1 := w5) hlt (by rw [E.out]; exact grown_none hb5))
      have hloc : Value.ownBlock (.slice a5 (blkAt bs k).length c5) = Value.ownBlock (.slice (nthR ss k).a (nthR ss k).xs.length (nthR ss k).c) ∨ ∃ g', Value.ownBlock (.slice a5 (blkAt bs k).length c5) = some g' ∧ wr.heap.size ≤ g' := by
        cases a5 with
        | none => left; rw [E.out]; rfl
        | some p => right; exact ⟨p.block, rfl, o5.ge _ rfl⟩
      obtain ⟨s1, s2⟩ := o.setRow (k := k) hlt (w1 := w5) (by rw [E.out]; exact grown_none hb5) (o5.mono hw0) hloc
      have hb6 := (hb.trans (hb5.mono hw0)).setCell (p := ⟨w.heap.size, k, none⟩) (Nat.le_refl _) (.slice a5 (blkAt bs k).length c5)
      go_roundw
      case rel => exact ⟨k + 1, _, by omega, by go_num, s1, hid (by rw [numsOf_set, HN.out]; rfl), hid (fun j h1 h2 => by rw [nthR_setB (by rw [hrl.out]; exact hlt), if_neg (by omega)]; exact HE.out j (by omega) h2), hb6⟩
      case measure => simp [intOf]; omega
    · obtain rfl : k = n := by omega
      go_wp2_with fail
      go_ret
      exact ⟨_, _, _, rfl, o, by rw [HN.out, HALL.out], hb⟩
set_option maxHeartbeats 800000 in
/-- Lists that are marked leave a list in later blocks as it was. -/
theorem markIntSS_keep (B : Nat) (a : Option Addr) (n cap : Nat) (rs : List Rw) (w : World) (h : OwnR w B a n cap rs) (hB : B ≤ w.heap.size) (Bg : Nat) (ag : Option Addr) (ng cg : Nat) (gs : List Int) (og0 : Own w Bg ag ng cg gs) (hg0 : ∀ i, i < n → BlkLt (nthR rs i).a Bg) :
    Calls Try.prog 16 #[.slice a n cap, .int .i64 1] w fun e w' => e = .returned (.int .i64 (1 + (sumLen rs n : Int))) ∧ OwnR w' B a n cap (marksR 1 rs n) ∧ Own w' Bg ag ng cg gs ∧ Below B w w' := by
  have hl := h.len
  have hn := h.le
  have hsl : ∀ k, k ≤ n → sumLen rs k ≤ k * 2097152 := fun k hk => sumLen_le (fun i hi => (h.2.2.2.1 i (by omega)).le) k (by omega)
  have HSL := hid hsl
  have HL := hid hl
  have HG := hid hg0
  clear hsl hl hg0
  go_enter Try.func16, Try.ntmps16
  go_wp2_with fail
  go_loopw [1, 5] (fun q i wr => ∃ k : Nat, k ≤ n ∧ i = .int .i64 k ∧ q = .int .i64 (1 + (sumLen rs k : Int)) ∧ OwnR wr B a n cap (marksR 1 rs k) ∧ Own wr Bg ag ng cg gs ∧ Below B w wr) (fun _ i _ => n - (intOf i).toNat)
  case atStart => exact ⟨0, Nat.zero_le _, rfl, rfl, by rw [marksR_zero]; exact h, og0, Below.refl _ _⟩
  case round =>
    obtain ⟨k, hk, rfl, rfl, hown, og, hb⟩ := hrel
    clear og0
    by_cases hlt : k < n
    · obtain ⟨k0, k1, k2, k3, k4, k5⟩ := hown.has
      obtain ⟨b, off, rfl, hbb, hc⟩ := k4 (by omega)
      have hck := hc k hlt
      rw [marksR_v] at hck
      have hrow := hown.2.2.2.1 k hlt
      rw [nth_marksR (by rw [HL.out]; omega), if_neg (by omega)] at hrow
      have hs1 := HSL.out k hk
      clear k0 k1 k2 k4 k5 hc
      go_wp2_with fail
      refine (markIntS_any B _ _ _ _ _ _ hrow (by omega) (by omega)).mono ?_
      rintro e w2 ⟨rfl, hm1, hm2⟩
      have hfin := hown.markAt hlt hm1 hm2
      have og2 := og.marked_gt hm2 (HG.out k hlt)
      have hb2 := hb.trans (hm2.below hrow.ge (Nat.le_trans hB hb.size))
      have HSS : Hid (sumLen rs (k + 1) = sumLen rs k + (nthR rs k).xs.length) := hid rfl
      clear hm1 hm2 hrow hown og
      go_wp2_with fail
      go_roundw
      case rel => exact ⟨k + 1, by omega, by go_num, by rw [HSS.out]; go_num, hfin, og2, hb2⟩
      case measure => simp [intOf]; omega
    · obtain rfl : k = n := by omega
      go_wp2_with fail
      go_ret
      exact ⟨rfl, hown, og, hb⟩
/-! ### The argument as it came in -/
def RawR (w : World) (a : Option Addr) (len cap : Nat) (A : Nat → Option Addr) (L C : Nat → Nat) (Z : Nat → List Int) : Prop :=
  (a = none ∧ len = 0 ∧ cap = 0) ∨ ∃ x : Addr, a = some x ∧ len ≤ cap ∧ cap ≤ maxLen ∧ ∀ r, r < cap → w.cell? (x.add r) = some (.slice (A r) (L r) (C r)) ∧ L r ≤ C r ∧ C r ≤ maxLen ∧ (Z r).length = C r ∧
    (∀ n ∈ Z r, (Lit.int .i64 n).wf = true) ∧ (A r = none → C r = 0) ∧ ∀ a', A r = some a' → ∀ c, c < C r → w.cell? (a'.add c) = some (.int .i64 ((Z r).getD c 0))
theorem RawR.at {w : World} {a : Option Addr} {len cap : Nat} {A : Nat → Option Addr} {L C : Nat → Nat} {Z : Nat → List Int} (h : RawR w a len cap A L C Z) (h0 : 0 < len) :
    ∃ b off, a = some ⟨b, off, none⟩ ∧ b < w.heap.size ∧ len ≤ cap ∧ cap ≤ maxLen ∧ ∀ r, r < len → w.cell? ⟨b, off + r, none⟩ = some (.slice (A r) (L r) (C r)) ∧ L r ≤ C r ∧ C r ≤ maxLen := by
  rcases h with ⟨_, rfl, _⟩ | ⟨x, rfl, h1, h2, h3⟩
  · omega
  · obtain ⟨b, off, spot⟩ := x
    have hc := (h3 0 (by omega)).1
    have hspot : spot = none := by simpa [Addr.add] using World.cell?_spot hc
    subst hspot
    refine ⟨b, off, rfl, by have := World.block_lt_of_cell? w _ hc; simpa [Addr.add] using this, h1, h2, fun r hr => ?_⟩
    obtain ⟨k1, k2, k3, _⟩ := h3 r (by omega)
    have e : (⟨b, off, none⟩ : Addr).add r = ⟨b, off + r, none⟩ := by unfold Addr.add; split <;> simp_all
    rw [e] at k1
    exact ⟨k1, k2, k3⟩
theorem hasR_of_raw {w : World} {a : Option Addr} {len cap : Nat} {A : Nat → Option Addr} {L C : Nat → Nat} {Z : Nat → List Int} (h : RawR w a len cap A L C Z) (hl : len ≤ 1048576) (hL : ∀ r, r < len → L r ≤ 1048576) : ∃ rs, HasR w a len cap rs := by
  have hcap : len ≤ cap ∧ cap ≤ maxLen := by
    rcases h with ⟨_, rfl, rfl⟩ | ⟨x, _, h1, h2, _⟩
    · exact ⟨Nat.le_refl _, by unfold maxLen; omega⟩
    · exact ⟨h1, h2⟩
  have hx : ∀ r, ∃ xs, r < len → Has w (A r) (L r) (C r) xs := fun r => by
    by_cases hr : r < len
    · rcases h with ⟨_, rfl, _⟩ | ⟨x, rfl, h1, h2, h3⟩
      · omega
      · obtain ⟨k1, k2, k3, k4, k5, k6, k7⟩ := h3 r (by omega)
        have := has_of_row (w := w) (a := A r) (len := L r) (cap := C r) (zs := Z r) (by
          cases hA : A r with
          | none =>
            have hC := k6 hA
            left
            exact ⟨rfl, by omega, hC, List.eq_nil_of_length_eq_zero (by omega)⟩
          | some a' =>
            right
            exact ⟨a', rfl, k2, k3, k4, fun i hi => k7 a' hA i (by omega), k5⟩) (hL r hr)
        obtain ⟨xs, hxs⟩ := this
        exact ⟨xs, fun _ => hxs⟩
    · exact ⟨[], fun e => absurd e hr⟩
  obtain ⟨X, hX⟩ := Classical.axiomOfChoice hx
  have hn : ∀ i, i < len → nthR ((List.range len).map fun r => (⟨A r, C r, X r⟩ : Rw)) i = ⟨A i, C i, X i⟩ := fun i hi => by simp [nthR, hi]
  refine ⟨(List.range len).map fun r => ⟨A r, C r, X r⟩, by simp, hcap.1, hcap.2, by omega, fun h0 => ?_, fun i hi => ?_⟩
  · obtain ⟨b, off, ha, hb, _, _, hc⟩ := h.at h0
    refine ⟨b, off, ha, hb, fun i hi => ?_⟩
    rw [hn i hi, (hc i hi).1]
    simp only [Rw.v]
    rw [(hX i hi).len]
  · rw [hn i hi]
    have := hX i hi
    rw [(hX i hi).len]
    exact this
def SzP (v len : Nat) (w : World) (e : Ending) (w' : World) : Prop := w = w' ∧ ((e = .returned (.int .i64 (-1)) ∧ v < len) ∨ (e = .returned (.int .i64 ((v - len : Nat) : Int)) ∧ len ≤ v))
theorem szIntS_any (a : Option Addr) (len cap : Nat) (v : Nat) (hv : v ≤ 1048576) (hl : len ≤ maxLen) (w : World) :
    Calls Try.prog 40 #[.slice a len cap, .int .i64 (v : Int)] w (SzP v len w) := by
  have hm : len ≤ 9223372036854775807 := by unfold maxLen at hl; omega
  by_cases h : len ≤ v
  · have hw : wrap64 ((v : Int) - (len : Int)) = ((v - len : Nat) : Int) := by unfold wrap64; omega
    have hw' : IntKind.i64.wrap ((v : Int) - (len : Int)) = ((v - len : Nat) : Int) := by rw [IntKind.wrap_i64]; omega
    have hn : ¬ ((v - len : Nat) : Int) < 0 := by omega
    go_enter Try.func40, Try.ntmps40
    go_wp2_with fail
    go_ret
    exact ⟨rfl, .inr ⟨rfl, h⟩⟩
  · obtain ⟨u, hu⟩ : ∃ u : Int, (v : Int) - (len : Int) = u := ⟨_, rfl⟩
    have hw : wrap64 ((v : Int) - (len : Int)) = u := by unfold wrap64; omega
    have hw' : IntKind.i64.wrap ((v : Int) - (len : Int)) = u := by rw [IntKind.wrap_i64]; omega
    have hn : u < 0 := by omega
    clear hu
    go_enter Try.func40, Try.ntmps40
    go_wp2_with fail
    go_ret
    exact ⟨rfl, .inl ⟨rfl, by omega⟩⟩
/-- What szIntSS comes to. -/
def SzR (len : Nat) (L : Nat → Nat) (w : World) (e : Ending) (w' : World) : Prop := w = w' ∧ ((∃ v : Int, e = .returned (.int .i64 v) ∧ v < 0) ∨ ∃ v : Nat, e = .returned (.int .i64 (v : Int)) ∧ len ≤ 1048576 ∧ ∀ r, r < len → L r ≤ 1048576)
set_option maxHeartbeats 1600000 in
theorem szIntSS_any (a : Option Addr) (len cap : Nat) (A : Nat → Option Addr) (L C : Nat → Nat) (Z : Nat → List Int) (w : World) (h : RawR w a len cap A L C Z) (hm : len ≤ maxLen) :
    Calls Try.prog 18 #[.slice a len cap, .int .i64 1048576] w (SzR len L w) := by
  have HAT := hid (fun h0 => h.at h0)
  clear h
  have hm2 : len ≤ 9223372036854775807 := by unfold maxLen at hm; omega
  by_cases hl : len ≤ 1048576
  · obtain ⟨s, hs⟩ : ∃ s : Nat, 1048576 - len = s := ⟨_, rfl⟩
    have hw : IntKind.i64.wrap ((1048576 : Int) - (len : Int)) = (s : Int) := by rw [IntKind.wrap_i64]; omega
    have hw' : wrap64 ((1048576 : Int) - (len : Int)) = (s : Int) := by unfold wrap64; omega
    have hn : ¬ (s : Int) < 0 := by omega
    go_enter Try.func18, Try.ntmps18
    go_wp2_with fail
    go_loop [1, 5] (fun g i => ∃ (k v : Nat), k ≤ len ∧ i = .int .i64 (k : Int) ∧ g = .int .i64 (v : Int) ∧ v ≤ 1048576 ∧ Hid (∀ j, j < k → L j ≤ 1048576)) (fun _ i => len - (intOf i).toNat)
    case atStart => exact ⟨0, s, Nat.zero_le _, rfl, rfl, by omega, hid (fun j hj => absurd hj (by omega))⟩
    case round =>
      obtain ⟨k, v, hk, rfl, rfl, hv, HK⟩ := hrel
      by_cases hlt : k < len
      · obtain ⟨b, off, rfl, hb, h1, h2, hc⟩ := HAT.out (by omega)
        obtain ⟨hck, c1, c2⟩ := hc k hlt
        clear hc
        go_wp2_with fail
        refine (szIntS_any _ _ _ v hv (by omega) _).mono ?_
        rintro e _ ⟨rfl, ⟨rfl, h3⟩ | ⟨rfl, h3⟩⟩
        · go_wp2_with fail
          go_ret
          exact ⟨rfl, .inl ⟨_, rfl, by omega⟩⟩
        · have HK2 : Hid (∀ j, j < k + 1 → L j ≤ 1048576) := hid (fun j hj => by
            by_cases e : j = k
            · subst e; omega
            · exact HK.out j (by omega))
          obtain ⟨u, hu⟩ : ∃ u : Nat, v - L k = u := ⟨_, rfl⟩
          rw [hu]
          have hn2 : ¬ (u : Int) < 0 := by omega
          go_wp2_with fail
          go_round
          case rel => exact ⟨k + 1, u, by omega, by go_num, rfl, by omega, HK2⟩
          case measure => simp [intOf]; omega
      · obtain rfl : k = len := by omega
        go_wp2_with fail
        go_ret
        exact ⟨rfl, .inr ⟨v, rfl, hl, HK.out⟩⟩
  · obtain ⟨u, hu⟩ : ∃ u : Int, (1048576 : Int) - (len : Int) = u := ⟨_, rfl⟩
    have hw : IntKind.i64.wrap ((1048576 : Int) - (len : Int)) = u := by rw [IntKind.wrap_i64]; omega
    have hw' : wrap64 ((1048576 : Int) - (len : Int)) = u := by unfold wrap64; omega
    have hn : u < 0 := by omega
    clear hu
    go_enter Try.func18, Try.ntmps18
    go_wp2_with fail
    go_ret
    exact ⟨rfl, .inl ⟨_, rfl, by omega⟩⟩
end Go.Proofs.Ytehdccfkkfkciab

namespace Go.Proofs.Ytehdccfkkfkciab
open Go.RowKit
theorem from_same (bs : List (List Int)) : fromUnit bs = fromUnit bs := rfl
end Go.Proofs.Ytehdccfkkfkciab

