/- Chapter 9: UnitBlocks, by the contracts of the functions. -/
import Derived.Test.YtehdccfkkfkciabRowA
import Derived.Test.YtehdccfkkfkciabLawKit
import Derived.Maps.AppendAt
import Derived.Test.YtehdccfkkfkciabSpecS
import Derived.Test.YtehdccfkkfkciabMathW
import Derived.StillTailTactics
import Derived.Test.YtehdccfkkfkciabMathUa
import Derived.Test.YtehdccfkkfkciabImplC
import Derived.Test.YtehdccfkkfkciabMathVu
import Derived.Test.YtehdccfkkfkciabPartsA
import Derived.Test.YtehdccfkkfkciabSpecFr
import Derived.Test.YtehdccfkkfkciabWkF
namespace Go.Proofs.Ytehdccfkkfkciab
open Go.RowKit

/-- The rows' own block is no row's. -/
theorem hdr_ne {w : World} {B B' n cap m c : Nat} {a a2 : Option Addr} {us : List Value} {xs : List Int} (h : w.ownsRow B 25 1 (.slice a n cap) n us) (h2 : Own w B' a2 m c xs) : ∀ p q, a = some p → a2 = some q → p.block ≠ q.block := by
  rintro p q rfl rfl e
  rcases h.2 with ⟨hv, _⟩ | ⟨g1, cap1, cur1, hv1, _, hh1, _⟩
  · simp at hv
  · simp at hv1
    rcases h2.1.2 with ⟨hv2, _⟩ | ⟨g2, cap2, cur2, hv2, _, hh2, _⟩
    · simp at hv2
    · simp at hv2
      rw [hv1.1, hv2.1] at e
      simp at e
      rw [e, hh2] at hh1
      simp at hh1
theorem own_other {w w' : World} {B m c g : Nat} {a2 : Option Addr} {xs : List Int} (h : Own w B a2 m c xs) (hg : w.grownBy w' (some g)) (hne : ∀ q, a2 = some q → q.block ≠ g) : Own w' B a2 m c xs := h.kept hg (.inr hne)
theorem nthR_setB {rs : List Rw} {i j : Nat} {r : Rw} (h : i < rs.length) : nthR (rs.set i r) j = if i = j then r else nthR rs j := by
  by_cases e : i = j
  · subst e; simp [nthR, h]
  · simp [nthR, e]
/-- Behind a growth of the k-th row the rows' own cells are as they were. -/
theorem OwnR.ready {w w1 : World} {B g n cap : Nat} {rs : List Rw} (h : OwnR w B (some ⟨g, 0, none⟩) n cap rs) {k : Nat} (hk : k < n) (hg : w.grownBy w1 (Value.ownBlock (.slice (nthR rs k).a (nthR rs k).xs.length (nthR rs k).c))) :
    w1.frozen? ⟨g, k, none⟩ = false ∧ w1.cell? ⟨g, k, none⟩ = some (.slice (nthR rs k).a (nthR rs k).xs.length (nthR rs k).c) := by
  have hhdr1 : w1.ownsRow B 25 1 (.slice (some ⟨g, 0, none⟩) n cap) n (rs.map Rw.v) := by
    refine h.1.kept hg ?_
    cases e : (nthR rs k).a with
    | none => right; simp [Value.ownBlock]
    | some q =>
      right
      have := hdr_ne h.1 (h.row hk) _ _ rfl e
      simpa [Value.ownBlock] using this
  have hc := hhdr1.cellAt k (by omega)
  rw [map_nthR Rw.v (by rw [h.len]; exact hk)] at hc
  exact ⟨hhdr1.frozenAt k, hc⟩
/-- The k-th row is set anew. -/
theorem OwnR.setRow {w w1 : World} {B g n cap : Nat} {rs : List Rw} (h : OwnR w B (some ⟨g, 0, none⟩) n cap rs) {k : Nat} (hk : k < n) (hg : w.grownBy w1 (Value.ownBlock (.slice (nthR rs k).a (nthR rs k).xs.length (nthR rs k).c))) {a' : Option Addr} {m' c' : Nat} {ys : List Int} (hown' : Own w1 B a' m' c' ys)
    (hloc : Value.ownBlock (.slice a' m' c') = Value.ownBlock (.slice (nthR rs k).a (nthR rs k).xs.length (nthR rs k).c) ∨ ∃ g', Value.ownBlock (.slice a' m' c') = some g' ∧ w.heap.size ≤ g') :
    OwnR (w1.setCell ⟨g, k, none⟩ (.slice a' m' c')) B (some ⟨g, 0, none⟩) n cap (rs.set k ⟨a', c', ys⟩) ∧ w1.grownBy (w1.setCell ⟨g, k, none⟩ (.slice a' m' c')) (some g) := by
  have hl := h.len
  have hm : ys.length = m' := hown'.len
  have hrk := h.row hk
  have hhdr1 : w1.ownsRow B 25 1 (.slice (some ⟨g, 0, none⟩) n cap) n (rs.map Rw.v) := by
    refine h.1.kept hg ?_
    cases e : (nthR rs k).a with
    | none => right; simp [Value.ownBlock]
    | some q =>
      right
      have := hdr_ne h.1 hrk _ _ rfl e
      simpa [Value.ownBlock] using this
  obtain ⟨s1, s2⟩ := hhdr1.stored k (.slice a' m' c')
  -- the other rows
  have other : ∀ j, j < n → j ≠ k → Own w1 B (nthR rs j).a (nthR rs j).xs.length (nthR rs j).c (nthR rs j).xs := fun j hj hjk => by
    refine ⟨(h.row hj).1.kept hg ?_, (h.row hj).2⟩
    cases e : (nthR rs j).a with
    | none => left; rfl
    | some p =>
      right
      cases e2 : (nthR rs k).a with
      | none => simp [Value.ownBlock]
      | some q =>
        have : p.block ≠ q.block := by
          rcases Nat.lt_or_gt_of_ne hjk with h5 | h5
          · exact h.2.2.2.2 j k p q h5 hk e e2
          · exact fun e3 => h.2.2.2.2 k j q p h5 hj e2 e e3.symm
        simpa [Value.ownBlock] using this
  have newOther : ∀ j, j < n → j ≠ k → ∀ p q, (nthR rs j).a = some p → a' = some q → p.block ≠ q.block := fun j hj hjk p q hp hq => by
    subst hq
    rcases hloc with h5 | ⟨g', h5, h6⟩
    · cases e2 : (nthR rs k).a with
      | none => rw [e2] at h5; simp [Value.ownBlock] at h5
      | some q' =>
        rw [e2] at h5
        simp [Value.ownBlock] at h5
        rw [h5]
        rcases Nat.lt_or_gt_of_ne hjk with h7 | h7
        · exact h.2.2.2.2 j k p q' h7 hk hp e2
        · exact fun e3 => h.2.2.2.2 k j q' p h7 hj e2 hp e3.symm
    · simp [Value.ownBlock] at h5
      have := (h.row hj).lt p hp
      omega
  refine ⟨⟨?_, by simpa using hl, h.2.2.1, fun j hj => ?_, fun i j p q hij hj hp hq => ?_⟩, s2⟩
  · have e : (rs.set k ⟨a', c', ys⟩).map Rw.v = (rs.map Rw.v).set k (.slice a' m' c') := by
      rw [List.map_set]
      simp [Rw.v, hm]
    rw [e]
    exact s1
  · rw [nthR_setB (by omega)]
    by_cases e : k = j
    · subst e
      rw [if_pos rfl]
      simp only
      rw [hm]
      exact own_other hown' s2 fun q hq e2 => hdr_ne hhdr1 hown' _ q rfl hq e2.symm
    · rw [if_neg e]
      exact own_other (other j hj (fun h => e h.symm)) s2 fun q hq e2 => hdr_ne hhdr1 (other j hj (fun h => e h.symm)) _ q rfl hq e2.symm
  · rw [nthR_setB (by omega)] at hp hq
    by_cases e1 : k = i
    · rw [if_pos e1] at hp
      by_cases e2 : k = j
      · omega
      · rw [if_neg e2] at hq
        exact fun e3 => newOther j hj (fun h => e2 h.symm) q p hq hp e3.symm
    · rw [if_neg e1] at hp
      by_cases e2 : k = j
      · rw [if_pos e2] at hq
        exact newOther i (by omega) (fun h => e1 h.symm) p q hp hq
      · rw [if_neg e2] at hq
        exact h.2.2.2.2 i j p q hij hj hp hq
end Go.Proofs.Ytehdccfkkfkciab

namespace Go.Proofs.Ytehdccfkkfkciab
open Go.RowKit

theorem cnCars_any (n : Int) (w : World) :
    Calls Try.prog 28 #[.int .i64 n] w fun e w' => e = .returned (.bool (inB n 0 8)) ∧ w = w' := by
  go_enter Try.func28, Try.ntmps28
  go_wp2_with (go_at_call 27; refine (l1In_any _ _ _ _).mono ?_; rintro e w' ⟨rfl, rfl⟩)
  go_ret
  exact ⟨rfl, rfl⟩

theorem street_small : ∀ c, c < 9 → ∀ p, p < 13 → 1 ≤ c → c ≤ p → (p + 1 - c) * (p + 1) ^ (c - 1) ≤ 815730721 := by decide +kernel

theorem chs_times : ∀ n, n < 17 → ∀ i, i < n → chs n i * (n - i) ≤ 205920 := by decide +kernel

end Go.Proofs.Ytehdccfkkfkciab

namespace Go.Proofs.Ytehdccfkkfkciab
open Go.RowKit

def greatOf (xs : List Int) (p : Int) : Int × Bool := if good xs p && allPark p xs then (greatL (dists p xs), true) else (0, false)
theorem great_bounds {ys : List Int} (h : ∀ i, i < ys.length → 0 ≤ nth ys i ∧ nth ys i ≤ 12) : ∀ k, k ≤ ys.length → 0 ≤ greatL (ys.take k) ∧ greatL (ys.take k) ≤ 12
  | 0, _ => by simp [greatL]
  | k + 1, hk => by
    have := great_bounds h k (by omega)
    have := h k (by omega)
    rw [great_succ (by omega)]
    omega
set_option maxHeartbeats 800000 in
theorem greatest_any (a : Option Addr) (n cap : Nat) (xs : List Int) (p : Int) (w : World) (h : Has w a n cap xs) :
    Calls Try.prog 63 #[.slice a n cap, .int .i64 p] w (PostInt w (greatOf xs p)) := by
  by_cases hg : (good xs p && allPark p xs) = true
  · have HR : Hid (greatOf xs p = (greatL (dists p xs), true)) := hid (by simp only [greatOf, if_pos hg])
    have HD := hid (dists_yes hg)
    clear hg
    go_enter Try.func63, Try.ntmps63
    go_wp2_with fail
    refine (distancesOf_any _ _ _ _ _ _ h).mono ?_
    rw [HD.out]
    rintro e w1 ⟨a1, m, cap1, rfl, hown, hb⟩
    have HS := hid (fun k (hk : k < m) => great_succ (ys := dists p xs) (k := k) (by rw [hown.len]; exact hk))
    have HT := hid (List.take_of_length_le (l := dists p xs) (i := m) (by rw [hown.len]; exact Nat.le_refl _))
    obtain ⟨_, h1, h2, h3, h4⟩ := hown.has
    clear hown HD
    generalize dists p xs = ys at *
    go_wp2_with fail
    go_loop [8, 21] (fun g i => ∃ (k : Nat) (v : Int), k ≤ m ∧ i = .int .i64 (k : Int) ∧ g = .int .i64 v ∧ Hid (v = greatL (ys.take k))) (fun _ i => m - (intOf i).toNat)
    case atStart => exact ⟨0, 0, Nat.zero_le _, rfl, rfl, hid rfl⟩
    case round =>
      obtain ⟨k, v, hk, rfl, rfl, HV⟩ := hrel
      by_cases hlt : k < m
      · obtain ⟨b, off, rfl, hbb, hc⟩ := h4 (by omega)
        have hck := hc k hlt
        have HS' := hid (HS.out k hlt)
        clear hc
        go_wp2_with fail
        go_round
        case rel => exact ⟨k + 1, _, by omega, by go_num, rfl, hid (by rw [HS'.out, HV.out] <;> (split <;> omega))⟩
        case measure => simp [intOf]; omega
      · obtain rfl : k = m := by omega
        go_wp2_with fail
        go_ret2
        exact postInt (by rw [HR.out, HV.out, HT.out]) hb
  · have HR : Hid (greatOf xs p = (0, false)) := hid (by simp only [greatOf, if_neg hg])
    have HD := hid (dists_no hg)
    clear hg
    go_enter Try.func63, Try.ntmps63
    go_wp2_with fail
    refine (distancesOf_any _ _ _ _ _ _ h).mono ?_
    rw [HD.out]
    rintro e w1 ⟨a1, m, cap1, rfl, hown, hb⟩
    go_wp2_with fail
    go_ret2
    exact postInt HR.out hb
end Go.Proofs.Ytehdccfkkfkciab

namespace Go.Proofs.Ytehdccfkkfkciab
open Go.RowKit

/-! ### Unit ones -/
set_option maxHeartbeats 400000 in
theorem vaUnit_any (a : Option Addr) (n cap : Nat) (xs : List Int) (m : Int) (w : World) (h : Has w a n cap xs) (hp : isPark xs = true) :
    Calls Try.prog 30 #[.slice a n cap, .int .i64 m] w (PostBool w (unitB xs m)) := by
  have hl := h.len
  obtain ⟨h1, h2, h3⟩ := isPark_iff.1 hp
  have HD : Hid (unitB xs m = allB (dists n xs) 0 m) := hid (by unfold unitB; rw [hl])
  have hge : ∀ i, i < n → 0 ≤ nth xs i ∧ nth xs i ≤ (n : Int) - 1 := fun i hi => by have := h2 _ (nth_mem (xs := xs) (i := i) (by omega)); omega
  have h8 : n ≤ 8 := by omega
  have h12 : (n : Int) ≤ 12 := by omega
  clear hl h1 h2 h3
  go_enter Try.func30, Try.ntmps30
  go_wp2_with fail
  refine (paDistances_any _ _ _ _ _ _ h h8 h12 hge).mono ?_
  rintro e w1 ⟨a1, cap1, rfl, hown1, hb1⟩
  go_wp2_with (go_at_call 58; refine (l1All_any _ _ _ _ _ _ _ hown1.has).mono ?_; rintro e w' ⟨rfl, rfl⟩)
  go_ret
  exact postBool HD.out.symm hb1
/-! ### Unit ones -/
theorem dists12 {xs : List Int} (h : isPark xs = true) : distsOf xs 12 = (dists 12 xs, true) := by
  obtain ⟨g1, g2, _⟩ := park_good h
  simp [distsOf, g1, g2]
theorem isCarNumber9_any (m : Int) (w : World) : Calls Try.prog 60 #[.int .i64 m] w fun e w' => e = .returned (.bool (inB m 0 8)) ∧ w = w' := by
  by_cases h1 : 0 ≤ m
  · by_cases h2 : m ≤ 8
    · have HR : Hid (inB m 0 8 = true) := hid (inB_iff.2 ⟨h1, h2⟩)
      go_enter Try.func60, Try.ntmps60
      go_wp2_with fail
      go_ret
      exact ⟨ret_bool HR.out.symm, rfl⟩
    · have HR : Hid (inB m 0 8 = false) := hid (inB_not.2 (by omega))
      go_enter Try.func60, Try.ntmps60
      go_wp2_with fail
      go_ret
      exact ⟨ret_bool HR.out.symm, rfl⟩
  · have HR : Hid (inB m 0 8 = false) := hid (inB_not.2 (by omega))
    go_enter Try.func60, Try.ntmps60
    go_wp2_with fail
    go_ret
    exact ⟨ret_bool HR.out.symm, rfl⟩
theorem isMost_any (m : Int) (w : World) : Calls Try.prog 31 #[.int .i64 m] w fun e w' => e = .returned (.bool (inB m 0 8)) ∧ w = w' := by
  go_enter Try.func31, Try.ntmps31
  go_wp2_with (go_at_call 60; refine (isCarNumber9_any _ _).mono ?_; rintro e w' ⟨rfl, rfl⟩)
  go_ret
  exact ⟨rfl, rfl⟩
set_option maxHeartbeats 400000 in
theorem implUnitB_any (a : Option Addr) (n cap : Nat) (xs : List Int) (m : Int) (w : World) (h : Has w a n cap xs) (hp : isPark xs = true) (hm : 0 ≤ m) :
    Calls Try.prog 33 #[.slice a n cap, .int .i64 m] w (PostBool w (unitB xs m)) := by
  have HU := hid (unit_great hp hm)
  have HG : Hid (greatOf xs 12 = (greatL (dists 12 xs), true)) := hid (by
    obtain ⟨g1, g2, _⟩ := park_good hp
    simp [greatOf, g1, g2])
  clear hp
  generalize greatL (dists 12 xs) = g at *
  go_enter Try.func33, Try.ntmps33
  go_wp2_with fail
  refine (greatest_any _ _ _ _ _ _ h).mono ?_
  rw [HG.out]
  rintro e w1 ⟨rfl, hb⟩
  go_wp2_with fail
  go_ret
  exact postBool HU.out hb
end Go.Proofs.Ytehdccfkkfkciab

namespace Go.Proofs.Ytehdccfkkfkciab
open Go.RowKit Go.Maps

theorem blocks_yes {xs : List Int} (h : isPark xs = true) (hu : unitB xs 1 = true) : unitBlocksOf xs = (blk xs (fairL xs) xs.length, true) := by simp [unitBlocksOf, h, hu]
theorem blocks_no {xs : List Int} (h : ¬ (isPark xs = true ∧ unitB xs 1 = true)) : unitBlocksOf xs = ([], false) := by
  unfold unitBlocksOf
  rw [if_neg (by simpa using h)]
theorem nums_addLast {rs : List Rw} {a : Option Addr} {c : Nat} {v : Int} {q : Nat} (hq : rs.length = q + 1) : numsOf (rs.set q ⟨a, c, (nthR rs q).xs ++ [v]⟩) = addLast (numsOf rs) v := by
  obtain ⟨ss, r, rfl⟩ : ∃ ss r, rs = ss ++ [r] := ⟨rs.dropLast, rs.getLast (by intro e; subst e; simp at hq), (List.dropLast_concat_getLast _).symm⟩
  have hs : ss.length = q := by simpa using hq
  have e1 : nthR (ss ++ [r]) q = r := by rw [nthR_append_right (by omega), hs, Nat.sub_self, nthR_one]
  rw [e1]
  have e2 : (ss ++ [r]).set q ⟨a, c, r.xs ++ [v]⟩ = ss ++ [⟨a, c, r.xs ++ [v]⟩] := by
    rw [List.set_append_right _ _ (by omega), hs, Nat.sub_self]
    rfl
  rw [e2]
  simp only [numsOf, List.map_append, List.map_singleton]
  rw [addLast_snoc]
theorem blk_start {xs ls : List Int} {k : Nat} (h : nth xs (nth ls k).toNat = (k : Int)) : addLast (blk xs ls k ++ [[]]) (nth ls k) = blk xs ls (k + 1) := by
  rw [addLast_snoc, blk, if_pos h]
  rfl
theorem blk_on {xs ls : List Int} {k : Nat} (h : ¬ nth xs (nth ls k).toNat = (k : Int)) : addLast (blk xs ls k) (nth ls k) = blk xs ls (k + 1) := by rw [blk, if_neg h]
theorem length_blk {xs ls : List Int} : ∀ k, (blk xs ls k).length ≤ k ∧ (0 < k → 0 < (blk xs ls k).length)
  | 0 => ⟨Nat.le_refl _, fun h => absurd h (by omega)⟩
  | k + 1 => by
    obtain ⟨h1, _⟩ := length_blk (xs := xs) (ls := ls) k
    rw [blk]
    split
    · simp; omega
    · simp only [addLast, List.length_append, List.length_dropLast, List.length_singleton]
      rcases Nat.eq_zero_or_pos k with rfl | h0
      · simp [blk]
      · have := (length_blk (xs := xs) (ls := ls) k).2 h0
        omega

theorem row_blk {xs ls : List Int} : ∀ (k : Nat) (r : List Int), r ∈ blk xs ls k → r.length ≤ k
  | 0, r, h => by simp [blk] at h
  | k + 1, r, h => by
    rw [blk] at h
    split at h
    · rcases List.mem_append.1 h with h | h
      · have := row_blk k r h; omega
      · rw [List.mem_singleton] at h; subst h; simp
    · unfold addLast at h
      rcases List.mem_append.1 h with h | h
      · have := row_blk k r (List.dropLast_subset _ h); omega
      · rw [List.mem_singleton] at h
        subst h
        cases e : (blk xs ls k).getLast? with
        | none => simp
        | some r' =>
          have := row_blk k r' (List.mem_of_getLast? e)
          simp
          omega
set_option maxHeartbeats 4000000 in
theorem specBlocks_any (a : Option Addr) (n cap : Nat) (xs : List Int) (w : World) (h : Has w a n cap xs) :
    Calls Try.prog 10 #[.slice a n cap] w (PostRows w (unitBlocksOf xs)) := by
  have HL := hid h.len
  by_cases hg : isPark xs = true
  · have HG := hid hg
    by_cases hu : unitB xs 1 = true
    · have HU := hid hu
      have HR := hid (blocks_yes hg hu)
      have h8 : n ≤ 8 := by have := (isPark_bounds hg).1; rw [← h.len]; exact this
      have HB := fair_bounds hg
      rw [h.len] at HB
      have HF : Hid (fairTo xs n = fairL xs) := hid (fairTo_cars h.len (by omega) HB)
      have HN := hid (fun k (hk : k < n) => fair_cars h.len h8 HB hk)
      have H0 : Hid (∀ k, k < n → ¬ nth xs (nth (fairL xs) k).toNat = (k : Int) → 0 < k) := hid (fun k hk hne => by
        rcases Nat.eq_zero_or_pos k with rfl | h0
        · exfalso
          apply hne
          have h1 := fair_at hg (k := 0) (by rw [h.len]; exact hk)
          have h2 := park_sorted hg 0 (by rw [h.len]; exact hk)
          omega
        · exact h0)
      clear hg hu HB
      go_enter Try.func10, Try.ntmps10
      go_wp2_with (first | (go_at_call 34; refine (paParking_any _ _ _ _ _ h).mono ?_; rintro e w1 ⟨rfl, hb1⟩; rw [HG.out]) | (go_at_call 30; refine (vaUnit_any _ _ _ _ _ _ (h.below hb1 (Nat.le_refl _)) HG.out).mono ?_; rintro e w2 ⟨rfl, hb2⟩; rw [HU.out]))
      have hb12 := hb1.trans (hb2.mono hb1.size)
      refine (vaFair_any _ _ _ _ _ (h.below hb12 (Nat.le_refl _)) (by omega)).mono ?_
      rw [HF.out]
      rintro e w3 ⟨a3, cap3, rfl, hown3, hb3⟩
      have hb13 := hb12.trans (hb3.mono hb12.size)
      have hsz3 := hb13.size
      have HX3 := h.below hb13 (Nat.le_refl _)
      have HO3 := hown3.has
      clear hb1 hb2 hb12 hb3 hown3 HF
      generalize fairL xs = ls at *
      go_wp2_with fail
      go_loopw [4, 18] (fun o i wr => ∃ (k q : Nat) (a' : Option Addr) (cap' : Nat) (rs : List Rw), k ≤ n ∧ q ≤ k ∧ (0 < k → 0 < q) ∧ i = .int .i64 (k : Int) ∧ o = .slice a' q cap' ∧ OwnR wr w3.heap.size a' q cap' rs ∧ Hid (numsOf rs = blk xs ls k) ∧ Below w3.heap.size w3 wr) (fun _ i _ => n - (intOf i).toNat)
      case atStart => exact ⟨0, 0, none, 0, [], Nat.zero_le _, Nat.le_refl _, fun h => absurd h (by omega), rfl, rfl, OwnR.nil _ _, hid rfl, Below.refl _ _⟩
      case round =>
        obtain ⟨k, q, a', cap', rs, hk, hq, hq0, rfl, rfl, hown, HNU, hb⟩ := hrel
        by_cases hlt : k < n
        · obtain ⟨c, hc1, hc2⟩ := HN.out k hlt
          obtain ⟨b1, off1, rfl, hbb1, hx1⟩ := HX3.2.2.2.2 (by omega)
          obtain ⟨b2, off2, rfl, hbb2, hx2⟩ := HO3.2.2.2.2 (by omega)
          have hck : wr.cell? ⟨b1, off1 + c, none⟩ = some (.int .i64 (nth xs c)) := by rw [hb.cell (p := ⟨b1, off1 + c, none⟩) hbb1]; exact hx1 c hc1
          have hdk : wr.cell? ⟨b2, off2 + k, none⟩ = some (.int .i64 (c : Int)) := by rw [hb.cell (p := ⟨b2, off2 + k, none⟩) hbb2, hx2 k hlt, hc2]
          have BS := hid (fun h => blk_start (xs := xs) (ls := ls) (k := k) h)
          have BO := hid (fun h => blk_on (xs := xs) (ls := ls) (k := k) h)
          have HPOS := hid (H0.out k hlt)
          rw [hc2, Int.toNat_natCast] at BS BO HPOS
          have z1 : (c : Int) < (n : Int) := by omega
          have z0 : (0 : Int) ≤ (c : Int) := by omega
          have hszr := hb.size
          clear hx1 hx2 hc2
          by_cases hst : nth xs c = (k : Int)
          · have hbe : (nth xs c == (k : Int)) = true := by simp [hst]
            have HE := hid (BS.out hst)
            have hrl := hown.len
            have HRL := hid hrl
            clear hst BS BO HPOS hrl
            have EN : Hid (nthR (rs ++ [⟨none, 0, []⟩]) q = ⟨none, 0, []⟩) := hid (by rw [nthR_append_right (by rw [HRL.out]; exact Nat.le_refl _), HRL.out, Nat.sub_self, nthR_one])
            have NA := hid (fun (a7 : Option Addr) (c7 : Nat) => nums_addLast (rs := rs ++ [⟨none, 0, []⟩]) (a := a7) (c := c7) (v := (c : Int)) (q := q) (by simp [HRL.out]))
            have NE : Hid (numsOf (rs ++ [⟨none, 0, []⟩]) = blk xs ls k ++ [[]]) := hid (by rw [numsOf_app, HNU.out]; rfl)
            rw [EN.out] at NA
            go_wp2_with (first | (at_builtin; refine wpList_append_rowA _ rfl _ _ rfl w3.heap.size w3.heap.size _ _ _ _ none 0 0 [] rfl rfl hown (Own.nil _ _) (fun i _ p q _ hq => (by cases hq)) (by omega) (ownsRow_ge hown.1) (Nat.le_refl _) hszr ?_; intro a6 cap6 w6 hown6 hge6 hb6; obtain ⟨g6, ea6, q1, q2, q3, q4⟩ := hown6.cellAt (by omega); cases ea6; have hc6 := q3 q (by omega); rw [EN.out] at hc6; have hsz6 := hb6.size; clear q3 q4) | (at_builtin; refine wpList_append_int_at _ rfl _ _ rfl w3.heap.size none 0 0 [] _ rfl rfl (Own.nil _ _) (by omega) (Nat.le_trans hszr hsz6) ?_; intro a7 c7 w7 hown7 hgr7 hloc7; obtain ⟨hf7, hc7⟩ := hown6.ready (k := q) (w1 := w7) (by omega) (by rw [EN.out]; exact hgr7); rw [EN.out] at hc7))
            obtain ⟨s1, s2⟩ := hown6.setRow (k := q) (by omega) (by rw [EN.out]; exact hgr7) hown7 (by rw [EN.out]; exact hloc7)
            have hb7 : Below w3.heap.size w6 w7 := (Below.refl _ w6).grown hgr7 (Nat.le_trans hszr hsz6) (fun j hj => by simp [Value.ownBlock] at hj)
            have hb8 : Below w3.heap.size w7 (w7.setCell ⟨g6, q, none⟩ (.slice a7 (0 + 1) c7)) := (Below.refl _ w7).grown s2 (Nat.le_trans (Nat.le_trans hszr hsz6) hb7.size) (fun j hj => by cases hj; exact q1)
            go_roundw
            case rel => exact ⟨k + 1, q + 1, _, cap6, _, by omega, by omega, fun _ => by omega, by go_num, rfl, s1, hid (by rw [← HE.out, ← NE.out, ← NA.out]), ((hb.trans hb6).trans hb7).trans hb8⟩
            case measure => simp [intOf]; omega
          · have hbe : (nth xs c == (k : Int)) = false := by simp [hst]
            have HE := hid (BO.out hst)
            have hk0 := HPOS.out hst
            obtain ⟨t, rfl⟩ : ∃ t, q = t + 1 := ⟨q - 1, by have := hq0 hk0; omega⟩
            have hrl := hown.len
            have HRL := hid hrl
            obtain ⟨g6, rfl, q1, q2, q3, q4⟩ := hown.cellAt (by omega)
            have hc6 := q3 t (by omega)
            have hrow := hown.row (k := t) (by omega)
            have hr8 : (nthR rs t).xs.length ≤ 2097151 := (by
              have ht : t < rs.length := by rw [HRL.out]; omega
              have hm : (nthR rs t).xs ∈ numsOf rs := by
                have e : nthR rs t = rs[t] := by simp [nthR, ht]
                rw [e]
                exact List.mem_map_of_mem (List.getElem_mem ht)
              rw [HNU.out] at hm
              have := row_blk k _ hm
              omega)
            have NA := hid (fun (a7 : Option Addr) (c7 : Nat) => nums_addLast (rs := rs) (a := a7) (c := c7) (v := (c : Int)) (q := t) HRL.out)
            have hrg : BlkGe (nthR rs t).a w3.heap.size := hrow.ge
            clear hst BS BO HPOS hrl q3 q4
            go_wp2_with (first | (at_builtin; refine wpList_append_int_at _ rfl _ _ rfl w3.heap.size _ _ _ _ _ rfl rfl hrow (by omega) hszr ?_; intro a7 c7 w7 hown7 hgr7 hloc7; obtain ⟨hf7, hc7⟩ := hown.ready (k := t) (w1 := w7) (by omega) hgr7))
            obtain ⟨s1, s2⟩ := hown.setRow (k := t) (by omega) hgr7 hown7 hloc7
            have hb7 : Below w3.heap.size wr w7 := (Below.refl _ wr).grown hgr7 hszr (fun j hj => by
              cases e : (nthR rs t).a with
              | none => rw [e] at hj; simp [Value.ownBlock] at hj
              | some p => rw [e] at hj; simp [Value.ownBlock] at hj; have := hrg p e; omega)
            have hb8 : Below w3.heap.size w7 (w7.setCell ⟨g6, t, none⟩ (.slice a7 ((nthR rs t).xs.length + 1) c7)) := (Below.refl _ w7).grown s2 (Nat.le_trans hszr hb7.size) (fun j hj => by cases hj; exact q1)
            go_roundw
            case rel => exact ⟨k + 1, t + 1, _, cap', _, by omega, by omega, fun _ => by omega, by go_num, rfl, s1, hid (by rw [← HE.out, ← HNU.out, ← NA.out]), (hb.trans hb7).trans hb8⟩
            case measure => simp [intOf]; omega
        · obtain rfl : k = n := by omega
          go_wp2_with fail
          go_ret2
          exact postRows (by rw [HR.out, HL.out]) (hown.mono hsz3) HNU.out (hb13.trans (hb.mono hsz3))
    · have HR := hid (blocks_no (xs := xs) (fun h => hu h.2))
      have HU := hid hu
      clear hg hu
      go_enter Try.func10, Try.ntmps10
      go_wp2_with (first | (go_at_call 34; refine (paParking_any _ _ _ _ _ h).mono ?_; rintro e w1 ⟨rfl, hb1⟩; rw [HG.out]) | (go_at_call 30; refine (vaUnit_any _ _ _ _ _ _ (h.below hb1 (Nat.le_refl _)) HG.out).mono ?_; rintro e w2 ⟨rfl, hb2⟩; rw [Bool.eq_false_iff.2 HU.out]))
      go_ret2
      exact postRows_no HR.out (hb1.trans (hb2.mono hb1.size))
  · have HR := hid (blocks_no (xs := xs) (fun h => hg h.1))
    have HG := hid hg
    clear hg
    go_enter Try.func10, Try.ntmps10
    go_wp2_with (go_at_call 34; refine (paParking_any _ _ _ _ _ h).mono ?_; rintro e w1 ⟨rfl, hb1⟩; rw [Bool.eq_false_iff.2 HG.out])
    go_ret2
    exact postRows_no HR.out hb1

set_option maxHeartbeats 2000000 in
theorem implBlocks_any (a : Option Addr) (n cap : Nat) (xs : List Int) (w : World) (h : Has w a n cap xs) :
    Calls Try.prog 12 #[.slice a n cap] w (PostRows w (unitBlocksOf xs)) := by
  have HL := hid h.len
  by_cases hg : isPark xs = true
  · have HG := hid hg
    by_cases hu : unitB xs 1 = true
    · have HU := hid hu
      have HR : Hid (unitBlocksOf xs = (partRows xs (fairL xs), true)) := hid (by rw [blocks_yes hg hu, blk_rows hg])
      have h8 : n ≤ 8 := by have := (isPark_bounds hg).1; rw [← h.len]; exact this
      have HB := fair_bounds hg
      rw [h.len] at HB
      have HB8 : Hid (∀ i, i < n → 0 ≤ nth xs i ∧ nth xs i < 8) := hid (fun i hi => by
        have h1 := isPark_bounds hg
        have := h1.2 _ (nth_mem (xs := xs) (i := i) (by rw [h.len]; exact hi))
        omega)
      have HN := hid (fun k (hk : k < n) => fair_cars h.len h8 HB hk)
      have HB' := hid HB
      have HKEY := hid (partRows_keys xs (fairL xs))
      clear hg hu HB
      go_enter Try.func12, Try.ntmps12
      go_wp2_with (first | (go_at_call 36; refine (isParkingFunction_any _ _ _ _ _ h).mono ?_; rintro e w1 ⟨rfl, hb1⟩; rw [HG.out]) | (go_at_call 33; refine (implUnitB_any _ _ _ _ _ _ (h.below hb1 (Nat.le_refl _)) HG.out (by omega)).mono ?_; rintro e w2 ⟨rfl, hb2⟩; rw [HU.out]))
      have hb12 := hb1.trans (hb2.mono hb1.size)
      refine (carsByP_any 12 _ _ _ _ _ (h.below hb12 (Nat.le_refl _)) h8 HB'.out).mono ?_
      rintro e w3 ⟨a3, c3, rfl, hown3, hb3⟩
      have hb13 := hb12.trans (hb3.mono hb12.size)
      go_wp2_with fail
      refine (partsOf_any _ _ _ _ _ _ _ _ _ (h.below hb13 (Nat.le_refl _)) hown3.has HB8.out HN.out).mono ?_
      rintro e w4 ⟨rfl, ⟨r, hp⟩, hb4⟩
      have hb14 := hb13.trans (hb4.mono hb13.size)
      have hlt4 := hp.1.lt
      go_wp2_with fail
      refine (takeAll_any _ _ _ r _ hp (by omega)).mono ?_
      rintro e w5 ⟨a5, q, cap5, rs, rfl, hown5, hn5, hb5⟩
      have hn5' : numsOf rs = partRows xs (fairL xs) := hn5.trans HKEY.out
      go_wp2_with fail
      go_ret2
      exact postRows HR.out (hown5.mono (by have := hb13.size; omega)) hn5' (hb14.trans (hb5.mono hb13.size))
    · have HR := hid (blocks_no (xs := xs) (fun h => hu h.2))
      have HU := hid hu
      clear hg hu
      go_enter Try.func12, Try.ntmps12
      go_wp2_with (first | (go_at_call 36; refine (isParkingFunction_any _ _ _ _ _ h).mono ?_; rintro e w1 ⟨rfl, hb1⟩; rw [HG.out]) | (go_at_call 33; refine (implUnitB_any _ _ _ _ _ _ (h.below hb1 (Nat.le_refl _)) HG.out (by omega)).mono ?_; rintro e w2 ⟨rfl, hb2⟩; rw [Bool.eq_false_iff.2 HU.out]))
      go_ret2
      exact postRows_no HR.out (hb1.trans (hb2.mono hb1.size))
  · have HR := hid (blocks_no (xs := xs) (fun h => hg h.1))
    have HG := hid hg
    clear hg
    go_enter Try.func12, Try.ntmps12
    go_wp2_with (go_at_call 36; refine (isParkingFunction_any _ _ _ _ _ h).mono ?_; rintro e w1 ⟨rfl, hb1⟩; rw [Bool.eq_false_iff.2 HG.out])
    go_ret2
    exact postRows_no HR.out hb1
end Go.Proofs.Ytehdccfkkfkciab

