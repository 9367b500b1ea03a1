/- UsedCells, KeysOf, CostOf, GreatestCost: the model's and the program's functions. -/
import Derived.Test.YtbmghpgnakbnjaaImplTt
import Derived.Test.YtbmghpgnakbnjaaSpecPt
import Derived.Test.YtbmghpgnakbnjaaImplRh
namespace Go.Proofs.Ytbmghpgnakbnjaa
open Go.RowKit

def keysOf' (cs : List Int) : List Int × Bool := if tblB cs then (keysL cs, true) else ([], false)
theorem keysOf_yes {cs : List Int} (h : tblB cs = true) : keysOf' cs = (keysL cs, true) := if_pos h
theorem keysOf_no {cs : List Int} (h : tblB cs = false) : keysOf' cs = ([], false) := if_neg (by simp [h])
def costOf' (cs : List Int) : Int × Bool := if tblB cs then (total (costsL cs), true) else (0, false)
theorem costOf_yes {cs : List Int} (h : tblB cs = true) : costOf' cs = (total (costsL cs), true) := if_pos h
theorem costOf_no {cs : List Int} (h : tblB cs = false) : costOf' cs = (0, false) := if_neg (by simp [h])
/-- The greatest number of a list, 0 at least. -/
def mostL (xs : List Int) : Int := xs.foldl max 0
theorem mostL_succ {xs : List Int} {k : Nat} (h : k < xs.length) : mostL (xs.take (k + 1)) = max (mostL (xs.take k)) (nth xs k) := by
  rw [take_succ_nth h]
  simp [mostL]
def mostOf (cs : List Int) : Int × Bool := if tblB cs then (mostL (costsL cs), true) else (0, false)
theorem mostOf_yes {cs : List Int} (h : tblB cs = true) : mostOf cs = (mostL (costsL cs), true) := if_pos h
theorem mostOf_no {cs : List Int} (h : tblB cs = false) : mostOf cs = (0, false) := if_neg (by simp [h])
theorem costs_bounds {cs : List Int} (h12 : cs.length ≤ 12) (hlo : 1 ≤ cs.length) : ∀ x ∈ costsL cs, 0 ≤ x ∧ x ≤ 12 := by
  intro x hx
  unfold costsL at hx
  obtain ⟨c, h1, h2, rfl⟩ := mem_coll.1 hx
  have : costN cs.length (nth cs c) c < cs.length := way_lt (by omega)
  omega
theorem costs_len {cs : List Int} (h12 : cs.length ≤ 12) : (costsL cs).length ≤ 12 := Nat.le_trans (length_coll _ _ _) h12
theorem small_costs {cs : List Int} (h12 : cs.length ≤ 12) (hlo : 1 ≤ cs.length) : Small (costsL cs) := fun i hi => by have := costs_bounds h12 hlo _ (nth_mem hi); omega
theorem total_small {xs : List Int} (h : ∀ x ∈ xs, 0 ≤ x ∧ x ≤ 12) : ∀ k, k ≤ xs.length → 0 ≤ total (xs.take k) ∧ total (xs.take k) ≤ 12 * (k : Int)
  | 0, _ => by simp [total]
  | k + 1, hk => by
    have ih := total_small h k (by omega)
    have := h _ (nth_mem (show k < xs.length by omega))
    rw [total_succ (by omega)]
    omega

set_option maxRecDepth 100000 in
set_option maxHeartbeats 2000000 in
theorem implUsed_any (a : Option Addr) (n cap : Nat) (cs : List Int) (w : World) (h : Has w a n cap cs) :
    Calls Try.prog 35 #[.agg #[.slice a n cap]] w (PostInts w (usedOf cs)) := by
  obtain ⟨W, hW, C, hbW, hsW⟩ := boxed w (.slice a n cap) 27
  have hH := h.below hbW (Nat.le_refl _)
  obtain ⟨y1, y2⟩ := id C
  by_cases hg : tblB cs = true
  · have HR := hid (usedOf_yes hg)
    have HRO := hid (rings_yes hg)
    have ht := tb_iff.1 hg
    have h12 := ht.hi
    have hlo := ht.lo
    have hrg : Rg cs := ⟨by omega, h12⟩
    have HV := hid hrg.all
    clear hg
    go_enter Try.func35, Try.ntmps35
    go_wp2_with fail
    refine (ringOf_any _ _ _ _ _ hH).mono ?_
    rintro e w1 ⟨rfl, st⟩
    rw [HRO.out]
    have s1 := st.size
    obtain ⟨V, hV, RV, hbV, hsV⟩ := ring_stored w1 HV.out
    have Zn := ringAt_zero w1
    have hb2 := (hbW.trans (st.mono (by omega))).trans (hbV.mono (by omega))
    have hVs := hb2.size
    clear st hbV hbW y1 y2 C hH hW
    go_wp2_with (first | (refine wpList_store_ring rfl _ _ rfl _ _ _ rfl rfl Zn HV.out ?_) | (refine wpList_load_ring rfl _ rfl _ _ rfl RV ?_) | (go_at_call 49; refine (usedCells_any cs _ hrg).mono ?_; rintro e w' ⟨a1, m, cap1, rfl, own, st⟩))
    go_ret2
    exact postInts HR.out (own.mono hVs) (hb2.trans (st.mono hVs))
  · have HRO := hid (rings_no (Bool.eq_false_iff.2 hg))
    have HR := hid (usedOf_no (Bool.eq_false_iff.2 hg))
    clear hg
    go_enter Try.func35, Try.ntmps35
    go_wp2_with fail
    refine (ringOf_any _ _ _ _ _ hH).mono ?_
    rintro e w1 ⟨rfl, st⟩
    rw [HRO.out]
    have s1 := st.size
    obtain ⟨V, hV, RV, hbV, hsV⟩ := ring_stored w1 (xs := zeroR) rfl
    have Zn := ringAt_zero w1
    have hb2 := (hbW.trans (st.mono (by omega))).trans (hbV.mono (by omega))
    clear st hbV hbW
    go_wp2_with (refine wpList_store_ring rfl _ _ rfl _ _ _ rfl rfl Zn rfl ?_)
    go_ret2
    exact postInts_no HR.out hb2

theorem specKeys_any (a : Option Addr) (n cap : Nat) (cs : List Int) (w : World) (h : Has w a n cap cs) :
    Calls Try.prog 31 #[.agg #[.slice a n cap]] w (PostInts w (keysOf' cs)) := by
  obtain ⟨W, hW, C, hbW, hsW⟩ := boxed w (.slice a n cap) 27
  have hH := h.below hbW (Nat.le_refl _)
  obtain ⟨y1, y2⟩ := id C
  by_cases hg : tblB cs = true
  · have HG := hid hg
    have HR := hid (keysOf_yes hg)
    have ht := tb_iff.1 hg
    have h12 := ht.hi
    have hlo := ht.lo
    clear hg
    go_enter Try.func31, Try.ntmps31
    go_wp2_with (first | (go_at_call 37; refine (prGood_any _ _ _ _ _ hH).mono ?_; rintro e w' ⟨rfl, st⟩; rw [HG.out]; have C2 := C.below st (by omega); have hH2 := hH.below st (Nat.le_refl _); have hb2 := hbW.trans (st.mono hbW.size); clear y1 y2 hH C; obtain ⟨z1, z2⟩ := id C2) | (go_at_call 60; refine (prSorted_any _ _ _ _ _ hH2 ht).mono ?_; rintro e w' ⟨a1, m, cap1, rfl, own, st2⟩))
    go_ret2
    exact postInts HR.out (own.mono hb2.size) (hb2.trans (st2.mono hb2.size))
  · have HG := hid (Bool.eq_false_iff.2 hg)
    have HR := hid (keysOf_no (Bool.eq_false_iff.2 hg))
    clear hg
    go_enter Try.func31, Try.ntmps31
    go_wp2_with (go_at_call 37; refine (prGood_any _ _ _ _ _ hH).mono ?_; rintro e w' ⟨rfl, st⟩; rw [HG.out])
    go_ret2
    exact postInts_no HR.out (hbW.trans (st.mono hbW.size))

set_option maxRecDepth 100000 in
set_option maxHeartbeats 2000000 in
theorem implKeys_any (a : Option Addr) (n cap : Nat) (cs : List Int) (w : World) (h : Has w a n cap cs) :
    Calls Try.prog 32 #[.agg #[.slice a n cap]] w (PostInts w (keysOf' cs)) := by
  obtain ⟨W, hW, C, hbW, hsW⟩ := boxed w (.slice a n cap) 27
  have hH := h.below hbW (Nat.le_refl _)
  obtain ⟨y1, y2⟩ := id C
  by_cases hg : tblB cs = true
  · have HR := hid (keysOf_yes hg)
    have HRO := hid (rings_yes hg)
    have ht := tb_iff.1 hg
    have h12 := ht.hi
    have hlo := ht.lo
    have hrg : Rg cs := ⟨by omega, h12⟩
    have HV := hid hrg.all
    clear hg
    go_enter Try.func32, Try.ntmps32
    go_wp2_with fail
    refine (ringOf_any _ _ _ _ _ hH).mono ?_
    rintro e w1 ⟨rfl, st⟩
    rw [HRO.out]
    have s1 := st.size
    obtain ⟨V, hV, RV, hbV, hsV⟩ := ring_stored w1 HV.out
    have Zn := ringAt_zero w1
    have hb2 := (hbW.trans (st.mono (by omega))).trans (hbV.mono (by omega))
    have hVs := hb2.size
    clear st hbV hbW y1 y2 C hH hW
    go_wp2_with (first | (refine wpList_store_ring rfl _ _ rfl _ _ _ rfl rfl Zn HV.out ?_) | (refine wpList_load_ring rfl _ rfl _ _ rfl RV ?_) | (go_at_call 61; refine (keys_any cs _ hrg).mono ?_; rintro e w' ⟨a1, m, cap1, rfl, own, st⟩))
    go_ret2
    exact postInts HR.out (own.mono hVs) (hb2.trans (st.mono hVs))
  · have HRO := hid (rings_no (Bool.eq_false_iff.2 hg))
    have HR := hid (keysOf_no (Bool.eq_false_iff.2 hg))
    clear hg
    go_enter Try.func32, Try.ntmps32
    go_wp2_with fail
    refine (ringOf_any _ _ _ _ _ hH).mono ?_
    rintro e w1 ⟨rfl, st⟩
    rw [HRO.out]
    have s1 := st.size
    obtain ⟨V, hV, RV, hbV, hsV⟩ := ring_stored w1 (xs := zeroR) rfl
    have Zn := ringAt_zero w1
    have hb2 := (hbW.trans (st.mono (by omega))).trans (hbV.mono (by omega))
    clear st hbV hbW
    go_wp2_with (refine wpList_store_ring rfl _ _ rfl _ _ _ rfl rfl Zn rfl ?_)
    go_ret2
    exact postInts_no HR.out hb2

end Go.Proofs.Ytbmghpgnakbnjaa
