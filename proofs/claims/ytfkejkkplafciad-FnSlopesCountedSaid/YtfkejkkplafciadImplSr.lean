/- Ranks of slope parking functions and what has a rank: the program's functions, by their contracts. -/
import Derived.Test.YtfkejkkplafciadSpecSu
import Derived.Test.YtfkejkkplafciadImplU
import Derived.Test.YtfkejkkplafciadImplSl
namespace Go.Proofs.Ytfkejkkplafciad
open Go.RowKit

set_option maxHeartbeats 800000 in
theorem implRankSl_any (a : Option Addr) (n cap : Nat) (xs : List Int) (ac : Int) (w : World) (h : Has w a n cap xs) :
    Calls Try.prog 21 #[.slice a n cap, .int .i64 ac] w (PostInt w (rankSlOf xs ac)) := by
  by_cases hg : goodSl xs ac = true
  · obtain ⟨q, rfl, hs, hu, hx⟩ := good_parts hg h.len
    have HR : Hid (rankSlOf xs (q : Int) = ((rkB (bnds n q) xs : Int), true)) := hid (by rw [rankSl_yes hg h.len, ← h.len, rkTU_all])
    have HB := hid (sml_bnds hs)
    obtain ⟨⟨n0, n1⟩, ⟨q0, q1⟩, -⟩ := slN_iff.1 hs
    have HU := hid hu
    have HG := hid hg
    clear hg hx hu hs
    go_enter Try.func21, Try.ntmps21
    go_wp2_with fail
    refine (lineOf_any _ _ _ _ _).mono ?_
    rintro e w1 ⟨rfl, hb1⟩
    have hb2 := hb1.alloc hb1.size (.cells #[.int .i64 0, .int .i64 0] 71)
    have B0 := boxAt_new w1 (.int .i64 0) (.int .i64 0) 71
    obtain ⟨W, hW⟩ : ∃ W, w1.alloc (.cells #[.int .i64 0, .int .i64 0] 71) = W := ⟨_, rfl⟩
    rw [hW] at hb2 B0
    have B2 := (B0.set0 (z := .int .i64 (n : Int))).set1 (z := .int .i64 (q : Int))
    have hb3 := (hb2.setCell (p := ⟨w1.heap.size, 0, none⟩) hb1.size (.int .i64 (n : Int))).setCell (p := ⟨w1.heap.size, 1, none⟩) hb1.size (.int .i64 (q : Int))
    obtain ⟨_, _, _, _⟩ := id B0
    obtain ⟨_, _, _, _⟩ := id B2
    go_wp2_with fail
    refine (linePark_any _ _ _ xs _ _ (h.below hb3 (Nat.le_refl _))).mono ?_
    rintro e w2 ⟨rfl, hb4⟩
    rw [HG.out]
    have B3 := B2.below hb4 (boxAt_lt B2)
    have hb5 := hb3.trans (hb4.mono hb3.size)
    obtain ⟨_, _, _, _⟩ := id B3
    go_wp2_with fail
    refine (lineBounds_any n q _ n1 q1).mono ?_
    rintro e w3 ⟨a3, cap3, rfl, hown3, hb6⟩
    have hb7 := hb5.trans (hb6.mono hb5.size)
    go_wp2_with fail
    refine (rankU_any _ _ _ _ _ _ _ _ (h.below hb7 (Nat.le_refl _)) hown3.has HB HU.out).mono ?_
    rintro e w4 ⟨rfl, hb8⟩
    have hb9 := hb7.trans (hb8.mono hb7.size)
    go_wp2_with fail
    go_ret2
    exact postInt HR.out hb9
  · have HR := hid (rankSl_no hg)
    have HG := hid (Bool.eq_false_iff.2 hg)
    clear hg
    go_enter Try.func21, Try.ntmps21
    go_wp2_with fail
    refine (lineOf_any _ _ _ _ _).mono ?_
    rintro e w1 ⟨rfl, hb1⟩
    have hb2 := hb1.alloc hb1.size (.cells #[.int .i64 0, .int .i64 0] 71)
    have B0 := boxAt_new w1 (.int .i64 0) (.int .i64 0) 71
    obtain ⟨W, hW⟩ : ∃ W, w1.alloc (.cells #[.int .i64 0, .int .i64 0] 71) = W := ⟨_, rfl⟩
    rw [hW] at hb2 B0
    have B2 := (B0.set0 (z := .int .i64 (n : Int))).set1 (z := .int .i64 ac)
    have hb3 := (hb2.setCell (p := ⟨w1.heap.size, 0, none⟩) hb1.size (.int .i64 (n : Int))).setCell (p := ⟨w1.heap.size, 1, none⟩) hb1.size (.int .i64 ac)
    obtain ⟨_, _, _, _⟩ := id B0
    obtain ⟨_, _, _, _⟩ := id B2
    go_wp2_with fail
    refine (linePark_any _ _ _ xs _ _ (h.below hb3 (Nat.le_refl _))).mono ?_
    rintro e w2 ⟨rfl, hb4⟩
    rw [HG.out]
    have hb5 := hb3.trans (hb4.mono hb3.size)
    go_wp2_with fail
    go_ret2
    exact postInt HR.out hb5

set_option maxHeartbeats 800000 in
theorem implSlAt_any (n a r : Int) (w : World) : Calls Try.prog 9 #[.int .i64 n, .int .i64 a, .int .i64 r] w (PostInts w (slAtOf n a r)) := by
  by_cases hg : slB n a = true
  · have HG := hid hg
    obtain ⟨m, q, rfl, rfl, hs⟩ := slB_iff.1 hg
    have HCN : Hid (cntSlOf m q = (((q ^ (m - 1) : Nat) : Int), true)) := hid (by simp [cntSlOf, hg])
    obtain ⟨⟨n0, n1⟩, ⟨q0, q1⟩, -⟩ := slN_iff.1 hs
    obtain ⟨c1, c2⟩ := power_slope hs
    have HC : Hid (cntB (bnds m q) = q ^ (m - 1)) := hid (cnt_slope m (by omega) q (by omega) hs)
    have HB := hid (sml_bnds hs)
    have HLB := hid (length_bnds m q)
    by_cases hr0 : 0 ≤ r
    · by_cases hr1 : r < ((q ^ (m - 1) : Nat) : Int)
      · obtain ⟨R, rfl⟩ : ∃ R : Nat, r = (R : Int) := ⟨r.toNat, by omega⟩
        have hR : R < q ^ (m - 1) := by omega
        have HA := hid (slAt_yes hs hR)
        have HRC : Hid (R < cntB (bnds m q)) := hid (by rw [HC.out]; exact hR)
        have hnl : ¬ ((q ^ (m - 1) : Nat) : Int) ≤ (R : Int) := by omega
        clear hg hs c1 c2
        generalize q ^ (m - 1) = pw at *
        go_enter Try.func9, Try.ntmps9
        go_wp2_with fail
        refine (implCntSl_any _ _ _).mono ?_
        rw [HCN.out]
        rintro e w1 ⟨rfl, hb1⟩
        go_wp2_with fail
        refine (lineBounds_any m q _ n1 q1).mono ?_
        rintro e w2 ⟨a2, cap2, rfl, hown2, hb2⟩
        have hb3 := hb1.trans (hb2.mono hb1.size)
        go_wp2_with fail
        refine (listU_any R _ _ _ _ _ hown2.has HB HRC.out).mono ?_
        rintro e w3 ⟨a3, cap3, rfl, hown3, hb4⟩
        go_wp2_with fail
        go_ret2
        exact postInts HA.out (hown3.mono hb3.size) (hb3.trans (hb4.mono hb3.size))
      · have HA := hid (slAt_no2 (m := m) (q := q) (r := r) (by rw [Bool.not_eq_true, inB_not]; omega))
        have hnl : ((q ^ (m - 1) : Nat) : Int) ≤ r := by omega
        clear hg hs c1 c2
        generalize q ^ (m - 1) = pw at *
        go_enter Try.func9, Try.ntmps9
        go_wp2_with fail
        refine (implCntSl_any _ _ _).mono ?_
        rw [HCN.out]
        rintro e w1 ⟨rfl, hb1⟩
        go_wp2_with fail
        go_ret2
        exact postInts_no HA.out hb1
    · have HA := hid (slAt_no2 (m := m) (q := q) (r := r) (by rw [Bool.not_eq_true, inB_not]; omega))
      clear hg hs c1 c2
      generalize q ^ (m - 1) = pw at *
      go_enter Try.func9, Try.ntmps9
      go_wp2_with fail
      refine (implCntSl_any _ _ _).mono ?_
      rw [HCN.out]
      rintro e w1 ⟨rfl, hb1⟩
      go_wp2_with fail
      go_ret2
      exact postInts_no HA.out hb1
  · have HA := hid (slAt_no1 (r := r) hg)
    have HCN : Hid (cntSlOf n a = (0, false)) := hid (by simp [cntSlOf, hg])
    clear hg
    go_enter Try.func9, Try.ntmps9
    go_wp2_with fail
    refine (implCntSl_any _ _ _).mono ?_
    rw [HCN.out]
    rintro e w1 ⟨rfl, hb1⟩
    go_wp2_with fail
    go_ret2
    exact postInts_no HA.out hb1
end Go.Proofs.Ytfkejkkplafciad
