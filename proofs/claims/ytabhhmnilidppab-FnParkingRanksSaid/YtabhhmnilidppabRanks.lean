/- The law that parking functions have ranks, walked. -/
import Derived.Test.YtabhhmnilidppabNamed
import Derived.Test.YtabhhmnilidppabDrawM
import Derived.Test.YtabhhmnilidppabMathK
import Derived.Test.YtabhhmnilidppabImplC
import Derived.Test.YtabhhmnilidppabImplR
import Derived.Test.YtabhhmnilidppabImplAll
import Derived.Test.YtabhhmnilidppabImplNx
import Derived.Test.YtabhhmnilidppabSpecAt
import Derived.Test.YtabhhmnilidppabSpecAll
import Derived.Test.YtabhhmnilidppabJ2
namespace Go.Proofs.Ytabhhmnilidppab
open Go.RowKit

theorem all_row {w : World} {b off n cap m : Nat} {rs : List Rw} (R : HasR w (some ⟨b, off, none⟩) n cap rs) (h8 : m ≤ 8) (hn : numsOf rs = listL m m []) {k : Nat} (hk : k < n) :
    ∃ ak nk ck, w.cell? ⟨b, off + k, none⟩ = some (.slice ak nk ck) ∧ Has w ak nk ck (nthR rs k).xs ∧ rankOf (nthR rs k).xs = ((k : Int), true) := by
  obtain ⟨r0, r1, r2, r3, r4, r5⟩ := R
  obtain ⟨b', off', e, _, hc⟩ := r4 (by omega)
  simp at e
  obtain ⟨rfl, rfl⟩ := e
  have h3 := hc k hk
  have h4 := r5 k hk
  unfold Rw.v at h3
  refine ⟨_, _, _, h3, h4, ?_⟩
  have hl : (numsOf rs).length = n := by simp [numsOf, r0]
  have h1 : (numsOf rs)[k]? = some (nthR rs k).xs := map_nthR Rw.xs (by omega)
  have h2 := all_rank (n := m) h8 (i := k) (by rw [← hn, hl]; exact hk)
  rw [← hn] at h2
  rw [List.getD_eq_getElem?_getD, h1] at h2
  simpa using h2
theorem all_count {w : World} {B : Nat} {a : Option Addr} {n cap m : Nat} {rs : List Rw} (R : OwnR w B a n cap rs) (h8 : m ≤ 8) (hn : numsOf rs = listL m m []) : cnt m = n := by
  obtain ⟨_, _, h, _⟩ := all_chain h8
  rw [← h, ← hn, numsOf_len R]
theorem park_asked' {xs : List Int} (ha : asked xs = true) (h : isPark xs = true) : isParking xs = (true, true) := by
  unfold isParking
  rw [if_pos ha, h]

set_option maxRecDepth 100000 in
set_option maxHeartbeats 16000000 in
theorem ranks_walk (a b : Option Addr) (n m cap cap' : Nat) (w : World) (hn : n ≤ maxLen) (h : n ≤ 1048576 → HasB w a n w.heap.size) (h' : m ≤ 1048576 → HasB w b m w.heap.size) :
    Calls Try.prog 7 #[.slice a n cap, .slice b m cap'] w (Holds w) := by
  have H1 := hid h
  have H2 := hid h'
  have HN := hid hn
  clear h h' hn
  have hB : Below w.heap.size w w := Below.refl _ _
  go_enter Try.func7, Try.ntmps7
  go_wp2_with fail
  refine (big_any _ _ _ _ _ _ _ (by have := HN.out; unfold maxLen at this; omega)).mono ?_
  rintro e _ ⟨r, rfl, hr, rfl⟩
  have HR := hid hr
  clear hr
  cases r with
  | true =>
    go_wp2_with fail
    go_ret
    exact ⟨rfl, hB⟩
  | false =>
    have hnm := HR.out rfl
    clear HR
    have HA := hid (H1.out (by omega))
    have HM := hid (H2.out (by omega))
    clear H1 H2 HN
    go_wp2_with fail
    refine (drawParkingAt_any _ _ _ _ HA.out).mono ?_
    rintro e v1 ⟨nn, rr, rfl, n0, n1, r0, r1, st⟩
    replace hB := hB.trans (st.mono hB.size)
    clear st
    by_cases hN8 : inB nn 0 8 = true
    · skip
      obtain ⟨k, rfl⟩ : ∃ k : Nat, nn = (k : Int) := ⟨nn.toNat, by have := (inB_iff.1 hN8).1; omega⟩
      have hk8 : k ≤ 8 := by have := (inB_iff.1 hN8).2; omega
      clear hN8 n0 n1
      obtain ⟨c, hc⟩ : ∃ c, cnt k = c := ⟨_, rfl⟩
      obtain ⟨c1, c2⟩ := cnt_le hk8
      rw [hc] at c1 c2
      have HCT : Hid (countOf (k : Int) = ((c : Int), true)) := hid (by rw [count_yes' hk8, hc])
      have hne := neq_self_int (c : Int)
      have HCC := hid hc
      by_cases hr : 0 ≤ rr ∧ rr < (c : Int)
      · skip
        obtain ⟨q, rfl⟩ : ∃ q : Nat, rr = (q : Int) := ⟨rr.toNat, by omega⟩
        have hqc : q < c := by omega
        obtain ⟨xs, f1, f2, f3, f4, f5, f6, f7⟩ := at_facts (n := k) (r := q) hk8 (by omega)
        rw [hc] at f7
        clear hc r0 r1
        have HAT := hid f1
        have HXL := hid f2
        have HPK := hid (park_asked' f4 f3)
        have HRK := hid f5
        have HNX := hid f6
        have H7 := hid f7
        clear f1 f2 f3 f4 f5 f6 f7
        have g1 : decide ((0 : Int) ≤ (q : Int)) = true := by simp
        have g2 : decide ((q : Int) < (c : Int)) = true := by simpa using hqc
        go_wp2_with fail
        refine (parkingAt_any _ _ _).mono ?_
        rw [HAT.out]
        rintro e v2 ⟨a_l, n_l, c_l, rfl, o_l, st⟩
        replace hB := hB.trans (st.mono hB.size)
        clear st
        go_wp2_with fail
        refine (specAt_any _ _ _).mono ?_
        rw [HAT.out]
        rintro e v3 ⟨a_r, n_r, c_r, rfl, o_r, st⟩
        replace o_l := o_l.below st (Nat.le_refl _)
        replace hB := hB.trans (st.mono hB.size)
        clear st
        go_wp2_with fail
        refine (countParking_any _ _).mono ?_
        rw [HCT.out]
        rintro e v4 ⟨rfl, st⟩
        replace o_l := o_l.below st (Nat.le_refl _)
        replace o_r := o_r.below st (Nat.le_refl _)
        replace hB := hB.trans (st.mono hB.size)
        clear st
        go_wp2_with fail
        refine (specCountParking_any _ _).mono ?_
        rw [HCT.out]
        rintro e v5 ⟨rfl, st⟩
        replace o_l := o_l.below st (Nat.le_refl _)
        replace o_r := o_r.below st (Nat.le_refl _)
        replace hB := hB.trans (st.mono hB.size)
        clear st
        go_wp2_with fail
        refine (jSame_any _ _ _ _ _ _ _ _ _ o_l.has o_r.has).mono ?_
        rintro e v6 ⟨rfl, q⟩
        have st : Below v5.heap.size v5 v6 := q.below _
        replace o_l := o_l.below st (Nat.le_refl _)
        replace o_r := o_r.below st (Nat.le_refl _)
        replace hB := hB.trans (st.mono hB.size)
        clear st
        clear q
        rw [same_self]
        clear o_r
        by_cases hlast : q + 1 < c
        · skip
          obtain ⟨ys, f1, f2, f3⟩ := H7.out hlast
          have HAN := hid f1
          have HYL := hid f2
          have HLS := hid f3
          rw [HAN.out] at HNX
          have g3 : decide ((q : Int) + 1 < (c : Int)) = true := by simp; omega
          clear f1 f2 f3 H7
          go_wp2_with fail
          refine (rank_any _ _ _ _ _ o_l.has).mono ?_
          rw [HRK.out]
          rintro e v7 ⟨rfl, st⟩
          replace o_l := o_l.below st (Nat.le_refl _)
          replace hB := hB.trans (st.mono hB.size)
          clear st
          go_wp2_with fail
          refine (nextParking_any _ _ _ _ _ o_l.has).mono ?_
          rw [HNX.out]
          rintro e v8 ⟨a_x, n_x, c_x, rfl, o_x, st⟩
          replace o_l := o_l.below st (Nat.le_refl _)
          replace hB := hB.trans (st.mono hB.size)
          clear st
          go_wp2_with fail
          refine (parkingAt_any _ _ _).mono ?_
          rw [HAN.out]
          rintro e v9 ⟨a_t, n_t, c_t, rfl, o_t, st⟩
          replace o_l := o_l.below st (Nat.le_refl _)
          replace o_x := o_x.below st (Nat.le_refl _)
          replace hB := hB.trans (st.mono hB.size)
          clear st
          go_wp2_with fail
          refine (isParking_any _ _ _ _ _ o_l.has).mono ?_
          rw [HPK.out]
          rintro e v10 ⟨rfl, st⟩
          replace o_l := o_l.below st (Nat.le_refl _)
          replace o_x := o_x.below st (Nat.le_refl _)
          replace o_t := o_t.below st (Nat.le_refl _)
          replace hB := hB.trans (st.mono hB.size)
          clear st
          go_wp2_with fail
          refine (jSame_any _ _ _ _ _ _ _ _ _ o_x.has o_t.has).mono ?_
          rintro e v11 ⟨rfl, q⟩
          have st : Below v10.heap.size v10 v11 := q.below _
          replace o_l := o_l.below st (Nat.le_refl _)
          replace o_x := o_x.below st (Nat.le_refl _)
          replace o_t := o_t.below st (Nat.le_refl _)
          replace hB := hB.trans (st.mono hB.size)
          clear st
          clear q
          rw [same_self]
          clear o_t
          obtain rfl : n_l = n_x := by rw [← o_l.len, ← o_x.len, HXL.out, HYL.out]
          go_wp2_with fail
          refine (jLess_any _ _ _ _ _ _ _ _ o_l.has o_x.has).mono ?_
          rintro e v12 ⟨rfl, q⟩
          have st : Below v11.heap.size v11 v12 := q.below _
          replace o_l := o_l.below st (Nat.le_refl _)
          replace o_x := o_x.below st (Nat.le_refl _)
          replace hB := hB.trans (st.mono hB.size)
          clear st
          clear q
          rw [HLS.out]
          clear o_x o_l
          go_wp2_with fail
          refine (drawAllParking_any b m cap' _ (HM.out.grow hB (Nat.le_refl _))).mono ?_
          rintro e v13 ⟨mm, rfl, m0, m1, st⟩
          replace hB := hB.trans (st.mono hB.size)
          clear st
          by_cases hM : inB mm 0 5 = true
          · skip
            obtain ⟨j, rfl⟩ : ∃ j : Nat, mm = (j : Int) := ⟨mm.toNat, by have := (inB_iff.1 hM).1; omega⟩
            have hj5 : j ≤ 5 := by have := (inB_iff.1 hM).2; omega
            have HAL : Hid (allOf (j : Int) = (listL j j [], true)) := hid (by simp [allOf, hM])
            clear hM m0 m1
            go_wp2_with fail
            refine (allParking_any _ _).mono ?_
            rw [HAL.out]
            rintro e v14 ⟨a_g, n_g, c_g, rs, rfl, R_g, hng, st⟩
            replace hB := hB.trans (st.mono hB.size)
            clear st
            go_wp2_with fail
            refine (specAll_any _ _).mono ?_
            rw [HAL.out]
            rintro e v15 ⟨a_s, n_s, c_s, ss, rfl, R_s, hns, st⟩
            replace R_g := R_g.below st (Nat.le_refl _)
            replace hB := hB.trans (st.mono hB.size)
            clear st
            have HRS : Hid (sameR rs ss = true) := hid (sameR_self' (hng.trans hns.symm))
            have HNG := hid hng
            clear hng hns
            go_wp2_with fail
            refine (jRows_any _ _ _ _ _ _ _ _ _ R_g.has R_s.has).mono ?_
            rintro e v16 ⟨rfl, q⟩
            have st : Below v15.heap.size v15 v16 := q.below _
            replace R_g := R_g.below st (Nat.le_refl _)
            replace R_s := R_s.below st (Nat.le_refl _)
            replace hB := hB.trans (st.mono hB.size)
            clear st
            clear q
            rw [HRS.out]
            clear HRS R_s
            have HC : Hid (countOf (j : Int) = ((n_g : Int), true)) := hid (by rw [count_yes' (by omega), all_count R_g (by omega) HNG.out])
            obtain ⟨mg, hmg⟩ : ∃ mg, n_g = mg + 1 := ⟨n_g - 1, by have := all_count R_g (m := j) (by omega) HNG.out; have := (cnt_le (n := j) (by omega)).1; omega⟩
            subst hmg
            have hmk : mg + 1 ≤ 1048576 := R_g.has.2.2.2.1
            have hne0 := neq_self_int ((mg : Int) + 1)
            go_wp2_with fail
            refine (countParking_any _ _).mono ?_
            rw [HC.out]
            rintro e v17 ⟨rfl, st⟩
            replace R_g := R_g.below st (Nat.le_refl _)
            replace hB := hB.trans (st.mono hB.size)
            clear st
            go_wp2_with fail
            refine (numberOf_any _ _ _ w.heap.size _ (HA.out.below hB)).mono ?_
            rintro e _ ⟨z, rfl, z0, z1, rfl⟩
            have hmz : ¬ (mg : Int) + 1 = 0 := by omega
            have hi0 : 0 ≤ z % ((mg : Int) + 1) := Int.emod_nonneg _ hmz
            have hi1 : z % ((mg : Int) + 1) < (mg : Int) + 1 := Int.emod_lt_of_pos z (show 0 < (mg : Int) + 1 by omega)
            obtain ⟨bg, offg, rfl, hbg, -⟩ := R_g.has.2.2.2.2.1 (by omega)
            obtain ⟨ai, ni, ci, hci, H_i, hri⟩ := all_row R_g.has (by omega) HNG.out (k := (z % ((mg : Int) + 1)).toNat) (by omega)
            rw [Int.toNat_of_nonneg hi0] at hri
            have HRI := hid hri
            have hse : (z % ((mg : Int) + 1) == z % ((mg : Int) + 1)) = true := by simp
            clear hri
            go_wp2_with fail
            refine (rank_any _ _ _ _ _ H_i).mono ?_
            rw [HRI.out]
            rintro e v18 ⟨rfl, st⟩
            replace R_g := R_g.below st (Nat.le_refl _)
            replace H_i := H_i.below st (Nat.le_refl _)
            replace hB := hB.trans (st.mono hB.size)
            clear st
            clear hci R_g
            go_wp2_with fail
            go_ret
            exact ⟨rfl, hB⟩
          · skip
            have HAL : Hid (allOf mm = ([], false)) := hid (allOf_no hM)
            clear hM
            go_wp2_with fail
            refine (allParking_any _ _).mono ?_
            rw [HAL.out]
            rintro e v14 ⟨a_g, n_g, c_g, rs, rfl, R_g, hng, st⟩
            replace hB := hB.trans (st.mono hB.size)
            clear st
            go_wp2_with fail
            refine (specAll_any _ _).mono ?_
            rw [HAL.out]
            rintro e v15 ⟨a_s, n_s, c_s, ss, rfl, R_s, hns, st⟩
            replace R_g := R_g.below st (Nat.le_refl _)
            replace hB := hB.trans (st.mono hB.size)
            clear st
            have HRS : Hid (sameR rs ss = true) := hid (sameR_self' (hng.trans hns.symm))
            have HNG := hid hng
            clear hng hns
            go_wp2_with fail
            refine (jRows_any _ _ _ _ _ _ _ _ _ R_g.has R_s.has).mono ?_
            rintro e v16 ⟨rfl, q⟩
            have st : Below v15.heap.size v15 v16 := q.below _
            replace R_g := R_g.below st (Nat.le_refl _)
            replace R_s := R_s.below st (Nat.le_refl _)
            replace hB := hB.trans (st.mono hB.size)
            clear st
            clear q
            rw [HRS.out]
            clear HRS R_s
            clear R_g
            go_wp2_with fail
            go_ret
            exact ⟨rfl, hB⟩
        · skip
          have HAN : Hid (atOf (k : Int) ((q : Int) + 1) = ([], false)) := hid (at_no (by rw [HCC.out]; omega))
          rw [HAN.out] at HNX
          have g3 : decide ((q : Int) + 1 < (c : Int)) = false := by simp; omega
          clear H7
          go_wp2_with fail
          refine (rank_any _ _ _ _ _ o_l.has).mono ?_
          rw [HRK.out]
          rintro e v7 ⟨rfl, st⟩
          replace o_l := o_l.below st (Nat.le_refl _)
          replace hB := hB.trans (st.mono hB.size)
          clear st
          go_wp2_with fail
          refine (nextParking_any _ _ _ _ _ o_l.has).mono ?_
          rw [HNX.out]
          rintro e v8 ⟨a_x, n_x, c_x, rfl, o_x, st⟩
          replace o_l := o_l.below st (Nat.le_refl _)
          replace hB := hB.trans (st.mono hB.size)
          clear st
          go_wp2_with fail
          refine (parkingAt_any _ _ _).mono ?_
          rw [HAN.out]
          rintro e v9 ⟨a_t, n_t, c_t, rfl, o_t, st⟩
          replace o_l := o_l.below st (Nat.le_refl _)
          replace o_x := o_x.below st (Nat.le_refl _)
          replace hB := hB.trans (st.mono hB.size)
          clear st
          go_wp2_with fail
          refine (isParking_any _ _ _ _ _ o_l.has).mono ?_
          rw [HPK.out]
          rintro e v10 ⟨rfl, st⟩
          replace o_l := o_l.below st (Nat.le_refl _)
          replace o_x := o_x.below st (Nat.le_refl _)
          replace o_t := o_t.below st (Nat.le_refl _)
          replace hB := hB.trans (st.mono hB.size)
          clear st
          go_wp2_with fail
          refine (jSame_any _ _ _ _ _ _ _ _ _ o_x.has o_t.has).mono ?_
          rintro e v11 ⟨rfl, q⟩
          have st : Below v10.heap.size v10 v11 := q.below _
          replace o_l := o_l.below st (Nat.le_refl _)
          replace o_x := o_x.below st (Nat.le_refl _)
          replace o_t := o_t.below st (Nat.le_refl _)
          replace hB := hB.trans (st.mono hB.size)
          clear st
          clear q
          rw [same_self]
          clear o_t o_x o_l
          go_wp2_with fail
          refine (drawAllParking_any b m cap' _ (HM.out.grow hB (Nat.le_refl _))).mono ?_
          rintro e v12 ⟨mm, rfl, m0, m1, st⟩
          replace hB := hB.trans (st.mono hB.size)
          clear st
          by_cases hM : inB mm 0 5 = true
          · skip
            obtain ⟨j, rfl⟩ : ∃ j : Nat, mm = (j : Int) := ⟨mm.toNat, by have := (inB_iff.1 hM).1; omega⟩
            have hj5 : j ≤ 5 := by have := (inB_iff.1 hM).2; omega
            have HAL : Hid (allOf (j : Int) = (listL j j [], true)) := hid (by simp [allOf, hM])
            clear hM m0 m1
            go_wp2_with fail
            refine (allParking_any _ _).mono ?_
            rw [HAL.out]
            rintro e v13 ⟨a_g, n_g, c_g, rs, rfl, R_g, hng, st⟩
            replace hB := hB.trans (st.mono hB.size)
            clear st
            go_wp2_with fail
            refine (specAll_any _ _).mono ?_
            rw [HAL.out]
            rintro e v14 ⟨a_s, n_s, c_s, ss, rfl, R_s, hns, st⟩
            replace R_g := R_g.below st (Nat.le_refl _)
            replace hB := hB.trans (st.mono hB.size)
            clear st
            have HRS : Hid (sameR rs ss = true) := hid (sameR_self' (hng.trans hns.symm))
            have HNG := hid hng
            clear hng hns
            go_wp2_with fail
            refine (jRows_any _ _ _ _ _ _ _ _ _ R_g.has R_s.has).mono ?_
            rintro e v15 ⟨rfl, q⟩
            have st : Below v14.heap.size v14 v15 := q.below _
            replace R_g := R_g.below st (Nat.le_refl _)
            replace R_s := R_s.below st (Nat.le_refl _)
            replace hB := hB.trans (st.mono hB.size)
            clear st
            clear q
            rw [HRS.out]
            clear HRS R_s
            have HC : Hid (countOf (j : Int) = ((n_g : Int), true)) := hid (by rw [count_yes' (by omega), all_count R_g (by omega) HNG.out])
            obtain ⟨mg, hmg⟩ : ∃ mg, n_g = mg + 1 := ⟨n_g - 1, by have := all_count R_g (m := j) (by omega) HNG.out; have := (cnt_le (n := j) (by omega)).1; omega⟩
            subst hmg
            have hmk : mg + 1 ≤ 1048576 := R_g.has.2.2.2.1
            have hne0 := neq_self_int ((mg : Int) + 1)
            go_wp2_with fail
            refine (countParking_any _ _).mono ?_
            rw [HC.out]
            rintro e v16 ⟨rfl, st⟩
            replace R_g := R_g.below st (Nat.le_refl _)
            replace hB := hB.trans (st.mono hB.size)
            clear st
            go_wp2_with fail
            refine (numberOf_any _ _ _ w.heap.size _ (HA.out.below hB)).mono ?_
            rintro e _ ⟨z, rfl, z0, z1, rfl⟩
            have hmz : ¬ (mg : Int) + 1 = 0 := by omega
            have hi0 : 0 ≤ z % ((mg : Int) + 1) := Int.emod_nonneg _ hmz
            have hi1 : z % ((mg : Int) + 1) < (mg : Int) + 1 := Int.emod_lt_of_pos z (show 0 < (mg : Int) + 1 by omega)
            obtain ⟨bg, offg, rfl, hbg, -⟩ := R_g.has.2.2.2.2.1 (by omega)
            obtain ⟨ai, ni, ci, hci, H_i, hri⟩ := all_row R_g.has (by omega) HNG.out (k := (z % ((mg : Int) + 1)).toNat) (by omega)
            rw [Int.toNat_of_nonneg hi0] at hri
            have HRI := hid hri
            have hse : (z % ((mg : Int) + 1) == z % ((mg : Int) + 1)) = true := by simp
            clear hri
            go_wp2_with fail
            refine (rank_any _ _ _ _ _ H_i).mono ?_
            rw [HRI.out]
            rintro e v17 ⟨rfl, st⟩
            replace R_g := R_g.below st (Nat.le_refl _)
            replace H_i := H_i.below st (Nat.le_refl _)
            replace hB := hB.trans (st.mono hB.size)
            clear st
            clear hci R_g
            go_wp2_with fail
            go_ret
            exact ⟨rfl, hB⟩
          · skip
            have HAL : Hid (allOf mm = ([], false)) := hid (allOf_no hM)
            clear hM
            go_wp2_with fail
            refine (allParking_any _ _).mono ?_
            rw [HAL.out]
            rintro e v13 ⟨a_g, n_g, c_g, rs, rfl, R_g, hng, st⟩
            replace hB := hB.trans (st.mono hB.size)
            clear st
            go_wp2_with fail
            refine (specAll_any _ _).mono ?_
            rw [HAL.out]
            rintro e v14 ⟨a_s, n_s, c_s, ss, rfl, R_s, hns, st⟩
            replace R_g := R_g.below st (Nat.le_refl _)
            replace hB := hB.trans (st.mono hB.size)
            clear st
            have HRS : Hid (sameR rs ss = true) := hid (sameR_self' (hng.trans hns.symm))
            have HNG := hid hng
            clear hng hns
            go_wp2_with fail
            refine (jRows_any _ _ _ _ _ _ _ _ _ R_g.has R_s.has).mono ?_
            rintro e v15 ⟨rfl, q⟩
            have st : Below v14.heap.size v14 v15 := q.below _
            replace R_g := R_g.below st (Nat.le_refl _)
            replace R_s := R_s.below st (Nat.le_refl _)
            replace hB := hB.trans (st.mono hB.size)
            clear st
            clear q
            rw [HRS.out]
            clear HRS R_s
            clear R_g
            go_wp2_with fail
            go_ret
            exact ⟨rfl, hB⟩
      · skip
        have HAT : Hid (atOf (k : Int) rr = ([], false)) := hid (at_no (by rw [hc]; exact hr))
        clear hc
        by_cases hneg : rr < 0
        · skip
          have g1 : decide ((0 : Int) ≤ rr) = false := by simp; omega
          go_wp2_with fail
          refine (parkingAt_any _ _ _).mono ?_
          rw [HAT.out]
          rintro e v2 ⟨a_l, n_l, c_l, rfl, o_l, st⟩
          replace hB := hB.trans (st.mono hB.size)
          clear st
          go_wp2_with fail
          refine (specAt_any _ _ _).mono ?_
          rw [HAT.out]
          rintro e v3 ⟨a_r, n_r, c_r, rfl, o_r, st⟩
          replace o_l := o_l.below st (Nat.le_refl _)
          replace hB := hB.trans (st.mono hB.size)
          clear st
          go_wp2_with fail
          refine (countParking_any _ _).mono ?_
          rw [HCT.out]
          rintro e v4 ⟨rfl, st⟩
          replace o_l := o_l.below st (Nat.le_refl _)
          replace o_r := o_r.below st (Nat.le_refl _)
          replace hB := hB.trans (st.mono hB.size)
          clear st
          go_wp2_with fail
          refine (specCountParking_any _ _).mono ?_
          rw [HCT.out]
          rintro e v5 ⟨rfl, st⟩
          replace o_l := o_l.below st (Nat.le_refl _)
          replace o_r := o_r.below st (Nat.le_refl _)
          replace hB := hB.trans (st.mono hB.size)
          clear st
          go_wp2_with fail
          refine (jSame_any _ _ _ _ _ _ _ _ _ o_l.has o_r.has).mono ?_
          rintro e v6 ⟨rfl, q⟩
          have st : Below v5.heap.size v5 v6 := q.below _
          replace o_l := o_l.below st (Nat.le_refl _)
          replace o_r := o_r.below st (Nat.le_refl _)
          replace hB := hB.trans (st.mono hB.size)
          clear st
          clear q
          rw [same_self]
          clear o_r
          clear o_l
          go_wp2_with fail
          refine (drawAllParking_any b m cap' _ (HM.out.grow hB (Nat.le_refl _))).mono ?_
          rintro e v7 ⟨mm, rfl, m0, m1, st⟩
          replace hB := hB.trans (st.mono hB.size)
          clear st
          by_cases hM : inB mm 0 5 = true
          · skip
            obtain ⟨j, rfl⟩ : ∃ j : Nat, mm = (j : Int) := ⟨mm.toNat, by have := (inB_iff.1 hM).1; omega⟩
            have hj5 : j ≤ 5 := by have := (inB_iff.1 hM).2; omega
            have HAL : Hid (allOf (j : Int) = (listL j j [], true)) := hid (by simp [allOf, hM])
            clear hM m0 m1
            go_wp2_with fail
            refine (allParking_any _ _).mono ?_
            rw [HAL.out]
            rintro e v8 ⟨a_g, n_g, c_g, rs, rfl, R_g, hng, st⟩
            replace hB := hB.trans (st.mono hB.size)
            clear st
            go_wp2_with fail
            refine (specAll_any _ _).mono ?_
            rw [HAL.out]
            rintro e v9 ⟨a_s, n_s, c_s, ss, rfl, R_s, hns, st⟩
            replace R_g := R_g.below st (Nat.le_refl _)
            replace hB := hB.trans (st.mono hB.size)
            clear st
            have HRS : Hid (sameR rs ss = true) := hid (sameR_self' (hng.trans hns.symm))
            have HNG := hid hng
            clear hng hns
            go_wp2_with fail
            refine (jRows_any _ _ _ _ _ _ _ _ _ R_g.has R_s.has).mono ?_
            rintro e v10 ⟨rfl, q⟩
            have st : Below v9.heap.size v9 v10 := q.below _
            replace R_g := R_g.below st (Nat.le_refl _)
            replace R_s := R_s.below st (Nat.le_refl _)
            replace hB := hB.trans (st.mono hB.size)
            clear st
            clear q
            rw [HRS.out]
            clear HRS R_s
            have HC : Hid (countOf (j : Int) = ((n_g : Int), true)) := hid (by rw [count_yes' (by omega), all_count R_g (by omega) HNG.out])
            obtain ⟨mg, hmg⟩ : ∃ mg, n_g = mg + 1 := ⟨n_g - 1, by have := all_count R_g (m := j) (by omega) HNG.out; have := (cnt_le (n := j) (by omega)).1; omega⟩
            subst hmg
            have hmk : mg + 1 ≤ 1048576 := R_g.has.2.2.2.1
            have hne0 := neq_self_int ((mg : Int) + 1)
            go_wp2_with fail
            refine (countParking_any _ _).mono ?_
            rw [HC.out]
            rintro e v11 ⟨rfl, st⟩
            replace R_g := R_g.below st (Nat.le_refl _)
            replace hB := hB.trans (st.mono hB.size)
            clear st
            go_wp2_with fail
            refine (numberOf_any _ _ _ w.heap.size _ (HA.out.below hB)).mono ?_
            rintro e _ ⟨z, rfl, z0, z1, rfl⟩
            have hmz : ¬ (mg : Int) + 1 = 0 := by omega
            have hi0 : 0 ≤ z % ((mg : Int) + 1) := Int.emod_nonneg _ hmz
            have hi1 : z % ((mg : Int) + 1) < (mg : Int) + 1 := Int.emod_lt_of_pos z (show 0 < (mg : Int) + 1 by omega)
            obtain ⟨bg, offg, rfl, hbg, -⟩ := R_g.has.2.2.2.2.1 (by omega)
            obtain ⟨ai, ni, ci, hci, H_i, hri⟩ := all_row R_g.has (by omega) HNG.out (k := (z % ((mg : Int) + 1)).toNat) (by omega)
            rw [Int.toNat_of_nonneg hi0] at hri
            have HRI := hid hri
            have hse : (z % ((mg : Int) + 1) == z % ((mg : Int) + 1)) = true := by simp
            clear hri
            go_wp2_with fail
            refine (rank_any _ _ _ _ _ H_i).mono ?_
            rw [HRI.out]
            rintro e v12 ⟨rfl, st⟩
            replace R_g := R_g.below st (Nat.le_refl _)
            replace H_i := H_i.below st (Nat.le_refl _)
            replace hB := hB.trans (st.mono hB.size)
            clear st
            clear hci R_g
            go_wp2_with fail
            go_ret
            exact ⟨rfl, hB⟩
          · skip
            have HAL : Hid (allOf mm = ([], false)) := hid (allOf_no hM)
            clear hM
            go_wp2_with fail
            refine (allParking_any _ _).mono ?_
            rw [HAL.out]
            rintro e v8 ⟨a_g, n_g, c_g, rs, rfl, R_g, hng, st⟩
            replace hB := hB.trans (st.mono hB.size)
            clear st
            go_wp2_with fail
            refine (specAll_any _ _).mono ?_
            rw [HAL.out]
            rintro e v9 ⟨a_s, n_s, c_s, ss, rfl, R_s, hns, st⟩
            replace R_g := R_g.below st (Nat.le_refl _)
            replace hB := hB.trans (st.mono hB.size)
            clear st
            have HRS : Hid (sameR rs ss = true) := hid (sameR_self' (hng.trans hns.symm))
            have HNG := hid hng
            clear hng hns
            go_wp2_with fail
            refine (jRows_any _ _ _ _ _ _ _ _ _ R_g.has R_s.has).mono ?_
            rintro e v10 ⟨rfl, q⟩
            have st : Below v9.heap.size v9 v10 := q.below _
            replace R_g := R_g.below st (Nat.le_refl _)
            replace R_s := R_s.below st (Nat.le_refl _)
            replace hB := hB.trans (st.mono hB.size)
            clear st
            clear q
            rw [HRS.out]
            clear HRS R_s
            clear R_g
            go_wp2_with fail
            go_ret
            exact ⟨rfl, hB⟩
        · skip
          have g1 : decide ((0 : Int) ≤ rr) = true := by simp; omega
          have g2 : decide (rr < (c : Int)) = false := by simp; omega
          clear r0 r1
          go_wp2_with fail
          refine (parkingAt_any _ _ _).mono ?_
          rw [HAT.out]
          rintro e v2 ⟨a_l, n_l, c_l, rfl, o_l, st⟩
          replace hB := hB.trans (st.mono hB.size)
          clear st
          go_wp2_with fail
          refine (specAt_any _ _ _).mono ?_
          rw [HAT.out]
          rintro e v3 ⟨a_r, n_r, c_r, rfl, o_r, st⟩
          replace o_l := o_l.below st (Nat.le_refl _)
          replace hB := hB.trans (st.mono hB.size)
          clear st
          go_wp2_with fail
          refine (countParking_any _ _).mono ?_
          rw [HCT.out]
          rintro e v4 ⟨rfl, st⟩
          replace o_l := o_l.below st (Nat.le_refl _)
          replace o_r := o_r.below st (Nat.le_refl _)
          replace hB := hB.trans (st.mono hB.size)
          clear st
          go_wp2_with fail
          refine (specCountParking_any _ _).mono ?_
          rw [HCT.out]
          rintro e v5 ⟨rfl, st⟩
          replace o_l := o_l.below st (Nat.le_refl _)
          replace o_r := o_r.below st (Nat.le_refl _)
          replace hB := hB.trans (st.mono hB.size)
          clear st
          go_wp2_with fail
          refine (jSame_any _ _ _ _ _ _ _ _ _ o_l.has o_r.has).mono ?_
          rintro e v6 ⟨rfl, q⟩
          have st : Below v5.heap.size v5 v6 := q.below _
          replace o_l := o_l.below st (Nat.le_refl _)
          replace o_r := o_r.below st (Nat.le_refl _)
          replace hB := hB.trans (st.mono hB.size)
          clear st
          clear q
          rw [same_self]
          clear o_r
          clear o_l
          go_wp2_with fail
          refine (drawAllParking_any b m cap' _ (HM.out.grow hB (Nat.le_refl _))).mono ?_
          rintro e v7 ⟨mm, rfl, m0, m1, st⟩
          replace hB := hB.trans (st.mono hB.size)
          clear st
          by_cases hM : inB mm 0 5 = true
          · skip
            obtain ⟨j, rfl⟩ : ∃ j : Nat, mm = (j : Int) := ⟨mm.toNat, by have := (inB_iff.1 hM).1; omega⟩
            have hj5 : j ≤ 5 := by have := (inB_iff.1 hM).2; omega
            have HAL : Hid (allOf (j : Int) = (listL j j [], true)) := hid (by simp [allOf, hM])
            clear hM m0 m1
            go_wp2_with fail
            refine (allParking_any _ _).mono ?_
            rw [HAL.out]
            rintro e v8 ⟨a_g, n_g, c_g, rs, rfl, R_g, hng, st⟩
            replace hB := hB.trans (st.mono hB.size)
            clear st
            go_wp2_with fail
            refine (specAll_any _ _).mono ?_
            rw [HAL.out]
            rintro e v9 ⟨a_s, n_s, c_s, ss, rfl, R_s, hns, st⟩
            replace R_g := R_g.below st (Nat.le_refl _)
            replace hB := hB.trans (st.mono hB.size)
            clear st
            have HRS : Hid (sameR rs ss = true) := hid (sameR_self' (hng.trans hns.symm))
            have HNG := hid hng
            clear hng hns
            go_wp2_with fail
            refine (jRows_any _ _ _ _ _ _ _ _ _ R_g.has R_s.has).mono ?_
            rintro e v10 ⟨rfl, q⟩
            have st : Below v9.heap.size v9 v10 := q.below _
            replace R_g := R_g.below st (Nat.le_refl _)
            replace R_s := R_s.below st (Nat.le_refl _)
            replace hB := hB.trans (st.mono hB.size)
            clear st
            clear q
            rw [HRS.out]
            clear HRS R_s
            have HC : Hid (countOf (j : Int) = ((n_g : Int), true)) := hid (by rw [count_yes' (by omega), all_count R_g (by omega) HNG.out])
            obtain ⟨mg, hmg⟩ : ∃ mg, n_g = mg + 1 := ⟨n_g - 1, by have := all_count R_g (m := j) (by omega) HNG.out; have := (cnt_le (n := j) (by omega)).1; omega⟩
            subst hmg
            have hmk : mg + 1 ≤ 1048576 := R_g.has.2.2.2.1
            have hne0 := neq_self_int ((mg : Int) + 1)
            go_wp2_with fail
            refine (countParking_any _ _).mono ?_
            rw [HC.out]
            rintro e v11 ⟨rfl, st⟩
            replace R_g := R_g.below st (Nat.le_refl _)
            replace hB := hB.trans (st.mono hB.size)
            clear st
            go_wp2_with fail
            refine (numberOf_any _ _ _ w.heap.size _ (HA.out.below hB)).mono ?_
            rintro e _ ⟨z, rfl, z0, z1, rfl⟩
            have hmz : ¬ (mg : Int) + 1 = 0 := by omega
            have hi0 : 0 ≤ z % ((mg : Int) + 1) := Int.emod_nonneg _ hmz
            have hi1 : z % ((mg : Int) + 1) < (mg : Int) + 1 := Int.emod_lt_of_pos z (show 0 < (mg : Int) + 1 by omega)
            obtain ⟨bg, offg, rfl, hbg, -⟩ := R_g.has.2.2.2.2.1 (by omega)
            obtain ⟨ai, ni, ci, hci, H_i, hri⟩ := all_row R_g.has (by omega) HNG.out (k := (z % ((mg : Int) + 1)).toNat) (by omega)
            rw [Int.toNat_of_nonneg hi0] at hri
            have HRI := hid hri
            have hse : (z % ((mg : Int) + 1) == z % ((mg : Int) + 1)) = true := by simp
            clear hri
            go_wp2_with fail
            refine (rank_any _ _ _ _ _ H_i).mono ?_
            rw [HRI.out]
            rintro e v12 ⟨rfl, st⟩
            replace R_g := R_g.below st (Nat.le_refl _)
            replace H_i := H_i.below st (Nat.le_refl _)
            replace hB := hB.trans (st.mono hB.size)
            clear st
            clear hci R_g
            go_wp2_with fail
            go_ret
            exact ⟨rfl, hB⟩
          · skip
            have HAL : Hid (allOf mm = ([], false)) := hid (allOf_no hM)
            clear hM
            go_wp2_with fail
            refine (allParking_any _ _).mono ?_
            rw [HAL.out]
            rintro e v8 ⟨a_g, n_g, c_g, rs, rfl, R_g, hng, st⟩
            replace hB := hB.trans (st.mono hB.size)
            clear st
            go_wp2_with fail
            refine (specAll_any _ _).mono ?_
            rw [HAL.out]
            rintro e v9 ⟨a_s, n_s, c_s, ss, rfl, R_s, hns, st⟩
            replace R_g := R_g.below st (Nat.le_refl _)
            replace hB := hB.trans (st.mono hB.size)
            clear st
            have HRS : Hid (sameR rs ss = true) := hid (sameR_self' (hng.trans hns.symm))
            have HNG := hid hng
            clear hng hns
            go_wp2_with fail
            refine (jRows_any _ _ _ _ _ _ _ _ _ R_g.has R_s.has).mono ?_
            rintro e v10 ⟨rfl, q⟩
            have st : Below v9.heap.size v9 v10 := q.below _
            replace R_g := R_g.below st (Nat.le_refl _)
            replace R_s := R_s.below st (Nat.le_refl _)
            replace hB := hB.trans (st.mono hB.size)
            clear st
            clear q
            rw [HRS.out]
            clear HRS R_s
            clear R_g
            go_wp2_with fail
            go_ret
            exact ⟨rfl, hB⟩
    · skip
      have HAT : Hid (atOf nn rr = ([], false)) := hid (at_no1 hN8).1
      have HCT : Hid (countOf nn = (0, false)) := hid (at_no1 (r := 0) hN8).2
      clear hN8
      go_wp2_with fail
      refine (parkingAt_any _ _ _).mono ?_
      rw [HAT.out]
      rintro e v2 ⟨a_l, n_l, c_l, rfl, o_l, st⟩
      replace hB := hB.trans (st.mono hB.size)
      clear st
      go_wp2_with fail
      refine (specAt_any _ _ _).mono ?_
      rw [HAT.out]
      rintro e v3 ⟨a_r, n_r, c_r, rfl, o_r, st⟩
      replace o_l := o_l.below st (Nat.le_refl _)
      replace hB := hB.trans (st.mono hB.size)
      clear st
      go_wp2_with fail
      refine (countParking_any _ _).mono ?_
      rw [HCT.out]
      rintro e v4 ⟨rfl, st⟩
      replace o_l := o_l.below st (Nat.le_refl _)
      replace o_r := o_r.below st (Nat.le_refl _)
      replace hB := hB.trans (st.mono hB.size)
      clear st
      go_wp2_with fail
      refine (specCountParking_any _ _).mono ?_
      rw [HCT.out]
      rintro e v5 ⟨rfl, st⟩
      replace o_l := o_l.below st (Nat.le_refl _)
      replace o_r := o_r.below st (Nat.le_refl _)
      replace hB := hB.trans (st.mono hB.size)
      clear st
      go_wp2_with fail
      refine (jSame_any _ _ _ _ _ _ _ _ _ o_l.has o_r.has).mono ?_
      rintro e v6 ⟨rfl, q⟩
      have st : Below v5.heap.size v5 v6 := q.below _
      replace o_l := o_l.below st (Nat.le_refl _)
      replace o_r := o_r.below st (Nat.le_refl _)
      replace hB := hB.trans (st.mono hB.size)
      clear st
      clear q
      rw [same_self]
      clear o_r
      clear o_l
      go_wp2_with fail
      refine (drawAllParking_any b m cap' _ (HM.out.grow hB (Nat.le_refl _))).mono ?_
      rintro e v7 ⟨mm, rfl, m0, m1, st⟩
      replace hB := hB.trans (st.mono hB.size)
      clear st
      by_cases hM : inB mm 0 5 = true
      · skip
        obtain ⟨j, rfl⟩ : ∃ j : Nat, mm = (j : Int) := ⟨mm.toNat, by have := (inB_iff.1 hM).1; omega⟩
        have hj5 : j ≤ 5 := by have := (inB_iff.1 hM).2; omega
        have HAL : Hid (allOf (j : Int) = (listL j j [], true)) := hid (by simp [allOf, hM])
        clear hM m0 m1
        go_wp2_with fail
        refine (allParking_any _ _).mono ?_
        rw [HAL.out]
        rintro e v8 ⟨a_g, n_g, c_g, rs, rfl, R_g, hng, st⟩
        replace hB := hB.trans (st.mono hB.size)
        clear st
        go_wp2_with fail
        refine (specAll_any _ _).mono ?_
        rw [HAL.out]
        rintro e v9 ⟨a_s, n_s, c_s, ss, rfl, R_s, hns, st⟩
        replace R_g := R_g.below st (Nat.le_refl _)
        replace hB := hB.trans (st.mono hB.size)
        clear st
        have HRS : Hid (sameR rs ss = true) := hid (sameR_self' (hng.trans hns.symm))
        have HNG := hid hng
        clear hng hns
        go_wp2_with fail
        refine (jRows_any _ _ _ _ _ _ _ _ _ R_g.has R_s.has).mono ?_
        rintro e v10 ⟨rfl, q⟩
        have st : Below v9.heap.size v9 v10 := q.below _
        replace R_g := R_g.below st (Nat.le_refl _)
        replace R_s := R_s.below st (Nat.le_refl _)
        replace hB := hB.trans (st.mono hB.size)
        clear st
        clear q
        rw [HRS.out]
        clear HRS R_s
        have HC : Hid (countOf (j : Int) = ((n_g : Int), true)) := hid (by rw [count_yes' (by omega), all_count R_g (by omega) HNG.out])
        obtain ⟨mg, hmg⟩ : ∃ mg, n_g = mg + 1 := ⟨n_g - 1, by have := all_count R_g (m := j) (by omega) HNG.out; have := (cnt_le (n := j) (by omega)).1; omega⟩
        subst hmg
        have hmk : mg + 1 ≤ 1048576 := R_g.has.2.2.2.1
        have hne0 := neq_self_int ((mg : Int) + 1)
        go_wp2_with fail
        refine (countParking_any _ _).mono ?_
        rw [HC.out]
        rintro e v11 ⟨rfl, st⟩
        replace R_g := R_g.below st (Nat.le_refl _)
        replace hB := hB.trans (st.mono hB.size)
        clear st
        go_wp2_with fail
        refine (numberOf_any _ _ _ w.heap.size _ (HA.out.below hB)).mono ?_
        rintro e _ ⟨z, rfl, z0, z1, rfl⟩
        have hmz : ¬ (mg : Int) + 1 = 0 := by omega
        have hi0 : 0 ≤ z % ((mg : Int) + 1) := Int.emod_nonneg _ hmz
        have hi1 : z % ((mg : Int) + 1) < (mg : Int) + 1 := Int.emod_lt_of_pos z (show 0 < (mg : Int) + 1 by omega)
        obtain ⟨bg, offg, rfl, hbg, -⟩ := R_g.has.2.2.2.2.1 (by omega)
        obtain ⟨ai, ni, ci, hci, H_i, hri⟩ := all_row R_g.has (by omega) HNG.out (k := (z % ((mg : Int) + 1)).toNat) (by omega)
        rw [Int.toNat_of_nonneg hi0] at hri
        have HRI := hid hri
        have hse : (z % ((mg : Int) + 1) == z % ((mg : Int) + 1)) = true := by simp
        clear hri
        go_wp2_with fail
        refine (rank_any _ _ _ _ _ H_i).mono ?_
        rw [HRI.out]
        rintro e v12 ⟨rfl, st⟩
        replace R_g := R_g.below st (Nat.le_refl _)
        replace H_i := H_i.below st (Nat.le_refl _)
        replace hB := hB.trans (st.mono hB.size)
        clear st
        clear hci R_g
        go_wp2_with fail
        go_ret
        exact ⟨rfl, hB⟩
      · skip
        have HAL : Hid (allOf mm = ([], false)) := hid (allOf_no hM)
        clear hM
        go_wp2_with fail
        refine (allParking_any _ _).mono ?_
        rw [HAL.out]
        rintro e v8 ⟨a_g, n_g, c_g, rs, rfl, R_g, hng, st⟩
        replace hB := hB.trans (st.mono hB.size)
        clear st
        go_wp2_with fail
        refine (specAll_any _ _).mono ?_
        rw [HAL.out]
        rintro e v9 ⟨a_s, n_s, c_s, ss, rfl, R_s, hns, st⟩
        replace R_g := R_g.below st (Nat.le_refl _)
        replace hB := hB.trans (st.mono hB.size)
        clear st
        have HRS : Hid (sameR rs ss = true) := hid (sameR_self' (hng.trans hns.symm))
        have HNG := hid hng
        clear hng hns
        go_wp2_with fail
        refine (jRows_any _ _ _ _ _ _ _ _ _ R_g.has R_s.has).mono ?_
        rintro e v10 ⟨rfl, q⟩
        have st : Below v9.heap.size v9 v10 := q.below _
        replace R_g := R_g.below st (Nat.le_refl _)
        replace R_s := R_s.below st (Nat.le_refl _)
        replace hB := hB.trans (st.mono hB.size)
        clear st
        clear q
        rw [HRS.out]
        clear HRS R_s
        clear R_g
        go_wp2_with fail
        go_ret
        exact ⟨rfl, hB⟩
end Go.Proofs.Ytabhhmnilidppab
