/- The law of sorted parking functions, walked. -/
import Derived.Test.YtabhhmnilidppabNamed
import Derived.Test.YtabhhmnilidppabDrawM
import Derived.Test.YtabhhmnilidppabDraw2
import Derived.Test.YtabhhmnilidppabMathG
import Derived.Test.YtabhhmnilidppabMathR
import Derived.Test.YtabhhmnilidppabMathQ
import Derived.Test.YtabhhmnilidppabImplC
import Derived.Test.YtabhhmnilidppabImplN
import Derived.Test.YtabhhmnilidppabImplAll
import Derived.Test.YtabhhmnilidppabImplOrd
import Derived.Test.YtabhhmnilidppabSpecN
import Derived.Test.YtabhhmnilidppabSpecAll
import Derived.Test.YtabhhmnilidppabSpecOrd
import Derived.Test.YtabhhmnilidppabJ2
namespace Go.Proofs.Ytabhhmnilidppab
open Go.RowKit

/-- The orders of the first k of some lists, together. -/
def ordersTo (n k : Nat) : Nat := sumTo (fun i => ordersN ((sortL n []).getD i []) n) k
theorem sorted_sum : ∀ n, n < 7 → ordersTo n (sortL n []).length = cnt n := by decide +kernel
theorem sorted_count : ∀ n, n < 7 → (sortL n []).length = chs (2 * n) n / (n + 1) ∧ 0 < (sortL n []).length := by decide +kernel
theorem sorted_each : ∀ n, n < 7 → ∀ i, i < (sortL n []).length → ((sortL n []).getD i []).length = n ∧ isPark ((sortL n []).getD i []) = true ∧ asked ((sortL n []).getD i []) = true := by decide +kernel
theorem sorted_less : ∀ n, n < 7 → ∀ i, i < (sortL n []).length → i + 1 < (sortL n []).length → lexLess ((sortL n []).getD i []) ((sortL n []).getD (i + 1) []) = true := by decide +kernel
theorem sortedU_facts {n i : Nat} (h : n ≤ 6) (hi : i < (sortL n []).length) : ∃ o : Nat, ordersOf ((sortL n []).getD i []) = ((o : Int), true) ∧ isParking ((sortL n []).getD i []) = (true, true) ∧ ordersTo n (i + 1) = ordersTo n i + o := by
  obtain ⟨h1, h2, h3⟩ := sorted_each n (by omega) i hi
  refine ⟨ordersN ((sortL n []).getD i []) n, ?_, ?_, rfl⟩
  · unfold ordersOf
    rw [if_pos h2, h1]
  · unfold isParking
    rw [if_pos h3, h2]
theorem ordersTo_le {n i : Nat} (h : n ≤ 6) (hi : i ≤ (sortL n []).length) : ordersTo n i ≤ 16807 := by
  have h1 := sumTo_mono (fun i => ordersN ((sortL n []).getD i []) n) hi
  have h2 := sorted_sum n (by omega)
  have h3 : ∀ n, n < 7 → cnt n ≤ 16807 := by decide +kernel
  have h4 := h3 n (by omega)
  unfold ordersTo at h2 ⊢
  omega
theorem count_yesS {n : Nat} (h8 : n ≤ 8) : countOf (n : Int) = ((cnt n : Int), true) := by
  have h1 : inB (n : Int) 0 8 = true := inB_iff.2 ⟨by omega, by omega⟩
  simp [countOf, h1]
/-- A list that was drawn, for the caller of a draw. -/
def DrewListS (w : World) (e : Ending) (w' : World) : Prop :=
  ∃ a n cap xs, e = .returned (.slice a n cap) ∧ Own w' w.heap.size a n cap xs ∧ n ≤ 10 ∧ Within xs (-1) 100 ∧ Below w.heap.size w w'
set_option maxHeartbeats 800000 in
theorem drawRankParking_any (a : Option Addr) (n cap : Nat) (w : World) (h : HasB w a n w.heap.size) :
    Calls Try.prog 114 #[.slice a n cap] w (DrewListS w) := by
  have C0 := cur_new (cap := cap) h
  go_enter Try.func114, Try.ntmps114
  go_wp2_with fail
  refine (park_cur _ 0 7 _ C0 (by omega) (by omega) (by omega)).mono ?_
  rintro e w1 ⟨a1, n1, cap1, xs1, t1, rfl, o1, hn1, hw1, A1, ht1⟩
  have o1' := o1.mono (B' := w.heap.size) (by simp)
  have hb := (alloc_below w (.cells #[.slice a n cap, .int .i64 0, .int .u64 0] 78)).trans A1.below
  go_wp2_with fail
  go_ret
  exact ⟨_, _, _, _, rfl, o1', hn1, hw1, hb⟩

set_option maxHeartbeats 400000 in
theorem drawCountOrders_any (a : Option Addr) (n cap : Nat) (w : World) (h : HasB w a n w.heap.size) :
    Calls Try.prog 67 #[.slice a n cap] w (DrewListS w) := by
  go_enter Try.func67, Try.ntmps67
  go_wp2_with fail
  refine (drawRankParking_any _ _ _ _ h).mono ?_
  rintro e w1 ⟨a1, n1, c1, xs1, rfl, o1, hn1, hw1, hb⟩
  go_wp2_with fail
  go_ret
  exact ⟨_, _, _, _, rfl, o1, hn1, hw1, hb⟩

theorem sorted_at {rs : List Rw} {n q k : Nat} (h0 : rs.length = q) (hn : numsOf rs = sortL n []) (hk : k < q) : (nthR rs k).xs = (sortL n []).getD k [] ∧ (sortL n []).length = q := by
  have hl : (numsOf rs).length = q := by simp [numsOf, h0]
  have h1 : (numsOf rs)[k]? = some (nthR rs k).xs := map_nthR Rw.xs (by omega)
  rw [← hn]
  refine ⟨?_, hl⟩
  rw [List.getD_eq_getElem?_getD, h1]
  rfl
theorem sorted_row {w : World} {b off q cap n m : Nat} {rs : List Rw} (R : HasR w (some ⟨b, off, none⟩) q cap rs) (h6 : n ≤ 6) (hn : numsOf rs = sortL n []) (hm : n = m) {k : Nat} (hk : k < q) :
    ∃ ak ck, w.cell? ⟨b, off + k, none⟩ = some (.slice ak m ck) ∧ Has w ak m ck (nthR rs k).xs ∧ ∃ o : Nat, ordersOf (nthR rs k).xs = ((o : Int), true) ∧ isParking (nthR rs k).xs = (true, true) ∧ ordersTo n (k + 1) = ordersTo n k + o := by
  obtain ⟨r0, r1, r2, r3, r4, r5⟩ := R
  obtain ⟨b', off', e, _, hc⟩ := r4 (by omega)
  simp at e
  obtain ⟨rfl, rfl⟩ := e
  have h3 := hc k hk
  have h4 := r5 k hk
  unfold Rw.v at h3
  obtain ⟨e1, e2⟩ := sorted_at r0 hn hk
  obtain ⟨o, f1, f2, f3⟩ := sortedU_facts h6 (i := k) (by omega)
  have h5 := (sorted_each n (by omega) k (by omega)).1
  rw [← e1] at f1 f2 h5
  rw [h5, hm] at h3 h4
  exact ⟨_, _, h3, h4, o, f1, f2, f3⟩
theorem sorted_row_less {rs : List Rw} {n q k : Nat} (h0 : rs.length = q) (h6 : n ≤ 6) (hn : numsOf rs = sortL n []) (hk : k + 1 < q) : lexLess (nthR rs k).xs (nthR rs (k + 1)).xs = true := by
  obtain ⟨e1, e2⟩ := sorted_at h0 hn (k := k) (by omega)
  obtain ⟨e3, _⟩ := sorted_at h0 hn (k := k + 1) (by omega)
  rw [e1, e3]
  exact sorted_less n (by omega) k (by omega) (by omega)
theorem sorted_num {rs : List Rw} {n q : Nat} (h0 : rs.length = q) (h6 : n ≤ 6) (hn : numsOf rs = sortL n []) : countSortedOf (n : Int) = ((q : Int), true) ∧ 0 < q ∧ ordersTo n q = cnt n := by
  have hl : (numsOf rs).length = q := by simp [numsOf, h0]
  rw [hn] at hl
  obtain ⟨h1, h2⟩ := sorted_count n (by omega)
  have h3 : inB (n : Int) 0 8 = true := inB_iff.2 ⟨by omega, by omega⟩
  refine ⟨?_, by omega, ?_⟩
  · simp only [countSortedOf, if_pos h3, Int.toNat_natCast]
    rw [← h1, hl]
  · rw [← hl]
    exact sorted_sum n (by omega)

set_option maxRecDepth 100000 in
set_option maxHeartbeats 16000000 in
theorem sorted_walk (a b : Option Addr) (n m cap cap' : Nat) (w : World) (hn : n ≤ maxLen) (h : n ≤ 1048576 → HasB w a n w.heap.size) (h' : m ≤ 1048576 → HasB w b m w.heap.size) :
    Calls Try.prog 10 #[.slice a n cap, .slice b m cap'] w (Holds w) := by
  have H1 := hid h
  have H2 := hid h'
  have HN := hid hn
  clear h h' hn
  have hB : Below w.heap.size w w := Below.refl _ _
  go_enter Try.func10, Try.ntmps10
  go_wp2_with fail
  refine (big_any _ _ _ _ _ _ _ (by have := HN.out; unfold maxLen at this; omega)).mono ?_
  rintro e _ ⟨r, rfl, hr, rfl⟩
  have HR := hid hr
  clear hr
  cases r with
  | true =>
    go_wp2_with fail
    go_ret
    exact ⟨rfl, hB⟩
  | false =>
    have hnm := HR.out rfl
    clear HR
    have HA := hid (H1.out (by omega))
    have HM := hid (H2.out (by omega))
    clear H1 H2 HN
    go_wp2_with fail
    refine (drawAllSorted_any _ _ _ _ HA.out).mono ?_
    rintro e v1 ⟨nn, rfl, n0, n1, st⟩
    replace hB := hB.trans (st.mono hB.size)
    clear st
    by_cases hN6 : inB nn 0 6 = true
    · skip
      obtain ⟨k, rfl⟩ : ∃ k : Nat, nn = (k : Int) := ⟨nn.toNat, by have := (inB_iff.1 hN6).1; omega⟩
      have hk6 : k ≤ 6 := by have := (inB_iff.1 hN6).2; omega
      have HAS : Hid (allSortedOf (k : Int) = (sortL k [], true)) := hid (by simp [allSortedOf, hN6])
      clear hN6 n0 n1
      go_wp2_with fail
      refine (allSorted_any _ _).mono ?_
      rw [HAS.out]
      rintro e v2 ⟨a_g, n_g, c_g, rs, rfl, R_g, hng, st⟩
      replace hB := hB.trans (st.mono hB.size)
      clear st
      go_wp2_with fail
      refine (specAllSorted_any _ _).mono ?_
      rw [HAS.out]
      rintro e v3 ⟨a_s, n_s, c_s, ss, rfl, R_s, hns, st⟩
      replace R_g := R_g.below st (Nat.le_refl _)
      replace hB := hB.trans (st.mono hB.size)
      clear st
      have HRS : Hid (sameR rs ss = true) := hid (sameR_self' (hng.trans hns.symm))
      have HNG := hid hng
      clear hng hns
      have hgl := R_g.len
      obtain ⟨s1, s2, s3⟩ := sorted_num hgl hk6 HNG.out
      obtain ⟨mg, hmg⟩ : ∃ mg, n_g = mg + 1 := ⟨n_g - 1, by omega⟩
      subst hmg
      have HC := hid s1
      have HS3 := hid s3
      have HGL := hid hgl
      have hne0 := neq_self_int ((mg : Int) + 1)
      have HCP : Hid (countOf (k : Int) = ((cnt k : Int), true)) := hid (count_yesS (by omega))
      clear s1 s2 s3 hgl
      go_wp2_with fail
      refine (countSorted_any _ _).mono ?_
      rw [HC.out]
      rintro e v4 ⟨rfl, st⟩
      replace R_g := R_g.below st (Nat.le_refl _)
      replace R_s := R_s.below st (Nat.le_refl _)
      replace hB := hB.trans (st.mono hB.size)
      clear st
      go_wp2_with fail
      refine (specCountSorted_any _ _).mono ?_
      rw [HC.out]
      rintro e v5 ⟨rfl, st⟩
      replace R_g := R_g.below st (Nat.le_refl _)
      replace R_s := R_s.below st (Nat.le_refl _)
      replace hB := hB.trans (st.mono hB.size)
      clear st
      go_wp2_with fail
      refine (jRows_any _ _ _ _ _ _ _ _ _ R_g.has R_s.has).mono ?_
      rintro e v6 ⟨rfl, q⟩
      have st : Below v5.heap.size v5 v6 := q.below _
      replace R_g := R_g.below st (Nat.le_refl _)
      replace R_s := R_s.below st (Nat.le_refl _)
      replace hB := hB.trans (st.mono hB.size)
      clear st
      clear q
      rw [HRS.out]
      clear HRS R_s
      have hgl2 : mg + 1 ≤ 1048576 := R_g.has.2.2.2.1
      obtain ⟨bg, offg, rfl, hbg, -⟩ := R_g.has.2.2.2.2.1 (by omega)
      go_wp2_with fail
      go_loopw [14, 88] (fun s i wr => ∃ j sN : Nat, j ≤ mg + 1 ∧ Hid (ordersTo k j = sN) ∧ s = .int .i64 sN ∧ i = .int .i64 j ∧ Below v6.heap.size v6 wr) (fun _ i _ => mg + 1 - (intOf i).toNat)
      case atStart => exact ⟨0, 0, by omega, hid rfl, rfl, rfl, Below.refl _ _⟩
      case round =>
        obtain ⟨wo, rfl⟩ : ∃ wo : World, wo = wr := ⟨_, rfl⟩
        obtain ⟨j, sN, hj, HSN, rfl, rfl, st⟩ := hrel
        have hV := st
        replace R_g := R_g.below st (Nat.le_refl _)
        replace hB := hB.trans (st.mono hB.size)
        clear st
        by_cases hlt : j < mg + 1
        · skip
          obtain ⟨ak, ck, hck, H_k, o, f1, f2, f3⟩ := sorted_row R_g.has hk6 HNG.out rfl (k := j) (by omega)
          have hsn : sN + o ≤ 16807 := by have h1 := ordersTo_le (n := k) (i := j + 1) hk6 (by rw [← HNG.out]; simp [numsOf, HGL.out]; omega); rw [f3, HSN.out] at h1; exact h1
          have hwr : IntKind.i64.wrap ((sN : Int) + (o : Int)) = (sN : Int) + (o : Int) := by rw [IntKind.wrap_i64]; omega
          have HSN2 : Hid (ordersTo k (j + 1) = sN + o) := hid (by rw [f3, HSN.out])
          have HO := hid f1
          have HP := hid f2
          clear f1 f2 f3
          by_cases hj0 : j = 0
          · skip
            subst hj0
            rw [Nat.add_zero] at hck
            go_wp2_with fail
            refine (countOrders_any _ _ _ _ _ H_k).mono ?_
            rw [HO.out]
            rintro e v7 ⟨rfl, st⟩
            replace R_g := R_g.below st (Nat.le_refl _)
            replace H_k := H_k.below st (Nat.le_refl _)
            replace hB := hB.trans (st.mono hB.size)
            replace hV := hV.trans (st.mono hV.size)
            clear st
            clear hck
            go_wp2_with fail
            refine (isParking_any _ _ _ _ _ H_k).mono ?_
            rw [HP.out]
            rintro e v8 ⟨rfl, st⟩
            replace R_g := R_g.below st (Nat.le_refl _)
            replace H_k := H_k.below st (Nat.le_refl _)
            replace hB := hB.trans (st.mono hB.size)
            replace hV := hV.trans (st.mono hV.size)
            clear st
            go_wp2_with fail
            go_roundw
            case rel => exact ⟨1, sN + o, by omega, HSN2, by go_num, by go_num, hV⟩
            case measure => simp [intOf] <;> omega
          · skip
            obtain ⟨i, rfl⟩ : ∃ i, j = i + 1 := ⟨j - 1, by omega⟩
            go_wp2_with fail
            refine (countOrders_any _ _ _ _ _ H_k).mono ?_
            rw [HO.out]
            rintro e v7 ⟨rfl, st⟩
            replace R_g := R_g.below st (Nat.le_refl _)
            replace H_k := H_k.below st (Nat.le_refl _)
            replace hB := hB.trans (st.mono hB.size)
            replace hV := hV.trans (st.mono hV.size)
            clear st
            clear hck
            go_wp2_with fail
            refine (isParking_any _ _ _ _ _ H_k).mono ?_
            rw [HP.out]
            rintro e v8 ⟨rfl, st⟩
            replace R_g := R_g.below st (Nat.le_refl _)
            replace H_k := H_k.below st (Nat.le_refl _)
            replace hB := hB.trans (st.mono hB.size)
            replace hV := hV.trans (st.mono hV.size)
            clear st
            obtain ⟨aj, cj, hcj, H_j, -⟩ := sorted_row R_g.has hk6 HNG.out rfl (k := i) (by omega)
            have HLS := hid (sorted_row_less HGL.out hk6 HNG.out (k := i) (by omega))
            go_wp2_with fail
            refine (jLess_any _ _ _ _ _ _ _ _ H_j H_k).mono ?_
            rintro e v9 ⟨rfl, q⟩
            have st : Below v8.heap.size v8 v9 := q.below _
            replace R_g := R_g.below st (Nat.le_refl _)
            replace H_k := H_k.below st (Nat.le_refl _)
            replace H_j := H_j.below st (Nat.le_refl _)
            replace hB := hB.trans (st.mono hB.size)
            replace hV := hV.trans (st.mono hV.size)
            clear st
            clear q hcj
            rw [HLS.out]
            go_wp2_with fail
            go_roundw
            case rel => exact ⟨i + 2, sN + o, by omega, HSN2, by go_num, by go_num, hV⟩
            case measure => simp [intOf] <;> omega
        · skip
          obtain rfl : j = mg + 1 := by omega
          obtain rfl : sN = cnt k := by rw [← HSN.out, HS3.out]
          clear R_g
          obtain ⟨c, hc⟩ : ∃ c, cnt k = c := ⟨_, rfl⟩
          rw [hc] at HCP HSN HS3 ⊢
          clear hc
          have hcc := neq_self_int (c : Int)
          go_wp2_with fail
          refine (countParking_any _ _).mono ?_
          rw [HCP.out]
          rintro e v7 ⟨rfl, st⟩
          replace hB := hB.trans (st.mono hB.size)
          replace hV := hV.trans (st.mono hV.size)
          clear st
          go_wp2_with fail
          refine (drawCountOrders_any b m cap' _ (HM.out.grow hB (Nat.le_refl _))).mono ?_
          rintro e v8 ⟨a_q, n_q, c_q, qs, rfl, o_q, hnq, _, st⟩
          replace hB := hB.trans (st.mono hB.size)
          replace hV := hV.trans (st.mono hV.size)
          clear st
          by_cases hq : isPark qs = true
          · skip
            obtain ⟨x, hx⟩ : ∃ x, ((ordersN qs qs.length : Nat) : Int) = x := ⟨_, rfl⟩
            have HQ : Hid (ordersOf qs = (x, true)) := hid (by simp [ordersOf, hq, hx])
            have hxx : (x == x) = true := by simp
            clear hx hq
            go_wp2_with fail
            refine (countOrders_any _ _ _ _ _ o_q.has).mono ?_
            rw [HQ.out]
            rintro e v9 ⟨rfl, st⟩
            replace o_q := o_q.below st (Nat.le_refl _)
            replace hB := hB.trans (st.mono hB.size)
            replace hV := hV.trans (st.mono hV.size)
            clear st
            go_wp2_with fail
            refine (specOrders_any _ _ _ _ _ o_q.has).mono ?_
            rw [HQ.out]
            rintro e v10 ⟨rfl, st⟩
            replace o_q := o_q.below st (Nat.le_refl _)
            replace hB := hB.trans (st.mono hB.size)
            replace hV := hV.trans (st.mono hV.size)
            clear st
            clear o_q
            go_wp2_with fail
            refine (drawCountSorted_any b m cap' _ (HM.out.grow hB (Nat.le_refl _))).mono ?_
            rintro e v11 ⟨mm, rfl, m0, m1, st⟩
            replace hB := hB.trans (st.mono hB.size)
            replace hV := hV.trans (st.mono hV.size)
            clear st
            by_cases hm8 : inB mm 0 8 = true
            · skip
              obtain ⟨y, hy⟩ : ∃ y, ((chs (2 * mm.toNat) mm.toNat / (mm.toNat + 1) : Nat) : Int) = y := ⟨_, rfl⟩
              have HY : Hid (countSortedOf mm = (y, true)) := hid (by simp only [countSortedOf, if_pos hm8]; rw [hy])
              have hyy : (y == y) = true := by simp
              clear hy hm8
              go_wp2_with fail
              refine (countSorted_any _ _).mono ?_
              rw [HY.out]
              rintro e v12 ⟨rfl, st⟩
              replace hB := hB.trans (st.mono hB.size)
              replace hV := hV.trans (st.mono hV.size)
              clear st
              go_wp2_with fail
              refine (specCountSorted_any _ _).mono ?_
              rw [HY.out]
              rintro e v13 ⟨rfl, st⟩
              replace hB := hB.trans (st.mono hB.size)
              replace hV := hV.trans (st.mono hV.size)
              clear st
              go_wp2_with fail
              go_ret
              exact ⟨rfl, hB⟩
            · skip
              have HY : Hid (countSortedOf mm = (0, false)) := hid (by simp [countSortedOf, hm8])
              clear hm8
              go_wp2_with fail
              refine (countSorted_any _ _).mono ?_
              rw [HY.out]
              rintro e v12 ⟨rfl, st⟩
              replace hB := hB.trans (st.mono hB.size)
              replace hV := hV.trans (st.mono hV.size)
              clear st
              go_wp2_with fail
              refine (specCountSorted_any _ _).mono ?_
              rw [HY.out]
              rintro e v13 ⟨rfl, st⟩
              replace hB := hB.trans (st.mono hB.size)
              replace hV := hV.trans (st.mono hV.size)
              clear st
              go_wp2_with fail
              go_ret
              exact ⟨rfl, hB⟩
          · skip
            have HQ : Hid (ordersOf qs = (0, false)) := hid (by simp [ordersOf, hq])
            clear hq
            go_wp2_with fail
            refine (countOrders_any _ _ _ _ _ o_q.has).mono ?_
            rw [HQ.out]
            rintro e v9 ⟨rfl, st⟩
            replace o_q := o_q.below st (Nat.le_refl _)
            replace hB := hB.trans (st.mono hB.size)
            replace hV := hV.trans (st.mono hV.size)
            clear st
            go_wp2_with fail
            refine (specOrders_any _ _ _ _ _ o_q.has).mono ?_
            rw [HQ.out]
            rintro e v10 ⟨rfl, st⟩
            replace o_q := o_q.below st (Nat.le_refl _)
            replace hB := hB.trans (st.mono hB.size)
            replace hV := hV.trans (st.mono hV.size)
            clear st
            clear o_q
            go_wp2_with fail
            refine (drawCountSorted_any b m cap' _ (HM.out.grow hB (Nat.le_refl _))).mono ?_
            rintro e v11 ⟨mm, rfl, m0, m1, st⟩
            replace hB := hB.trans (st.mono hB.size)
            replace hV := hV.trans (st.mono hV.size)
            clear st
            by_cases hm8 : inB mm 0 8 = true
            · skip
              obtain ⟨y, hy⟩ : ∃ y, ((chs (2 * mm.toNat) mm.toNat / (mm.toNat + 1) : Nat) : Int) = y := ⟨_, rfl⟩
              have HY : Hid (countSortedOf mm = (y, true)) := hid (by simp only [countSortedOf, if_pos hm8]; rw [hy])
              have hyy : (y == y) = true := by simp
              clear hy hm8
              go_wp2_with fail
              refine (countSorted_any _ _).mono ?_
              rw [HY.out]
              rintro e v12 ⟨rfl, st⟩
              replace hB := hB.trans (st.mono hB.size)
              replace hV := hV.trans (st.mono hV.size)
              clear st
              go_wp2_with fail
              refine (specCountSorted_any _ _).mono ?_
              rw [HY.out]
              rintro e v13 ⟨rfl, st⟩
              replace hB := hB.trans (st.mono hB.size)
              replace hV := hV.trans (st.mono hV.size)
              clear st
              go_wp2_with fail
              go_ret
              exact ⟨rfl, hB⟩
            · skip
              have HY : Hid (countSortedOf mm = (0, false)) := hid (by simp [countSortedOf, hm8])
              clear hm8
              go_wp2_with fail
              refine (countSorted_any _ _).mono ?_
              rw [HY.out]
              rintro e v12 ⟨rfl, st⟩
              replace hB := hB.trans (st.mono hB.size)
              replace hV := hV.trans (st.mono hV.size)
              clear st
              go_wp2_with fail
              refine (specCountSorted_any _ _).mono ?_
              rw [HY.out]
              rintro e v13 ⟨rfl, st⟩
              replace hB := hB.trans (st.mono hB.size)
              replace hV := hV.trans (st.mono hV.size)
              clear st
              go_wp2_with fail
              go_ret
              exact ⟨rfl, hB⟩
    · skip
      have HAS : Hid (allSortedOf nn = ([], false)) := hid (allSortedOf_no' hN6)
      clear hN6
      by_cases hn8 : inB nn 0 8 = true
      · skip
        go_wp2_with fail
        refine (allSorted_any _ _).mono ?_
        rw [HAS.out]
        rintro e v2 ⟨a_g, n_g, c_g, rs, rfl, R_g, hng, st⟩
        replace hB := hB.trans (st.mono hB.size)
        clear st
        go_wp2_with fail
        refine (specAllSorted_any _ _).mono ?_
        rw [HAS.out]
        rintro e v3 ⟨a_s, n_s, c_s, ss, rfl, R_s, hns, st⟩
        replace R_g := R_g.below st (Nat.le_refl _)
        replace hB := hB.trans (st.mono hB.size)
        clear st
        have HRS : Hid (sameR rs ss = true) := hid (sameR_self' (hng.trans hns.symm))
        have HNG := hid hng
        clear hng hns
        obtain ⟨y, hy⟩ : ∃ y, ((chs (2 * nn.toNat) nn.toNat / (nn.toNat + 1) : Nat) : Int) = y := ⟨_, rfl⟩
        have HC : Hid (countSortedOf nn = (y, true)) := hid (by simp only [countSortedOf, if_pos hn8]; rw [hy])
        have hyy := neq_self_int y
        clear hy hn8
        go_wp2_with fail
        refine (countSorted_any _ _).mono ?_
        rw [HC.out]
        rintro e v4 ⟨rfl, st⟩
        replace R_g := R_g.below st (Nat.le_refl _)
        replace R_s := R_s.below st (Nat.le_refl _)
        replace hB := hB.trans (st.mono hB.size)
        clear st
        go_wp2_with fail
        refine (specCountSorted_any _ _).mono ?_
        rw [HC.out]
        rintro e v5 ⟨rfl, st⟩
        replace R_g := R_g.below st (Nat.le_refl _)
        replace R_s := R_s.below st (Nat.le_refl _)
        replace hB := hB.trans (st.mono hB.size)
        clear st
        go_wp2_with fail
        refine (jRows_any _ _ _ _ _ _ _ _ _ R_g.has R_s.has).mono ?_
        rintro e v6 ⟨rfl, q⟩
        have st : Below v5.heap.size v5 v6 := q.below _
        replace R_g := R_g.below st (Nat.le_refl _)
        replace R_s := R_s.below st (Nat.le_refl _)
        replace hB := hB.trans (st.mono hB.size)
        clear st
        clear q
        rw [HRS.out]
        clear HRS R_s
        clear R_g
        go_wp2_with fail
        refine (drawCountOrders_any b m cap' _ (HM.out.grow hB (Nat.le_refl _))).mono ?_
        rintro e v7 ⟨a_q, n_q, c_q, qs, rfl, o_q, hnq, _, st⟩
        replace hB := hB.trans (st.mono hB.size)
        clear st
        by_cases hq : isPark qs = true
        · skip
          obtain ⟨x, hx⟩ : ∃ x, ((ordersN qs qs.length : Nat) : Int) = x := ⟨_, rfl⟩
          have HQ : Hid (ordersOf qs = (x, true)) := hid (by simp [ordersOf, hq, hx])
          have hxx : (x == x) = true := by simp
          clear hx hq
          go_wp2_with fail
          refine (countOrders_any _ _ _ _ _ o_q.has).mono ?_
          rw [HQ.out]
          rintro e v8 ⟨rfl, st⟩
          replace o_q := o_q.below st (Nat.le_refl _)
          replace hB := hB.trans (st.mono hB.size)
          clear st
          go_wp2_with fail
          refine (specOrders_any _ _ _ _ _ o_q.has).mono ?_
          rw [HQ.out]
          rintro e v9 ⟨rfl, st⟩
          replace o_q := o_q.below st (Nat.le_refl _)
          replace hB := hB.trans (st.mono hB.size)
          clear st
          clear o_q
          go_wp2_with fail
          refine (drawCountSorted_any b m cap' _ (HM.out.grow hB (Nat.le_refl _))).mono ?_
          rintro e v10 ⟨mm, rfl, m0, m1, st⟩
          replace hB := hB.trans (st.mono hB.size)
          clear st
          by_cases hm8 : inB mm 0 8 = true
          · skip
            obtain ⟨y, hy⟩ : ∃ y, ((chs (2 * mm.toNat) mm.toNat / (mm.toNat + 1) : Nat) : Int) = y := ⟨_, rfl⟩
            have HY : Hid (countSortedOf mm = (y, true)) := hid (by simp only [countSortedOf, if_pos hm8]; rw [hy])
            have hyy : (y == y) = true := by simp
            clear hy hm8
            go_wp2_with fail
            refine (countSorted_any _ _).mono ?_
            rw [HY.out]
            rintro e v11 ⟨rfl, st⟩
            replace hB := hB.trans (st.mono hB.size)
            clear st
            go_wp2_with fail
            refine (specCountSorted_any _ _).mono ?_
            rw [HY.out]
            rintro e v12 ⟨rfl, st⟩
            replace hB := hB.trans (st.mono hB.size)
            clear st
            go_wp2_with fail
            go_ret
            exact ⟨rfl, hB⟩
          · skip
            have HY : Hid (countSortedOf mm = (0, false)) := hid (by simp [countSortedOf, hm8])
            clear hm8
            go_wp2_with fail
            refine (countSorted_any _ _).mono ?_
            rw [HY.out]
            rintro e v11 ⟨rfl, st⟩
            replace hB := hB.trans (st.mono hB.size)
            clear st
            go_wp2_with fail
            refine (specCountSorted_any _ _).mono ?_
            rw [HY.out]
            rintro e v12 ⟨rfl, st⟩
            replace hB := hB.trans (st.mono hB.size)
            clear st
            go_wp2_with fail
            go_ret
            exact ⟨rfl, hB⟩
        · skip
          have HQ : Hid (ordersOf qs = (0, false)) := hid (by simp [ordersOf, hq])
          clear hq
          go_wp2_with fail
          refine (countOrders_any _ _ _ _ _ o_q.has).mono ?_
          rw [HQ.out]
          rintro e v8 ⟨rfl, st⟩
          replace o_q := o_q.below st (Nat.le_refl _)
          replace hB := hB.trans (st.mono hB.size)
          clear st
          go_wp2_with fail
          refine (specOrders_any _ _ _ _ _ o_q.has).mono ?_
          rw [HQ.out]
          rintro e v9 ⟨rfl, st⟩
          replace o_q := o_q.below st (Nat.le_refl _)
          replace hB := hB.trans (st.mono hB.size)
          clear st
          clear o_q
          go_wp2_with fail
          refine (drawCountSorted_any b m cap' _ (HM.out.grow hB (Nat.le_refl _))).mono ?_
          rintro e v10 ⟨mm, rfl, m0, m1, st⟩
          replace hB := hB.trans (st.mono hB.size)
          clear st
          by_cases hm8 : inB mm 0 8 = true
          · skip
            obtain ⟨y, hy⟩ : ∃ y, ((chs (2 * mm.toNat) mm.toNat / (mm.toNat + 1) : Nat) : Int) = y := ⟨_, rfl⟩
            have HY : Hid (countSortedOf mm = (y, true)) := hid (by simp only [countSortedOf, if_pos hm8]; rw [hy])
            have hyy : (y == y) = true := by simp
            clear hy hm8
            go_wp2_with fail
            refine (countSorted_any _ _).mono ?_
            rw [HY.out]
            rintro e v11 ⟨rfl, st⟩
            replace hB := hB.trans (st.mono hB.size)
            clear st
            go_wp2_with fail
            refine (specCountSorted_any _ _).mono ?_
            rw [HY.out]
            rintro e v12 ⟨rfl, st⟩
            replace hB := hB.trans (st.mono hB.size)
            clear st
            go_wp2_with fail
            go_ret
            exact ⟨rfl, hB⟩
          · skip
            have HY : Hid (countSortedOf mm = (0, false)) := hid (by simp [countSortedOf, hm8])
            clear hm8
            go_wp2_with fail
            refine (countSorted_any _ _).mono ?_
            rw [HY.out]
            rintro e v11 ⟨rfl, st⟩
            replace hB := hB.trans (st.mono hB.size)
            clear st
            go_wp2_with fail
            refine (specCountSorted_any _ _).mono ?_
            rw [HY.out]
            rintro e v12 ⟨rfl, st⟩
            replace hB := hB.trans (st.mono hB.size)
            clear st
            go_wp2_with fail
            go_ret
            exact ⟨rfl, hB⟩
      · skip
        go_wp2_with fail
        refine (allSorted_any _ _).mono ?_
        rw [HAS.out]
        rintro e v2 ⟨a_g, n_g, c_g, rs, rfl, R_g, hng, st⟩
        replace hB := hB.trans (st.mono hB.size)
        clear st
        go_wp2_with fail
        refine (specAllSorted_any _ _).mono ?_
        rw [HAS.out]
        rintro e v3 ⟨a_s, n_s, c_s, ss, rfl, R_s, hns, st⟩
        replace R_g := R_g.below st (Nat.le_refl _)
        replace hB := hB.trans (st.mono hB.size)
        clear st
        have HRS : Hid (sameR rs ss = true) := hid (sameR_self' (hng.trans hns.symm))
        have HNG := hid hng
        clear hng hns
        have HC : Hid (countSortedOf nn = (0, false)) := hid (by simp [countSortedOf, hn8])
        clear hn8
        go_wp2_with fail
        refine (countSorted_any _ _).mono ?_
        rw [HC.out]
        rintro e v4 ⟨rfl, st⟩
        replace R_g := R_g.below st (Nat.le_refl _)
        replace R_s := R_s.below st (Nat.le_refl _)
        replace hB := hB.trans (st.mono hB.size)
        clear st
        go_wp2_with fail
        refine (specCountSorted_any _ _).mono ?_
        rw [HC.out]
        rintro e v5 ⟨rfl, st⟩
        replace R_g := R_g.below st (Nat.le_refl _)
        replace R_s := R_s.below st (Nat.le_refl _)
        replace hB := hB.trans (st.mono hB.size)
        clear st
        go_wp2_with fail
        refine (jRows_any _ _ _ _ _ _ _ _ _ R_g.has R_s.has).mono ?_
        rintro e v6 ⟨rfl, q⟩
        have st : Below v5.heap.size v5 v6 := q.below _
        replace R_g := R_g.below st (Nat.le_refl _)
        replace R_s := R_s.below st (Nat.le_refl _)
        replace hB := hB.trans (st.mono hB.size)
        clear st
        clear q
        rw [HRS.out]
        clear HRS R_s
        clear R_g
        go_wp2_with fail
        refine (drawCountOrders_any b m cap' _ (HM.out.grow hB (Nat.le_refl _))).mono ?_
        rintro e v7 ⟨a_q, n_q, c_q, qs, rfl, o_q, hnq, _, st⟩
        replace hB := hB.trans (st.mono hB.size)
        clear st
        by_cases hq : isPark qs = true
        · skip
          obtain ⟨x, hx⟩ : ∃ x, ((ordersN qs qs.length : Nat) : Int) = x := ⟨_, rfl⟩
          have HQ : Hid (ordersOf qs = (x, true)) := hid (by simp [ordersOf, hq, hx])
          have hxx : (x == x) = true := by simp
          clear hx hq
          go_wp2_with fail
          refine (countOrders_any _ _ _ _ _ o_q.has).mono ?_
          rw [HQ.out]
          rintro e v8 ⟨rfl, st⟩
          replace o_q := o_q.below st (Nat.le_refl _)
          replace hB := hB.trans (st.mono hB.size)
          clear st
          go_wp2_with fail
          refine (specOrders_any _ _ _ _ _ o_q.has).mono ?_
          rw [HQ.out]
          rintro e v9 ⟨rfl, st⟩
          replace o_q := o_q.below st (Nat.le_refl _)
          replace hB := hB.trans (st.mono hB.size)
          clear st
          clear o_q
          go_wp2_with fail
          refine (drawCountSorted_any b m cap' _ (HM.out.grow hB (Nat.le_refl _))).mono ?_
          rintro e v10 ⟨mm, rfl, m0, m1, st⟩
          replace hB := hB.trans (st.mono hB.size)
          clear st
          by_cases hm8 : inB mm 0 8 = true
          · skip
            obtain ⟨y, hy⟩ : ∃ y, ((chs (2 * mm.toNat) mm.toNat / (mm.toNat + 1) : Nat) : Int) = y := ⟨_, rfl⟩
            have HY : Hid (countSortedOf mm = (y, true)) := hid (by simp only [countSortedOf, if_pos hm8]; rw [hy])
            have hyy : (y == y) = true := by simp
            clear hy hm8
            go_wp2_with fail
            refine (countSorted_any _ _).mono ?_
            rw [HY.out]
            rintro e v11 ⟨rfl, st⟩
            replace hB := hB.trans (st.mono hB.size)
            clear st
            go_wp2_with fail
            refine (specCountSorted_any _ _).mono ?_
            rw [HY.out]
            rintro e v12 ⟨rfl, st⟩
            replace hB := hB.trans (st.mono hB.size)
            clear st
            go_wp2_with fail
            go_ret
            exact ⟨rfl, hB⟩
          · skip
            have HY : Hid (countSortedOf mm = (0, false)) := hid (by simp [countSortedOf, hm8])
            clear hm8
            go_wp2_with fail
            refine (countSorted_any _ _).mono ?_
            rw [HY.out]
            rintro e v11 ⟨rfl, st⟩
            replace hB := hB.trans (st.mono hB.size)
            clear st
            go_wp2_with fail
            refine (specCountSorted_any _ _).mono ?_
            rw [HY.out]
            rintro e v12 ⟨rfl, st⟩
            replace hB := hB.trans (st.mono hB.size)
            clear st
            go_wp2_with fail
            go_ret
            exact ⟨rfl, hB⟩
        · skip
          have HQ : Hid (ordersOf qs = (0, false)) := hid (by simp [ordersOf, hq])
          clear hq
          go_wp2_with fail
          refine (countOrders_any _ _ _ _ _ o_q.has).mono ?_
          rw [HQ.out]
          rintro e v8 ⟨rfl, st⟩
          replace o_q := o_q.below st (Nat.le_refl _)
          replace hB := hB.trans (st.mono hB.size)
          clear st
          go_wp2_with fail
          refine (specOrders_any _ _ _ _ _ o_q.has).mono ?_
          rw [HQ.out]
          rintro e v9 ⟨rfl, st⟩
          replace o_q := o_q.below st (Nat.le_refl _)
          replace hB := hB.trans (st.mono hB.size)
          clear st
          clear o_q
          go_wp2_with fail
          refine (drawCountSorted_any b m cap' _ (HM.out.grow hB (Nat.le_refl _))).mono ?_
          rintro e v10 ⟨mm, rfl, m0, m1, st⟩
          replace hB := hB.trans (st.mono hB.size)
          clear st
          by_cases hm8 : inB mm 0 8 = true
          · skip
            obtain ⟨y, hy⟩ : ∃ y, ((chs (2 * mm.toNat) mm.toNat / (mm.toNat + 1) : Nat) : Int) = y := ⟨_, rfl⟩
            have HY : Hid (countSortedOf mm = (y, true)) := hid (by simp only [countSortedOf, if_pos hm8]; rw [hy])
            have hyy : (y == y) = true := by simp
            clear hy hm8
            go_wp2_with fail
            refine (countSorted_any _ _).mono ?_
            rw [HY.out]
            rintro e v11 ⟨rfl, st⟩
            replace hB := hB.trans (st.mono hB.size)
            clear st
            go_wp2_with fail
            refine (specCountSorted_any _ _).mono ?_
            rw [HY.out]
            rintro e v12 ⟨rfl, st⟩
            replace hB := hB.trans (st.mono hB.size)
            clear st
            go_wp2_with fail
            go_ret
            exact ⟨rfl, hB⟩
          · skip
            have HY : Hid (countSortedOf mm = (0, false)) := hid (by simp [countSortedOf, hm8])
            clear hm8
            go_wp2_with fail
            refine (countSorted_any _ _).mono ?_
            rw [HY.out]
            rintro e v11 ⟨rfl, st⟩
            replace hB := hB.trans (st.mono hB.size)
            clear st
            go_wp2_with fail
            refine (specCountSorted_any _ _).mono ?_
            rw [HY.out]
            rintro e v12 ⟨rfl, st⟩
            replace hB := hB.trans (st.mono hB.size)
            clear st
            go_wp2_with fail
            go_ret
            exact ⟨rfl, hB⟩
end Go.Proofs.Ytabhhmnilidppab
