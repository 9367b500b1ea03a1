/- The law that all lists with an outcome drive to it, walked. -/
import Derived.Test.YtpjgidjkpcbniabNamed
import Derived.Test.YtpjgidjkpcbniabDraw3
import Derived.Test.YtpjgidjkpcbniabImplE
import Derived.Test.YtpjgidjkpcbniabOutL
import Derived.Test.YtpjgidjkpcbniabJ2
namespace Go.Proofs.Ytpjgidjkpcbniab
open Go.RowKit

/-- What the rows of all lists with an outcome are. -/
theorem row_of {rs : List Rw} {os : List Int} (ho : outB os = true) (h0 : 0 < os.length) (hn : numsOf rs = lex (leasts os) os) {k : Nat} (hk : k < rs.length) :
    driveCars (nthR rs k).xs ((nthR rs k).xs.length : Int) = (os, true) ∧ (nthR rs k).xs.length = os.length := by
  have hm : (nthR rs k).xs ∈ lex (leasts os) os := by
    rw [← hn]
    unfold numsOf
    have := map_nthR Rw.xs hk
    exact List.mem_of_getElem? this
  exact ⟨outcome_drives ho h0 hm, (outcome_list ho hm).1⟩
theorem row_last {rs : List Rw} {os : List Int} (ho : outB os = true) (hn : numsOf rs = lex (leasts os) os) {m : Nat} (hm : rs.length = m + 1) : (nthR rs m).xs = os := by
  obtain ⟨M, hM⟩ := outcomes_last ho
  have h1 : (numsOf rs)[m]? = some (nthR rs m).xs := map_nthR Rw.xs (by omega)
  have hl : (numsOf rs).length = m + 1 := by simp [numsOf, hm]
  rw [hn, hM] at h1 hl
  simp at hl
  subst hl
  simpa using h1.symm
theorem row_less {rs : List Rw} {os : List Int} (hn : numsOf rs = lex (leasts os) os) {j : Nat} (hj : j + 1 < rs.length) : lexLess (nthR rs j).xs (nthR rs (j + 1)).xs = true := by
  have hp := lex_pairwise (leasts os) os
  rw [← hn] at hp
  have h1 : (numsOf rs)[j]? = some (nthR rs j).xs := map_nthR Rw.xs (by omega)
  have h2 : (numsOf rs)[j + 1]? = some (nthR rs (j + 1)).xs := map_nthR Rw.xs hj
  obtain ⟨hj1, e1⟩ := List.getElem?_eq_some_iff.1 h1
  obtain ⟨hj2, e2⟩ := List.getElem?_eq_some_iff.1 h2
  have := List.pairwise_iff_getElem.1 hp j (j + 1) hj1 hj2 (by omega)
  rwa [e1, e2] at this
theorem row_count {rs : List Rw} {os : List Int} (ho : outB os = true) (hn : numsOf rs = lex (leasts os) os) : prodTo os os.length = (rs.length : Int) := by
  rw [← outcomes_count ho, ← hn]
  simp [numsOf]

theorem row_at {w : World} {b off n cap m : Nat} {rs : List Rw} {os : List Int} (R : HasR w (some ⟨b, off, none⟩) n cap rs) (ho : outB os = true) (h0 : 0 < os.length) (hn : numsOf rs = lex (leasts os) os) (hm : os.length = m) {k : Nat} (hk : k < n) :
    ∃ ak ck, w.cell? ⟨b, off + k, none⟩ = some (.slice ak m ck) ∧ Has w ak m ck (nthR rs k).xs ∧ driveCars (nthR rs k).xs (m : Int) = (os, true) := by
  obtain ⟨r0, r1, r2, r3, r4, r5⟩ := R
  obtain ⟨b', off', e, _, hc⟩ := r4 (by omega)
  simp at e
  obtain ⟨rfl, rfl⟩ := e
  obtain ⟨h1, h2⟩ := row_of ho h0 hn (k := k) (by omega)
  have h3 := hc k hk
  have h4 := r5 k hk
  unfold Rw.v at h3
  rw [h2, hm] at h3 h4 h1
  exact ⟨_, _, h3, h4, h1⟩

set_option maxRecDepth 100000 in
set_option maxHeartbeats 16000000 in
theorem outcomes_walk (a b : Option Addr) (n m cap cap' : Nat) (w : World) (hn : n ≤ maxLen) (h : n ≤ 1048576 → HasB w a n w.heap.size) (h' : m ≤ 1048576 → HasB w b m w.heap.size) :
    Calls Try.prog 13 #[.slice a n cap, .slice b m cap'] w (Holds w) := by
  have H1 := hid h
  have H2 := hid h'
  have HN := hid hn
  clear h h' hn
  have hB : Below w.heap.size w w := Below.refl _ _
  go_enter Try.func13, Try.ntmps13
  go_wp2_with fail
  refine (big_any _ _ _ _ _ _ _ (by have := HN.out; unfold maxLen at this; omega)).mono ?_
  rintro e _ ⟨r, rfl, hr, rfl⟩
  have HR := hid hr
  clear hr
  cases r with
  | true =>
    go_wp2_with fail
    go_ret
    exact ⟨rfl, hB⟩
  | false =>
    have hnm := HR.out rfl
    clear HR
    have HA := hid (H1.out (by omega))
    have HM := hid (H2.out (by omega))
    clear H1 H2 HN
    go_wp2_with fail
    refine (drawAllOutcome_any _ _ _ _ HA.out).mono ?_
    rintro e v1 ⟨a_o, n_o, c_o, os, rfl, o_o, hno, _, st⟩
    replace hB := hB.trans (st.mono hB.size)
    clear st
    have HL := hid o_o.len
    by_cases ho : outB os = true
    · skip
      by_cases h5 : prodTo os os.length ≤ 500
      · skip
        have HO : Hid (allOutcomes os = (lex (leasts os) os, true)) := hid (by simp [allOutcomes, ho, h5])
        have HOB := hid ho
        have HC0 := hid h5
        clear ho h5
        go_wp2_with fail
        refine (allOutcome_any _ _ _ _ _ o_o.has).mono ?_
        rw [HO.out]
        rintro e v2 ⟨a_g, n_g, c_g, rs, rfl, R_g, hng, st⟩
        replace o_o := o_o.below st (Nat.le_refl _)
        replace hB := hB.trans (st.mono hB.size)
        clear st
        have hgl := R_g.len
        have HC : Hid (outcomesOf os = ((n_g : Int), true)) := hid (by rw [outcomes_yes HOB.out, row_count HOB.out hng, hgl])
        have h500 : (n_g : Int) ≤ 500 := by have := HC0.out; rw [row_count HOB.out hng, hgl] at this; exact this
        obtain ⟨mg, hmg⟩ : ∃ mg, n_g = mg + 1 := ⟨n_g - 1, by have h1 := (prod_small HOB.out (Nat.le_refl _)).1; rw [row_count HOB.out hng, hgl] at h1; omega⟩
        subst hmg
        have HGL := hid hgl
        have h501 : (mg : Int) + 1 ≤ 500 := by omega
        have hd5 : decide ((mg : Int) + 1 ≤ 500) = true := by simpa using h501
        have hne0 := neq_self_int ((mg : Int) + 1)
        clear HC0 hgl h500
        go_wp2_with fail
        refine (specAllOutcome_any _ _ _ _ _ o_o.has).mono ?_
        rw [HO.out]
        rintro e v3 ⟨a_s, n_s, c_s, ss, rfl, R_s, hns, st⟩
        replace o_o := o_o.below st (Nat.le_refl _)
        replace R_g := R_g.below st (Nat.le_refl _)
        replace hB := hB.trans (st.mono hB.size)
        clear st
        have HRS : Hid (sameR rs ss = true) := hid (sameR_self' (hng.trans hns.symm))
        have HNG := hid hng
        clear hng hns
        go_wp2_with fail
        refine (countOutcome_any _ _ _ _ _ o_o.has).mono ?_
        rw [HC.out]
        rintro e v4 ⟨rfl, st⟩
        replace o_o := o_o.below st (Nat.le_refl _)
        replace R_g := R_g.below st (Nat.le_refl _)
        replace R_s := R_s.below st (Nat.le_refl _)
        replace hB := hB.trans (st.mono hB.size)
        clear st
        go_wp2_with fail
        refine (specCountOutcome_any _ _ _ _ _ o_o.has).mono ?_
        rw [HC.out]
        rintro e v5 ⟨rfl, st⟩
        replace o_o := o_o.below st (Nat.le_refl _)
        replace R_g := R_g.below st (Nat.le_refl _)
        replace R_s := R_s.below st (Nat.le_refl _)
        replace hB := hB.trans (st.mono hB.size)
        clear st
        go_wp2_with fail
        refine (jRows_any _ _ _ _ _ _ _ _ _ R_g.has R_s.has).mono ?_
        rintro e v6 ⟨rfl, q⟩
        have st : Below v5.heap.size v5 v6 := q.below _
        replace o_o := o_o.below st (Nat.le_refl _)
        replace R_g := R_g.below st (Nat.le_refl _)
        replace R_s := R_s.below st (Nat.le_refl _)
        replace hB := hB.trans (st.mono hB.size)
        clear st
        clear q
        rw [HRS.out]
        clear HRS R_s
        rcases Nat.eq_zero_or_pos n_o with h0 | h0
        · skip
          subst h0
          clear R_g
          go_wp2_with fail
          refine (drawCountOutcome_any b m cap' _ (HM.out.grow hB (Nat.le_refl _))).mono ?_
          rintro e v7 ⟨a_q, n_q, c_q, qs, rfl, o_q, hnq, _, st⟩
          replace o_o := o_o.below st (Nat.le_refl _)
          replace hB := hB.trans (st.mono hB.size)
          clear st
          by_cases hq : outB qs = true
          · skip
            obtain ⟨cq, hcq⟩ : ∃ c, prodTo qs qs.length = c := ⟨_, rfl⟩
            have HQ : Hid (outcomesOf qs = (cq, true)) := hid (by rw [outcomes_yes hq, hcq])
            have hqq : (cq == cq) = true := by simp
            clear hq hcq
            go_wp2_with fail
            refine (countOutcome_any _ _ _ _ _ o_q.has).mono ?_
            rw [HQ.out]
            rintro e v8 ⟨rfl, st⟩
            replace o_o := o_o.below st (Nat.le_refl _)
            replace o_q := o_q.below st (Nat.le_refl _)
            replace hB := hB.trans (st.mono hB.size)
            clear st
            go_wp2_with fail
            refine (specCountOutcome_any _ _ _ _ _ o_q.has).mono ?_
            rw [HQ.out]
            rintro e v9 ⟨rfl, st⟩
            replace o_o := o_o.below st (Nat.le_refl _)
            replace o_q := o_q.below st (Nat.le_refl _)
            replace hB := hB.trans (st.mono hB.size)
            clear st
            go_wp2_with fail
            go_ret
            exact ⟨rfl, hB⟩
          · skip
            have HQ : Hid (outcomesOf qs = (0, false)) := hid (outcomes_no hq)
            clear hq
            go_wp2_with fail
            refine (countOutcome_any _ _ _ _ _ o_q.has).mono ?_
            rw [HQ.out]
            rintro e v8 ⟨rfl, st⟩
            replace o_o := o_o.below st (Nat.le_refl _)
            replace o_q := o_q.below st (Nat.le_refl _)
            replace hB := hB.trans (st.mono hB.size)
            clear st
            go_wp2_with fail
            refine (specCountOutcome_any _ _ _ _ _ o_q.has).mono ?_
            rw [HQ.out]
            rintro e v9 ⟨rfl, st⟩
            replace o_o := o_o.below st (Nat.le_refl _)
            replace o_q := o_q.below st (Nat.le_refl _)
            replace hB := hB.trans (st.mono hB.size)
            clear st
            go_wp2_with fail
            go_ret
            exact ⟨rfl, hB⟩
        · skip
          have hos : 0 < os.length := by rw [HL.out]; exact h0
          have HOS := hid hos
          clear hos
          obtain ⟨bg, offg, rfl, hbg, -⟩ := R_g.has.2.2.2.2.1 (by omega)
          obtain ⟨am, cm, hcm, H_m, -⟩ := row_at R_g.has HOB.out HOS.out HNG.out HL.out (k := mg) (by omega)
          rw [row_last HOB.out HNG.out HGL.out] at H_m
          have hmm : ((mg : Int) + 1 != (mg : Int) + 1) = false := by simp
          go_wp2_with fail
          refine (jSame_any _ _ _ _ _ _ _ _ _ H_m o_o.has).mono ?_
          rintro e v7 ⟨rfl, q⟩
          have st : Below v6.heap.size v6 v7 := q.below _
          replace o_o := o_o.below st (Nat.le_refl _)
          replace R_g := R_g.below st (Nat.le_refl _)
          replace hB := hB.trans (st.mono hB.size)
          clear st
          clear q
          rw [same_self]
          clear hcm H_m
          go_wp2_with fail
          go_loopw [98] (fun i wr => ∃ k : Nat, k ≤ mg + 1 ∧ i = .int .i64 k ∧ Below v7.heap.size v7 wr) (fun i _ => mg + 1 - (intOf i).toNat)
          case atStart => exact ⟨0, by omega, rfl, Below.refl _ _⟩
          case round =>
            obtain ⟨wo, rfl⟩ : ∃ wo : World, wo = wr := ⟨_, rfl⟩
            obtain ⟨k, hk, rfl, st⟩ := hrel
            have hV := st
            replace o_o := o_o.below st (Nat.le_refl _)
            replace R_g := R_g.below st (Nat.le_refl _)
            replace hB := hB.trans (st.mono hB.size)
            clear st
            by_cases hlt : k < mg + 1
            · skip
              obtain ⟨ak, ck, hck, H_k, hD⟩ := row_at R_g.has HOB.out HOS.out HNG.out HL.out (k := k) (by omega)
              have HD := hid hD
              clear hD
              by_cases hk0 : k = 0
              · skip
                subst hk0
                rw [Nat.add_zero] at hck
                go_wp2_with fail
                refine (driveCars_any _ _ _ _ _ _ H_k).mono ?_
                rw [HD.out]
                rintro e v8 ⟨a_d, n_d, c_d, rfl, o_d, st⟩
                replace o_o := o_o.below st (Nat.le_refl _)
                replace R_g := R_g.below st (Nat.le_refl _)
                replace H_k := H_k.below st (Nat.le_refl _)
                replace hB := hB.trans (st.mono hB.size)
                replace hV := hV.trans (st.mono hV.size)
                clear st
                clear hck
                go_wp2_with fail
                refine (jSame_any _ _ _ _ _ _ _ _ _ o_d.has o_o.has).mono ?_
                rintro e v9 ⟨rfl, q⟩
                have st : Below v8.heap.size v8 v9 := q.below _
                replace o_o := o_o.below st (Nat.le_refl _)
                replace o_d := o_d.below st (Nat.le_refl _)
                replace R_g := R_g.below st (Nat.le_refl _)
                replace H_k := H_k.below st (Nat.le_refl _)
                replace hB := hB.trans (st.mono hB.size)
                replace hV := hV.trans (st.mono hV.size)
                clear st
                clear q
                rw [same_self]
                go_wp2_with fail
                go_roundw
                case rel => exact ⟨1, by omega, by go_num, hV⟩
                case measure => simp [intOf] <;> omega
              · skip
                obtain ⟨j, rfl⟩ : ∃ j, k = j + 1 := ⟨k - 1, by omega⟩
                go_wp2_with fail
                refine (driveCars_any _ _ _ _ _ _ H_k).mono ?_
                rw [HD.out]
                rintro e v8 ⟨a_d, n_d, c_d, rfl, o_d, st⟩
                replace o_o := o_o.below st (Nat.le_refl _)
                replace R_g := R_g.below st (Nat.le_refl _)
                replace H_k := H_k.below st (Nat.le_refl _)
                replace hB := hB.trans (st.mono hB.size)
                replace hV := hV.trans (st.mono hV.size)
                clear st
                clear hck
                go_wp2_with fail
                refine (jSame_any _ _ _ _ _ _ _ _ _ o_d.has o_o.has).mono ?_
                rintro e v9 ⟨rfl, q⟩
                have st : Below v8.heap.size v8 v9 := q.below _
                replace o_o := o_o.below st (Nat.le_refl _)
                replace o_d := o_d.below st (Nat.le_refl _)
                replace R_g := R_g.below st (Nat.le_refl _)
                replace H_k := H_k.below st (Nat.le_refl _)
                replace hB := hB.trans (st.mono hB.size)
                replace hV := hV.trans (st.mono hV.size)
                clear st
                clear q
                rw [same_self]
                obtain ⟨aj, cj, hcj, H_j, -⟩ := row_at R_g.has HOB.out HOS.out HNG.out HL.out (k := j) (by omega)
                have HLS := hid (row_less HNG.out (j := j) (by rw [HGL.out]; omega))
                go_wp2_with fail
                refine (jLess_any _ _ _ _ _ _ _ _ H_j H_k).mono ?_
                rintro e v10 ⟨rfl, q⟩
                have st : Below v9.heap.size v9 v10 := q.below _
                replace o_o := o_o.below st (Nat.le_refl _)
                replace o_d := o_d.below st (Nat.le_refl _)
                replace R_g := R_g.below st (Nat.le_refl _)
                replace H_k := H_k.below st (Nat.le_refl _)
                replace H_j := H_j.below st (Nat.le_refl _)
                replace hB := hB.trans (st.mono hB.size)
                replace hV := hV.trans (st.mono hV.size)
                clear st
                clear q hcj
                rw [HLS.out]
                go_wp2_with fail
                go_roundw
                case rel => exact ⟨j + 2, by omega, by go_num, hV⟩
                case measure => simp [intOf] <;> omega
            · skip
              obtain rfl : k = mg + 1 := by omega
              clear R_g
              go_wp2_with fail
              refine (drawCountOutcome_any b m cap' _ (HM.out.grow hB (Nat.le_refl _))).mono ?_
              rintro e v8 ⟨a_q, n_q, c_q, qs, rfl, o_q, hnq, _, st⟩
              replace o_o := o_o.below st (Nat.le_refl _)
              replace hB := hB.trans (st.mono hB.size)
              replace hV := hV.trans (st.mono hV.size)
              clear st
              by_cases hq : outB qs = true
              · skip
                obtain ⟨cq, hcq⟩ : ∃ c, prodTo qs qs.length = c := ⟨_, rfl⟩
                have HQ : Hid (outcomesOf qs = (cq, true)) := hid (by rw [outcomes_yes hq, hcq])
                have hqq : (cq == cq) = true := by simp
                clear hq hcq
                go_wp2_with fail
                refine (countOutcome_any _ _ _ _ _ o_q.has).mono ?_
                rw [HQ.out]
                rintro e v9 ⟨rfl, st⟩
                replace o_o := o_o.below st (Nat.le_refl _)
                replace o_q := o_q.below st (Nat.le_refl _)
                replace hB := hB.trans (st.mono hB.size)
                replace hV := hV.trans (st.mono hV.size)
                clear st
                go_wp2_with fail
                refine (specCountOutcome_any _ _ _ _ _ o_q.has).mono ?_
                rw [HQ.out]
                rintro e v10 ⟨rfl, st⟩
                replace o_o := o_o.below st (Nat.le_refl _)
                replace o_q := o_q.below st (Nat.le_refl _)
                replace hB := hB.trans (st.mono hB.size)
                replace hV := hV.trans (st.mono hV.size)
                clear st
                go_wp2_with fail
                go_ret
                exact ⟨rfl, hB⟩
              · skip
                have HQ : Hid (outcomesOf qs = (0, false)) := hid (outcomes_no hq)
                clear hq
                go_wp2_with fail
                refine (countOutcome_any _ _ _ _ _ o_q.has).mono ?_
                rw [HQ.out]
                rintro e v9 ⟨rfl, st⟩
                replace o_o := o_o.below st (Nat.le_refl _)
                replace o_q := o_q.below st (Nat.le_refl _)
                replace hB := hB.trans (st.mono hB.size)
                replace hV := hV.trans (st.mono hV.size)
                clear st
                go_wp2_with fail
                refine (specCountOutcome_any _ _ _ _ _ o_q.has).mono ?_
                rw [HQ.out]
                rintro e v10 ⟨rfl, st⟩
                replace o_o := o_o.below st (Nat.le_refl _)
                replace o_q := o_q.below st (Nat.le_refl _)
                replace hB := hB.trans (st.mono hB.size)
                replace hV := hV.trans (st.mono hV.size)
                clear st
                go_wp2_with fail
                go_ret
                exact ⟨rfl, hB⟩
      · skip
        have HO : Hid (allOutcomes os = ([], false)) := hid (by simp [allOutcomes, h5])
        obtain ⟨cnt, hcnt⟩ : ∃ c, prodTo os os.length = c := ⟨_, rfl⟩
        rw [hcnt] at h5
        have HC : Hid (outcomesOf os = (cnt, true)) := hid (by rw [outcomes_yes ho, hcnt])
        have hd5 : decide (cnt ≤ 500) = false := by simpa using h5
        have hne0 := neq_self_int cnt
        clear ho hcnt
        go_wp2_with fail
        refine (allOutcome_any _ _ _ _ _ o_o.has).mono ?_
        rw [HO.out]
        rintro e v2 ⟨a_g, n_g, c_g, rs, rfl, R_g, hng, st⟩
        replace o_o := o_o.below st (Nat.le_refl _)
        replace hB := hB.trans (st.mono hB.size)
        clear st
        go_wp2_with fail
        refine (specAllOutcome_any _ _ _ _ _ o_o.has).mono ?_
        rw [HO.out]
        rintro e v3 ⟨a_s, n_s, c_s, ss, rfl, R_s, hns, st⟩
        replace o_o := o_o.below st (Nat.le_refl _)
        replace R_g := R_g.below st (Nat.le_refl _)
        replace hB := hB.trans (st.mono hB.size)
        clear st
        have HRS : Hid (sameR rs ss = true) := hid (sameR_self' (hng.trans hns.symm))
        have HNG := hid hng
        clear hng hns
        go_wp2_with fail
        refine (countOutcome_any _ _ _ _ _ o_o.has).mono ?_
        rw [HC.out]
        rintro e v4 ⟨rfl, st⟩
        replace o_o := o_o.below st (Nat.le_refl _)
        replace R_g := R_g.below st (Nat.le_refl _)
        replace R_s := R_s.below st (Nat.le_refl _)
        replace hB := hB.trans (st.mono hB.size)
        clear st
        go_wp2_with fail
        refine (specCountOutcome_any _ _ _ _ _ o_o.has).mono ?_
        rw [HC.out]
        rintro e v5 ⟨rfl, st⟩
        replace o_o := o_o.below st (Nat.le_refl _)
        replace R_g := R_g.below st (Nat.le_refl _)
        replace R_s := R_s.below st (Nat.le_refl _)
        replace hB := hB.trans (st.mono hB.size)
        clear st
        go_wp2_with fail
        refine (jRows_any _ _ _ _ _ _ _ _ _ R_g.has R_s.has).mono ?_
        rintro e v6 ⟨rfl, q⟩
        have st : Below v5.heap.size v5 v6 := q.below _
        replace o_o := o_o.below st (Nat.le_refl _)
        replace R_g := R_g.below st (Nat.le_refl _)
        replace R_s := R_s.below st (Nat.le_refl _)
        replace hB := hB.trans (st.mono hB.size)
        clear st
        clear q
        rw [HRS.out]
        clear HRS R_s
        clear R_g
        go_wp2_with fail
        refine (drawCountOutcome_any b m cap' _ (HM.out.grow hB (Nat.le_refl _))).mono ?_
        rintro e v7 ⟨a_q, n_q, c_q, qs, rfl, o_q, hnq, _, st⟩
        replace o_o := o_o.below st (Nat.le_refl _)
        replace hB := hB.trans (st.mono hB.size)
        clear st
        by_cases hq : outB qs = true
        · skip
          obtain ⟨cq, hcq⟩ : ∃ c, prodTo qs qs.length = c := ⟨_, rfl⟩
          have HQ : Hid (outcomesOf qs = (cq, true)) := hid (by rw [outcomes_yes hq, hcq])
          have hqq : (cq == cq) = true := by simp
          clear hq hcq
          go_wp2_with fail
          refine (countOutcome_any _ _ _ _ _ o_q.has).mono ?_
          rw [HQ.out]
          rintro e v8 ⟨rfl, st⟩
          replace o_o := o_o.below st (Nat.le_refl _)
          replace o_q := o_q.below st (Nat.le_refl _)
          replace hB := hB.trans (st.mono hB.size)
          clear st
          go_wp2_with fail
          refine (specCountOutcome_any _ _ _ _ _ o_q.has).mono ?_
          rw [HQ.out]
          rintro e v9 ⟨rfl, st⟩
          replace o_o := o_o.below st (Nat.le_refl _)
          replace o_q := o_q.below st (Nat.le_refl _)
          replace hB := hB.trans (st.mono hB.size)
          clear st
          go_wp2_with fail
          go_ret
          exact ⟨rfl, hB⟩
        · skip
          have HQ : Hid (outcomesOf qs = (0, false)) := hid (outcomes_no hq)
          clear hq
          go_wp2_with fail
          refine (countOutcome_any _ _ _ _ _ o_q.has).mono ?_
          rw [HQ.out]
          rintro e v8 ⟨rfl, st⟩
          replace o_o := o_o.below st (Nat.le_refl _)
          replace o_q := o_q.below st (Nat.le_refl _)
          replace hB := hB.trans (st.mono hB.size)
          clear st
          go_wp2_with fail
          refine (specCountOutcome_any _ _ _ _ _ o_q.has).mono ?_
          rw [HQ.out]
          rintro e v9 ⟨rfl, st⟩
          replace o_o := o_o.below st (Nat.le_refl _)
          replace o_q := o_q.below st (Nat.le_refl _)
          replace hB := hB.trans (st.mono hB.size)
          clear st
          go_wp2_with fail
          go_ret
          exact ⟨rfl, hB⟩
    · skip
      have HO : Hid (allOutcomes os = ([], false)) := hid (by simp [allOutcomes, ho])
      have HC : Hid (outcomesOf os = (0, false)) := hid (outcomes_no ho)
      clear ho
      go_wp2_with fail
      refine (allOutcome_any _ _ _ _ _ o_o.has).mono ?_
      rw [HO.out]
      rintro e v2 ⟨a_g, n_g, c_g, rs, rfl, R_g, hng, st⟩
      replace o_o := o_o.below st (Nat.le_refl _)
      replace hB := hB.trans (st.mono hB.size)
      clear st
      go_wp2_with fail
      refine (specAllOutcome_any _ _ _ _ _ o_o.has).mono ?_
      rw [HO.out]
      rintro e v3 ⟨a_s, n_s, c_s, ss, rfl, R_s, hns, st⟩
      replace o_o := o_o.below st (Nat.le_refl _)
      replace R_g := R_g.below st (Nat.le_refl _)
      replace hB := hB.trans (st.mono hB.size)
      clear st
      have HRS : Hid (sameR rs ss = true) := hid (sameR_self' (hng.trans hns.symm))
      have HNG := hid hng
      clear hng hns
      go_wp2_with fail
      refine (countOutcome_any _ _ _ _ _ o_o.has).mono ?_
      rw [HC.out]
      rintro e v4 ⟨rfl, st⟩
      replace o_o := o_o.below st (Nat.le_refl _)
      replace R_g := R_g.below st (Nat.le_refl _)
      replace R_s := R_s.below st (Nat.le_refl _)
      replace hB := hB.trans (st.mono hB.size)
      clear st
      go_wp2_with fail
      refine (specCountOutcome_any _ _ _ _ _ o_o.has).mono ?_
      rw [HC.out]
      rintro e v5 ⟨rfl, st⟩
      replace o_o := o_o.below st (Nat.le_refl _)
      replace R_g := R_g.below st (Nat.le_refl _)
      replace R_s := R_s.below st (Nat.le_refl _)
      replace hB := hB.trans (st.mono hB.size)
      clear st
      go_wp2_with fail
      refine (jRows_any _ _ _ _ _ _ _ _ _ R_g.has R_s.has).mono ?_
      rintro e v6 ⟨rfl, q⟩
      have st : Below v5.heap.size v5 v6 := q.below _
      replace o_o := o_o.below st (Nat.le_refl _)
      replace R_g := R_g.below st (Nat.le_refl _)
      replace R_s := R_s.below st (Nat.le_refl _)
      replace hB := hB.trans (st.mono hB.size)
      clear st
      clear q
      rw [HRS.out]
      clear HRS R_s
      clear R_g
      go_wp2_with fail
      refine (drawCountOutcome_any b m cap' _ (HM.out.grow hB (Nat.le_refl _))).mono ?_
      rintro e v7 ⟨a_q, n_q, c_q, qs, rfl, o_q, hnq, _, st⟩
      replace o_o := o_o.below st (Nat.le_refl _)
      replace hB := hB.trans (st.mono hB.size)
      clear st
      by_cases hq : outB qs = true
      · skip
        obtain ⟨cq, hcq⟩ : ∃ c, prodTo qs qs.length = c := ⟨_, rfl⟩
        have HQ : Hid (outcomesOf qs = (cq, true)) := hid (by rw [outcomes_yes hq, hcq])
        have hqq : (cq == cq) = true := by simp
        clear hq hcq
        go_wp2_with fail
        refine (countOutcome_any _ _ _ _ _ o_q.has).mono ?_
        rw [HQ.out]
        rintro e v8 ⟨rfl, st⟩
        replace o_o := o_o.below st (Nat.le_refl _)
        replace o_q := o_q.below st (Nat.le_refl _)
        replace hB := hB.trans (st.mono hB.size)
        clear st
        go_wp2_with fail
        refine (specCountOutcome_any _ _ _ _ _ o_q.has).mono ?_
        rw [HQ.out]
        rintro e v9 ⟨rfl, st⟩
        replace o_o := o_o.below st (Nat.le_refl _)
        replace o_q := o_q.below st (Nat.le_refl _)
        replace hB := hB.trans (st.mono hB.size)
        clear st
        go_wp2_with fail
        go_ret
        exact ⟨rfl, hB⟩
      · skip
        have HQ : Hid (outcomesOf qs = (0, false)) := hid (outcomes_no hq)
        clear hq
        go_wp2_with fail
        refine (countOutcome_any _ _ _ _ _ o_q.has).mono ?_
        rw [HQ.out]
        rintro e v8 ⟨rfl, st⟩
        replace o_o := o_o.below st (Nat.le_refl _)
        replace o_q := o_q.below st (Nat.le_refl _)
        replace hB := hB.trans (st.mono hB.size)
        clear st
        go_wp2_with fail
        refine (specCountOutcome_any _ _ _ _ _ o_q.has).mono ?_
        rw [HQ.out]
        rintro e v9 ⟨rfl, st⟩
        replace o_o := o_o.below st (Nat.le_refl _)
        replace o_q := o_q.below st (Nat.le_refl _)
        replace hB := hB.trans (st.mono hB.size)
        clear st
        go_wp2_with fail
        go_ret
        exact ⟨rfl, hB⟩
end Go.Proofs.Ytpjgidjkpcbniab
