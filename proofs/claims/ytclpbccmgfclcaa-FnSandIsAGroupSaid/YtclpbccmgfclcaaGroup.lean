/- The law that sand is a group, walked. -/
import Derived.Test.YtclpbccmgfclcaaDrawW
import Derived.Test.YtclpbccmgfclcaaW
import Derived.Test.YtclpbccmgfclcaaJ
import Derived.Test.YtclpbccmgfclcaaMathSd
import Derived.Test.YtclpbccmgfclcaaImplSg
namespace Go.Proofs.Ytclpbccmgfclcaa
open Go.RowKit

/-- What is said of the rest sand. -/
structure RestF (m : Nat) : Prop where
  out : restOf (m : Int) = (restL m, true)
  rc : recOf (restL m) = (true, true)
  two : addOf (restL m) (restL m) = (restL m, true)
theorem restF {n : Int} (h : inB n 0 8 = true) : ∃ m : Nat, n = (m : Int) ∧ RestF m := by
  have h2 := inB_iff.1 h
  obtain ⟨m, rfl⟩ : ∃ m : Nat, n = (m : Int) := ⟨n.toNat, by omega⟩
  obtain ⟨r1, r2⟩ := rest_facts m (by omega)
  refine ⟨m, rfl, rest_yes h, by unfold recOf; rw [if_pos r2, r1], ?_⟩
  rw [add_yes r2 r2 rfl]
  have := rest_none (pile_rest m) r1
  rw [show (restL m).length = m by simp [restL]] at this
  rw [this]
theorem repL_sand {es : List Int} (hs : sandB es = true) (k : Nat) : sandB (repL es k) = true ∧ (repL es k).length = es.length := by
  obtain ⟨h1, h2, h3⟩ := length_repL (Pile.sand hs) k
  have h8 := (sandB_iff.1 hs).1
  exact ⟨sandB_iff.2 ⟨by omega, fun x hx => ⟨h2 x hx, by have := h3 x hx; omega⟩⟩, h1⟩
/-- What is said of repeated sand. -/
structure RepF (es : List Int) (n K : Nat) : Prop where
  out : repeatOf es (K : Int) = (repL es K, true)
  own : restOf (n : Int) = (restL n, true)
  nxt : K + 1 ≤ 1000 → repeatOf es ((K : Int) + 1) = (repL es (K + 1), true)
  lost : ¬ K + 1 ≤ 1000 → repeatOf es ((K : Int) + 1) = ([], false)
  add : addOf (repL es K) es = (repL es (K + 1), true)
  same : addOf es (restL n) = (es, true)
  round : repeatOf es ((n : Int) + 1) = (restL n, true)
  le : K ≤ 1000
  h8 : n ≤ 8
theorem repF {es : List Int} {n : Nat} {k : Int} (hl : es.length = n) (h : (repeatOf es k).2 = true) : ∃ K : Nat, k = (K : Int) ∧ RepF es n K := by
  subst hl
  have hc : (sandB es && recB es) = true ∧ inB k 0 1000 = true := by
    apply Classical.byContradiction
    intro hno
    rw [repeat_no hno] at h
    cases h
  obtain ⟨h1, h2⟩ := hc
  have h3 := inB_iff.1 h2
  obtain ⟨K, rfl⟩ : ∃ K : Nat, k = (K : Int) := ⟨k.toNat, by omega⟩
  have hs : sandB es = true := by simp at h1; exact h1.1
  have hr : recB es = true := by simp at h1; exact h1.2
  have h8 := (sandB_iff.1 hs).1
  have hp := Pile.sand hs
  obtain ⟨q1, q2⟩ := repL_sand hs K
  have hrs := (rest_facts es.length h8).2
  have e1 : ((K : Int) + 1) = ((K + 1 : Nat) : Int) := by omega
  have e2 : ((es.length : Int) + 1) = ((es.length + 1 : Nat) : Int) := by omega
  refine ⟨K, rfl, repeat_yes h1 (by omega), rest_yes (inB_iff.2 ⟨by omega, by omega⟩), fun hk => ?_, fun hk => ?_, ?_, ?_, ?_, by omega, h8⟩
  · rw [e1]; exact repeat_yes h1 hk
  · exact repeat_no (fun e => by have := inB_iff.1 e.2; omega)
  · rw [add_yes q1 hs q2]; rfl
  · rw [add_yes hs hrs (by simp [restL]), rest_none hp hr]
  · rw [e2, repeat_yes h1 (by omega), round_rest h8 hp]
theorem repeatOf_no {es : List Int} {k : Int} (h : (repeatOf es k).2 = false) : repeatOf es k = ([], false) := by
  unfold repeatOf at h ⊢
  split at h
  · cases h
  · rw [if_neg (by assumption)]
/-- What is said of a sum. -/
structure SumF (xs ys zs : List Int) (a b : Bool) : Prop where
  out : addOf xs ys = (zs, true)
  back : addOf ys xs = (zs, true)
  ra : recOf xs = (a, true)
  rb : recOf zs = (b, true)
  imp : a = true → b = true
theorem sumF {xs ys : List Int} (h : (addOf xs ys).2 = true) : ∃ zs a b, SumF xs ys zs a b := by
  have hc : sandB xs = true ∧ sandB ys = true ∧ xs.length = ys.length := by
    apply Classical.byContradiction
    intro hno
    rw [add_no hno] at h
    cases h
  obtain ⟨h1, h2, h3⟩ := hc
  have p1 := Pile.sand h1
  have p2 := Pile.sand h2
  have S := settled (pile_plus p1 p2 h3)
  have hl := length_plusL h3
  have h8 := (sandB_iff.1 h1).1
  have hd := S.done
  rw [← S.len] at hd
  have hst := stable_lt hd
  have hsz : sandB (settle (plusL xs ys)).1 = true := sandB_iff.2 ⟨by rw [S.len, hl]; exact h8, fun x hx => ⟨S.pile x hx, by have := hst x hx; rw [S.len, hl] at this; omega⟩⟩
  refine ⟨(settle (plusL xs ys)).1, recB xs, recB (settle (plusL xs ys)).1, add_yes h1 h2 h3, ?_, by simp [recOf, h1], by simp [recOf, hsz], fun e => sum_rec p1 p2 h3 e⟩
  rw [add_yes h2 h1 h3.symm, plus_comm h3.symm]
theorem addOf_no {xs ys : List Int} (h : (addOf xs ys).2 = false) : addOf xs ys = ([], false) := by
  unfold addOf at h ⊢
  split at h
  · cases h
  · rw [if_neg (by assumption)]

set_option maxRecDepth 100000 in
set_option maxHeartbeats 64000000 in
theorem group_walk (a b : Option Addr) (n m cap cap' : Nat) (w : World) (hn : n ≤ maxLen) (h : n ≤ 1048576 → HasB w a n w.heap.size) (h' : m ≤ 1048576 → HasB w b m w.heap.size) :
    Calls Try.prog 5 #[.slice a n cap, .slice b m cap'] w (Holds w) := by
  have H1 := hid h
  have H2 := hid h'
  have HN := hid hn
  clear h h' hn
  have hB : Below w.heap.size w w := Below.refl _ _
  go_enter Try.func5, Try.ntmps5
  go_wp2_with fail
  refine (big_any _ _ _ _ _ _ _ (by have := HN.out; unfold maxLen at this; omega)).mono ?_
  rintro e _ ⟨r, rfl, hr, rfl⟩
  have HR := hid hr
  clear hr
  cases r with
  | true =>
    go_wp2_with fail
    go_ret
    exact ⟨rfl, hB⟩
  | false =>
    have hnm := HR.out rfl
    clear HR
    have HA := hid (H1.out (by omega))
    have HM := hid (H2.out (by omega))
    clear H1 H2 HN
    go_wp2_with fail
    refine (drawAdd_any _ _ _ _ HA.out).mono ?_
    rintro e v1 ⟨a_c, n_c, c_c, xs, a_d, n_d, c_d, ys, rfl, o_c, o_d, hnc, hnd, st⟩
    replace hB := hB.trans (st.mono hB.size)
    clear st
    by_cases hf : (addOf xs ys).2 = true
    · skip
      obtain ⟨zs, a1, b1, F⟩ := sumF hf
      have HAD := hid F.out
      have HBK := hid F.back
      have HRA := hid F.ra
      have HRB := hid F.rb
      have HIM := hid F.imp
      clear F hf
      go_wp2_with fail
      refine (implAdd_any _ _ _ _ _ _ _ _ _ o_c.has o_d.has).mono ?_
      rw [HAD.out]
      rintro e v2 ⟨a_s, n_s, c_s, rfl, o_s, st⟩
      replace o_c := o_c.below st (Nat.le_refl _)
      replace o_d := o_d.below st (Nat.le_refl _)
      replace hB := hB.trans (st.mono hB.size)
      clear st
      go_wp2_with fail
      refine (specAdd_any _ _ _ _ _ _ _ _ _ o_c.has o_d.has).mono ?_
      rw [HAD.out]
      rintro e v3 ⟨a_r, n_r, c_r, rfl, o_r, st⟩
      replace o_c := o_c.below st (Nat.le_refl _)
      replace o_d := o_d.below st (Nat.le_refl _)
      replace o_s := o_s.below st (Nat.le_refl _)
      replace hB := hB.trans (st.mono hB.size)
      clear st
      go_wp2_with fail
      refine (wSame_any _ _ _ _ _ _ _ _ _ o_s.has o_r.has).mono ?_
      rw [same_self]
      rintro e v4 ⟨rfl, q⟩
      have st : Below v3.heap.size v3 v4 := q.below _
      replace o_c := o_c.below st (Nat.le_refl _)
      replace o_d := o_d.below st (Nat.le_refl _)
      replace o_s := o_s.below st (Nat.le_refl _)
      replace o_r := o_r.below st (Nat.le_refl _)
      replace hB := hB.trans (st.mono hB.size)
      clear st
      clear q
      clear o_r
      go_wp2_with fail
      refine (drawRep_any b m cap' _ (HM.out.grow hB (Nat.le_refl _))).mono ?_
      rintro e v5 ⟨a_e, n_e, c_e, es, k, rfl, o_e, hne, hk0, hk1, st⟩
      replace o_c := o_c.below st (Nat.le_refl _)
      replace o_d := o_d.below st (Nat.le_refl _)
      replace o_s := o_s.below st (Nat.le_refl _)
      replace hB := hB.trans (st.mono hB.size)
      clear st
      have HLE := hid o_e.len
      by_cases ht : (repeatOf es k).2 = true
      · skip
        obtain ⟨K, rfl, F⟩ := repF HLE.out ht
        have HRP := hid F.out
        have HOW := hid F.own
        have HNX := hid F.nxt
        have HLS := hid F.lost
        have HPL := hid F.add
        have HSM := hid F.same
        have HRD := hid F.round
        have hK := F.le
        have he8 := F.h8
        clear F ht
        go_wp2_with fail
        refine (implRepeat_any _ _ _ _ _ _ o_e.has).mono ?_
        rw [HRP.out]
        rintro e v6 ⟨a_m, n_m, c_m, rfl, o_m, st⟩
        replace o_c := o_c.below st (Nat.le_refl _)
        replace o_d := o_d.below st (Nat.le_refl _)
        replace o_s := o_s.below st (Nat.le_refl _)
        replace o_e := o_e.below st (Nat.le_refl _)
        replace hB := hB.trans (st.mono hB.size)
        clear st
        go_wp2_with fail
        refine (specRepeat_any _ _ _ _ _ _ o_e.has).mono ?_
        rw [HRP.out]
        rintro e v7 ⟨a_w, n_w, c_w, rfl, o_w, st⟩
        replace o_c := o_c.below st (Nat.le_refl _)
        replace o_d := o_d.below st (Nat.le_refl _)
        replace o_s := o_s.below st (Nat.le_refl _)
        replace o_e := o_e.below st (Nat.le_refl _)
        replace o_m := o_m.below st (Nat.le_refl _)
        replace hB := hB.trans (st.mono hB.size)
        clear st
        go_wp2_with fail
        refine (drawRest_any b m cap' _ (HM.out.grow hB (Nat.le_refl _))).mono ?_
        rintro e v8 ⟨n1, rfl, st⟩
        replace o_c := o_c.below st (Nat.le_refl _)
        replace o_d := o_d.below st (Nat.le_refl _)
        replace o_s := o_s.below st (Nat.le_refl _)
        replace o_e := o_e.below st (Nat.le_refl _)
        replace o_m := o_m.below st (Nat.le_refl _)
        replace o_w := o_w.below st (Nat.le_refl _)
        replace hB := hB.trans (st.mono hB.size)
        clear st
        by_cases h1 : inB n1 0 8 = true
        · skip
          obtain ⟨m1, rfl, G⟩ := restF h1
          have HRO := hid G.out
          have HRC := hid G.rc
          have HTW := hid G.two
          clear G h1
          go_wp2_with fail
          refine (implRest_any _ _).mono ?_
          rw [HRO.out]
          rintro e v9 ⟨a_t, n_t, c_t, rfl, o_t, st⟩
          replace o_c := o_c.below st (Nat.le_refl _)
          replace o_d := o_d.below st (Nat.le_refl _)
          replace o_s := o_s.below st (Nat.le_refl _)
          replace o_e := o_e.below st (Nat.le_refl _)
          replace o_m := o_m.below st (Nat.le_refl _)
          replace o_w := o_w.below st (Nat.le_refl _)
          replace hB := hB.trans (st.mono hB.size)
          clear st
          go_wp2_with fail
          refine (specRest_any _ _).mono ?_
          rw [HRO.out]
          rintro e v10 ⟨a_u, n_u, c_u, rfl, o_u, st⟩
          replace o_c := o_c.below st (Nat.le_refl _)
          replace o_d := o_d.below st (Nat.le_refl _)
          replace o_s := o_s.below st (Nat.le_refl _)
          replace o_e := o_e.below st (Nat.le_refl _)
          replace o_m := o_m.below st (Nat.le_refl _)
          replace o_w := o_w.below st (Nat.le_refl _)
          replace o_t := o_t.below st (Nat.le_refl _)
          replace hB := hB.trans (st.mono hB.size)
          clear st
          go_wp2_with fail
          refine (wSame_any _ _ _ _ _ _ _ _ _ o_m.has o_w.has).mono ?_
          rw [same_self]
          rintro e v11 ⟨rfl, q⟩
          have st : Below v10.heap.size v10 v11 := q.below _
          replace o_c := o_c.below st (Nat.le_refl _)
          replace o_d := o_d.below st (Nat.le_refl _)
          replace o_s := o_s.below st (Nat.le_refl _)
          replace o_e := o_e.below st (Nat.le_refl _)
          replace o_m := o_m.below st (Nat.le_refl _)
          replace o_w := o_w.below st (Nat.le_refl _)
          replace o_t := o_t.below st (Nat.le_refl _)
          replace o_u := o_u.below st (Nat.le_refl _)
          replace hB := hB.trans (st.mono hB.size)
          clear st
          clear q
          go_wp2_with fail
          refine (wSame_any _ _ _ _ _ _ _ _ _ o_t.has o_u.has).mono ?_
          rw [same_self]
          rintro e v12 ⟨rfl, q⟩
          have st : Below v11.heap.size v11 v12 := q.below _
          replace o_c := o_c.below st (Nat.le_refl _)
          replace o_d := o_d.below st (Nat.le_refl _)
          replace o_s := o_s.below st (Nat.le_refl _)
          replace o_e := o_e.below st (Nat.le_refl _)
          replace o_m := o_m.below st (Nat.le_refl _)
          replace o_w := o_w.below st (Nat.le_refl _)
          replace o_t := o_t.below st (Nat.le_refl _)
          replace o_u := o_u.below st (Nat.le_refl _)
          replace hB := hB.trans (st.mono hB.size)
          clear st
          clear q
          clear o_w o_u
          go_wp2_with fail
          refine (implIsRecurrent_any _ _ _ _ _ o_t.has).mono ?_
          rw [HRC.out]
          rintro e v13 ⟨rfl, st⟩
          replace o_c := o_c.below st (Nat.le_refl _)
          replace o_d := o_d.below st (Nat.le_refl _)
          replace o_s := o_s.below st (Nat.le_refl _)
          replace o_e := o_e.below st (Nat.le_refl _)
          replace o_m := o_m.below st (Nat.le_refl _)
          replace o_t := o_t.below st (Nat.le_refl _)
          replace hB := hB.trans (st.mono hB.size)
          clear st
          go_wp2_with fail
          refine (implAdd_any _ _ _ _ _ _ _ _ _ o_t.has o_t.has).mono ?_
          rw [HTW.out]
          rintro e v14 ⟨a_v, n_v, c_v, rfl, o_v, st⟩
          replace o_c := o_c.below st (Nat.le_refl _)
          replace o_d := o_d.below st (Nat.le_refl _)
          replace o_s := o_s.below st (Nat.le_refl _)
          replace o_e := o_e.below st (Nat.le_refl _)
          replace o_m := o_m.below st (Nat.le_refl _)
          replace o_t := o_t.below st (Nat.le_refl _)
          replace hB := hB.trans (st.mono hB.size)
          clear st
          go_wp2_with fail
          refine (wSame_any _ _ _ _ _ _ _ _ _ o_v.has o_t.has).mono ?_
          rw [same_self]
          rintro e v15 ⟨rfl, q⟩
          have st : Below v14.heap.size v14 v15 := q.below _
          replace o_c := o_c.below st (Nat.le_refl _)
          replace o_d := o_d.below st (Nat.le_refl _)
          replace o_s := o_s.below st (Nat.le_refl _)
          replace o_e := o_e.below st (Nat.le_refl _)
          replace o_m := o_m.below st (Nat.le_refl _)
          replace o_t := o_t.below st (Nat.le_refl _)
          replace o_v := o_v.below st (Nat.le_refl _)
          replace hB := hB.trans (st.mono hB.size)
          clear st
          clear q
          clear o_v o_t
          go_wp2_with fail
          refine (implRest_any _ _).mono ?_
          rw [HOW.out]
          rintro e v16 ⟨a_o, n_o, c_o, rfl, o_o, st⟩
          replace o_c := o_c.below st (Nat.le_refl _)
          replace o_d := o_d.below st (Nat.le_refl _)
          replace o_s := o_s.below st (Nat.le_refl _)
          replace o_e := o_e.below st (Nat.le_refl _)
          replace o_m := o_m.below st (Nat.le_refl _)
          replace hB := hB.trans (st.mono hB.size)
          clear st
          by_cases hk : K + 1 ≤ 1000
          · skip
            have HN := hid (HNX.out hk)
            go_wp2_with fail
            refine (implRepeat_any _ _ _ _ _ _ o_e.has).mono ?_
            rw [HN.out]
            rintro e v17 ⟨a_x, n_x, c_x, rfl, o_x, st⟩
            replace o_c := o_c.below st (Nat.le_refl _)
            replace o_d := o_d.below st (Nat.le_refl _)
            replace o_s := o_s.below st (Nat.le_refl _)
            replace o_e := o_e.below st (Nat.le_refl _)
            replace o_m := o_m.below st (Nat.le_refl _)
            replace o_o := o_o.below st (Nat.le_refl _)
            replace hB := hB.trans (st.mono hB.size)
            clear st
            go_wp2_with fail
            refine (implAdd_any _ _ _ _ _ _ _ _ _ o_m.has o_e.has).mono ?_
            rw [HPL.out]
            rintro e v18 ⟨a_y, n_y, c_y, rfl, o_y, st⟩
            replace o_c := o_c.below st (Nat.le_refl _)
            replace o_d := o_d.below st (Nat.le_refl _)
            replace o_s := o_s.below st (Nat.le_refl _)
            replace o_e := o_e.below st (Nat.le_refl _)
            replace o_m := o_m.below st (Nat.le_refl _)
            replace o_o := o_o.below st (Nat.le_refl _)
            replace o_x := o_x.below st (Nat.le_refl _)
            replace hB := hB.trans (st.mono hB.size)
            clear st
            go_wp2_with fail
            refine (implAdd_any _ _ _ _ _ _ _ _ _ o_e.has o_o.has).mono ?_
            rw [HSM.out]
            rintro e v19 ⟨a_z, n_z, c_z, rfl, o_z, st⟩
            replace o_c := o_c.below st (Nat.le_refl _)
            replace o_d := o_d.below st (Nat.le_refl _)
            replace o_s := o_s.below st (Nat.le_refl _)
            replace o_e := o_e.below st (Nat.le_refl _)
            replace o_m := o_m.below st (Nat.le_refl _)
            replace o_o := o_o.below st (Nat.le_refl _)
            replace o_x := o_x.below st (Nat.le_refl _)
            replace o_y := o_y.below st (Nat.le_refl _)
            replace hB := hB.trans (st.mono hB.size)
            clear st
            go_wp2_with fail
            refine (wSame_any _ _ _ _ _ _ _ _ _ o_x.has o_y.has).mono ?_
            rw [same_self]
            rintro e v20 ⟨rfl, q⟩
            have st : Below v19.heap.size v19 v20 := q.below _
            replace o_c := o_c.below st (Nat.le_refl _)
            replace o_d := o_d.below st (Nat.le_refl _)
            replace o_s := o_s.below st (Nat.le_refl _)
            replace o_e := o_e.below st (Nat.le_refl _)
            replace o_m := o_m.below st (Nat.le_refl _)
            replace o_o := o_o.below st (Nat.le_refl _)
            replace o_x := o_x.below st (Nat.le_refl _)
            replace o_y := o_y.below st (Nat.le_refl _)
            replace o_z := o_z.below st (Nat.le_refl _)
            replace hB := hB.trans (st.mono hB.size)
            clear st
            clear q
            go_wp2_with fail
            refine (wSame_any _ _ _ _ _ _ _ _ _ o_z.has o_e.has).mono ?_
            rw [same_self]
            rintro e v21 ⟨rfl, q⟩
            have st : Below v20.heap.size v20 v21 := q.below _
            replace o_c := o_c.below st (Nat.le_refl _)
            replace o_d := o_d.below st (Nat.le_refl _)
            replace o_s := o_s.below st (Nat.le_refl _)
            replace o_e := o_e.below st (Nat.le_refl _)
            replace o_m := o_m.below st (Nat.le_refl _)
            replace o_o := o_o.below st (Nat.le_refl _)
            replace o_x := o_x.below st (Nat.le_refl _)
            replace o_y := o_y.below st (Nat.le_refl _)
            replace o_z := o_z.below st (Nat.le_refl _)
            replace hB := hB.trans (st.mono hB.size)
            clear st
            clear q
            clear o_x o_y o_z o_m
            go_wp2_with fail
            refine (implRepeat_any _ _ _ _ _ _ o_e.has).mono ?_
            rw [HRD.out]
            rintro e v22 ⟨a_q, n_q, c_q, rfl, o_q, st⟩
            replace o_c := o_c.below st (Nat.le_refl _)
            replace o_d := o_d.below st (Nat.le_refl _)
            replace o_s := o_s.below st (Nat.le_refl _)
            replace o_e := o_e.below st (Nat.le_refl _)
            replace o_o := o_o.below st (Nat.le_refl _)
            replace hB := hB.trans (st.mono hB.size)
            clear st
            go_wp2_with fail
            refine (wSame_any _ _ _ _ _ _ _ _ _ o_q.has o_o.has).mono ?_
            rw [same_self]
            rintro e v23 ⟨rfl, q⟩
            have st : Below v22.heap.size v22 v23 := q.below _
            replace o_c := o_c.below st (Nat.le_refl _)
            replace o_d := o_d.below st (Nat.le_refl _)
            replace o_s := o_s.below st (Nat.le_refl _)
            replace o_e := o_e.below st (Nat.le_refl _)
            replace o_o := o_o.below st (Nat.le_refl _)
            replace o_q := o_q.below st (Nat.le_refl _)
            replace hB := hB.trans (st.mono hB.size)
            clear st
            clear q
            clear o_q o_o o_e
            go_wp2_with fail
            refine (implAdd_any _ _ _ _ _ _ _ _ _ o_d.has o_c.has).mono ?_
            rw [HBK.out]
            rintro e v24 ⟨a_b, n_b, c_b, rfl, o_b, st⟩
            replace o_c := o_c.below st (Nat.le_refl _)
            replace o_d := o_d.below st (Nat.le_refl _)
            replace o_s := o_s.below st (Nat.le_refl _)
            replace hB := hB.trans (st.mono hB.size)
            clear st
            go_wp2_with fail
            refine (implIsRecurrent_any _ _ _ _ _ o_c.has).mono ?_
            rw [HRA.out]
            rintro e v25 ⟨rfl, st⟩
            replace o_c := o_c.below st (Nat.le_refl _)
            replace o_d := o_d.below st (Nat.le_refl _)
            replace o_s := o_s.below st (Nat.le_refl _)
            replace o_b := o_b.below st (Nat.le_refl _)
            replace hB := hB.trans (st.mono hB.size)
            clear st
            go_wp2_with fail
            refine (implIsRecurrent_any _ _ _ _ _ o_s.has).mono ?_
            rw [HRB.out]
            rintro e v26 ⟨rfl, st⟩
            replace o_c := o_c.below st (Nat.le_refl _)
            replace o_d := o_d.below st (Nat.le_refl _)
            replace o_s := o_s.below st (Nat.le_refl _)
            replace o_b := o_b.below st (Nat.le_refl _)
            replace hB := hB.trans (st.mono hB.size)
            clear st
            by_cases hA : a1 = true
            · skip
              subst hA
              have hbb := HIM.out rfl
              subst hbb
              go_wp2_with fail
              refine (wSame_any _ _ _ _ _ _ _ _ _ o_b.has o_s.has).mono ?_
              rw [same_self]
              rintro e v27 ⟨rfl, q⟩
              have st : Below v26.heap.size v26 v27 := q.below _
              replace o_c := o_c.below st (Nat.le_refl _)
              replace o_d := o_d.below st (Nat.le_refl _)
              replace o_s := o_s.below st (Nat.le_refl _)
              replace o_b := o_b.below st (Nat.le_refl _)
              replace hB := hB.trans (st.mono hB.size)
              clear st
              clear q
              go_wp2_with fail
              go_ret
              exact ⟨rfl, hB⟩
            · skip
              have hA2 : a1 = false := Bool.eq_false_iff.2 hA
              subst hA2
              clear hA
              go_wp2_with fail
              refine (wSame_any _ _ _ _ _ _ _ _ _ o_b.has o_s.has).mono ?_
              rw [same_self]
              rintro e v27 ⟨rfl, q⟩
              have st : Below v26.heap.size v26 v27 := q.below _
              replace o_c := o_c.below st (Nat.le_refl _)
              replace o_d := o_d.below st (Nat.le_refl _)
              replace o_s := o_s.below st (Nat.le_refl _)
              replace o_b := o_b.below st (Nat.le_refl _)
              replace hB := hB.trans (st.mono hB.size)
              clear st
              clear q
              go_wp2_with fail
              go_ret
              exact ⟨rfl, hB⟩
          · skip
            have HN := hid (HLS.out hk)
            go_wp2_with fail
            refine (implRepeat_any _ _ _ _ _ _ o_e.has).mono ?_
            rw [HN.out]
            rintro e v17 ⟨a_x, n_x, c_x, rfl, o_x, st⟩
            replace o_c := o_c.below st (Nat.le_refl _)
            replace o_d := o_d.below st (Nat.le_refl _)
            replace o_s := o_s.below st (Nat.le_refl _)
            replace o_e := o_e.below st (Nat.le_refl _)
            replace o_m := o_m.below st (Nat.le_refl _)
            replace o_o := o_o.below st (Nat.le_refl _)
            replace hB := hB.trans (st.mono hB.size)
            clear st
            go_wp2_with fail
            refine (implAdd_any _ _ _ _ _ _ _ _ _ o_m.has o_e.has).mono ?_
            rw [HPL.out]
            rintro e v18 ⟨a_y, n_y, c_y, rfl, o_y, st⟩
            replace o_c := o_c.below st (Nat.le_refl _)
            replace o_d := o_d.below st (Nat.le_refl _)
            replace o_s := o_s.below st (Nat.le_refl _)
            replace o_e := o_e.below st (Nat.le_refl _)
            replace o_m := o_m.below st (Nat.le_refl _)
            replace o_o := o_o.below st (Nat.le_refl _)
            replace o_x := o_x.below st (Nat.le_refl _)
            replace hB := hB.trans (st.mono hB.size)
            clear st
            go_wp2_with fail
            refine (implAdd_any _ _ _ _ _ _ _ _ _ o_e.has o_o.has).mono ?_
            rw [HSM.out]
            rintro e v19 ⟨a_z, n_z, c_z, rfl, o_z, st⟩
            replace o_c := o_c.below st (Nat.le_refl _)
            replace o_d := o_d.below st (Nat.le_refl _)
            replace o_s := o_s.below st (Nat.le_refl _)
            replace o_e := o_e.below st (Nat.le_refl _)
            replace o_m := o_m.below st (Nat.le_refl _)
            replace o_o := o_o.below st (Nat.le_refl _)
            replace o_x := o_x.below st (Nat.le_refl _)
            replace o_y := o_y.below st (Nat.le_refl _)
            replace hB := hB.trans (st.mono hB.size)
            clear st
            go_wp2_with fail
            refine (wSame_any _ _ _ _ _ _ _ _ _ o_z.has o_e.has).mono ?_
            rw [same_self]
            rintro e v20 ⟨rfl, q⟩
            have st : Below v19.heap.size v19 v20 := q.below _
            replace o_c := o_c.below st (Nat.le_refl _)
            replace o_d := o_d.below st (Nat.le_refl _)
            replace o_s := o_s.below st (Nat.le_refl _)
            replace o_e := o_e.below st (Nat.le_refl _)
            replace o_m := o_m.below st (Nat.le_refl _)
            replace o_o := o_o.below st (Nat.le_refl _)
            replace o_x := o_x.below st (Nat.le_refl _)
            replace o_y := o_y.below st (Nat.le_refl _)
            replace o_z := o_z.below st (Nat.le_refl _)
            replace hB := hB.trans (st.mono hB.size)
            clear st
            clear q
            clear o_x o_y o_z o_m
            go_wp2_with fail
            refine (implRepeat_any _ _ _ _ _ _ o_e.has).mono ?_
            rw [HRD.out]
            rintro e v21 ⟨a_q, n_q, c_q, rfl, o_q, st⟩
            replace o_c := o_c.below st (Nat.le_refl _)
            replace o_d := o_d.below st (Nat.le_refl _)
            replace o_s := o_s.below st (Nat.le_refl _)
            replace o_e := o_e.below st (Nat.le_refl _)
            replace o_o := o_o.below st (Nat.le_refl _)
            replace hB := hB.trans (st.mono hB.size)
            clear st
            go_wp2_with fail
            refine (wSame_any _ _ _ _ _ _ _ _ _ o_q.has o_o.has).mono ?_
            rw [same_self]
            rintro e v22 ⟨rfl, q⟩
            have st : Below v21.heap.size v21 v22 := q.below _
            replace o_c := o_c.below st (Nat.le_refl _)
            replace o_d := o_d.below st (Nat.le_refl _)
            replace o_s := o_s.below st (Nat.le_refl _)
            replace o_e := o_e.below st (Nat.le_refl _)
            replace o_o := o_o.below st (Nat.le_refl _)
            replace o_q := o_q.below st (Nat.le_refl _)
            replace hB := hB.trans (st.mono hB.size)
            clear st
            clear q
            clear o_q o_o o_e
            go_wp2_with fail
            refine (implAdd_any _ _ _ _ _ _ _ _ _ o_d.has o_c.has).mono ?_
            rw [HBK.out]
            rintro e v23 ⟨a_b, n_b, c_b, rfl, o_b, st⟩
            replace o_c := o_c.below st (Nat.le_refl _)
            replace o_d := o_d.below st (Nat.le_refl _)
            replace o_s := o_s.below st (Nat.le_refl _)
            replace hB := hB.trans (st.mono hB.size)
            clear st
            go_wp2_with fail
            refine (implIsRecurrent_any _ _ _ _ _ o_c.has).mono ?_
            rw [HRA.out]
            rintro e v24 ⟨rfl, st⟩
            replace o_c := o_c.below st (Nat.le_refl _)
            replace o_d := o_d.below st (Nat.le_refl _)
            replace o_s := o_s.below st (Nat.le_refl _)
            replace o_b := o_b.below st (Nat.le_refl _)
            replace hB := hB.trans (st.mono hB.size)
            clear st
            go_wp2_with fail
            refine (implIsRecurrent_any _ _ _ _ _ o_s.has).mono ?_
            rw [HRB.out]
            rintro e v25 ⟨rfl, st⟩
            replace o_c := o_c.below st (Nat.le_refl _)
            replace o_d := o_d.below st (Nat.le_refl _)
            replace o_s := o_s.below st (Nat.le_refl _)
            replace o_b := o_b.below st (Nat.le_refl _)
            replace hB := hB.trans (st.mono hB.size)
            clear st
            by_cases hA : a1 = true
            · skip
              subst hA
              have hbb := HIM.out rfl
              subst hbb
              go_wp2_with fail
              refine (wSame_any _ _ _ _ _ _ _ _ _ o_b.has o_s.has).mono ?_
              rw [same_self]
              rintro e v26 ⟨rfl, q⟩
              have st : Below v25.heap.size v25 v26 := q.below _
              replace o_c := o_c.below st (Nat.le_refl _)
              replace o_d := o_d.below st (Nat.le_refl _)
              replace o_s := o_s.below st (Nat.le_refl _)
              replace o_b := o_b.below st (Nat.le_refl _)
              replace hB := hB.trans (st.mono hB.size)
              clear st
              clear q
              go_wp2_with fail
              go_ret
              exact ⟨rfl, hB⟩
            · skip
              have hA2 : a1 = false := Bool.eq_false_iff.2 hA
              subst hA2
              clear hA
              go_wp2_with fail
              refine (wSame_any _ _ _ _ _ _ _ _ _ o_b.has o_s.has).mono ?_
              rw [same_self]
              rintro e v26 ⟨rfl, q⟩
              have st : Below v25.heap.size v25 v26 := q.below _
              replace o_c := o_c.below st (Nat.le_refl _)
              replace o_d := o_d.below st (Nat.le_refl _)
              replace o_s := o_s.below st (Nat.le_refl _)
              replace o_b := o_b.below st (Nat.le_refl _)
              replace hB := hB.trans (st.mono hB.size)
              clear st
              clear q
              go_wp2_with fail
              go_ret
              exact ⟨rfl, hB⟩
        · skip
          have HRO := hid (rest_no h1)
          clear h1
          go_wp2_with fail
          refine (implRest_any _ _).mono ?_
          rw [HRO.out]
          rintro e v9 ⟨a_t, n_t, c_t, rfl, o_t, st⟩
          replace o_c := o_c.below st (Nat.le_refl _)
          replace o_d := o_d.below st (Nat.le_refl _)
          replace o_s := o_s.below st (Nat.le_refl _)
          replace o_e := o_e.below st (Nat.le_refl _)
          replace o_m := o_m.below st (Nat.le_refl _)
          replace o_w := o_w.below st (Nat.le_refl _)
          replace hB := hB.trans (st.mono hB.size)
          clear st
          go_wp2_with fail
          refine (specRest_any _ _).mono ?_
          rw [HRO.out]
          rintro e v10 ⟨a_u, n_u, c_u, rfl, o_u, st⟩
          replace o_c := o_c.below st (Nat.le_refl _)
          replace o_d := o_d.below st (Nat.le_refl _)
          replace o_s := o_s.below st (Nat.le_refl _)
          replace o_e := o_e.below st (Nat.le_refl _)
          replace o_m := o_m.below st (Nat.le_refl _)
          replace o_w := o_w.below st (Nat.le_refl _)
          replace o_t := o_t.below st (Nat.le_refl _)
          replace hB := hB.trans (st.mono hB.size)
          clear st
          go_wp2_with fail
          refine (wSame_any _ _ _ _ _ _ _ _ _ o_m.has o_w.has).mono ?_
          rw [same_self]
          rintro e v11 ⟨rfl, q⟩
          have st : Below v10.heap.size v10 v11 := q.below _
          replace o_c := o_c.below st (Nat.le_refl _)
          replace o_d := o_d.below st (Nat.le_refl _)
          replace o_s := o_s.below st (Nat.le_refl _)
          replace o_e := o_e.below st (Nat.le_refl _)
          replace o_m := o_m.below st (Nat.le_refl _)
          replace o_w := o_w.below st (Nat.le_refl _)
          replace o_t := o_t.below st (Nat.le_refl _)
          replace o_u := o_u.below st (Nat.le_refl _)
          replace hB := hB.trans (st.mono hB.size)
          clear st
          clear q
          go_wp2_with fail
          refine (wSame_any _ _ _ _ _ _ _ _ _ o_t.has o_u.has).mono ?_
          rw [same_self]
          rintro e v12 ⟨rfl, q⟩
          have st : Below v11.heap.size v11 v12 := q.below _
          replace o_c := o_c.below st (Nat.le_refl _)
          replace o_d := o_d.below st (Nat.le_refl _)
          replace o_s := o_s.below st (Nat.le_refl _)
          replace o_e := o_e.below st (Nat.le_refl _)
          replace o_m := o_m.below st (Nat.le_refl _)
          replace o_w := o_w.below st (Nat.le_refl _)
          replace o_t := o_t.below st (Nat.le_refl _)
          replace o_u := o_u.below st (Nat.le_refl _)
          replace hB := hB.trans (st.mono hB.size)
          clear st
          clear q
          clear o_w o_u o_t
          go_wp2_with fail
          refine (implRest_any _ _).mono ?_
          rw [HOW.out]
          rintro e v13 ⟨a_o, n_o, c_o, rfl, o_o, st⟩
          replace o_c := o_c.below st (Nat.le_refl _)
          replace o_d := o_d.below st (Nat.le_refl _)
          replace o_s := o_s.below st (Nat.le_refl _)
          replace o_e := o_e.below st (Nat.le_refl _)
          replace o_m := o_m.below st (Nat.le_refl _)
          replace hB := hB.trans (st.mono hB.size)
          clear st
          by_cases hk : K + 1 ≤ 1000
          · skip
            have HN := hid (HNX.out hk)
            go_wp2_with fail
            refine (implRepeat_any _ _ _ _ _ _ o_e.has).mono ?_
            rw [HN.out]
            rintro e v14 ⟨a_x, n_x, c_x, rfl, o_x, st⟩
            replace o_c := o_c.below st (Nat.le_refl _)
            replace o_d := o_d.below st (Nat.le_refl _)
            replace o_s := o_s.below st (Nat.le_refl _)
            replace o_e := o_e.below st (Nat.le_refl _)
            replace o_m := o_m.below st (Nat.le_refl _)
            replace o_o := o_o.below st (Nat.le_refl _)
            replace hB := hB.trans (st.mono hB.size)
            clear st
            go_wp2_with fail
            refine (implAdd_any _ _ _ _ _ _ _ _ _ o_m.has o_e.has).mono ?_
            rw [HPL.out]
            rintro e v15 ⟨a_y, n_y, c_y, rfl, o_y, st⟩
            replace o_c := o_c.below st (Nat.le_refl _)
            replace o_d := o_d.below st (Nat.le_refl _)
            replace o_s := o_s.below st (Nat.le_refl _)
            replace o_e := o_e.below st (Nat.le_refl _)
            replace o_m := o_m.below st (Nat.le_refl _)
            replace o_o := o_o.below st (Nat.le_refl _)
            replace o_x := o_x.below st (Nat.le_refl _)
            replace hB := hB.trans (st.mono hB.size)
            clear st
            go_wp2_with fail
            refine (implAdd_any _ _ _ _ _ _ _ _ _ o_e.has o_o.has).mono ?_
            rw [HSM.out]
            rintro e v16 ⟨a_z, n_z, c_z, rfl, o_z, st⟩
            replace o_c := o_c.below st (Nat.le_refl _)
            replace o_d := o_d.below st (Nat.le_refl _)
            replace o_s := o_s.below st (Nat.le_refl _)
            replace o_e := o_e.below st (Nat.le_refl _)
            replace o_m := o_m.below st (Nat.le_refl _)
            replace o_o := o_o.below st (Nat.le_refl _)
            replace o_x := o_x.below st (Nat.le_refl _)
            replace o_y := o_y.below st (Nat.le_refl _)
            replace hB := hB.trans (st.mono hB.size)
            clear st
            go_wp2_with fail
            refine (wSame_any _ _ _ _ _ _ _ _ _ o_x.has o_y.has).mono ?_
            rw [same_self]
            rintro e v17 ⟨rfl, q⟩
            have st : Below v16.heap.size v16 v17 := q.below _
            replace o_c := o_c.below st (Nat.le_refl _)
            replace o_d := o_d.below st (Nat.le_refl _)
            replace o_s := o_s.below st (Nat.le_refl _)
            replace o_e := o_e.below st (Nat.le_refl _)
            replace o_m := o_m.below st (Nat.le_refl _)
            replace o_o := o_o.below st (Nat.le_refl _)
            replace o_x := o_x.below st (Nat.le_refl _)
            replace o_y := o_y.below st (Nat.le_refl _)
            replace o_z := o_z.below st (Nat.le_refl _)
            replace hB := hB.trans (st.mono hB.size)
            clear st
            clear q
            go_wp2_with fail
            refine (wSame_any _ _ _ _ _ _ _ _ _ o_z.has o_e.has).mono ?_
            rw [same_self]
            rintro e v18 ⟨rfl, q⟩
            have st : Below v17.heap.size v17 v18 := q.below _
            replace o_c := o_c.below st (Nat.le_refl _)
            replace o_d := o_d.below st (Nat.le_refl _)
            replace o_s := o_s.below st (Nat.le_refl _)
            replace o_e := o_e.below st (Nat.le_refl _)
            replace o_m := o_m.below st (Nat.le_refl _)
            replace o_o := o_o.below st (Nat.le_refl _)
            replace o_x := o_x.below st (Nat.le_refl _)
            replace o_y := o_y.below st (Nat.le_refl _)
            replace o_z := o_z.below st (Nat.le_refl _)
            replace hB := hB.trans (st.mono hB.size)
            clear st
            clear q
            clear o_x o_y o_z o_m
            go_wp2_with fail
            refine (implRepeat_any _ _ _ _ _ _ o_e.has).mono ?_
            rw [HRD.out]
            rintro e v19 ⟨a_q, n_q, c_q, rfl, o_q, st⟩
            replace o_c := o_c.below st (Nat.le_refl _)
            replace o_d := o_d.below st (Nat.le_refl _)
            replace o_s := o_s.below st (Nat.le_refl _)
            replace o_e := o_e.below st (Nat.le_refl _)
            replace o_o := o_o.below st (Nat.le_refl _)
            replace hB := hB.trans (st.mono hB.size)
            clear st
            go_wp2_with fail
            refine (wSame_any _ _ _ _ _ _ _ _ _ o_q.has o_o.has).mono ?_
            rw [same_self]
            rintro e v20 ⟨rfl, q⟩
            have st : Below v19.heap.size v19 v20 := q.below _
            replace o_c := o_c.below st (Nat.le_refl _)
            replace o_d := o_d.below st (Nat.le_refl _)
            replace o_s := o_s.below st (Nat.le_refl _)
            replace o_e := o_e.below st (Nat.le_refl _)
            replace o_o := o_o.below st (Nat.le_refl _)
            replace o_q := o_q.below st (Nat.le_refl _)
            replace hB := hB.trans (st.mono hB.size)
            clear st
            clear q
            clear o_q o_o o_e
            go_wp2_with fail
            refine (implAdd_any _ _ _ _ _ _ _ _ _ o_d.has o_c.has).mono ?_
            rw [HBK.out]
            rintro e v21 ⟨a_b, n_b, c_b, rfl, o_b, st⟩
            replace o_c := o_c.below st (Nat.le_refl _)
            replace o_d := o_d.below st (Nat.le_refl _)
            replace o_s := o_s.below st (Nat.le_refl _)
            replace hB := hB.trans (st.mono hB.size)
            clear st
            go_wp2_with fail
            refine (implIsRecurrent_any _ _ _ _ _ o_c.has).mono ?_
            rw [HRA.out]
            rintro e v22 ⟨rfl, st⟩
            replace o_c := o_c.below st (Nat.le_refl _)
            replace o_d := o_d.below st (Nat.le_refl _)
            replace o_s := o_s.below st (Nat.le_refl _)
            replace o_b := o_b.below st (Nat.le_refl _)
            replace hB := hB.trans (st.mono hB.size)
            clear st
            go_wp2_with fail
            refine (implIsRecurrent_any _ _ _ _ _ o_s.has).mono ?_
            rw [HRB.out]
            rintro e v23 ⟨rfl, st⟩
            replace o_c := o_c.below st (Nat.le_refl _)
            replace o_d := o_d.below st (Nat.le_refl _)
            replace o_s := o_s.below st (Nat.le_refl _)
            replace o_b := o_b.below st (Nat.le_refl _)
            replace hB := hB.trans (st.mono hB.size)
            clear st
            by_cases hA : a1 = true
            · skip
              subst hA
              have hbb := HIM.out rfl
              subst hbb
              go_wp2_with fail
              refine (wSame_any _ _ _ _ _ _ _ _ _ o_b.has o_s.has).mono ?_
              rw [same_self]
              rintro e v24 ⟨rfl, q⟩
              have st : Below v23.heap.size v23 v24 := q.below _
              replace o_c := o_c.below st (Nat.le_refl _)
              replace o_d := o_d.below st (Nat.le_refl _)
              replace o_s := o_s.below st (Nat.le_refl _)
              replace o_b := o_b.below st (Nat.le_refl _)
              replace hB := hB.trans (st.mono hB.size)
              clear st
              clear q
              go_wp2_with fail
              go_ret
              exact ⟨rfl, hB⟩
            · skip
              have hA2 : a1 = false := Bool.eq_false_iff.2 hA
              subst hA2
              clear hA
              go_wp2_with fail
              refine (wSame_any _ _ _ _ _ _ _ _ _ o_b.has o_s.has).mono ?_
              rw [same_self]
              rintro e v24 ⟨rfl, q⟩
              have st : Below v23.heap.size v23 v24 := q.below _
              replace o_c := o_c.below st (Nat.le_refl _)
              replace o_d := o_d.below st (Nat.le_refl _)
              replace o_s := o_s.below st (Nat.le_refl _)
              replace o_b := o_b.below st (Nat.le_refl _)
              replace hB := hB.trans (st.mono hB.size)
              clear st
              clear q
              go_wp2_with fail
              go_ret
              exact ⟨rfl, hB⟩
          · skip
            have HN := hid (HLS.out hk)
            go_wp2_with fail
            refine (implRepeat_any _ _ _ _ _ _ o_e.has).mono ?_
            rw [HN.out]
            rintro e v14 ⟨a_x, n_x, c_x, rfl, o_x, st⟩
            replace o_c := o_c.below st (Nat.le_refl _)
            replace o_d := o_d.below st (Nat.le_refl _)
            replace o_s := o_s.below st (Nat.le_refl _)
            replace o_e := o_e.below st (Nat.le_refl _)
            replace o_m := o_m.below st (Nat.le_refl _)
            replace o_o := o_o.below st (Nat.le_refl _)
            replace hB := hB.trans (st.mono hB.size)
            clear st
            go_wp2_with fail
            refine (implAdd_any _ _ _ _ _ _ _ _ _ o_m.has o_e.has).mono ?_
            rw [HPL.out]
            rintro e v15 ⟨a_y, n_y, c_y, rfl, o_y, st⟩
            replace o_c := o_c.below st (Nat.le_refl _)
            replace o_d := o_d.below st (Nat.le_refl _)
            replace o_s := o_s.below st (Nat.le_refl _)
            replace o_e := o_e.below st (Nat.le_refl _)
            replace o_m := o_m.below st (Nat.le_refl _)
            replace o_o := o_o.below st (Nat.le_refl _)
            replace o_x := o_x.below st (Nat.le_refl _)
            replace hB := hB.trans (st.mono hB.size)
            clear st
            go_wp2_with fail
            refine (implAdd_any _ _ _ _ _ _ _ _ _ o_e.has o_o.has).mono ?_
            rw [HSM.out]
            rintro e v16 ⟨a_z, n_z, c_z, rfl, o_z, st⟩
            replace o_c := o_c.below st (Nat.le_refl _)
            replace o_d := o_d.below st (Nat.le_refl _)
            replace o_s := o_s.below st (Nat.le_refl _)
            replace o_e := o_e.below st (Nat.le_refl _)
            replace o_m := o_m.below st (Nat.le_refl _)
            replace o_o := o_o.below st (Nat.le_refl _)
            replace o_x := o_x.below st (Nat.le_refl _)
            replace o_y := o_y.below st (Nat.le_refl _)
            replace hB := hB.trans (st.mono hB.size)
            clear st
            go_wp2_with fail
            refine (wSame_any _ _ _ _ _ _ _ _ _ o_z.has o_e.has).mono ?_
            rw [same_self]
            rintro e v17 ⟨rfl, q⟩
            have st : Below v16.heap.size v16 v17 := q.below _
            replace o_c := o_c.below st (Nat.le_refl _)
            replace o_d := o_d.below st (Nat.le_refl _)
            replace o_s := o_s.below st (Nat.le_refl _)
            replace o_e := o_e.below st (Nat.le_refl _)
            replace o_m := o_m.below st (Nat.le_refl _)
            replace o_o := o_o.below st (Nat.le_refl _)
            replace o_x := o_x.below st (Nat.le_refl _)
            replace o_y := o_y.below st (Nat.le_refl _)
            replace o_z := o_z.below st (Nat.le_refl _)
            replace hB := hB.trans (st.mono hB.size)
            clear st
            clear q
            clear o_x o_y o_z o_m
            go_wp2_with fail
            refine (implRepeat_any _ _ _ _ _ _ o_e.has).mono ?_
            rw [HRD.out]
            rintro e v18 ⟨a_q, n_q, c_q, rfl, o_q, st⟩
            replace o_c := o_c.below st (Nat.le_refl _)
            replace o_d := o_d.below st (Nat.le_refl _)
            replace o_s := o_s.below st (Nat.le_refl _)
            replace o_e := o_e.below st (Nat.le_refl _)
            replace o_o := o_o.below st (Nat.le_refl _)
            replace hB := hB.trans (st.mono hB.size)
            clear st
            go_wp2_with fail
            refine (wSame_any _ _ _ _ _ _ _ _ _ o_q.has o_o.has).mono ?_
            rw [same_self]
            rintro e v19 ⟨rfl, q⟩
            have st : Below v18.heap.size v18 v19 := q.below _
            replace o_c := o_c.below st (Nat.le_refl _)
            replace o_d := o_d.below st (Nat.le_refl _)
            replace o_s := o_s.below st (Nat.le_refl _)
            replace o_e := o_e.below st (Nat.le_refl _)
            replace o_o := o_o.below st (Nat.le_refl _)
            replace o_q := o_q.below st (Nat.le_refl _)
            replace hB := hB.trans (st.mono hB.size)
            clear st
            clear q
            clear o_q o_o o_e
            go_wp2_with fail
            refine (implAdd_any _ _ _ _ _ _ _ _ _ o_d.has o_c.has).mono ?_
            rw [HBK.out]
            rintro e v20 ⟨a_b, n_b, c_b, rfl, o_b, st⟩
            replace o_c := o_c.below st (Nat.le_refl _)
            replace o_d := o_d.below st (Nat.le_refl _)
            replace o_s := o_s.below st (Nat.le_refl _)
            replace hB := hB.trans (st.mono hB.size)
            clear st
            go_wp2_with fail
            refine (implIsRecurrent_any _ _ _ _ _ o_c.has).mono ?_
            rw [HRA.out]
            rintro e v21 ⟨rfl, st⟩
            replace o_c := o_c.below st (Nat.le_refl _)
            replace o_d := o_d.below st (Nat.le_refl _)
            replace o_s := o_s.below st (Nat.le_refl _)
            replace o_b := o_b.below st (Nat.le_refl _)
            replace hB := hB.trans (st.mono hB.size)
            clear st
            go_wp2_with fail
            refine (implIsRecurrent_any _ _ _ _ _ o_s.has).mono ?_
            rw [HRB.out]
            rintro e v22 ⟨rfl, st⟩
            replace o_c := o_c.below st (Nat.le_refl _)
            replace o_d := o_d.below st (Nat.le_refl _)
            replace o_s := o_s.below st (Nat.le_refl _)
            replace o_b := o_b.below st (Nat.le_refl _)
            replace hB := hB.trans (st.mono hB.size)
            clear st
            by_cases hA : a1 = true
            · skip
              subst hA
              have hbb := HIM.out rfl
              subst hbb
              go_wp2_with fail
              refine (wSame_any _ _ _ _ _ _ _ _ _ o_b.has o_s.has).mono ?_
              rw [same_self]
              rintro e v23 ⟨rfl, q⟩
              have st : Below v22.heap.size v22 v23 := q.below _
              replace o_c := o_c.below st (Nat.le_refl _)
              replace o_d := o_d.below st (Nat.le_refl _)
              replace o_s := o_s.below st (Nat.le_refl _)
              replace o_b := o_b.below st (Nat.le_refl _)
              replace hB := hB.trans (st.mono hB.size)
              clear st
              clear q
              go_wp2_with fail
              go_ret
              exact ⟨rfl, hB⟩
            · skip
              have hA2 : a1 = false := Bool.eq_false_iff.2 hA
              subst hA2
              clear hA
              go_wp2_with fail
              refine (wSame_any _ _ _ _ _ _ _ _ _ o_b.has o_s.has).mono ?_
              rw [same_self]
              rintro e v23 ⟨rfl, q⟩
              have st : Below v22.heap.size v22 v23 := q.below _
              replace o_c := o_c.below st (Nat.le_refl _)
              replace o_d := o_d.below st (Nat.le_refl _)
              replace o_s := o_s.below st (Nat.le_refl _)
              replace o_b := o_b.below st (Nat.le_refl _)
              replace hB := hB.trans (st.mono hB.size)
              clear st
              clear q
              go_wp2_with fail
              go_ret
              exact ⟨rfl, hB⟩
      · skip
        have HRP := hid (repeatOf_no (Bool.eq_false_iff.2 ht))
        clear ht
        go_wp2_with fail
        refine (implRepeat_any _ _ _ _ _ _ o_e.has).mono ?_
        rw [HRP.out]
        rintro e v6 ⟨a_m, n_m, c_m, rfl, o_m, st⟩
        replace o_c := o_c.below st (Nat.le_refl _)
        replace o_d := o_d.below st (Nat.le_refl _)
        replace o_s := o_s.below st (Nat.le_refl _)
        replace o_e := o_e.below st (Nat.le_refl _)
        replace hB := hB.trans (st.mono hB.size)
        clear st
        go_wp2_with fail
        refine (specRepeat_any _ _ _ _ _ _ o_e.has).mono ?_
        rw [HRP.out]
        rintro e v7 ⟨a_w, n_w, c_w, rfl, o_w, st⟩
        replace o_c := o_c.below st (Nat.le_refl _)
        replace o_d := o_d.below st (Nat.le_refl _)
        replace o_s := o_s.below st (Nat.le_refl _)
        replace o_e := o_e.below st (Nat.le_refl _)
        replace o_m := o_m.below st (Nat.le_refl _)
        replace hB := hB.trans (st.mono hB.size)
        clear st
        go_wp2_with fail
        refine (drawRest_any b m cap' _ (HM.out.grow hB (Nat.le_refl _))).mono ?_
        rintro e v8 ⟨n1, rfl, st⟩
        replace o_c := o_c.below st (Nat.le_refl _)
        replace o_d := o_d.below st (Nat.le_refl _)
        replace o_s := o_s.below st (Nat.le_refl _)
        replace o_e := o_e.below st (Nat.le_refl _)
        replace o_m := o_m.below st (Nat.le_refl _)
        replace o_w := o_w.below st (Nat.le_refl _)
        replace hB := hB.trans (st.mono hB.size)
        clear st
        by_cases h1 : inB n1 0 8 = true
        · skip
          obtain ⟨m1, rfl, G⟩ := restF h1
          have HRO := hid G.out
          have HRC := hid G.rc
          have HTW := hid G.two
          clear G h1
          go_wp2_with fail
          refine (implRest_any _ _).mono ?_
          rw [HRO.out]
          rintro e v9 ⟨a_t, n_t, c_t, rfl, o_t, st⟩
          replace o_c := o_c.below st (Nat.le_refl _)
          replace o_d := o_d.below st (Nat.le_refl _)
          replace o_s := o_s.below st (Nat.le_refl _)
          replace o_e := o_e.below st (Nat.le_refl _)
          replace o_m := o_m.below st (Nat.le_refl _)
          replace o_w := o_w.below st (Nat.le_refl _)
          replace hB := hB.trans (st.mono hB.size)
          clear st
          go_wp2_with fail
          refine (specRest_any _ _).mono ?_
          rw [HRO.out]
          rintro e v10 ⟨a_u, n_u, c_u, rfl, o_u, st⟩
          replace o_c := o_c.below st (Nat.le_refl _)
          replace o_d := o_d.below st (Nat.le_refl _)
          replace o_s := o_s.below st (Nat.le_refl _)
          replace o_e := o_e.below st (Nat.le_refl _)
          replace o_m := o_m.below st (Nat.le_refl _)
          replace o_w := o_w.below st (Nat.le_refl _)
          replace o_t := o_t.below st (Nat.le_refl _)
          replace hB := hB.trans (st.mono hB.size)
          clear st
          go_wp2_with fail
          refine (wSame_any _ _ _ _ _ _ _ _ _ o_m.has o_w.has).mono ?_
          rw [same_self]
          rintro e v11 ⟨rfl, q⟩
          have st : Below v10.heap.size v10 v11 := q.below _
          replace o_c := o_c.below st (Nat.le_refl _)
          replace o_d := o_d.below st (Nat.le_refl _)
          replace o_s := o_s.below st (Nat.le_refl _)
          replace o_e := o_e.below st (Nat.le_refl _)
          replace o_m := o_m.below st (Nat.le_refl _)
          replace o_w := o_w.below st (Nat.le_refl _)
          replace o_t := o_t.below st (Nat.le_refl _)
          replace o_u := o_u.below st (Nat.le_refl _)
          replace hB := hB.trans (st.mono hB.size)
          clear st
          clear q
          go_wp2_with fail
          refine (wSame_any _ _ _ _ _ _ _ _ _ o_t.has o_u.has).mono ?_
          rw [same_self]
          rintro e v12 ⟨rfl, q⟩
          have st : Below v11.heap.size v11 v12 := q.below _
          replace o_c := o_c.below st (Nat.le_refl _)
          replace o_d := o_d.below st (Nat.le_refl _)
          replace o_s := o_s.below st (Nat.le_refl _)
          replace o_e := o_e.below st (Nat.le_refl _)
          replace o_m := o_m.below st (Nat.le_refl _)
          replace o_w := o_w.below st (Nat.le_refl _)
          replace o_t := o_t.below st (Nat.le_refl _)
          replace o_u := o_u.below st (Nat.le_refl _)
          replace hB := hB.trans (st.mono hB.size)
          clear st
          clear q
          clear o_w o_u
          go_wp2_with fail
          refine (implIsRecurrent_any _ _ _ _ _ o_t.has).mono ?_
          rw [HRC.out]
          rintro e v13 ⟨rfl, st⟩
          replace o_c := o_c.below st (Nat.le_refl _)
          replace o_d := o_d.below st (Nat.le_refl _)
          replace o_s := o_s.below st (Nat.le_refl _)
          replace o_e := o_e.below st (Nat.le_refl _)
          replace o_m := o_m.below st (Nat.le_refl _)
          replace o_t := o_t.below st (Nat.le_refl _)
          replace hB := hB.trans (st.mono hB.size)
          clear st
          go_wp2_with fail
          refine (implAdd_any _ _ _ _ _ _ _ _ _ o_t.has o_t.has).mono ?_
          rw [HTW.out]
          rintro e v14 ⟨a_v, n_v, c_v, rfl, o_v, st⟩
          replace o_c := o_c.below st (Nat.le_refl _)
          replace o_d := o_d.below st (Nat.le_refl _)
          replace o_s := o_s.below st (Nat.le_refl _)
          replace o_e := o_e.below st (Nat.le_refl _)
          replace o_m := o_m.below st (Nat.le_refl _)
          replace o_t := o_t.below st (Nat.le_refl _)
          replace hB := hB.trans (st.mono hB.size)
          clear st
          go_wp2_with fail
          refine (wSame_any _ _ _ _ _ _ _ _ _ o_v.has o_t.has).mono ?_
          rw [same_self]
          rintro e v15 ⟨rfl, q⟩
          have st : Below v14.heap.size v14 v15 := q.below _
          replace o_c := o_c.below st (Nat.le_refl _)
          replace o_d := o_d.below st (Nat.le_refl _)
          replace o_s := o_s.below st (Nat.le_refl _)
          replace o_e := o_e.below st (Nat.le_refl _)
          replace o_m := o_m.below st (Nat.le_refl _)
          replace o_t := o_t.below st (Nat.le_refl _)
          replace o_v := o_v.below st (Nat.le_refl _)
          replace hB := hB.trans (st.mono hB.size)
          clear st
          clear q
          clear o_v o_t
          clear o_m o_e
          go_wp2_with fail
          refine (implAdd_any _ _ _ _ _ _ _ _ _ o_d.has o_c.has).mono ?_
          rw [HBK.out]
          rintro e v16 ⟨a_b, n_b, c_b, rfl, o_b, st⟩
          replace o_c := o_c.below st (Nat.le_refl _)
          replace o_d := o_d.below st (Nat.le_refl _)
          replace o_s := o_s.below st (Nat.le_refl _)
          replace hB := hB.trans (st.mono hB.size)
          clear st
          go_wp2_with fail
          refine (implIsRecurrent_any _ _ _ _ _ o_c.has).mono ?_
          rw [HRA.out]
          rintro e v17 ⟨rfl, st⟩
          replace o_c := o_c.below st (Nat.le_refl _)
          replace o_d := o_d.below st (Nat.le_refl _)
          replace o_s := o_s.below st (Nat.le_refl _)
          replace o_b := o_b.below st (Nat.le_refl _)
          replace hB := hB.trans (st.mono hB.size)
          clear st
          go_wp2_with fail
          refine (implIsRecurrent_any _ _ _ _ _ o_s.has).mono ?_
          rw [HRB.out]
          rintro e v18 ⟨rfl, st⟩
          replace o_c := o_c.below st (Nat.le_refl _)
          replace o_d := o_d.below st (Nat.le_refl _)
          replace o_s := o_s.below st (Nat.le_refl _)
          replace o_b := o_b.below st (Nat.le_refl _)
          replace hB := hB.trans (st.mono hB.size)
          clear st
          by_cases hA : a1 = true
          · skip
            subst hA
            have hbb := HIM.out rfl
            subst hbb
            go_wp2_with fail
            refine (wSame_any _ _ _ _ _ _ _ _ _ o_b.has o_s.has).mono ?_
            rw [same_self]
            rintro e v19 ⟨rfl, q⟩
            have st : Below v18.heap.size v18 v19 := q.below _
            replace o_c := o_c.below st (Nat.le_refl _)
            replace o_d := o_d.below st (Nat.le_refl _)
            replace o_s := o_s.below st (Nat.le_refl _)
            replace o_b := o_b.below st (Nat.le_refl _)
            replace hB := hB.trans (st.mono hB.size)
            clear st
            clear q
            go_wp2_with fail
            go_ret
            exact ⟨rfl, hB⟩
          · skip
            have hA2 : a1 = false := Bool.eq_false_iff.2 hA
            subst hA2
            clear hA
            go_wp2_with fail
            refine (wSame_any _ _ _ _ _ _ _ _ _ o_b.has o_s.has).mono ?_
            rw [same_self]
            rintro e v19 ⟨rfl, q⟩
            have st : Below v18.heap.size v18 v19 := q.below _
            replace o_c := o_c.below st (Nat.le_refl _)
            replace o_d := o_d.below st (Nat.le_refl _)
            replace o_s := o_s.below st (Nat.le_refl _)
            replace o_b := o_b.below st (Nat.le_refl _)
            replace hB := hB.trans (st.mono hB.size)
            clear st
            clear q
            go_wp2_with fail
            go_ret
            exact ⟨rfl, hB⟩
        · skip
          have HRO := hid (rest_no h1)
          clear h1
          go_wp2_with fail
          refine (implRest_any _ _).mono ?_
          rw [HRO.out]
          rintro e v9 ⟨a_t, n_t, c_t, rfl, o_t, st⟩
          replace o_c := o_c.below st (Nat.le_refl _)
          replace o_d := o_d.below st (Nat.le_refl _)
          replace o_s := o_s.below st (Nat.le_refl _)
          replace o_e := o_e.below st (Nat.le_refl _)
          replace o_m := o_m.below st (Nat.le_refl _)
          replace o_w := o_w.below st (Nat.le_refl _)
          replace hB := hB.trans (st.mono hB.size)
          clear st
          go_wp2_with fail
          refine (specRest_any _ _).mono ?_
          rw [HRO.out]
          rintro e v10 ⟨a_u, n_u, c_u, rfl, o_u, st⟩
          replace o_c := o_c.below st (Nat.le_refl _)
          replace o_d := o_d.below st (Nat.le_refl _)
          replace o_s := o_s.below st (Nat.le_refl _)
          replace o_e := o_e.below st (Nat.le_refl _)
          replace o_m := o_m.below st (Nat.le_refl _)
          replace o_w := o_w.below st (Nat.le_refl _)
          replace o_t := o_t.below st (Nat.le_refl _)
          replace hB := hB.trans (st.mono hB.size)
          clear st
          go_wp2_with fail
          refine (wSame_any _ _ _ _ _ _ _ _ _ o_m.has o_w.has).mono ?_
          rw [same_self]
          rintro e v11 ⟨rfl, q⟩
          have st : Below v10.heap.size v10 v11 := q.below _
          replace o_c := o_c.below st (Nat.le_refl _)
          replace o_d := o_d.below st (Nat.le_refl _)
          replace o_s := o_s.below st (Nat.le_refl _)
          replace o_e := o_e.below st (Nat.le_refl _)
          replace o_m := o_m.below st (Nat.le_refl _)
          replace o_w := o_w.below st (Nat.le_refl _)
          replace o_t := o_t.below st (Nat.le_refl _)
          replace o_u := o_u.below st (Nat.le_refl _)
          replace hB := hB.trans (st.mono hB.size)
          clear st
          clear q
          go_wp2_with fail
          refine (wSame_any _ _ _ _ _ _ _ _ _ o_t.has o_u.has).mono ?_
          rw [same_self]
          rintro e v12 ⟨rfl, q⟩
          have st : Below v11.heap.size v11 v12 := q.below _
          replace o_c := o_c.below st (Nat.le_refl _)
          replace o_d := o_d.below st (Nat.le_refl _)
          replace o_s := o_s.below st (Nat.le_refl _)
          replace o_e := o_e.below st (Nat.le_refl _)
          replace o_m := o_m.below st (Nat.le_refl _)
          replace o_w := o_w.below st (Nat.le_refl _)
          replace o_t := o_t.below st (Nat.le_refl _)
          replace o_u := o_u.below st (Nat.le_refl _)
          replace hB := hB.trans (st.mono hB.size)
          clear st
          clear q
          clear o_w o_u o_t
          clear o_m o_e
          go_wp2_with fail
          refine (implAdd_any _ _ _ _ _ _ _ _ _ o_d.has o_c.has).mono ?_
          rw [HBK.out]
          rintro e v13 ⟨a_b, n_b, c_b, rfl, o_b, st⟩
          replace o_c := o_c.below st (Nat.le_refl _)
          replace o_d := o_d.below st (Nat.le_refl _)
          replace o_s := o_s.below st (Nat.le_refl _)
          replace hB := hB.trans (st.mono hB.size)
          clear st
          go_wp2_with fail
          refine (implIsRecurrent_any _ _ _ _ _ o_c.has).mono ?_
          rw [HRA.out]
          rintro e v14 ⟨rfl, st⟩
          replace o_c := o_c.below st (Nat.le_refl _)
          replace o_d := o_d.below st (Nat.le_refl _)
          replace o_s := o_s.below st (Nat.le_refl _)
          replace o_b := o_b.below st (Nat.le_refl _)
          replace hB := hB.trans (st.mono hB.size)
          clear st
          go_wp2_with fail
          refine (implIsRecurrent_any _ _ _ _ _ o_s.has).mono ?_
          rw [HRB.out]
          rintro e v15 ⟨rfl, st⟩
          replace o_c := o_c.below st (Nat.le_refl _)
          replace o_d := o_d.below st (Nat.le_refl _)
          replace o_s := o_s.below st (Nat.le_refl _)
          replace o_b := o_b.below st (Nat.le_refl _)
          replace hB := hB.trans (st.mono hB.size)
          clear st
          by_cases hA : a1 = true
          · skip
            subst hA
            have hbb := HIM.out rfl
            subst hbb
            go_wp2_with fail
            refine (wSame_any _ _ _ _ _ _ _ _ _ o_b.has o_s.has).mono ?_
            rw [same_self]
            rintro e v16 ⟨rfl, q⟩
            have st : Below v15.heap.size v15 v16 := q.below _
            replace o_c := o_c.below st (Nat.le_refl _)
            replace o_d := o_d.below st (Nat.le_refl _)
            replace o_s := o_s.below st (Nat.le_refl _)
            replace o_b := o_b.below st (Nat.le_refl _)
            replace hB := hB.trans (st.mono hB.size)
            clear st
            clear q
            go_wp2_with fail
            go_ret
            exact ⟨rfl, hB⟩
          · skip
            have hA2 : a1 = false := Bool.eq_false_iff.2 hA
            subst hA2
            clear hA
            go_wp2_with fail
            refine (wSame_any _ _ _ _ _ _ _ _ _ o_b.has o_s.has).mono ?_
            rw [same_self]
            rintro e v16 ⟨rfl, q⟩
            have st : Below v15.heap.size v15 v16 := q.below _
            replace o_c := o_c.below st (Nat.le_refl _)
            replace o_d := o_d.below st (Nat.le_refl _)
            replace o_s := o_s.below st (Nat.le_refl _)
            replace o_b := o_b.below st (Nat.le_refl _)
            replace hB := hB.trans (st.mono hB.size)
            clear st
            clear q
            go_wp2_with fail
            go_ret
            exact ⟨rfl, hB⟩
    · skip
      have HAD := hid (addOf_no (Bool.eq_false_iff.2 hf))
      clear hf
      go_wp2_with fail
      refine (implAdd_any _ _ _ _ _ _ _ _ _ o_c.has o_d.has).mono ?_
      rw [HAD.out]
      rintro e v2 ⟨a_s, n_s, c_s, rfl, o_s, st⟩
      replace o_c := o_c.below st (Nat.le_refl _)
      replace o_d := o_d.below st (Nat.le_refl _)
      replace hB := hB.trans (st.mono hB.size)
      clear st
      go_wp2_with fail
      refine (specAdd_any _ _ _ _ _ _ _ _ _ o_c.has o_d.has).mono ?_
      rw [HAD.out]
      rintro e v3 ⟨a_r, n_r, c_r, rfl, o_r, st⟩
      replace o_c := o_c.below st (Nat.le_refl _)
      replace o_d := o_d.below st (Nat.le_refl _)
      replace o_s := o_s.below st (Nat.le_refl _)
      replace hB := hB.trans (st.mono hB.size)
      clear st
      go_wp2_with fail
      refine (wSame_any _ _ _ _ _ _ _ _ _ o_s.has o_r.has).mono ?_
      rw [same_self]
      rintro e v4 ⟨rfl, q⟩
      have st : Below v3.heap.size v3 v4 := q.below _
      replace o_c := o_c.below st (Nat.le_refl _)
      replace o_d := o_d.below st (Nat.le_refl _)
      replace o_s := o_s.below st (Nat.le_refl _)
      replace o_r := o_r.below st (Nat.le_refl _)
      replace hB := hB.trans (st.mono hB.size)
      clear st
      clear q
      clear o_r
      go_wp2_with fail
      refine (drawRep_any b m cap' _ (HM.out.grow hB (Nat.le_refl _))).mono ?_
      rintro e v5 ⟨a_e, n_e, c_e, es, k, rfl, o_e, hne, hk0, hk1, st⟩
      replace o_c := o_c.below st (Nat.le_refl _)
      replace o_d := o_d.below st (Nat.le_refl _)
      replace o_s := o_s.below st (Nat.le_refl _)
      replace hB := hB.trans (st.mono hB.size)
      clear st
      have HLE := hid o_e.len
      by_cases ht : (repeatOf es k).2 = true
      · skip
        obtain ⟨K, rfl, F⟩ := repF HLE.out ht
        have HRP := hid F.out
        have HOW := hid F.own
        have HNX := hid F.nxt
        have HLS := hid F.lost
        have HPL := hid F.add
        have HSM := hid F.same
        have HRD := hid F.round
        have hK := F.le
        have he8 := F.h8
        clear F ht
        go_wp2_with fail
        refine (implRepeat_any _ _ _ _ _ _ o_e.has).mono ?_
        rw [HRP.out]
        rintro e v6 ⟨a_m, n_m, c_m, rfl, o_m, st⟩
        replace o_c := o_c.below st (Nat.le_refl _)
        replace o_d := o_d.below st (Nat.le_refl _)
        replace o_s := o_s.below st (Nat.le_refl _)
        replace o_e := o_e.below st (Nat.le_refl _)
        replace hB := hB.trans (st.mono hB.size)
        clear st
        go_wp2_with fail
        refine (specRepeat_any _ _ _ _ _ _ o_e.has).mono ?_
        rw [HRP.out]
        rintro e v7 ⟨a_w, n_w, c_w, rfl, o_w, st⟩
        replace o_c := o_c.below st (Nat.le_refl _)
        replace o_d := o_d.below st (Nat.le_refl _)
        replace o_s := o_s.below st (Nat.le_refl _)
        replace o_e := o_e.below st (Nat.le_refl _)
        replace o_m := o_m.below st (Nat.le_refl _)
        replace hB := hB.trans (st.mono hB.size)
        clear st
        go_wp2_with fail
        refine (drawRest_any b m cap' _ (HM.out.grow hB (Nat.le_refl _))).mono ?_
        rintro e v8 ⟨n1, rfl, st⟩
        replace o_c := o_c.below st (Nat.le_refl _)
        replace o_d := o_d.below st (Nat.le_refl _)
        replace o_s := o_s.below st (Nat.le_refl _)
        replace o_e := o_e.below st (Nat.le_refl _)
        replace o_m := o_m.below st (Nat.le_refl _)
        replace o_w := o_w.below st (Nat.le_refl _)
        replace hB := hB.trans (st.mono hB.size)
        clear st
        by_cases h1 : inB n1 0 8 = true
        · skip
          obtain ⟨m1, rfl, G⟩ := restF h1
          have HRO := hid G.out
          have HRC := hid G.rc
          have HTW := hid G.two
          clear G h1
          go_wp2_with fail
          refine (implRest_any _ _).mono ?_
          rw [HRO.out]
          rintro e v9 ⟨a_t, n_t, c_t, rfl, o_t, st⟩
          replace o_c := o_c.below st (Nat.le_refl _)
          replace o_d := o_d.below st (Nat.le_refl _)
          replace o_s := o_s.below st (Nat.le_refl _)
          replace o_e := o_e.below st (Nat.le_refl _)
          replace o_m := o_m.below st (Nat.le_refl _)
          replace o_w := o_w.below st (Nat.le_refl _)
          replace hB := hB.trans (st.mono hB.size)
          clear st
          go_wp2_with fail
          refine (specRest_any _ _).mono ?_
          rw [HRO.out]
          rintro e v10 ⟨a_u, n_u, c_u, rfl, o_u, st⟩
          replace o_c := o_c.below st (Nat.le_refl _)
          replace o_d := o_d.below st (Nat.le_refl _)
          replace o_s := o_s.below st (Nat.le_refl _)
          replace o_e := o_e.below st (Nat.le_refl _)
          replace o_m := o_m.below st (Nat.le_refl _)
          replace o_w := o_w.below st (Nat.le_refl _)
          replace o_t := o_t.below st (Nat.le_refl _)
          replace hB := hB.trans (st.mono hB.size)
          clear st
          go_wp2_with fail
          refine (wSame_any _ _ _ _ _ _ _ _ _ o_m.has o_w.has).mono ?_
          rw [same_self]
          rintro e v11 ⟨rfl, q⟩
          have st : Below v10.heap.size v10 v11 := q.below _
          replace o_c := o_c.below st (Nat.le_refl _)
          replace o_d := o_d.below st (Nat.le_refl _)
          replace o_s := o_s.below st (Nat.le_refl _)
          replace o_e := o_e.below st (Nat.le_refl _)
          replace o_m := o_m.below st (Nat.le_refl _)
          replace o_w := o_w.below st (Nat.le_refl _)
          replace o_t := o_t.below st (Nat.le_refl _)
          replace o_u := o_u.below st (Nat.le_refl _)
          replace hB := hB.trans (st.mono hB.size)
          clear st
          clear q
          go_wp2_with fail
          refine (wSame_any _ _ _ _ _ _ _ _ _ o_t.has o_u.has).mono ?_
          rw [same_self]
          rintro e v12 ⟨rfl, q⟩
          have st : Below v11.heap.size v11 v12 := q.below _
          replace o_c := o_c.below st (Nat.le_refl _)
          replace o_d := o_d.below st (Nat.le_refl _)
          replace o_s := o_s.below st (Nat.le_refl _)
          replace o_e := o_e.below st (Nat.le_refl _)
          replace o_m := o_m.below st (Nat.le_refl _)
          replace o_w := o_w.below st (Nat.le_refl _)
          replace o_t := o_t.below st (Nat.le_refl _)
          replace o_u := o_u.below st (Nat.le_refl _)
          replace hB := hB.trans (st.mono hB.size)
          clear st
          clear q
          clear o_w o_u
          go_wp2_with fail
          refine (implIsRecurrent_any _ _ _ _ _ o_t.has).mono ?_
          rw [HRC.out]
          rintro e v13 ⟨rfl, st⟩
          replace o_c := o_c.below st (Nat.le_refl _)
          replace o_d := o_d.below st (Nat.le_refl _)
          replace o_s := o_s.below st (Nat.le_refl _)
          replace o_e := o_e.below st (Nat.le_refl _)
          replace o_m := o_m.below st (Nat.le_refl _)
          replace o_t := o_t.below st (Nat.le_refl _)
          replace hB := hB.trans (st.mono hB.size)
          clear st
          go_wp2_with fail
          refine (implAdd_any _ _ _ _ _ _ _ _ _ o_t.has o_t.has).mono ?_
          rw [HTW.out]
          rintro e v14 ⟨a_v, n_v, c_v, rfl, o_v, st⟩
          replace o_c := o_c.below st (Nat.le_refl _)
          replace o_d := o_d.below st (Nat.le_refl _)
          replace o_s := o_s.below st (Nat.le_refl _)
          replace o_e := o_e.below st (Nat.le_refl _)
          replace o_m := o_m.below st (Nat.le_refl _)
          replace o_t := o_t.below st (Nat.le_refl _)
          replace hB := hB.trans (st.mono hB.size)
          clear st
          go_wp2_with fail
          refine (wSame_any _ _ _ _ _ _ _ _ _ o_v.has o_t.has).mono ?_
          rw [same_self]
          rintro e v15 ⟨rfl, q⟩
          have st : Below v14.heap.size v14 v15 := q.below _
          replace o_c := o_c.below st (Nat.le_refl _)
          replace o_d := o_d.below st (Nat.le_refl _)
          replace o_s := o_s.below st (Nat.le_refl _)
          replace o_e := o_e.below st (Nat.le_refl _)
          replace o_m := o_m.below st (Nat.le_refl _)
          replace o_t := o_t.below st (Nat.le_refl _)
          replace o_v := o_v.below st (Nat.le_refl _)
          replace hB := hB.trans (st.mono hB.size)
          clear st
          clear q
          clear o_v o_t
          go_wp2_with fail
          refine (implRest_any _ _).mono ?_
          rw [HOW.out]
          rintro e v16 ⟨a_o, n_o, c_o, rfl, o_o, st⟩
          replace o_c := o_c.below st (Nat.le_refl _)
          replace o_d := o_d.below st (Nat.le_refl _)
          replace o_s := o_s.below st (Nat.le_refl _)
          replace o_e := o_e.below st (Nat.le_refl _)
          replace o_m := o_m.below st (Nat.le_refl _)
          replace hB := hB.trans (st.mono hB.size)
          clear st
          by_cases hk : K + 1 ≤ 1000
          · skip
            have HN := hid (HNX.out hk)
            go_wp2_with fail
            refine (implRepeat_any _ _ _ _ _ _ o_e.has).mono ?_
            rw [HN.out]
            rintro e v17 ⟨a_x, n_x, c_x, rfl, o_x, st⟩
            replace o_c := o_c.below st (Nat.le_refl _)
            replace o_d := o_d.below st (Nat.le_refl _)
            replace o_s := o_s.below st (Nat.le_refl _)
            replace o_e := o_e.below st (Nat.le_refl _)
            replace o_m := o_m.below st (Nat.le_refl _)
            replace o_o := o_o.below st (Nat.le_refl _)
            replace hB := hB.trans (st.mono hB.size)
            clear st
            go_wp2_with fail
            refine (implAdd_any _ _ _ _ _ _ _ _ _ o_m.has o_e.has).mono ?_
            rw [HPL.out]
            rintro e v18 ⟨a_y, n_y, c_y, rfl, o_y, st⟩
            replace o_c := o_c.below st (Nat.le_refl _)
            replace o_d := o_d.below st (Nat.le_refl _)
            replace o_s := o_s.below st (Nat.le_refl _)
            replace o_e := o_e.below st (Nat.le_refl _)
            replace o_m := o_m.below st (Nat.le_refl _)
            replace o_o := o_o.below st (Nat.le_refl _)
            replace o_x := o_x.below st (Nat.le_refl _)
            replace hB := hB.trans (st.mono hB.size)
            clear st
            go_wp2_with fail
            refine (implAdd_any _ _ _ _ _ _ _ _ _ o_e.has o_o.has).mono ?_
            rw [HSM.out]
            rintro e v19 ⟨a_z, n_z, c_z, rfl, o_z, st⟩
            replace o_c := o_c.below st (Nat.le_refl _)
            replace o_d := o_d.below st (Nat.le_refl _)
            replace o_s := o_s.below st (Nat.le_refl _)
            replace o_e := o_e.below st (Nat.le_refl _)
            replace o_m := o_m.below st (Nat.le_refl _)
            replace o_o := o_o.below st (Nat.le_refl _)
            replace o_x := o_x.below st (Nat.le_refl _)
            replace o_y := o_y.below st (Nat.le_refl _)
            replace hB := hB.trans (st.mono hB.size)
            clear st
            go_wp2_with fail
            refine (wSame_any _ _ _ _ _ _ _ _ _ o_x.has o_y.has).mono ?_
            rw [same_self]
            rintro e v20 ⟨rfl, q⟩
            have st : Below v19.heap.size v19 v20 := q.below _
            replace o_c := o_c.below st (Nat.le_refl _)
            replace o_d := o_d.below st (Nat.le_refl _)
            replace o_s := o_s.below st (Nat.le_refl _)
            replace o_e := o_e.below st (Nat.le_refl _)
            replace o_m := o_m.below st (Nat.le_refl _)
            replace o_o := o_o.below st (Nat.le_refl _)
            replace o_x := o_x.below st (Nat.le_refl _)
            replace o_y := o_y.below st (Nat.le_refl _)
            replace o_z := o_z.below st (Nat.le_refl _)
            replace hB := hB.trans (st.mono hB.size)
            clear st
            clear q
            go_wp2_with fail
            refine (wSame_any _ _ _ _ _ _ _ _ _ o_z.has o_e.has).mono ?_
            rw [same_self]
            rintro e v21 ⟨rfl, q⟩
            have st : Below v20.heap.size v20 v21 := q.below _
            replace o_c := o_c.below st (Nat.le_refl _)
            replace o_d := o_d.below st (Nat.le_refl _)
            replace o_s := o_s.below st (Nat.le_refl _)
            replace o_e := o_e.below st (Nat.le_refl _)
            replace o_m := o_m.below st (Nat.le_refl _)
            replace o_o := o_o.below st (Nat.le_refl _)
            replace o_x := o_x.below st (Nat.le_refl _)
            replace o_y := o_y.below st (Nat.le_refl _)
            replace o_z := o_z.below st (Nat.le_refl _)
            replace hB := hB.trans (st.mono hB.size)
            clear st
            clear q
            clear o_x o_y o_z o_m
            go_wp2_with fail
            refine (implRepeat_any _ _ _ _ _ _ o_e.has).mono ?_
            rw [HRD.out]
            rintro e v22 ⟨a_q, n_q, c_q, rfl, o_q, st⟩
            replace o_c := o_c.below st (Nat.le_refl _)
            replace o_d := o_d.below st (Nat.le_refl _)
            replace o_s := o_s.below st (Nat.le_refl _)
            replace o_e := o_e.below st (Nat.le_refl _)
            replace o_o := o_o.below st (Nat.le_refl _)
            replace hB := hB.trans (st.mono hB.size)
            clear st
            go_wp2_with fail
            refine (wSame_any _ _ _ _ _ _ _ _ _ o_q.has o_o.has).mono ?_
            rw [same_self]
            rintro e v23 ⟨rfl, q⟩
            have st : Below v22.heap.size v22 v23 := q.below _
            replace o_c := o_c.below st (Nat.le_refl _)
            replace o_d := o_d.below st (Nat.le_refl _)
            replace o_s := o_s.below st (Nat.le_refl _)
            replace o_e := o_e.below st (Nat.le_refl _)
            replace o_o := o_o.below st (Nat.le_refl _)
            replace o_q := o_q.below st (Nat.le_refl _)
            replace hB := hB.trans (st.mono hB.size)
            clear st
            clear q
            clear o_q o_o o_e
            go_wp2_with fail
            go_ret
            exact ⟨rfl, hB⟩
          · skip
            have HN := hid (HLS.out hk)
            go_wp2_with fail
            refine (implRepeat_any _ _ _ _ _ _ o_e.has).mono ?_
            rw [HN.out]
            rintro e v17 ⟨a_x, n_x, c_x, rfl, o_x, st⟩
            replace o_c := o_c.below st (Nat.le_refl _)
            replace o_d := o_d.below st (Nat.le_refl _)
            replace o_s := o_s.below st (Nat.le_refl _)
            replace o_e := o_e.below st (Nat.le_refl _)
            replace o_m := o_m.below st (Nat.le_refl _)
            replace o_o := o_o.below st (Nat.le_refl _)
            replace hB := hB.trans (st.mono hB.size)
            clear st
            go_wp2_with fail
            refine (implAdd_any _ _ _ _ _ _ _ _ _ o_m.has o_e.has).mono ?_
            rw [HPL.out]
            rintro e v18 ⟨a_y, n_y, c_y, rfl, o_y, st⟩
            replace o_c := o_c.below st (Nat.le_refl _)
            replace o_d := o_d.below st (Nat.le_refl _)
            replace o_s := o_s.below st (Nat.le_refl _)
            replace o_e := o_e.below st (Nat.le_refl _)
            replace o_m := o_m.below st (Nat.le_refl _)
            replace o_o := o_o.below st (Nat.le_refl _)
            replace o_x := o_x.below st (Nat.le_refl _)
            replace hB := hB.trans (st.mono hB.size)
            clear st
            go_wp2_with fail
            refine (implAdd_any _ _ _ _ _ _ _ _ _ o_e.has o_o.has).mono ?_
            rw [HSM.out]
            rintro e v19 ⟨a_z, n_z, c_z, rfl, o_z, st⟩
            replace o_c := o_c.below st (Nat.le_refl _)
            replace o_d := o_d.below st (Nat.le_refl _)
            replace o_s := o_s.below st (Nat.le_refl _)
            replace o_e := o_e.below st (Nat.le_refl _)
            replace o_m := o_m.below st (Nat.le_refl _)
            replace o_o := o_o.below st (Nat.le_refl _)
            replace o_x := o_x.below st (Nat.le_refl _)
            replace o_y := o_y.below st (Nat.le_refl _)
            replace hB := hB.trans (st.mono hB.size)
            clear st
            go_wp2_with fail
            refine (wSame_any _ _ _ _ _ _ _ _ _ o_z.has o_e.has).mono ?_
            rw [same_self]
            rintro e v20 ⟨rfl, q⟩
            have st : Below v19.heap.size v19 v20 := q.below _
            replace o_c := o_c.below st (Nat.le_refl _)
            replace o_d := o_d.below st (Nat.le_refl _)
            replace o_s := o_s.below st (Nat.le_refl _)
            replace o_e := o_e.below st (Nat.le_refl _)
            replace o_m := o_m.below st (Nat.le_refl _)
            replace o_o := o_o.below st (Nat.le_refl _)
            replace o_x := o_x.below st (Nat.le_refl _)
            replace o_y := o_y.below st (Nat.le_refl _)
            replace o_z := o_z.below st (Nat.le_refl _)
            replace hB := hB.trans (st.mono hB.size)
            clear st
            clear q
            clear o_x o_y o_z o_m
            go_wp2_with fail
            refine (implRepeat_any _ _ _ _ _ _ o_e.has).mono ?_
            rw [HRD.out]
            rintro e v21 ⟨a_q, n_q, c_q, rfl, o_q, st⟩
            replace o_c := o_c.below st (Nat.le_refl _)
            replace o_d := o_d.below st (Nat.le_refl _)
            replace o_s := o_s.below st (Nat.le_refl _)
            replace o_e := o_e.below st (Nat.le_refl _)
            replace o_o := o_o.below st (Nat.le_refl _)
            replace hB := hB.trans (st.mono hB.size)
            clear st
            go_wp2_with fail
            refine (wSame_any _ _ _ _ _ _ _ _ _ o_q.has o_o.has).mono ?_
            rw [same_self]
            rintro e v22 ⟨rfl, q⟩
            have st : Below v21.heap.size v21 v22 := q.below _
            replace o_c := o_c.below st (Nat.le_refl _)
            replace o_d := o_d.below st (Nat.le_refl _)
            replace o_s := o_s.below st (Nat.le_refl _)
            replace o_e := o_e.below st (Nat.le_refl _)
            replace o_o := o_o.below st (Nat.le_refl _)
            replace o_q := o_q.below st (Nat.le_refl _)
            replace hB := hB.trans (st.mono hB.size)
            clear st
            clear q
            clear o_q o_o o_e
            go_wp2_with fail
            go_ret
            exact ⟨rfl, hB⟩
        · skip
          have HRO := hid (rest_no h1)
          clear h1
          go_wp2_with fail
          refine (implRest_any _ _).mono ?_
          rw [HRO.out]
          rintro e v9 ⟨a_t, n_t, c_t, rfl, o_t, st⟩
          replace o_c := o_c.below st (Nat.le_refl _)
          replace o_d := o_d.below st (Nat.le_refl _)
          replace o_s := o_s.below st (Nat.le_refl _)
          replace o_e := o_e.below st (Nat.le_refl _)
          replace o_m := o_m.below st (Nat.le_refl _)
          replace o_w := o_w.below st (Nat.le_refl _)
          replace hB := hB.trans (st.mono hB.size)
          clear st
          go_wp2_with fail
          refine (specRest_any _ _).mono ?_
          rw [HRO.out]
          rintro e v10 ⟨a_u, n_u, c_u, rfl, o_u, st⟩
          replace o_c := o_c.below st (Nat.le_refl _)
          replace o_d := o_d.below st (Nat.le_refl _)
          replace o_s := o_s.below st (Nat.le_refl _)
          replace o_e := o_e.below st (Nat.le_refl _)
          replace o_m := o_m.below st (Nat.le_refl _)
          replace o_w := o_w.below st (Nat.le_refl _)
          replace o_t := o_t.below st (Nat.le_refl _)
          replace hB := hB.trans (st.mono hB.size)
          clear st
          go_wp2_with fail
          refine (wSame_any _ _ _ _ _ _ _ _ _ o_m.has o_w.has).mono ?_
          rw [same_self]
          rintro e v11 ⟨rfl, q⟩
          have st : Below v10.heap.size v10 v11 := q.below _
          replace o_c := o_c.below st (Nat.le_refl _)
          replace o_d := o_d.below st (Nat.le_refl _)
          replace o_s := o_s.below st (Nat.le_refl _)
          replace o_e := o_e.below st (Nat.le_refl _)
          replace o_m := o_m.below st (Nat.le_refl _)
          replace o_w := o_w.below st (Nat.le_refl _)
          replace o_t := o_t.below st (Nat.le_refl _)
          replace o_u := o_u.below st (Nat.le_refl _)
          replace hB := hB.trans (st.mono hB.size)
          clear st
          clear q
          go_wp2_with fail
          refine (wSame_any _ _ _ _ _ _ _ _ _ o_t.has o_u.has).mono ?_
          rw [same_self]
          rintro e v12 ⟨rfl, q⟩
          have st : Below v11.heap.size v11 v12 := q.below _
          replace o_c := o_c.below st (Nat.le_refl _)
          replace o_d := o_d.below st (Nat.le_refl _)
          replace o_s := o_s.below st (Nat.le_refl _)
          replace o_e := o_e.below st (Nat.le_refl _)
          replace o_m := o_m.below st (Nat.le_refl _)
          replace o_w := o_w.below st (Nat.le_refl _)
          replace o_t := o_t.below st (Nat.le_refl _)
          replace o_u := o_u.below st (Nat.le_refl _)
          replace hB := hB.trans (st.mono hB.size)
          clear st
          clear q
          clear o_w o_u o_t
          go_wp2_with fail
          refine (implRest_any _ _).mono ?_
          rw [HOW.out]
          rintro e v13 ⟨a_o, n_o, c_o, rfl, o_o, st⟩
          replace o_c := o_c.below st (Nat.le_refl _)
          replace o_d := o_d.below st (Nat.le_refl _)
          replace o_s := o_s.below st (Nat.le_refl _)
          replace o_e := o_e.below st (Nat.le_refl _)
          replace o_m := o_m.below st (Nat.le_refl _)
          replace hB := hB.trans (st.mono hB.size)
          clear st
          by_cases hk : K + 1 ≤ 1000
          · skip
            have HN := hid (HNX.out hk)
            go_wp2_with fail
            refine (implRepeat_any _ _ _ _ _ _ o_e.has).mono ?_
            rw [HN.out]
            rintro e v14 ⟨a_x, n_x, c_x, rfl, o_x, st⟩
            replace o_c := o_c.below st (Nat.le_refl _)
            replace o_d := o_d.below st (Nat.le_refl _)
            replace o_s := o_s.below st (Nat.le_refl _)
            replace o_e := o_e.below st (Nat.le_refl _)
            replace o_m := o_m.below st (Nat.le_refl _)
            replace o_o := o_o.below st (Nat.le_refl _)
            replace hB := hB.trans (st.mono hB.size)
            clear st
            go_wp2_with fail
            refine (implAdd_any _ _ _ _ _ _ _ _ _ o_m.has o_e.has).mono ?_
            rw [HPL.out]
            rintro e v15 ⟨a_y, n_y, c_y, rfl, o_y, st⟩
            replace o_c := o_c.below st (Nat.le_refl _)
            replace o_d := o_d.below st (Nat.le_refl _)
            replace o_s := o_s.below st (Nat.le_refl _)
            replace o_e := o_e.below st (Nat.le_refl _)
            replace o_m := o_m.below st (Nat.le_refl _)
            replace o_o := o_o.below st (Nat.le_refl _)
            replace o_x := o_x.below st (Nat.le_refl _)
            replace hB := hB.trans (st.mono hB.size)
            clear st
            go_wp2_with fail
            refine (implAdd_any _ _ _ _ _ _ _ _ _ o_e.has o_o.has).mono ?_
            rw [HSM.out]
            rintro e v16 ⟨a_z, n_z, c_z, rfl, o_z, st⟩
            replace o_c := o_c.below st (Nat.le_refl _)
            replace o_d := o_d.below st (Nat.le_refl _)
            replace o_s := o_s.below st (Nat.le_refl _)
            replace o_e := o_e.below st (Nat.le_refl _)
            replace o_m := o_m.below st (Nat.le_refl _)
            replace o_o := o_o.below st (Nat.le_refl _)
            replace o_x := o_x.below st (Nat.le_refl _)
            replace o_y := o_y.below st (Nat.le_refl _)
            replace hB := hB.trans (st.mono hB.size)
            clear st
            go_wp2_with fail
            refine (wSame_any _ _ _ _ _ _ _ _ _ o_x.has o_y.has).mono ?_
            rw [same_self]
            rintro e v17 ⟨rfl, q⟩
            have st : Below v16.heap.size v16 v17 := q.below _
            replace o_c := o_c.below st (Nat.le_refl _)
            replace o_d := o_d.below st (Nat.le_refl _)
            replace o_s := o_s.below st (Nat.le_refl _)
            replace o_e := o_e.below st (Nat.le_refl _)
            replace o_m := o_m.below st (Nat.le_refl _)
            replace o_o := o_o.below st (Nat.le_refl _)
            replace o_x := o_x.below st (Nat.le_refl _)
            replace o_y := o_y.below st (Nat.le_refl _)
            replace o_z := o_z.below st (Nat.le_refl _)
            replace hB := hB.trans (st.mono hB.size)
            clear st
            clear q
            go_wp2_with fail
            refine (wSame_any _ _ _ _ _ _ _ _ _ o_z.has o_e.has).mono ?_
            rw [same_self]
            rintro e v18 ⟨rfl, q⟩
            have st : Below v17.heap.size v17 v18 := q.below _
            replace o_c := o_c.below st (Nat.le_refl _)
            replace o_d := o_d.below st (Nat.le_refl _)
            replace o_s := o_s.below st (Nat.le_refl _)
            replace o_e := o_e.below st (Nat.le_refl _)
            replace o_m := o_m.below st (Nat.le_refl _)
            replace o_o := o_o.below st (Nat.le_refl _)
            replace o_x := o_x.below st (Nat.le_refl _)
            replace o_y := o_y.below st (Nat.le_refl _)
            replace o_z := o_z.below st (Nat.le_refl _)
            replace hB := hB.trans (st.mono hB.size)
            clear st
            clear q
            clear o_x o_y o_z o_m
            go_wp2_with fail
            refine (implRepeat_any _ _ _ _ _ _ o_e.has).mono ?_
            rw [HRD.out]
            rintro e v19 ⟨a_q, n_q, c_q, rfl, o_q, st⟩
            replace o_c := o_c.below st (Nat.le_refl _)
            replace o_d := o_d.below st (Nat.le_refl _)
            replace o_s := o_s.below st (Nat.le_refl _)
            replace o_e := o_e.below st (Nat.le_refl _)
            replace o_o := o_o.below st (Nat.le_refl _)
            replace hB := hB.trans (st.mono hB.size)
            clear st
            go_wp2_with fail
            refine (wSame_any _ _ _ _ _ _ _ _ _ o_q.has o_o.has).mono ?_
            rw [same_self]
            rintro e v20 ⟨rfl, q⟩
            have st : Below v19.heap.size v19 v20 := q.below _
            replace o_c := o_c.below st (Nat.le_refl _)
            replace o_d := o_d.below st (Nat.le_refl _)
            replace o_s := o_s.below st (Nat.le_refl _)
            replace o_e := o_e.below st (Nat.le_refl _)
            replace o_o := o_o.below st (Nat.le_refl _)
            replace o_q := o_q.below st (Nat.le_refl _)
            replace hB := hB.trans (st.mono hB.size)
            clear st
            clear q
            clear o_q o_o o_e
            go_wp2_with fail
            go_ret
            exact ⟨rfl, hB⟩
          · skip
            have HN := hid (HLS.out hk)
            go_wp2_with fail
            refine (implRepeat_any _ _ _ _ _ _ o_e.has).mono ?_
            rw [HN.out]
            rintro e v14 ⟨a_x, n_x, c_x, rfl, o_x, st⟩
            replace o_c := o_c.below st (Nat.le_refl _)
            replace o_d := o_d.below st (Nat.le_refl _)
            replace o_s := o_s.below st (Nat.le_refl _)
            replace o_e := o_e.below st (Nat.le_refl _)
            replace o_m := o_m.below st (Nat.le_refl _)
            replace o_o := o_o.below st (Nat.le_refl _)
            replace hB := hB.trans (st.mono hB.size)
            clear st
            go_wp2_with fail
            refine (implAdd_any _ _ _ _ _ _ _ _ _ o_m.has o_e.has).mono ?_
            rw [HPL.out]
            rintro e v15 ⟨a_y, n_y, c_y, rfl, o_y, st⟩
            replace o_c := o_c.below st (Nat.le_refl _)
            replace o_d := o_d.below st (Nat.le_refl _)
            replace o_s := o_s.below st (Nat.le_refl _)
            replace o_e := o_e.below st (Nat.le_refl _)
            replace o_m := o_m.below st (Nat.le_refl _)
            replace o_o := o_o.below st (Nat.le_refl _)
            replace o_x := o_x.below st (Nat.le_refl _)
            replace hB := hB.trans (st.mono hB.size)
            clear st
            go_wp2_with fail
            refine (implAdd_any _ _ _ _ _ _ _ _ _ o_e.has o_o.has).mono ?_
            rw [HSM.out]
            rintro e v16 ⟨a_z, n_z, c_z, rfl, o_z, st⟩
            replace o_c := o_c.below st (Nat.le_refl _)
            replace o_d := o_d.below st (Nat.le_refl _)
            replace o_s := o_s.below st (Nat.le_refl _)
            replace o_e := o_e.below st (Nat.le_refl _)
            replace o_m := o_m.below st (Nat.le_refl _)
            replace o_o := o_o.below st (Nat.le_refl _)
            replace o_x := o_x.below st (Nat.le_refl _)
            replace o_y := o_y.below st (Nat.le_refl _)
            replace hB := hB.trans (st.mono hB.size)
            clear st
            go_wp2_with fail
            refine (wSame_any _ _ _ _ _ _ _ _ _ o_z.has o_e.has).mono ?_
            rw [same_self]
            rintro e v17 ⟨rfl, q⟩
            have st : Below v16.heap.size v16 v17 := q.below _
            replace o_c := o_c.below st (Nat.le_refl _)
            replace o_d := o_d.below st (Nat.le_refl _)
            replace o_s := o_s.below st (Nat.le_refl _)
            replace o_e := o_e.below st (Nat.le_refl _)
            replace o_m := o_m.below st (Nat.le_refl _)
            replace o_o := o_o.below st (Nat.le_refl _)
            replace o_x := o_x.below st (Nat.le_refl _)
            replace o_y := o_y.below st (Nat.le_refl _)
            replace o_z := o_z.below st (Nat.le_refl _)
            replace hB := hB.trans (st.mono hB.size)
            clear st
            clear q
            clear o_x o_y o_z o_m
            go_wp2_with fail
            refine (implRepeat_any _ _ _ _ _ _ o_e.has).mono ?_
            rw [HRD.out]
            rintro e v18 ⟨a_q, n_q, c_q, rfl, o_q, st⟩
            replace o_c := o_c.below st (Nat.le_refl _)
            replace o_d := o_d.below st (Nat.le_refl _)
            replace o_s := o_s.below st (Nat.le_refl _)
            replace o_e := o_e.below st (Nat.le_refl _)
            replace o_o := o_o.below st (Nat.le_refl _)
            replace hB := hB.trans (st.mono hB.size)
            clear st
            go_wp2_with fail
            refine (wSame_any _ _ _ _ _ _ _ _ _ o_q.has o_o.has).mono ?_
            rw [same_self]
            rintro e v19 ⟨rfl, q⟩
            have st : Below v18.heap.size v18 v19 := q.below _
            replace o_c := o_c.below st (Nat.le_refl _)
            replace o_d := o_d.below st (Nat.le_refl _)
            replace o_s := o_s.below st (Nat.le_refl _)
            replace o_e := o_e.below st (Nat.le_refl _)
            replace o_o := o_o.below st (Nat.le_refl _)
            replace o_q := o_q.below st (Nat.le_refl _)
            replace hB := hB.trans (st.mono hB.size)
            clear st
            clear q
            clear o_q o_o o_e
            go_wp2_with fail
            go_ret
            exact ⟨rfl, hB⟩
      · skip
        have HRP := hid (repeatOf_no (Bool.eq_false_iff.2 ht))
        clear ht
        go_wp2_with fail
        refine (implRepeat_any _ _ _ _ _ _ o_e.has).mono ?_
        rw [HRP.out]
        rintro e v6 ⟨a_m, n_m, c_m, rfl, o_m, st⟩
        replace o_c := o_c.below st (Nat.le_refl _)
        replace o_d := o_d.below st (Nat.le_refl _)
        replace o_s := o_s.below st (Nat.le_refl _)
        replace o_e := o_e.below st (Nat.le_refl _)
        replace hB := hB.trans (st.mono hB.size)
        clear st
        go_wp2_with fail
        refine (specRepeat_any _ _ _ _ _ _ o_e.has).mono ?_
        rw [HRP.out]
        rintro e v7 ⟨a_w, n_w, c_w, rfl, o_w, st⟩
        replace o_c := o_c.below st (Nat.le_refl _)
        replace o_d := o_d.below st (Nat.le_refl _)
        replace o_s := o_s.below st (Nat.le_refl _)
        replace o_e := o_e.below st (Nat.le_refl _)
        replace o_m := o_m.below st (Nat.le_refl _)
        replace hB := hB.trans (st.mono hB.size)
        clear st
        go_wp2_with fail
        refine (drawRest_any b m cap' _ (HM.out.grow hB (Nat.le_refl _))).mono ?_
        rintro e v8 ⟨n1, rfl, st⟩
        replace o_c := o_c.below st (Nat.le_refl _)
        replace o_d := o_d.below st (Nat.le_refl _)
        replace o_s := o_s.below st (Nat.le_refl _)
        replace o_e := o_e.below st (Nat.le_refl _)
        replace o_m := o_m.below st (Nat.le_refl _)
        replace o_w := o_w.below st (Nat.le_refl _)
        replace hB := hB.trans (st.mono hB.size)
        clear st
        by_cases h1 : inB n1 0 8 = true
        · skip
          obtain ⟨m1, rfl, G⟩ := restF h1
          have HRO := hid G.out
          have HRC := hid G.rc
          have HTW := hid G.two
          clear G h1
          go_wp2_with fail
          refine (implRest_any _ _).mono ?_
          rw [HRO.out]
          rintro e v9 ⟨a_t, n_t, c_t, rfl, o_t, st⟩
          replace o_c := o_c.below st (Nat.le_refl _)
          replace o_d := o_d.below st (Nat.le_refl _)
          replace o_s := o_s.below st (Nat.le_refl _)
          replace o_e := o_e.below st (Nat.le_refl _)
          replace o_m := o_m.below st (Nat.le_refl _)
          replace o_w := o_w.below st (Nat.le_refl _)
          replace hB := hB.trans (st.mono hB.size)
          clear st
          go_wp2_with fail
          refine (specRest_any _ _).mono ?_
          rw [HRO.out]
          rintro e v10 ⟨a_u, n_u, c_u, rfl, o_u, st⟩
          replace o_c := o_c.below st (Nat.le_refl _)
          replace o_d := o_d.below st (Nat.le_refl _)
          replace o_s := o_s.below st (Nat.le_refl _)
          replace o_e := o_e.below st (Nat.le_refl _)
          replace o_m := o_m.below st (Nat.le_refl _)
          replace o_w := o_w.below st (Nat.le_refl _)
          replace o_t := o_t.below st (Nat.le_refl _)
          replace hB := hB.trans (st.mono hB.size)
          clear st
          go_wp2_with fail
          refine (wSame_any _ _ _ _ _ _ _ _ _ o_m.has o_w.has).mono ?_
          rw [same_self]
          rintro e v11 ⟨rfl, q⟩
          have st : Below v10.heap.size v10 v11 := q.below _
          replace o_c := o_c.below st (Nat.le_refl _)
          replace o_d := o_d.below st (Nat.le_refl _)
          replace o_s := o_s.below st (Nat.le_refl _)
          replace o_e := o_e.below st (Nat.le_refl _)
          replace o_m := o_m.below st (Nat.le_refl _)
          replace o_w := o_w.below st (Nat.le_refl _)
          replace o_t := o_t.below st (Nat.le_refl _)
          replace o_u := o_u.below st (Nat.le_refl _)
          replace hB := hB.trans (st.mono hB.size)
          clear st
          clear q
          go_wp2_with fail
          refine (wSame_any _ _ _ _ _ _ _ _ _ o_t.has o_u.has).mono ?_
          rw [same_self]
          rintro e v12 ⟨rfl, q⟩
          have st : Below v11.heap.size v11 v12 := q.below _
          replace o_c := o_c.below st (Nat.le_refl _)
          replace o_d := o_d.below st (Nat.le_refl _)
          replace o_s := o_s.below st (Nat.le_refl _)
          replace o_e := o_e.below st (Nat.le_refl _)
          replace o_m := o_m.below st (Nat.le_refl _)
          replace o_w := o_w.below st (Nat.le_refl _)
          replace o_t := o_t.below st (Nat.le_refl _)
          replace o_u := o_u.below st (Nat.le_refl _)
          replace hB := hB.trans (st.mono hB.size)
          clear st
          clear q
          clear o_w o_u
          go_wp2_with fail
          refine (implIsRecurrent_any _ _ _ _ _ o_t.has).mono ?_
          rw [HRC.out]
          rintro e v13 ⟨rfl, st⟩
          replace o_c := o_c.below st (Nat.le_refl _)
          replace o_d := o_d.below st (Nat.le_refl _)
          replace o_s := o_s.below st (Nat.le_refl _)
          replace o_e := o_e.below st (Nat.le_refl _)
          replace o_m := o_m.below st (Nat.le_refl _)
          replace o_t := o_t.below st (Nat.le_refl _)
          replace hB := hB.trans (st.mono hB.size)
          clear st
          go_wp2_with fail
          refine (implAdd_any _ _ _ _ _ _ _ _ _ o_t.has o_t.has).mono ?_
          rw [HTW.out]
          rintro e v14 ⟨a_v, n_v, c_v, rfl, o_v, st⟩
          replace o_c := o_c.below st (Nat.le_refl _)
          replace o_d := o_d.below st (Nat.le_refl _)
          replace o_s := o_s.below st (Nat.le_refl _)
          replace o_e := o_e.below st (Nat.le_refl _)
          replace o_m := o_m.below st (Nat.le_refl _)
          replace o_t := o_t.below st (Nat.le_refl _)
          replace hB := hB.trans (st.mono hB.size)
          clear st
          go_wp2_with fail
          refine (wSame_any _ _ _ _ _ _ _ _ _ o_v.has o_t.has).mono ?_
          rw [same_self]
          rintro e v15 ⟨rfl, q⟩
          have st : Below v14.heap.size v14 v15 := q.below _
          replace o_c := o_c.below st (Nat.le_refl _)
          replace o_d := o_d.below st (Nat.le_refl _)
          replace o_s := o_s.below st (Nat.le_refl _)
          replace o_e := o_e.below st (Nat.le_refl _)
          replace o_m := o_m.below st (Nat.le_refl _)
          replace o_t := o_t.below st (Nat.le_refl _)
          replace o_v := o_v.below st (Nat.le_refl _)
          replace hB := hB.trans (st.mono hB.size)
          clear st
          clear q
          clear o_v o_t
          clear o_m o_e
          go_wp2_with fail
          go_ret
          exact ⟨rfl, hB⟩
        · skip
          have HRO := hid (rest_no h1)
          clear h1
          go_wp2_with fail
          refine (implRest_any _ _).mono ?_
          rw [HRO.out]
          rintro e v9 ⟨a_t, n_t, c_t, rfl, o_t, st⟩
          replace o_c := o_c.below st (Nat.le_refl _)
          replace o_d := o_d.below st (Nat.le_refl _)
          replace o_s := o_s.below st (Nat.le_refl _)
          replace o_e := o_e.below st (Nat.le_refl _)
          replace o_m := o_m.below st (Nat.le_refl _)
          replace o_w := o_w.below st (Nat.le_refl _)
          replace hB := hB.trans (st.mono hB.size)
          clear st
          go_wp2_with fail
          refine (specRest_any _ _).mono ?_
          rw [HRO.out]
          rintro e v10 ⟨a_u, n_u, c_u, rfl, o_u, st⟩
          replace o_c := o_c.below st (Nat.le_refl _)
          replace o_d := o_d.below st (Nat.le_refl _)
          replace o_s := o_s.below st (Nat.le_refl _)
          replace o_e := o_e.below st (Nat.le_refl _)
          replace o_m := o_m.below st (Nat.le_refl _)
          replace o_w := o_w.below st (Nat.le_refl _)
          replace o_t := o_t.below st (Nat.le_refl _)
          replace hB := hB.trans (st.mono hB.size)
          clear st
          go_wp2_with fail
          refine (wSame_any _ _ _ _ _ _ _ _ _ o_m.has o_w.has).mono ?_
          rw [same_self]
          rintro e v11 ⟨rfl, q⟩
          have st : Below v10.heap.size v10 v11 := q.below _
          replace o_c := o_c.below st (Nat.le_refl _)
          replace o_d := o_d.below st (Nat.le_refl _)
          replace o_s := o_s.below st (Nat.le_refl _)
          replace o_e := o_e.below st (Nat.le_refl _)
          replace o_m := o_m.below st (Nat.le_refl _)
          replace o_w := o_w.below st (Nat.le_refl _)
          replace o_t := o_t.below st (Nat.le_refl _)
          replace o_u := o_u.below st (Nat.le_refl _)
          replace hB := hB.trans (st.mono hB.size)
          clear st
          clear q
          go_wp2_with fail
          refine (wSame_any _ _ _ _ _ _ _ _ _ o_t.has o_u.has).mono ?_
          rw [same_self]
          rintro e v12 ⟨rfl, q⟩
          have st : Below v11.heap.size v11 v12 := q.below _
          replace o_c := o_c.below st (Nat.le_refl _)
          replace o_d := o_d.below st (Nat.le_refl _)
          replace o_s := o_s.below st (Nat.le_refl _)
          replace o_e := o_e.below st (Nat.le_refl _)
          replace o_m := o_m.below st (Nat.le_refl _)
          replace o_w := o_w.below st (Nat.le_refl _)
          replace o_t := o_t.below st (Nat.le_refl _)
          replace o_u := o_u.below st (Nat.le_refl _)
          replace hB := hB.trans (st.mono hB.size)
          clear st
          clear q
          clear o_w o_u o_t
          clear o_m o_e
          go_wp2_with fail
          go_ret
          exact ⟨rfl, hB⟩
end Go.Proofs.Ytclpbccmgfclcaa
