/- The law of recurrent sand, walked. -/
import Derived.Test.YtclpbccmgfclcaaDrawV
import Derived.Test.YtclpbccmgfclcaaW
import Derived.Test.YtclpbccmgfclcaaJ
import Derived.Test.YtclpbccmgfclcaaMathSc
import Derived.Test.YtclpbccmgfclcaaImplSe
namespace Go.Proofs.Ytclpbccmgfclcaa
open Go.RowKit

theorem rec_not {xs : List Int} (h : ¬ (sandB xs && recB xs) = true) : parkOf xs = ([], false) ∧ fireOf xs = ([], false) := by
  unfold parkOf fireOf
  rw [if_neg h, if_neg h]
  exact ⟨rfl, rfl⟩
/-- What is said of recurrent sand. -/
structure RecF (xs R : List Int) (n : Nat) : Prop where
  rc : recOf xs = (true, true)
  pk : parkOf xs = (turnL xs, true)
  fr : fireOf xs = (R, true)
  st : stableOf xs = (true, true)
  isp : isPark (turnL xs) = true
  back : sandParkOf (turnL xs) = (xs, true)
  len : R.length = n
  nd : R.Nodup
theorem recF {xs : List Int} {n : Nat} (hl : xs.length = n) (hs : sandB xs = true) (hr : recB xs = true) : RecF xs (settle (xs.map (· + 1))).2 n := by
  subst hl
  have hp := Pile.sand hs
  have hst := rec_stable hp hr
  have hlt := stable_lt hst
  have h8 := (sandB_iff.1 hs).1
  have hpk : isPark (turnL xs) = true := by rw [← rec_park h8 hp hlt]; exact hr
  have B := fired hp hlt
  exact ⟨by simp [recOf, hs, hr], by simp [parkOf, hs, hr], by simp [fireOf, hs, hr], by simp [stableOf, hs, hst], hpk, by simp [sandParkOf, hpk, turn_turn], (rec_iff hp hlt).1 hr, by simpa using B.nd⟩
theorem unrec_park {xs : List Int} (hs : sandB xs = true) (hr : ¬ recB xs = true) (hst : firstN xs = xs.length) : isPark (turnL xs) = false := by
  have hp := Pile.sand hs
  rw [← rec_park (sandB_iff.1 hs).1 hp (stable_lt hst)]
  exact Bool.eq_false_iff.2 hr
theorem park_sand {ps : List Int} (h : isPark ps = true) : sandParkOf ps = (turnL ps, true) ∧ parkOf (turnL ps) = (ps, true) := by
  obtain ⟨h1, h2⟩ := turn_rec h
  exact ⟨by simp [sandParkOf, h], by simp [parkOf, h1, h2, turn_turn]⟩
theorem nodup_has {R : List Int} (h : R.Nodup) {k : Nat} (hk : k < R.length) : hasB (R.take k) (nth R k) = false := by
  have hs : (R.take (k + 1)).Nodup := (List.take_sublist _ _).nodup h
  rw [take_succ_nth hk, List.nodup_append] at hs
  exact hasB_no fun hm => hs.2.2 _ hm _ (by simp) rfl

set_option maxRecDepth 100000 in
set_option maxHeartbeats 32000000 in
theorem recur_walk (a b : Option Addr) (n m cap cap' : Nat) (w : World) (hn : n ≤ maxLen) (h : n ≤ 1048576 → HasB w a n w.heap.size) (h' : m ≤ 1048576 → HasB w b m w.heap.size) :
    Calls Try.prog 4 #[.slice a n cap, .slice b m cap'] w (Holds w) := by
  have H1 := hid h
  have H2 := hid h'
  have HN := hid hn
  clear h h' hn
  have hB : Below w.heap.size w w := Below.refl _ _
  go_enter Try.func4, Try.ntmps4
  go_wp2_with fail
  refine (big_any _ _ _ _ _ _ _ (by have := HN.out; unfold maxLen at this; omega)).mono ?_
  rintro e _ ⟨r, rfl, hr, rfl⟩
  have HR := hid hr
  clear hr
  cases r with
  | true =>
    go_wp2_with fail
    go_ret
    exact ⟨rfl, hB⟩
  | false =>
    have hnm := HR.out rfl
    clear HR
    have HA := hid (H1.out (by omega))
    have HM := hid (H2.out (by omega))
    clear H1 H2 HN
    go_wp2_with fail
    refine (drawRec_any _ _ _ _ HA.out).mono ?_
    rintro e v1 ⟨a_c, n_c, c_c, xs, rfl, o_c, hnc, st⟩
    replace hB := hB.trans (st.mono hB.size)
    clear st
    have HLC := hid o_c.len
    by_cases hs : sandB xs = true
    · skip
      by_cases hr : recB xs = true
      · skip
        have F := recF HLC.out hs hr
        obtain ⟨R, hR⟩ : ∃ R, (settle (xs.map (· + 1))).2 = R := ⟨_, rfl⟩
        rw [hR] at F
        have HRC := hid F.rc
        have HPK := hid F.pk
        have HFR := hid F.fr
        have HST := hid F.st
        have HISP := hid F.isp
        have HBK := hid F.back
        have FL := hid F.len
        have FN := hid F.nd
        have HSD := hid hs
        clear F hR hs hr
        go_wp2_with fail
        refine (implIsRecurrent_any _ _ _ _ _ o_c.has).mono ?_
        rw [HRC.out]
        rintro e v2 ⟨rfl, st⟩
        replace o_c := o_c.below st (Nat.le_refl _)
        replace hB := hB.trans (st.mono hB.size)
        clear st
        go_wp2_with fail
        refine (specIsRecurrent_any _ _ _ _ _ o_c.has).mono ?_
        rw [HRC.out]
        rintro e v3 ⟨rfl, st⟩
        replace o_c := o_c.below st (Nat.le_refl _)
        replace hB := hB.trans (st.mono hB.size)
        clear st
        go_wp2_with fail
        refine (implParkingOfSand_any _ _ _ _ _ o_c.has).mono ?_
        rw [HPK.out]
        rintro e v4 ⟨a_l, n_l, c_l, rfl, o_l, st⟩
        replace o_c := o_c.below st (Nat.le_refl _)
        replace hB := hB.trans (st.mono hB.size)
        clear st
        go_wp2_with fail
        refine (specParkingOfSand_any _ _ _ _ _ o_c.has).mono ?_
        rw [HPK.out]
        rintro e v5 ⟨a_m, n_m, c_m, rfl, o_m, st⟩
        replace o_c := o_c.below st (Nat.le_refl _)
        replace o_l := o_l.below st (Nat.le_refl _)
        replace hB := hB.trans (st.mono hB.size)
        clear st
        go_wp2_with fail
        refine (implFireOrder_any _ _ _ _ _ o_c.has).mono ?_
        rw [HFR.out]
        rintro e v6 ⟨a_f, n_f, c_f, rfl, o_f, st⟩
        replace o_c := o_c.below st (Nat.le_refl _)
        replace o_l := o_l.below st (Nat.le_refl _)
        replace o_m := o_m.below st (Nat.le_refl _)
        replace hB := hB.trans (st.mono hB.size)
        clear st
        go_wp2_with fail
        refine (specFireOrder_any _ _ _ _ _ o_c.has).mono ?_
        rw [HFR.out]
        rintro e v7 ⟨a_g, n_g, c_g, rfl, o_g, st⟩
        replace o_c := o_c.below st (Nat.le_refl _)
        replace o_l := o_l.below st (Nat.le_refl _)
        replace o_m := o_m.below st (Nat.le_refl _)
        replace o_f := o_f.below st (Nat.le_refl _)
        replace hB := hB.trans (st.mono hB.size)
        clear st
        go_wp2_with fail
        refine (wSame_any _ _ _ _ _ _ _ _ _ o_l.has o_m.has).mono ?_
        rw [same_self]
        rintro e v8 ⟨rfl, q⟩
        have st : Below v7.heap.size v7 v8 := q.below _
        replace o_c := o_c.below st (Nat.le_refl _)
        replace o_l := o_l.below st (Nat.le_refl _)
        replace o_m := o_m.below st (Nat.le_refl _)
        replace o_f := o_f.below st (Nat.le_refl _)
        replace o_g := o_g.below st (Nat.le_refl _)
        replace hB := hB.trans (st.mono hB.size)
        clear st
        clear q
        go_wp2_with fail
        refine (wSame_any _ _ _ _ _ _ _ _ _ o_f.has o_g.has).mono ?_
        rw [same_self]
        rintro e v9 ⟨rfl, q⟩
        have st : Below v8.heap.size v8 v9 := q.below _
        replace o_c := o_c.below st (Nat.le_refl _)
        replace o_l := o_l.below st (Nat.le_refl _)
        replace o_m := o_m.below st (Nat.le_refl _)
        replace o_f := o_f.below st (Nat.le_refl _)
        replace o_g := o_g.below st (Nat.le_refl _)
        replace hB := hB.trans (st.mono hB.size)
        clear st
        clear q
        clear o_m o_g
        go_wp2_with fail
        refine (drawSandP_any b m cap' _ (HM.out.grow hB (Nat.le_refl _))).mono ?_
        rintro e v10 ⟨a_p, n_p, c_p, ps, rfl, o_p, hnp, st⟩
        replace o_c := o_c.below st (Nat.le_refl _)
        replace o_l := o_l.below st (Nat.le_refl _)
        replace o_f := o_f.below st (Nat.le_refl _)
        replace hB := hB.trans (st.mono hB.size)
        clear st
        by_cases hp : isPark ps = true
        · skip
          obtain ⟨s1, s2⟩ := park_sand hp
          have HS1 := hid s1
          have HS2 := hid s2
          clear s1 s2 hp
          go_wp2_with fail
          refine (implSandOfParking_any _ _ _ _ _ o_p.has).mono ?_
          rw [HS1.out]
          rintro e v11 ⟨a_s, n_s, c_s, rfl, o_s, st⟩
          replace o_c := o_c.below st (Nat.le_refl _)
          replace o_l := o_l.below st (Nat.le_refl _)
          replace o_f := o_f.below st (Nat.le_refl _)
          replace o_p := o_p.below st (Nat.le_refl _)
          replace hB := hB.trans (st.mono hB.size)
          clear st
          go_wp2_with fail
          refine (specSandOfParking_any _ _ _ _ _ o_p.has).mono ?_
          rw [HS1.out]
          rintro e v12 ⟨a_t, n_t, c_t, rfl, o_t, st⟩
          replace o_c := o_c.below st (Nat.le_refl _)
          replace o_l := o_l.below st (Nat.le_refl _)
          replace o_f := o_f.below st (Nat.le_refl _)
          replace o_p := o_p.below st (Nat.le_refl _)
          replace o_s := o_s.below st (Nat.le_refl _)
          replace hB := hB.trans (st.mono hB.size)
          clear st
          go_wp2_with fail
          refine (wSame_any _ _ _ _ _ _ _ _ _ o_s.has o_t.has).mono ?_
          rw [same_self]
          rintro e v13 ⟨rfl, q⟩
          have st : Below v12.heap.size v12 v13 := q.below _
          replace o_c := o_c.below st (Nat.le_refl _)
          replace o_l := o_l.below st (Nat.le_refl _)
          replace o_f := o_f.below st (Nat.le_refl _)
          replace o_p := o_p.below st (Nat.le_refl _)
          replace o_s := o_s.below st (Nat.le_refl _)
          replace o_t := o_t.below st (Nat.le_refl _)
          replace hB := hB.trans (st.mono hB.size)
          clear st
          clear q
          clear o_t
          go_wp2_with fail
          refine (implParkingOfSand_any _ _ _ _ _ o_s.has).mono ?_
          rw [HS2.out]
          rintro e v14 ⟨a_u, n_u, c_u, rfl, o_u, st⟩
          replace o_c := o_c.below st (Nat.le_refl _)
          replace o_l := o_l.below st (Nat.le_refl _)
          replace o_f := o_f.below st (Nat.le_refl _)
          replace o_p := o_p.below st (Nat.le_refl _)
          replace o_s := o_s.below st (Nat.le_refl _)
          replace hB := hB.trans (st.mono hB.size)
          clear st
          go_wp2_with fail
          refine (wSame_any _ _ _ _ _ _ _ _ _ o_u.has o_p.has).mono ?_
          rw [same_self]
          rintro e v15 ⟨rfl, q⟩
          have st : Below v14.heap.size v14 v15 := q.below _
          replace o_c := o_c.below st (Nat.le_refl _)
          replace o_l := o_l.below st (Nat.le_refl _)
          replace o_f := o_f.below st (Nat.le_refl _)
          replace o_p := o_p.below st (Nat.le_refl _)
          replace o_s := o_s.below st (Nat.le_refl _)
          replace o_u := o_u.below st (Nat.le_refl _)
          replace hB := hB.trans (st.mono hB.size)
          clear st
          clear q
          clear o_u o_s o_p
          go_wp2_with fail
          refine (implIsStable_any _ _ _ _ _ o_c.has).mono ?_
          rw [HST.out]
          rintro e v16 ⟨rfl, st⟩
          replace o_c := o_c.below st (Nat.le_refl _)
          replace o_l := o_l.below st (Nat.le_refl _)
          replace o_f := o_f.below st (Nat.le_refl _)
          replace hB := hB.trans (st.mono hB.size)
          clear st
          have HSZ := hid hB
          have hbd := sand_wide HSD.out HLC.out
          have HBD := hid hbd
          have h8 := (sand_nth HSD.out HLC.out).1
          clear hbd
          go_wp2_with fail
          go_loopw [27, 158] (fun o i wr => ∃ (k : Nat) (a' : Option Addr) (cap' : Nat), k ≤ n_c ∧ i = .int .i64 (k : Int) ∧ o = .slice a' k cap' ∧ Own wr v16.heap.size a' k cap' ((turnL xs).take k) ∧ Below v16.heap.size v16 wr) (fun _ i _ => n_c - (intOf i).toNat)
          case atStart => exact ⟨0, none, 0, by omega, rfl, rfl, Own.nil _ _, Below.refl _ _⟩
          case round =>
            obtain ⟨k, a', cap', hk, rfl, rfl, hown, hb⟩ := hrel
            by_cases hlt : k < n_c
            · skip
              obtain ⟨b0, off, rfl, hbb, hc⟩ := o_c.has.2.2.2.2 (by omega)
              have hck : wr.cell? ⟨b0, off + k, none⟩ = some (.int .i64 (nth xs k)) := by rw [hb.cell (p := ⟨b0, off + k, none⟩) hbb]; exact hc k hlt
              obtain ⟨u0, u1⟩ := HBD.out k hlt
              have HS := hid (turn_succ (k := k) HLC.out hlt)
              clear hc
              go_wp2_with (at_builtin; refine wpList_append_int _ rfl _ _ rfl v16.heap.size _ _ _ _ _ rfl rfl hown (by omega) hb.size ?_; intro a3 cap3 w3 hown3 hb3)
              go_roundw
              case rel => exact ⟨k + 1, a3, cap3, by omega, by go_num, rfl, by rw [HS.out]; exact hown3, hb.trans hb3⟩
              case measure => simp [intOf]; omega
            · skip
              obtain rfl : k = n_c := by omega
              have HT : Hid ((turnL xs).take k = turnL xs) := hid (List.take_of_length_le (by rw [length_turnL, HLC.out]; exact Nat.le_refl _))
              rw [HT.out] at hown
              have st := hb
              clear hb
              replace o_c := o_c.below st (Nat.le_refl _)
              replace o_l := o_l.below st (Nat.le_refl _)
              replace o_f := o_f.below st (Nat.le_refl _)
              replace hB := hB.trans (st.mono hB.size)
              clear st
              go_wp2_with fail
              refine (wParkS_any _ _ _ _ _ hown.has).mono ?_
              rw [HISP.out]
              rintro e v17 ⟨rfl, st⟩
              replace o_c := o_c.below st (Nat.le_refl _)
              replace o_l := o_l.below st (Nat.le_refl _)
              replace o_f := o_f.below st (Nat.le_refl _)
              replace hB := hB.trans (st.mono hB.size)
              clear st
              clear hown
              go_wp2_with fail
              refine (implSandOfParking_any _ _ _ _ _ o_l.has).mono ?_
              rw [HBK.out]
              rintro e v18 ⟨a_b, n_b, c_b, rfl, o_b, st⟩
              replace o_c := o_c.below st (Nat.le_refl _)
              replace o_l := o_l.below st (Nat.le_refl _)
              replace o_f := o_f.below st (Nat.le_refl _)
              replace hB := hB.trans (st.mono hB.size)
              clear st
              have hfl := o_f.len
              rw [FL.out] at hfl
              have HFL := hid hfl
              clear hfl
              have hnf : n_f = k := HFL.out.symm
              subst hnf
              clear HFL
              go_wp2_with fail
              refine (wSame_any _ _ _ _ _ _ _ _ _ o_b.has o_c.has).mono ?_
              rw [same_self]
              rintro e v19 ⟨rfl, q⟩
              have st : Below v18.heap.size v18 v19 := q.below _
              replace o_c := o_c.below st (Nat.le_refl _)
              replace o_l := o_l.below st (Nat.le_refl _)
              replace o_f := o_f.below st (Nat.le_refl _)
              replace o_b := o_b.below st (Nat.le_refl _)
              replace hB := hB.trans (st.mono hB.size)
              clear st
              clear q
              clear o_b
              have HF8 := hid o_f.has
              have hbl : ((n_f : Int) != (n_f : Int)) = false := by simp
              go_wp2_with fail
              go_loop [199] (fun i => ∃ k : Nat, k ≤ n_f ∧ i = .int .i64 (k : Int)) (fun i => n_f - (intOf i).toNat)
              case atStart => exact ⟨0, Nat.zero_le _, rfl⟩
              case round =>
                obtain ⟨j, hj, rfl⟩ := hrel
                by_cases hlt2 : j < n_f
                · skip
                  obtain ⟨bf, of_, rfl, hbf, cf⟩ := HF8.out.2.2.2.2 (by omega)
                  have hcj := cf j hlt2
                  have ht := HF8.out.take (k := j) (by omega)
                  have HN := hid (nodup_has FN.out (k := j) (by rw [FL.out]; omega))
                  have hcap := HF8.out.2.1
                  have hmx := HF8.out.2.2.1
                  have hle := HF8.out.2.2.2.1
                  clear cf
                  go_wp2_with fail
                  refine (wHas_any _ _ _ _ _ _ ht).mono ?_
                  rintro e w' ⟨rfl, rfl⟩
                  rw [HN.out]
                  go_wp2_with fail
                  go_round
                  case rel => exact ⟨j + 1, by omega, by go_num⟩
                  case measure => simp [intOf]; omega
                · skip
                  obtain rfl : j = n_f := by omega
                  go_wp2_with fail
                  go_ret
                  exact ⟨rfl, hB⟩
        · skip
          have HS1 : Hid (sandParkOf ps = ([], false)) := hid (by unfold sandParkOf; rw [if_neg hp])
          clear hp
          go_wp2_with fail
          refine (implSandOfParking_any _ _ _ _ _ o_p.has).mono ?_
          rw [HS1.out]
          rintro e v11 ⟨a_s, n_s, c_s, rfl, o_s, st⟩
          replace o_c := o_c.below st (Nat.le_refl _)
          replace o_l := o_l.below st (Nat.le_refl _)
          replace o_f := o_f.below st (Nat.le_refl _)
          replace o_p := o_p.below st (Nat.le_refl _)
          replace hB := hB.trans (st.mono hB.size)
          clear st
          go_wp2_with fail
          refine (specSandOfParking_any _ _ _ _ _ o_p.has).mono ?_
          rw [HS1.out]
          rintro e v12 ⟨a_t, n_t, c_t, rfl, o_t, st⟩
          replace o_c := o_c.below st (Nat.le_refl _)
          replace o_l := o_l.below st (Nat.le_refl _)
          replace o_f := o_f.below st (Nat.le_refl _)
          replace o_p := o_p.below st (Nat.le_refl _)
          replace o_s := o_s.below st (Nat.le_refl _)
          replace hB := hB.trans (st.mono hB.size)
          clear st
          go_wp2_with fail
          refine (wSame_any _ _ _ _ _ _ _ _ _ o_s.has o_t.has).mono ?_
          rw [same_self]
          rintro e v13 ⟨rfl, q⟩
          have st : Below v12.heap.size v12 v13 := q.below _
          replace o_c := o_c.below st (Nat.le_refl _)
          replace o_l := o_l.below st (Nat.le_refl _)
          replace o_f := o_f.below st (Nat.le_refl _)
          replace o_p := o_p.below st (Nat.le_refl _)
          replace o_s := o_s.below st (Nat.le_refl _)
          replace o_t := o_t.below st (Nat.le_refl _)
          replace hB := hB.trans (st.mono hB.size)
          clear st
          clear q
          clear o_t o_s o_p
          go_wp2_with fail
          refine (implIsStable_any _ _ _ _ _ o_c.has).mono ?_
          rw [HST.out]
          rintro e v14 ⟨rfl, st⟩
          replace o_c := o_c.below st (Nat.le_refl _)
          replace o_l := o_l.below st (Nat.le_refl _)
          replace o_f := o_f.below st (Nat.le_refl _)
          replace hB := hB.trans (st.mono hB.size)
          clear st
          have HSZ := hid hB
          have hbd := sand_wide HSD.out HLC.out
          have HBD := hid hbd
          have h8 := (sand_nth HSD.out HLC.out).1
          clear hbd
          go_wp2_with fail
          go_loopw [27, 158] (fun o i wr => ∃ (k : Nat) (a' : Option Addr) (cap' : Nat), k ≤ n_c ∧ i = .int .i64 (k : Int) ∧ o = .slice a' k cap' ∧ Own wr v14.heap.size a' k cap' ((turnL xs).take k) ∧ Below v14.heap.size v14 wr) (fun _ i _ => n_c - (intOf i).toNat)
          case atStart => exact ⟨0, none, 0, by omega, rfl, rfl, Own.nil _ _, Below.refl _ _⟩
          case round =>
            obtain ⟨k, a', cap', hk, rfl, rfl, hown, hb⟩ := hrel
            by_cases hlt : k < n_c
            · skip
              obtain ⟨b0, off, rfl, hbb, hc⟩ := o_c.has.2.2.2.2 (by omega)
              have hck : wr.cell? ⟨b0, off + k, none⟩ = some (.int .i64 (nth xs k)) := by rw [hb.cell (p := ⟨b0, off + k, none⟩) hbb]; exact hc k hlt
              obtain ⟨u0, u1⟩ := HBD.out k hlt
              have HS := hid (turn_succ (k := k) HLC.out hlt)
              clear hc
              go_wp2_with (at_builtin; refine wpList_append_int _ rfl _ _ rfl v14.heap.size _ _ _ _ _ rfl rfl hown (by omega) hb.size ?_; intro a3 cap3 w3 hown3 hb3)
              go_roundw
              case rel => exact ⟨k + 1, a3, cap3, by omega, by go_num, rfl, by rw [HS.out]; exact hown3, hb.trans hb3⟩
              case measure => simp [intOf]; omega
            · skip
              obtain rfl : k = n_c := by omega
              have HT : Hid ((turnL xs).take k = turnL xs) := hid (List.take_of_length_le (by rw [length_turnL, HLC.out]; exact Nat.le_refl _))
              rw [HT.out] at hown
              have st := hb
              clear hb
              replace o_c := o_c.below st (Nat.le_refl _)
              replace o_l := o_l.below st (Nat.le_refl _)
              replace o_f := o_f.below st (Nat.le_refl _)
              replace hB := hB.trans (st.mono hB.size)
              clear st
              go_wp2_with fail
              refine (wParkS_any _ _ _ _ _ hown.has).mono ?_
              rw [HISP.out]
              rintro e v15 ⟨rfl, st⟩
              replace o_c := o_c.below st (Nat.le_refl _)
              replace o_l := o_l.below st (Nat.le_refl _)
              replace o_f := o_f.below st (Nat.le_refl _)
              replace hB := hB.trans (st.mono hB.size)
              clear st
              clear hown
              go_wp2_with fail
              refine (implSandOfParking_any _ _ _ _ _ o_l.has).mono ?_
              rw [HBK.out]
              rintro e v16 ⟨a_b, n_b, c_b, rfl, o_b, st⟩
              replace o_c := o_c.below st (Nat.le_refl _)
              replace o_l := o_l.below st (Nat.le_refl _)
              replace o_f := o_f.below st (Nat.le_refl _)
              replace hB := hB.trans (st.mono hB.size)
              clear st
              have hfl := o_f.len
              rw [FL.out] at hfl
              have HFL := hid hfl
              clear hfl
              have hnf : n_f = k := HFL.out.symm
              subst hnf
              clear HFL
              go_wp2_with fail
              refine (wSame_any _ _ _ _ _ _ _ _ _ o_b.has o_c.has).mono ?_
              rw [same_self]
              rintro e v17 ⟨rfl, q⟩
              have st : Below v16.heap.size v16 v17 := q.below _
              replace o_c := o_c.below st (Nat.le_refl _)
              replace o_l := o_l.below st (Nat.le_refl _)
              replace o_f := o_f.below st (Nat.le_refl _)
              replace o_b := o_b.below st (Nat.le_refl _)
              replace hB := hB.trans (st.mono hB.size)
              clear st
              clear q
              clear o_b
              have HF8 := hid o_f.has
              have hbl : ((n_f : Int) != (n_f : Int)) = false := by simp
              go_wp2_with fail
              go_loop [199] (fun i => ∃ k : Nat, k ≤ n_f ∧ i = .int .i64 (k : Int)) (fun i => n_f - (intOf i).toNat)
              case atStart => exact ⟨0, Nat.zero_le _, rfl⟩
              case round =>
                obtain ⟨j, hj, rfl⟩ := hrel
                by_cases hlt2 : j < n_f
                · skip
                  obtain ⟨bf, of_, rfl, hbf, cf⟩ := HF8.out.2.2.2.2 (by omega)
                  have hcj := cf j hlt2
                  have ht := HF8.out.take (k := j) (by omega)
                  have HN := hid (nodup_has FN.out (k := j) (by rw [FL.out]; omega))
                  have hcap := HF8.out.2.1
                  have hmx := HF8.out.2.2.1
                  have hle := HF8.out.2.2.2.1
                  clear cf
                  go_wp2_with fail
                  refine (wHas_any _ _ _ _ _ _ ht).mono ?_
                  rintro e w' ⟨rfl, rfl⟩
                  rw [HN.out]
                  go_wp2_with fail
                  go_round
                  case rel => exact ⟨j + 1, by omega, by go_num⟩
                  case measure => simp [intOf]; omega
                · skip
                  obtain rfl : j = n_f := by omega
                  go_wp2_with fail
                  go_ret
                  exact ⟨rfl, hB⟩
      · skip
        obtain ⟨r1, r2⟩ := rec_not (xs := xs) (by rw [hs, Bool.eq_false_iff.2 hr]; simp)
        have HPK := hid r1
        have HFR := hid r2
        have HRC : Hid (recOf xs = (false, true)) := hid (by simp [recOf, hs, hr])
        clear r1 r2
        have HSD := hid hs
        by_cases hf : firstN xs = xs.length
        · skip
          have HST : Hid (stableOf xs = (true, true)) := hid (by simp [stableOf, hs, hf])
          have HISP := hid (unrec_park hs hr hf)
          clear hs hr hf
          go_wp2_with fail
          refine (implIsRecurrent_any _ _ _ _ _ o_c.has).mono ?_
          rw [HRC.out]
          rintro e v2 ⟨rfl, st⟩
          replace o_c := o_c.below st (Nat.le_refl _)
          replace hB := hB.trans (st.mono hB.size)
          clear st
          go_wp2_with fail
          refine (specIsRecurrent_any _ _ _ _ _ o_c.has).mono ?_
          rw [HRC.out]
          rintro e v3 ⟨rfl, st⟩
          replace o_c := o_c.below st (Nat.le_refl _)
          replace hB := hB.trans (st.mono hB.size)
          clear st
          go_wp2_with fail
          refine (implParkingOfSand_any _ _ _ _ _ o_c.has).mono ?_
          rw [HPK.out]
          rintro e v4 ⟨a_l, n_l, c_l, rfl, o_l, st⟩
          replace o_c := o_c.below st (Nat.le_refl _)
          replace hB := hB.trans (st.mono hB.size)
          clear st
          go_wp2_with fail
          refine (specParkingOfSand_any _ _ _ _ _ o_c.has).mono ?_
          rw [HPK.out]
          rintro e v5 ⟨a_m, n_m, c_m, rfl, o_m, st⟩
          replace o_c := o_c.below st (Nat.le_refl _)
          replace o_l := o_l.below st (Nat.le_refl _)
          replace hB := hB.trans (st.mono hB.size)
          clear st
          go_wp2_with fail
          refine (implFireOrder_any _ _ _ _ _ o_c.has).mono ?_
          rw [HFR.out]
          rintro e v6 ⟨a_f, n_f, c_f, rfl, o_f, st⟩
          replace o_c := o_c.below st (Nat.le_refl _)
          replace o_l := o_l.below st (Nat.le_refl _)
          replace o_m := o_m.below st (Nat.le_refl _)
          replace hB := hB.trans (st.mono hB.size)
          clear st
          go_wp2_with fail
          refine (specFireOrder_any _ _ _ _ _ o_c.has).mono ?_
          rw [HFR.out]
          rintro e v7 ⟨a_g, n_g, c_g, rfl, o_g, st⟩
          replace o_c := o_c.below st (Nat.le_refl _)
          replace o_l := o_l.below st (Nat.le_refl _)
          replace o_m := o_m.below st (Nat.le_refl _)
          replace o_f := o_f.below st (Nat.le_refl _)
          replace hB := hB.trans (st.mono hB.size)
          clear st
          go_wp2_with fail
          refine (wSame_any _ _ _ _ _ _ _ _ _ o_l.has o_m.has).mono ?_
          rw [same_self]
          rintro e v8 ⟨rfl, q⟩
          have st : Below v7.heap.size v7 v8 := q.below _
          replace o_c := o_c.below st (Nat.le_refl _)
          replace o_l := o_l.below st (Nat.le_refl _)
          replace o_m := o_m.below st (Nat.le_refl _)
          replace o_f := o_f.below st (Nat.le_refl _)
          replace o_g := o_g.below st (Nat.le_refl _)
          replace hB := hB.trans (st.mono hB.size)
          clear st
          clear q
          go_wp2_with fail
          refine (wSame_any _ _ _ _ _ _ _ _ _ o_f.has o_g.has).mono ?_
          rw [same_self]
          rintro e v9 ⟨rfl, q⟩
          have st : Below v8.heap.size v8 v9 := q.below _
          replace o_c := o_c.below st (Nat.le_refl _)
          replace o_l := o_l.below st (Nat.le_refl _)
          replace o_m := o_m.below st (Nat.le_refl _)
          replace o_f := o_f.below st (Nat.le_refl _)
          replace o_g := o_g.below st (Nat.le_refl _)
          replace hB := hB.trans (st.mono hB.size)
          clear st
          clear q
          clear o_m o_g
          go_wp2_with fail
          refine (drawSandP_any b m cap' _ (HM.out.grow hB (Nat.le_refl _))).mono ?_
          rintro e v10 ⟨a_p, n_p, c_p, ps, rfl, o_p, hnp, st⟩
          replace o_c := o_c.below st (Nat.le_refl _)
          replace o_l := o_l.below st (Nat.le_refl _)
          replace o_f := o_f.below st (Nat.le_refl _)
          replace hB := hB.trans (st.mono hB.size)
          clear st
          by_cases hp : isPark ps = true
          · skip
            obtain ⟨s1, s2⟩ := park_sand hp
            have HS1 := hid s1
            have HS2 := hid s2
            clear s1 s2 hp
            go_wp2_with fail
            refine (implSandOfParking_any _ _ _ _ _ o_p.has).mono ?_
            rw [HS1.out]
            rintro e v11 ⟨a_s, n_s, c_s, rfl, o_s, st⟩
            replace o_c := o_c.below st (Nat.le_refl _)
            replace o_l := o_l.below st (Nat.le_refl _)
            replace o_f := o_f.below st (Nat.le_refl _)
            replace o_p := o_p.below st (Nat.le_refl _)
            replace hB := hB.trans (st.mono hB.size)
            clear st
            go_wp2_with fail
            refine (specSandOfParking_any _ _ _ _ _ o_p.has).mono ?_
            rw [HS1.out]
            rintro e v12 ⟨a_t, n_t, c_t, rfl, o_t, st⟩
            replace o_c := o_c.below st (Nat.le_refl _)
            replace o_l := o_l.below st (Nat.le_refl _)
            replace o_f := o_f.below st (Nat.le_refl _)
            replace o_p := o_p.below st (Nat.le_refl _)
            replace o_s := o_s.below st (Nat.le_refl _)
            replace hB := hB.trans (st.mono hB.size)
            clear st
            go_wp2_with fail
            refine (wSame_any _ _ _ _ _ _ _ _ _ o_s.has o_t.has).mono ?_
            rw [same_self]
            rintro e v13 ⟨rfl, q⟩
            have st : Below v12.heap.size v12 v13 := q.below _
            replace o_c := o_c.below st (Nat.le_refl _)
            replace o_l := o_l.below st (Nat.le_refl _)
            replace o_f := o_f.below st (Nat.le_refl _)
            replace o_p := o_p.below st (Nat.le_refl _)
            replace o_s := o_s.below st (Nat.le_refl _)
            replace o_t := o_t.below st (Nat.le_refl _)
            replace hB := hB.trans (st.mono hB.size)
            clear st
            clear q
            clear o_t
            go_wp2_with fail
            refine (implParkingOfSand_any _ _ _ _ _ o_s.has).mono ?_
            rw [HS2.out]
            rintro e v14 ⟨a_u, n_u, c_u, rfl, o_u, st⟩
            replace o_c := o_c.below st (Nat.le_refl _)
            replace o_l := o_l.below st (Nat.le_refl _)
            replace o_f := o_f.below st (Nat.le_refl _)
            replace o_p := o_p.below st (Nat.le_refl _)
            replace o_s := o_s.below st (Nat.le_refl _)
            replace hB := hB.trans (st.mono hB.size)
            clear st
            go_wp2_with fail
            refine (wSame_any _ _ _ _ _ _ _ _ _ o_u.has o_p.has).mono ?_
            rw [same_self]
            rintro e v15 ⟨rfl, q⟩
            have st : Below v14.heap.size v14 v15 := q.below _
            replace o_c := o_c.below st (Nat.le_refl _)
            replace o_l := o_l.below st (Nat.le_refl _)
            replace o_f := o_f.below st (Nat.le_refl _)
            replace o_p := o_p.below st (Nat.le_refl _)
            replace o_s := o_s.below st (Nat.le_refl _)
            replace o_u := o_u.below st (Nat.le_refl _)
            replace hB := hB.trans (st.mono hB.size)
            clear st
            clear q
            clear o_u o_s o_p
            go_wp2_with fail
            refine (implIsStable_any _ _ _ _ _ o_c.has).mono ?_
            rw [HST.out]
            rintro e v16 ⟨rfl, st⟩
            replace o_c := o_c.below st (Nat.le_refl _)
            replace o_l := o_l.below st (Nat.le_refl _)
            replace o_f := o_f.below st (Nat.le_refl _)
            replace hB := hB.trans (st.mono hB.size)
            clear st
            have HSZ := hid hB
            have hbd := sand_wide HSD.out HLC.out
            have HBD := hid hbd
            have h8 := (sand_nth HSD.out HLC.out).1
            clear hbd
            go_wp2_with fail
            go_loopw [27, 158] (fun o i wr => ∃ (k : Nat) (a' : Option Addr) (cap' : Nat), k ≤ n_c ∧ i = .int .i64 (k : Int) ∧ o = .slice a' k cap' ∧ Own wr v16.heap.size a' k cap' ((turnL xs).take k) ∧ Below v16.heap.size v16 wr) (fun _ i _ => n_c - (intOf i).toNat)
            case atStart => exact ⟨0, none, 0, by omega, rfl, rfl, Own.nil _ _, Below.refl _ _⟩
            case round =>
              obtain ⟨k, a', cap', hk, rfl, rfl, hown, hb⟩ := hrel
              by_cases hlt : k < n_c
              · skip
                obtain ⟨b0, off, rfl, hbb, hc⟩ := o_c.has.2.2.2.2 (by omega)
                have hck : wr.cell? ⟨b0, off + k, none⟩ = some (.int .i64 (nth xs k)) := by rw [hb.cell (p := ⟨b0, off + k, none⟩) hbb]; exact hc k hlt
                obtain ⟨u0, u1⟩ := HBD.out k hlt
                have HS := hid (turn_succ (k := k) HLC.out hlt)
                clear hc
                go_wp2_with (at_builtin; refine wpList_append_int _ rfl _ _ rfl v16.heap.size _ _ _ _ _ rfl rfl hown (by omega) hb.size ?_; intro a3 cap3 w3 hown3 hb3)
                go_roundw
                case rel => exact ⟨k + 1, a3, cap3, by omega, by go_num, rfl, by rw [HS.out]; exact hown3, hb.trans hb3⟩
                case measure => simp [intOf]; omega
              · skip
                obtain rfl : k = n_c := by omega
                have HT : Hid ((turnL xs).take k = turnL xs) := hid (List.take_of_length_le (by rw [length_turnL, HLC.out]; exact Nat.le_refl _))
                rw [HT.out] at hown
                have st := hb
                clear hb
                replace o_c := o_c.below st (Nat.le_refl _)
                replace o_l := o_l.below st (Nat.le_refl _)
                replace o_f := o_f.below st (Nat.le_refl _)
                replace hB := hB.trans (st.mono hB.size)
                clear st
                go_wp2_with fail
                refine (wParkS_any _ _ _ _ _ hown.has).mono ?_
                rw [HISP.out]
                rintro e v17 ⟨rfl, st⟩
                replace o_c := o_c.below st (Nat.le_refl _)
                replace o_l := o_l.below st (Nat.le_refl _)
                replace o_f := o_f.below st (Nat.le_refl _)
                replace hB := hB.trans (st.mono hB.size)
                clear st
                clear hown
                go_wp2_with fail
                go_ret
                exact ⟨rfl, hB⟩
          · skip
            have HS1 : Hid (sandParkOf ps = ([], false)) := hid (by unfold sandParkOf; rw [if_neg hp])
            clear hp
            go_wp2_with fail
            refine (implSandOfParking_any _ _ _ _ _ o_p.has).mono ?_
            rw [HS1.out]
            rintro e v11 ⟨a_s, n_s, c_s, rfl, o_s, st⟩
            replace o_c := o_c.below st (Nat.le_refl _)
            replace o_l := o_l.below st (Nat.le_refl _)
            replace o_f := o_f.below st (Nat.le_refl _)
            replace o_p := o_p.below st (Nat.le_refl _)
            replace hB := hB.trans (st.mono hB.size)
            clear st
            go_wp2_with fail
            refine (specSandOfParking_any _ _ _ _ _ o_p.has).mono ?_
            rw [HS1.out]
            rintro e v12 ⟨a_t, n_t, c_t, rfl, o_t, st⟩
            replace o_c := o_c.below st (Nat.le_refl _)
            replace o_l := o_l.below st (Nat.le_refl _)
            replace o_f := o_f.below st (Nat.le_refl _)
            replace o_p := o_p.below st (Nat.le_refl _)
            replace o_s := o_s.below st (Nat.le_refl _)
            replace hB := hB.trans (st.mono hB.size)
            clear st
            go_wp2_with fail
            refine (wSame_any _ _ _ _ _ _ _ _ _ o_s.has o_t.has).mono ?_
            rw [same_self]
            rintro e v13 ⟨rfl, q⟩
            have st : Below v12.heap.size v12 v13 := q.below _
            replace o_c := o_c.below st (Nat.le_refl _)
            replace o_l := o_l.below st (Nat.le_refl _)
            replace o_f := o_f.below st (Nat.le_refl _)
            replace o_p := o_p.below st (Nat.le_refl _)
            replace o_s := o_s.below st (Nat.le_refl _)
            replace o_t := o_t.below st (Nat.le_refl _)
            replace hB := hB.trans (st.mono hB.size)
            clear st
            clear q
            clear o_t o_s o_p
            go_wp2_with fail
            refine (implIsStable_any _ _ _ _ _ o_c.has).mono ?_
            rw [HST.out]
            rintro e v14 ⟨rfl, st⟩
            replace o_c := o_c.below st (Nat.le_refl _)
            replace o_l := o_l.below st (Nat.le_refl _)
            replace o_f := o_f.below st (Nat.le_refl _)
            replace hB := hB.trans (st.mono hB.size)
            clear st
            have HSZ := hid hB
            have hbd := sand_wide HSD.out HLC.out
            have HBD := hid hbd
            have h8 := (sand_nth HSD.out HLC.out).1
            clear hbd
            go_wp2_with fail
            go_loopw [27, 158] (fun o i wr => ∃ (k : Nat) (a' : Option Addr) (cap' : Nat), k ≤ n_c ∧ i = .int .i64 (k : Int) ∧ o = .slice a' k cap' ∧ Own wr v14.heap.size a' k cap' ((turnL xs).take k) ∧ Below v14.heap.size v14 wr) (fun _ i _ => n_c - (intOf i).toNat)
            case atStart => exact ⟨0, none, 0, by omega, rfl, rfl, Own.nil _ _, Below.refl _ _⟩
            case round =>
              obtain ⟨k, a', cap', hk, rfl, rfl, hown, hb⟩ := hrel
              by_cases hlt : k < n_c
              · skip
                obtain ⟨b0, off, rfl, hbb, hc⟩ := o_c.has.2.2.2.2 (by omega)
                have hck : wr.cell? ⟨b0, off + k, none⟩ = some (.int .i64 (nth xs k)) := by rw [hb.cell (p := ⟨b0, off + k, none⟩) hbb]; exact hc k hlt
                obtain ⟨u0, u1⟩ := HBD.out k hlt
                have HS := hid (turn_succ (k := k) HLC.out hlt)
                clear hc
                go_wp2_with (at_builtin; refine wpList_append_int _ rfl _ _ rfl v14.heap.size _ _ _ _ _ rfl rfl hown (by omega) hb.size ?_; intro a3 cap3 w3 hown3 hb3)
                go_roundw
                case rel => exact ⟨k + 1, a3, cap3, by omega, by go_num, rfl, by rw [HS.out]; exact hown3, hb.trans hb3⟩
                case measure => simp [intOf]; omega
              · skip
                obtain rfl : k = n_c := by omega
                have HT : Hid ((turnL xs).take k = turnL xs) := hid (List.take_of_length_le (by rw [length_turnL, HLC.out]; exact Nat.le_refl _))
                rw [HT.out] at hown
                have st := hb
                clear hb
                replace o_c := o_c.below st (Nat.le_refl _)
                replace o_l := o_l.below st (Nat.le_refl _)
                replace o_f := o_f.below st (Nat.le_refl _)
                replace hB := hB.trans (st.mono hB.size)
                clear st
                go_wp2_with fail
                refine (wParkS_any _ _ _ _ _ hown.has).mono ?_
                rw [HISP.out]
                rintro e v15 ⟨rfl, st⟩
                replace o_c := o_c.below st (Nat.le_refl _)
                replace o_l := o_l.below st (Nat.le_refl _)
                replace o_f := o_f.below st (Nat.le_refl _)
                replace hB := hB.trans (st.mono hB.size)
                clear st
                clear hown
                go_wp2_with fail
                go_ret
                exact ⟨rfl, hB⟩
        · skip
          have HST : Hid (stableOf xs = (false, true)) := hid (by simp [stableOf, hs, hf])
          clear hs hr hf
          go_wp2_with fail
          refine (implIsRecurrent_any _ _ _ _ _ o_c.has).mono ?_
          rw [HRC.out]
          rintro e v2 ⟨rfl, st⟩
          replace o_c := o_c.below st (Nat.le_refl _)
          replace hB := hB.trans (st.mono hB.size)
          clear st
          go_wp2_with fail
          refine (specIsRecurrent_any _ _ _ _ _ o_c.has).mono ?_
          rw [HRC.out]
          rintro e v3 ⟨rfl, st⟩
          replace o_c := o_c.below st (Nat.le_refl _)
          replace hB := hB.trans (st.mono hB.size)
          clear st
          go_wp2_with fail
          refine (implParkingOfSand_any _ _ _ _ _ o_c.has).mono ?_
          rw [HPK.out]
          rintro e v4 ⟨a_l, n_l, c_l, rfl, o_l, st⟩
          replace o_c := o_c.below st (Nat.le_refl _)
          replace hB := hB.trans (st.mono hB.size)
          clear st
          go_wp2_with fail
          refine (specParkingOfSand_any _ _ _ _ _ o_c.has).mono ?_
          rw [HPK.out]
          rintro e v5 ⟨a_m, n_m, c_m, rfl, o_m, st⟩
          replace o_c := o_c.below st (Nat.le_refl _)
          replace o_l := o_l.below st (Nat.le_refl _)
          replace hB := hB.trans (st.mono hB.size)
          clear st
          go_wp2_with fail
          refine (implFireOrder_any _ _ _ _ _ o_c.has).mono ?_
          rw [HFR.out]
          rintro e v6 ⟨a_f, n_f, c_f, rfl, o_f, st⟩
          replace o_c := o_c.below st (Nat.le_refl _)
          replace o_l := o_l.below st (Nat.le_refl _)
          replace o_m := o_m.below st (Nat.le_refl _)
          replace hB := hB.trans (st.mono hB.size)
          clear st
          go_wp2_with fail
          refine (specFireOrder_any _ _ _ _ _ o_c.has).mono ?_
          rw [HFR.out]
          rintro e v7 ⟨a_g, n_g, c_g, rfl, o_g, st⟩
          replace o_c := o_c.below st (Nat.le_refl _)
          replace o_l := o_l.below st (Nat.le_refl _)
          replace o_m := o_m.below st (Nat.le_refl _)
          replace o_f := o_f.below st (Nat.le_refl _)
          replace hB := hB.trans (st.mono hB.size)
          clear st
          go_wp2_with fail
          refine (wSame_any _ _ _ _ _ _ _ _ _ o_l.has o_m.has).mono ?_
          rw [same_self]
          rintro e v8 ⟨rfl, q⟩
          have st : Below v7.heap.size v7 v8 := q.below _
          replace o_c := o_c.below st (Nat.le_refl _)
          replace o_l := o_l.below st (Nat.le_refl _)
          replace o_m := o_m.below st (Nat.le_refl _)
          replace o_f := o_f.below st (Nat.le_refl _)
          replace o_g := o_g.below st (Nat.le_refl _)
          replace hB := hB.trans (st.mono hB.size)
          clear st
          clear q
          go_wp2_with fail
          refine (wSame_any _ _ _ _ _ _ _ _ _ o_f.has o_g.has).mono ?_
          rw [same_self]
          rintro e v9 ⟨rfl, q⟩
          have st : Below v8.heap.size v8 v9 := q.below _
          replace o_c := o_c.below st (Nat.le_refl _)
          replace o_l := o_l.below st (Nat.le_refl _)
          replace o_m := o_m.below st (Nat.le_refl _)
          replace o_f := o_f.below st (Nat.le_refl _)
          replace o_g := o_g.below st (Nat.le_refl _)
          replace hB := hB.trans (st.mono hB.size)
          clear st
          clear q
          clear o_m o_g
          go_wp2_with fail
          refine (drawSandP_any b m cap' _ (HM.out.grow hB (Nat.le_refl _))).mono ?_
          rintro e v10 ⟨a_p, n_p, c_p, ps, rfl, o_p, hnp, st⟩
          replace o_c := o_c.below st (Nat.le_refl _)
          replace o_l := o_l.below st (Nat.le_refl _)
          replace o_f := o_f.below st (Nat.le_refl _)
          replace hB := hB.trans (st.mono hB.size)
          clear st
          by_cases hp : isPark ps = true
          · skip
            obtain ⟨s1, s2⟩ := park_sand hp
            have HS1 := hid s1
            have HS2 := hid s2
            clear s1 s2 hp
            go_wp2_with fail
            refine (implSandOfParking_any _ _ _ _ _ o_p.has).mono ?_
            rw [HS1.out]
            rintro e v11 ⟨a_s, n_s, c_s, rfl, o_s, st⟩
            replace o_c := o_c.below st (Nat.le_refl _)
            replace o_l := o_l.below st (Nat.le_refl _)
            replace o_f := o_f.below st (Nat.le_refl _)
            replace o_p := o_p.below st (Nat.le_refl _)
            replace hB := hB.trans (st.mono hB.size)
            clear st
            go_wp2_with fail
            refine (specSandOfParking_any _ _ _ _ _ o_p.has).mono ?_
            rw [HS1.out]
            rintro e v12 ⟨a_t, n_t, c_t, rfl, o_t, st⟩
            replace o_c := o_c.below st (Nat.le_refl _)
            replace o_l := o_l.below st (Nat.le_refl _)
            replace o_f := o_f.below st (Nat.le_refl _)
            replace o_p := o_p.below st (Nat.le_refl _)
            replace o_s := o_s.below st (Nat.le_refl _)
            replace hB := hB.trans (st.mono hB.size)
            clear st
            go_wp2_with fail
            refine (wSame_any _ _ _ _ _ _ _ _ _ o_s.has o_t.has).mono ?_
            rw [same_self]
            rintro e v13 ⟨rfl, q⟩
            have st : Below v12.heap.size v12 v13 := q.below _
            replace o_c := o_c.below st (Nat.le_refl _)
            replace o_l := o_l.below st (Nat.le_refl _)
            replace o_f := o_f.below st (Nat.le_refl _)
            replace o_p := o_p.below st (Nat.le_refl _)
            replace o_s := o_s.below st (Nat.le_refl _)
            replace o_t := o_t.below st (Nat.le_refl _)
            replace hB := hB.trans (st.mono hB.size)
            clear st
            clear q
            clear o_t
            go_wp2_with fail
            refine (implParkingOfSand_any _ _ _ _ _ o_s.has).mono ?_
            rw [HS2.out]
            rintro e v14 ⟨a_u, n_u, c_u, rfl, o_u, st⟩
            replace o_c := o_c.below st (Nat.le_refl _)
            replace o_l := o_l.below st (Nat.le_refl _)
            replace o_f := o_f.below st (Nat.le_refl _)
            replace o_p := o_p.below st (Nat.le_refl _)
            replace o_s := o_s.below st (Nat.le_refl _)
            replace hB := hB.trans (st.mono hB.size)
            clear st
            go_wp2_with fail
            refine (wSame_any _ _ _ _ _ _ _ _ _ o_u.has o_p.has).mono ?_
            rw [same_self]
            rintro e v15 ⟨rfl, q⟩
            have st : Below v14.heap.size v14 v15 := q.below _
            replace o_c := o_c.below st (Nat.le_refl _)
            replace o_l := o_l.below st (Nat.le_refl _)
            replace o_f := o_f.below st (Nat.le_refl _)
            replace o_p := o_p.below st (Nat.le_refl _)
            replace o_s := o_s.below st (Nat.le_refl _)
            replace o_u := o_u.below st (Nat.le_refl _)
            replace hB := hB.trans (st.mono hB.size)
            clear st
            clear q
            clear o_u o_s o_p
            go_wp2_with fail
            refine (implIsStable_any _ _ _ _ _ o_c.has).mono ?_
            rw [HST.out]
            rintro e v16 ⟨rfl, st⟩
            replace o_c := o_c.below st (Nat.le_refl _)
            replace o_l := o_l.below st (Nat.le_refl _)
            replace o_f := o_f.below st (Nat.le_refl _)
            replace hB := hB.trans (st.mono hB.size)
            clear st
            go_wp2_with fail
            go_ret
            exact ⟨rfl, hB⟩
          · skip
            have HS1 : Hid (sandParkOf ps = ([], false)) := hid (by unfold sandParkOf; rw [if_neg hp])
            clear hp
            go_wp2_with fail
            refine (implSandOfParking_any _ _ _ _ _ o_p.has).mono ?_
            rw [HS1.out]
            rintro e v11 ⟨a_s, n_s, c_s, rfl, o_s, st⟩
            replace o_c := o_c.below st (Nat.le_refl _)
            replace o_l := o_l.below st (Nat.le_refl _)
            replace o_f := o_f.below st (Nat.le_refl _)
            replace o_p := o_p.below st (Nat.le_refl _)
            replace hB := hB.trans (st.mono hB.size)
            clear st
            go_wp2_with fail
            refine (specSandOfParking_any _ _ _ _ _ o_p.has).mono ?_
            rw [HS1.out]
            rintro e v12 ⟨a_t, n_t, c_t, rfl, o_t, st⟩
            replace o_c := o_c.below st (Nat.le_refl _)
            replace o_l := o_l.below st (Nat.le_refl _)
            replace o_f := o_f.below st (Nat.le_refl _)
            replace o_p := o_p.below st (Nat.le_refl _)
            replace o_s := o_s.below st (Nat.le_refl _)
            replace hB := hB.trans (st.mono hB.size)
            clear st
            go_wp2_with fail
            refine (wSame_any _ _ _ _ _ _ _ _ _ o_s.has o_t.has).mono ?_
            rw [same_self]
            rintro e v13 ⟨rfl, q⟩
            have st : Below v12.heap.size v12 v13 := q.below _
            replace o_c := o_c.below st (Nat.le_refl _)
            replace o_l := o_l.below st (Nat.le_refl _)
            replace o_f := o_f.below st (Nat.le_refl _)
            replace o_p := o_p.below st (Nat.le_refl _)
            replace o_s := o_s.below st (Nat.le_refl _)
            replace o_t := o_t.below st (Nat.le_refl _)
            replace hB := hB.trans (st.mono hB.size)
            clear st
            clear q
            clear o_t o_s o_p
            go_wp2_with fail
            refine (implIsStable_any _ _ _ _ _ o_c.has).mono ?_
            rw [HST.out]
            rintro e v14 ⟨rfl, st⟩
            replace o_c := o_c.below st (Nat.le_refl _)
            replace o_l := o_l.below st (Nat.le_refl _)
            replace o_f := o_f.below st (Nat.le_refl _)
            replace hB := hB.trans (st.mono hB.size)
            clear st
            go_wp2_with fail
            go_ret
            exact ⟨rfl, hB⟩
    · skip
      obtain ⟨r1, r2⟩ := rec_not (xs := xs) (by rw [Bool.eq_false_iff.2 hs]; simp)
      have HPK := hid r1
      have HFR := hid r2
      have HRC : Hid (recOf xs = (false, false)) := hid (by simp [recOf, hs])
      have HST : Hid (stableOf xs = (false, false)) := hid (by simp [stableOf, hs])
      clear r1 r2 hs
      go_wp2_with fail
      refine (implIsRecurrent_any _ _ _ _ _ o_c.has).mono ?_
      rw [HRC.out]
      rintro e v2 ⟨rfl, st⟩
      replace o_c := o_c.below st (Nat.le_refl _)
      replace hB := hB.trans (st.mono hB.size)
      clear st
      go_wp2_with fail
      refine (specIsRecurrent_any _ _ _ _ _ o_c.has).mono ?_
      rw [HRC.out]
      rintro e v3 ⟨rfl, st⟩
      replace o_c := o_c.below st (Nat.le_refl _)
      replace hB := hB.trans (st.mono hB.size)
      clear st
      go_wp2_with fail
      refine (implParkingOfSand_any _ _ _ _ _ o_c.has).mono ?_
      rw [HPK.out]
      rintro e v4 ⟨a_l, n_l, c_l, rfl, o_l, st⟩
      replace o_c := o_c.below st (Nat.le_refl _)
      replace hB := hB.trans (st.mono hB.size)
      clear st
      go_wp2_with fail
      refine (specParkingOfSand_any _ _ _ _ _ o_c.has).mono ?_
      rw [HPK.out]
      rintro e v5 ⟨a_m, n_m, c_m, rfl, o_m, st⟩
      replace o_c := o_c.below st (Nat.le_refl _)
      replace o_l := o_l.below st (Nat.le_refl _)
      replace hB := hB.trans (st.mono hB.size)
      clear st
      go_wp2_with fail
      refine (implFireOrder_any _ _ _ _ _ o_c.has).mono ?_
      rw [HFR.out]
      rintro e v6 ⟨a_f, n_f, c_f, rfl, o_f, st⟩
      replace o_c := o_c.below st (Nat.le_refl _)
      replace o_l := o_l.below st (Nat.le_refl _)
      replace o_m := o_m.below st (Nat.le_refl _)
      replace hB := hB.trans (st.mono hB.size)
      clear st
      go_wp2_with fail
      refine (specFireOrder_any _ _ _ _ _ o_c.has).mono ?_
      rw [HFR.out]
      rintro e v7 ⟨a_g, n_g, c_g, rfl, o_g, st⟩
      replace o_c := o_c.below st (Nat.le_refl _)
      replace o_l := o_l.below st (Nat.le_refl _)
      replace o_m := o_m.below st (Nat.le_refl _)
      replace o_f := o_f.below st (Nat.le_refl _)
      replace hB := hB.trans (st.mono hB.size)
      clear st
      go_wp2_with fail
      refine (wSame_any _ _ _ _ _ _ _ _ _ o_l.has o_m.has).mono ?_
      rw [same_self]
      rintro e v8 ⟨rfl, q⟩
      have st : Below v7.heap.size v7 v8 := q.below _
      replace o_c := o_c.below st (Nat.le_refl _)
      replace o_l := o_l.below st (Nat.le_refl _)
      replace o_m := o_m.below st (Nat.le_refl _)
      replace o_f := o_f.below st (Nat.le_refl _)
      replace o_g := o_g.below st (Nat.le_refl _)
      replace hB := hB.trans (st.mono hB.size)
      clear st
      clear q
      go_wp2_with fail
      refine (wSame_any _ _ _ _ _ _ _ _ _ o_f.has o_g.has).mono ?_
      rw [same_self]
      rintro e v9 ⟨rfl, q⟩
      have st : Below v8.heap.size v8 v9 := q.below _
      replace o_c := o_c.below st (Nat.le_refl _)
      replace o_l := o_l.below st (Nat.le_refl _)
      replace o_m := o_m.below st (Nat.le_refl _)
      replace o_f := o_f.below st (Nat.le_refl _)
      replace o_g := o_g.below st (Nat.le_refl _)
      replace hB := hB.trans (st.mono hB.size)
      clear st
      clear q
      clear o_m o_g
      go_wp2_with fail
      refine (drawSandP_any b m cap' _ (HM.out.grow hB (Nat.le_refl _))).mono ?_
      rintro e v10 ⟨a_p, n_p, c_p, ps, rfl, o_p, hnp, st⟩
      replace o_c := o_c.below st (Nat.le_refl _)
      replace o_l := o_l.below st (Nat.le_refl _)
      replace o_f := o_f.below st (Nat.le_refl _)
      replace hB := hB.trans (st.mono hB.size)
      clear st
      by_cases hp : isPark ps = true
      · skip
        obtain ⟨s1, s2⟩ := park_sand hp
        have HS1 := hid s1
        have HS2 := hid s2
        clear s1 s2 hp
        go_wp2_with fail
        refine (implSandOfParking_any _ _ _ _ _ o_p.has).mono ?_
        rw [HS1.out]
        rintro e v11 ⟨a_s, n_s, c_s, rfl, o_s, st⟩
        replace o_c := o_c.below st (Nat.le_refl _)
        replace o_l := o_l.below st (Nat.le_refl _)
        replace o_f := o_f.below st (Nat.le_refl _)
        replace o_p := o_p.below st (Nat.le_refl _)
        replace hB := hB.trans (st.mono hB.size)
        clear st
        go_wp2_with fail
        refine (specSandOfParking_any _ _ _ _ _ o_p.has).mono ?_
        rw [HS1.out]
        rintro e v12 ⟨a_t, n_t, c_t, rfl, o_t, st⟩
        replace o_c := o_c.below st (Nat.le_refl _)
        replace o_l := o_l.below st (Nat.le_refl _)
        replace o_f := o_f.below st (Nat.le_refl _)
        replace o_p := o_p.below st (Nat.le_refl _)
        replace o_s := o_s.below st (Nat.le_refl _)
        replace hB := hB.trans (st.mono hB.size)
        clear st
        go_wp2_with fail
        refine (wSame_any _ _ _ _ _ _ _ _ _ o_s.has o_t.has).mono ?_
        rw [same_self]
        rintro e v13 ⟨rfl, q⟩
        have st : Below v12.heap.size v12 v13 := q.below _
        replace o_c := o_c.below st (Nat.le_refl _)
        replace o_l := o_l.below st (Nat.le_refl _)
        replace o_f := o_f.below st (Nat.le_refl _)
        replace o_p := o_p.below st (Nat.le_refl _)
        replace o_s := o_s.below st (Nat.le_refl _)
        replace o_t := o_t.below st (Nat.le_refl _)
        replace hB := hB.trans (st.mono hB.size)
        clear st
        clear q
        clear o_t
        go_wp2_with fail
        refine (implParkingOfSand_any _ _ _ _ _ o_s.has).mono ?_
        rw [HS2.out]
        rintro e v14 ⟨a_u, n_u, c_u, rfl, o_u, st⟩
        replace o_c := o_c.below st (Nat.le_refl _)
        replace o_l := o_l.below st (Nat.le_refl _)
        replace o_f := o_f.below st (Nat.le_refl _)
        replace o_p := o_p.below st (Nat.le_refl _)
        replace o_s := o_s.below st (Nat.le_refl _)
        replace hB := hB.trans (st.mono hB.size)
        clear st
        go_wp2_with fail
        refine (wSame_any _ _ _ _ _ _ _ _ _ o_u.has o_p.has).mono ?_
        rw [same_self]
        rintro e v15 ⟨rfl, q⟩
        have st : Below v14.heap.size v14 v15 := q.below _
        replace o_c := o_c.below st (Nat.le_refl _)
        replace o_l := o_l.below st (Nat.le_refl _)
        replace o_f := o_f.below st (Nat.le_refl _)
        replace o_p := o_p.below st (Nat.le_refl _)
        replace o_s := o_s.below st (Nat.le_refl _)
        replace o_u := o_u.below st (Nat.le_refl _)
        replace hB := hB.trans (st.mono hB.size)
        clear st
        clear q
        clear o_u o_s o_p
        go_wp2_with fail
        refine (implIsStable_any _ _ _ _ _ o_c.has).mono ?_
        rw [HST.out]
        rintro e v16 ⟨rfl, st⟩
        replace o_c := o_c.below st (Nat.le_refl _)
        replace o_l := o_l.below st (Nat.le_refl _)
        replace o_f := o_f.below st (Nat.le_refl _)
        replace hB := hB.trans (st.mono hB.size)
        clear st
        go_wp2_with fail
        go_ret
        exact ⟨rfl, hB⟩
      · skip
        have HS1 : Hid (sandParkOf ps = ([], false)) := hid (by unfold sandParkOf; rw [if_neg hp])
        clear hp
        go_wp2_with fail
        refine (implSandOfParking_any _ _ _ _ _ o_p.has).mono ?_
        rw [HS1.out]
        rintro e v11 ⟨a_s, n_s, c_s, rfl, o_s, st⟩
        replace o_c := o_c.below st (Nat.le_refl _)
        replace o_l := o_l.below st (Nat.le_refl _)
        replace o_f := o_f.below st (Nat.le_refl _)
        replace o_p := o_p.below st (Nat.le_refl _)
        replace hB := hB.trans (st.mono hB.size)
        clear st
        go_wp2_with fail
        refine (specSandOfParking_any _ _ _ _ _ o_p.has).mono ?_
        rw [HS1.out]
        rintro e v12 ⟨a_t, n_t, c_t, rfl, o_t, st⟩
        replace o_c := o_c.below st (Nat.le_refl _)
        replace o_l := o_l.below st (Nat.le_refl _)
        replace o_f := o_f.below st (Nat.le_refl _)
        replace o_p := o_p.below st (Nat.le_refl _)
        replace o_s := o_s.below st (Nat.le_refl _)
        replace hB := hB.trans (st.mono hB.size)
        clear st
        go_wp2_with fail
        refine (wSame_any _ _ _ _ _ _ _ _ _ o_s.has o_t.has).mono ?_
        rw [same_self]
        rintro e v13 ⟨rfl, q⟩
        have st : Below v12.heap.size v12 v13 := q.below _
        replace o_c := o_c.below st (Nat.le_refl _)
        replace o_l := o_l.below st (Nat.le_refl _)
        replace o_f := o_f.below st (Nat.le_refl _)
        replace o_p := o_p.below st (Nat.le_refl _)
        replace o_s := o_s.below st (Nat.le_refl _)
        replace o_t := o_t.below st (Nat.le_refl _)
        replace hB := hB.trans (st.mono hB.size)
        clear st
        clear q
        clear o_t o_s o_p
        go_wp2_with fail
        refine (implIsStable_any _ _ _ _ _ o_c.has).mono ?_
        rw [HST.out]
        rintro e v14 ⟨rfl, st⟩
        replace o_c := o_c.below st (Nat.le_refl _)
        replace o_l := o_l.below st (Nat.le_refl _)
        replace o_f := o_f.below st (Nat.le_refl _)
        replace hB := hB.trans (st.mono hB.size)
        clear st
        go_wp2_with fail
        go_ret
        exact ⟨rfl, hB⟩
end Go.Proofs.Ytclpbccmgfclcaa
