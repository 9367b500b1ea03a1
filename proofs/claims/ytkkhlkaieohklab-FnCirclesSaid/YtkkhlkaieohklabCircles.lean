/- The law of circles, walked. -/
import Derived.Test.YtkkhlkaieohklabNamed
import Derived.Test.YtkkhlkaieohklabDrawC
import Derived.Test.YtkkhlkaieohklabMathY
import Derived.Test.YtkkhlkaieohklabImplC
import Derived.Test.YtkkhlkaieohklabImplCr
import Derived.Test.YtkkhlkaieohklabImplCj
import Derived.Test.YtkkhlkaieohklabSpecCr
import Derived.Test.YtkkhlkaieohklabJ
namespace Go.Proofs.Ytkkhlkaieohklab
open Go.RowKit

theorem class_facts {xs : List Int} {n : Nat} (h : circB xs = true) (hn : xs.length = n) : ∃ f b : Nat, f + b = n ∧ n ≤ 8 ∧ (f : Int) = cfree xs ∧ freeOf xs = ((f : Int), true) ∧ classOf xs = (turn xs ((n : Int) + 1) (b : Int), (b : Int), true) := by
  subst hn
  obtain ⟨f1, f2, _⟩ := cfree_spec h
  refine ⟨(cfree xs).toNat, xs.length - (cfree xs).toNat, by omega, (circB_iff.1 h).1, by omega, ?_, ?_⟩
  · rw [Int.toNat_of_nonneg f1]
    simp [freeOf, h]
  · rw [show (((xs.length - (cfree xs).toNat : Nat)) : Int) = (xs.length : Int) - cfree xs by omega]
    simp [classOf, h]
theorem turned_facts {xs : List Int} {n f b k : Nat} (h : circB xs = true) (hn : xs.length = n) (hf : (f : Int) = cfree xs) (hfb : f + b = n) (hk : k ≤ n) :
    ∃ zs, turn xs ((n : Int) + 1) (k : Int) = zs ∧ turnOf xs ((n : Int) + 1) (k : Int) = (zs, true) ∧ isParking zs = (decide (k = b), true) ∧ freeOf zs = (((f : Int) + (k : Int)) % ((n : Int) + 1), true) := by
  subst hn
  obtain ⟨h8, hb⟩ := circB_iff.1 h
  have hg := h
  rw [circ_good h8] at hg
  have hc := turn_circ (b := (k : Int)) h
  refine ⟨_, rfl, ?_, ?_, ?_⟩
  · have : inB (k : Int) (-1000) 1000 = true := inB_iff.2 ⟨by omega, by omega⟩
    simp [turnOf, hg, this]
  · obtain ⟨c1, c2⟩ := circB_iff.1 hc
    have ha : asked (turn xs ((xs.length : Int) + 1) (k : Int)) = true := by
      simp only [asked, Bool.and_eq_true, decide_eq_true_eq, allB_iff]
      exact ⟨c1, fun x hx => by have := c2 x hx; rw [length_turn] at this; omega⟩
    have e : decide ((k : Int) = (xs.length : Int) - cfree xs) = decide (k = b) := by
      rw [decide_eq_decide]
      omega
    unfold isParking
    rw [if_pos ha, turn_park h hk, e]
  · unfold freeOf
    rw [if_pos hc, cfree_turn h, hf]
theorem other_facts {xs : List Int} {f i : Nat} (h : circB xs = true) (hf : (f : Int) = cfree xs) (hi : i + 1 < xs.length) : freeOf (swapped xs i) = ((f : Int), true) := by
  obtain ⟨h1, h2⟩ := cfree_swapped h hi
  unfold freeOf
  rw [if_pos h1, h2, hf]

set_option maxRecDepth 100000 in
set_option maxHeartbeats 16000000 in
theorem circles_walk (a b : Option Addr) (n m cap cap' : Nat) (w : World) (hn : n ≤ maxLen) (h : n ≤ 1048576 → HasB w a n w.heap.size) (h' : m ≤ 1048576 → HasB w b m w.heap.size) :
    Calls Try.prog 3 #[.slice a n cap, .slice b m cap'] w (Holds w) := by
  have H1 := hid h
  have H2 := hid h'
  have HN := hid hn
  clear h h' hn
  have hB : Below w.heap.size w w := Below.refl _ _
  go_enter Try.func3, Try.ntmps3
  go_wp2_with fail
  refine (big_any _ _ _ _ _ _ _ (by have := HN.out; unfold maxLen at this; omega)).mono ?_
  rintro e _ ⟨r, rfl, hr, rfl⟩
  have HR := hid hr
  clear hr
  cases r with
  | true =>
    go_wp2_with fail
    go_ret
    exact ⟨rfl, hB⟩
  | false =>
    have hnm := HR.out rfl
    clear HR
    have HA := hid (H1.out (by omega))
    have HM := hid (H2.out (by omega))
    clear H1 H2 HN
    go_wp2_with fail
    refine (drawClass_any _ _ _ _ HA.out).mono ?_
    rintro e v1 ⟨a_l, n_l, c_l, xs, rfl, o_l, hnl, st⟩
    replace hB := hB.trans (st.mono hB.size)
    clear st
    by_cases hcx : circB xs = true
    · skip
      obtain ⟨f, bN, hfb, hn8, hf, f1, f2⟩ := class_facts hcx o_l.len
      have HCX := hid hcx
      have HFR := hid f1
      have HF := hid hf
      have HLN := hid o_l.len
      obtain ⟨ys, hys⟩ : ∃ ys, turn xs ((n_l : Int) + 1) (bN : Int) = ys := ⟨_, rfl⟩
      rw [hys] at f2
      have HYS := hid hys
      have HCL := hid f2
      clear hcx f1 f2 hf hys
      have hne0 := neq_self_int (f : Int)
      have hne1 := neq_self_int (bN : Int)
      go_wp2_with fail
      refine (parkingOfClass_any _ _ _ _ _ o_l.has).mono ?_
      rw [HCL.out]
      rintro e v2 ⟨a_p, n_p, c_p, rfl, o_p, st⟩
      replace o_l := o_l.below st (Nat.le_refl _)
      replace hB := hB.trans (st.mono hB.size)
      clear st
      go_wp2_with fail
      refine (specClass_any _ _ _ _ _ o_l.has).mono ?_
      rw [HCL.out]
      rintro e v3 ⟨a_r, n_r, c_r, rfl, o_r, st⟩
      replace o_l := o_l.below st (Nat.le_refl _)
      replace o_p := o_p.below st (Nat.le_refl _)
      replace hB := hB.trans (st.mono hB.size)
      clear st
      go_wp2_with fail
      refine (freeOnCircle_any _ _ _ _ _ o_l.has).mono ?_
      rw [HFR.out]
      rintro e v4 ⟨rfl, st⟩
      replace o_l := o_l.below st (Nat.le_refl _)
      replace o_p := o_p.below st (Nat.le_refl _)
      replace o_r := o_r.below st (Nat.le_refl _)
      replace hB := hB.trans (st.mono hB.size)
      clear st
      go_wp2_with fail
      refine (specFree_any _ _ _ _ _ o_l.has).mono ?_
      rw [HFR.out]
      rintro e v5 ⟨rfl, st⟩
      replace o_l := o_l.below st (Nat.le_refl _)
      replace o_p := o_p.below st (Nat.le_refl _)
      replace o_r := o_r.below st (Nat.le_refl _)
      replace hB := hB.trans (st.mono hB.size)
      clear st
      go_wp2_with fail
      refine (jSame_any _ _ _ _ _ _ _ _ _ o_p.has o_r.has).mono ?_
      rintro e v6 ⟨rfl, q⟩
      have st : Below v5.heap.size v5 v6 := q.below _
      replace o_l := o_l.below st (Nat.le_refl _)
      replace o_p := o_p.below st (Nat.le_refl _)
      replace o_r := o_r.below st (Nat.le_refl _)
      replace hB := hB.trans (st.mono hB.size)
      clear st
      clear q
      rw [same_self]
      clear o_r
      go_wp2_with fail
      go_loopw [17, 18] (fun fd i wr => ∃ k d : Nat, k ≤ n_l + 1 ∧ Hid (d = if bN < k then 1 else 0) ∧ fd = .int .i64 (d : Int) ∧ i = .int .i64 (k : Int) ∧ Below v6.heap.size v6 wr) (fun _ i _ => n_l + 1 - (intOf i).toNat)
      case atStart => exact ⟨0, 0, by omega, hid (by simp), rfl, rfl, Below.refl _ _⟩
      case round =>
        obtain ⟨wo, rfl⟩ : ∃ wo : World, wo = wr := ⟨_, rfl⟩
        obtain ⟨k, d, hk, HD, rfl, rfl, st⟩ := hrel
        have hV := st
        replace o_l := o_l.below st (Nat.le_refl _)
        replace o_p := o_p.below st (Nat.le_refl _)
        replace hB := hB.trans (st.mono hB.size)
        clear st
        by_cases hlt : k ≤ n_l
        · skip
          obtain ⟨zs, z1, z2, z3, z4⟩ := turned_facts (b := bN) (k := k) HCX.out HLN.out HF.out hfb (by omega)
          have HZ1 := hid z1
          have HTF := hid z2
          have HZF := hid z4
          have hfk : (0 : Int) ≤ (f : Int) + (k : Int) := by omega
          have hd1 : d ≤ 1 := by have := HD.out; split at this <;> omega
          have hkn : (k : Int) ≤ (n_l : Int) := by omega
          have hmz : ¬ (n_l : Int) + 1 = 0 := by omega
          have hsm := neq_self_int (((f : Int) + (k : Int)) % ((n_l : Int) + 1))
          by_cases hkb : k = bN
          · skip
            have HZP : Hid (isParking zs = (true, true)) := hid (by rw [z3]; simp [hkb])
            subst hkb
            have hZY : zs = ys := by rw [← z1, ← HYS.out]
            subst hZY
            clear z1 z2 z3 z4
            have hbe : ((k : Int) == (k : Int)) = true := by simp
            go_wp2_with fail
            refine (turnFavourites_any _ _ _ _ _ _ _ o_l.has).mono ?_
            rw [HTF.out]
            rintro e v7 ⟨a_z, n_z, c_z, rfl, o_z, st⟩
            replace o_l := o_l.below st (Nat.le_refl _)
            replace o_p := o_p.below st (Nat.le_refl _)
            replace hB := hB.trans (st.mono hB.size)
            replace hV := hV.trans (st.mono hV.size)
            clear st
            go_wp2_with fail
            refine (isParking_any _ _ _ _ _ o_z.has).mono ?_
            rw [HZP.out]
            rintro e v8 ⟨rfl, st⟩
            replace o_l := o_l.below st (Nat.le_refl _)
            replace o_p := o_p.below st (Nat.le_refl _)
            replace o_z := o_z.below st (Nat.le_refl _)
            replace hB := hB.trans (st.mono hB.size)
            replace hV := hV.trans (st.mono hV.size)
            clear st
            go_wp2_with fail
            refine (freeOnCircle_any _ _ _ _ _ o_z.has).mono ?_
            rw [HZF.out]
            rintro e v9 ⟨rfl, st⟩
            replace o_l := o_l.below st (Nat.le_refl _)
            replace o_p := o_p.below st (Nat.le_refl _)
            replace o_z := o_z.below st (Nat.le_refl _)
            replace hB := hB.trans (st.mono hB.size)
            replace hV := hV.trans (st.mono hV.size)
            clear st
            go_wp2_with fail
            refine (jSame_any _ _ _ _ _ _ _ _ _ o_z.has o_p.has).mono ?_
            rintro e v10 ⟨rfl, q⟩
            have st : Below v9.heap.size v9 v10 := q.below _
            replace o_l := o_l.below st (Nat.le_refl _)
            replace o_p := o_p.below st (Nat.le_refl _)
            replace o_z := o_z.below st (Nat.le_refl _)
            replace hB := hB.trans (st.mono hB.size)
            replace hV := hV.trans (st.mono hV.size)
            clear st
            clear q
            rw [same_self]
            go_wp2_with fail
            go_roundw
            case rel => exact ⟨k + 1, d + 1, by omega, hid (by have := HD.out; simp at this; subst this; simp), by go_num, by go_num, hV⟩
            case measure => simp [intOf]; omega
          · skip
            have HZP : Hid (isParking zs = (false, true)) := hid (by rw [z3]; simp [hkb])
            clear z1 z2 z3 z4
            have hbe : ((k : Int) == (bN : Int)) = false := by simp; omega
            go_wp2_with fail
            refine (turnFavourites_any _ _ _ _ _ _ _ o_l.has).mono ?_
            rw [HTF.out]
            rintro e v7 ⟨a_z, n_z, c_z, rfl, o_z, st⟩
            replace o_l := o_l.below st (Nat.le_refl _)
            replace o_p := o_p.below st (Nat.le_refl _)
            replace hB := hB.trans (st.mono hB.size)
            replace hV := hV.trans (st.mono hV.size)
            clear st
            go_wp2_with fail
            refine (isParking_any _ _ _ _ _ o_z.has).mono ?_
            rw [HZP.out]
            rintro e v8 ⟨rfl, st⟩
            replace o_l := o_l.below st (Nat.le_refl _)
            replace o_p := o_p.below st (Nat.le_refl _)
            replace o_z := o_z.below st (Nat.le_refl _)
            replace hB := hB.trans (st.mono hB.size)
            replace hV := hV.trans (st.mono hV.size)
            clear st
            go_wp2_with fail
            refine (freeOnCircle_any _ _ _ _ _ o_z.has).mono ?_
            rw [HZF.out]
            rintro e v9 ⟨rfl, st⟩
            replace o_l := o_l.below st (Nat.le_refl _)
            replace o_p := o_p.below st (Nat.le_refl _)
            replace o_z := o_z.below st (Nat.le_refl _)
            replace hB := hB.trans (st.mono hB.size)
            replace hV := hV.trans (st.mono hV.size)
            clear st
            go_wp2_with fail
            go_roundw
            case rel => exact ⟨k + 1, d, by omega, hid (by have := HD.out; rw [this]; by_cases e : bN < k <;> simp [e] <;> omega), rfl, by go_num, hV⟩
            case measure => simp [intOf]; omega
        · skip
          obtain rfl : k = n_l + 1 := by omega
          obtain rfl : d = 1 := by rw [HD.out, if_pos (by omega)]
          clear o_p
          clear hV HD
          by_cases hn1 : 1 < n_l
          · skip
            go_wp2_with fail
            refine (numberOf_any _ _ _ w.heap.size _ (HM.out.below hB)).mono ?_
            rintro e _ ⟨z, rfl, z0, z1, rfl⟩
            obtain ⟨i, hi⟩ : ∃ i : Nat, z % ((n_l : Int) - 1) = (i : Int) := ⟨_, (Int.toNat_of_nonneg (Int.emod_nonneg _ (by omega))).symm⟩
            have hi2 : i + 1 < n_l := by have := Int.emod_lt_of_pos z (show 0 < (n_l : Int) - 1 by omega); omega
            have HOF := hid (other_facts (i := i) HCX.out HF.out (by rw [HLN.out]; exact hi2))
            go_wp2_with fail
            rw [hi]
            refine (jSwapped_any _ _ _ xs i _ o_l.has hi2).mono ?_
            rintro e v7 ⟨a_w, c_w, rfl, o_w, st⟩
            replace o_l := o_l.below st (Nat.le_refl _)
            replace hB := hB.trans (st.mono hB.size)
            clear st
            go_wp2_with fail
            refine (freeOnCircle_any _ _ _ _ _ o_w.has).mono ?_
            rw [HOF.out]
            rintro e v8 ⟨rfl, st⟩
            replace o_l := o_l.below st (Nat.le_refl _)
            replace o_w := o_w.below st (Nat.le_refl _)
            replace hB := hB.trans (st.mono hB.size)
            clear st
            clear o_w o_l
            go_wp2_with fail
            refine (drawCircle_any b m cap' _ (HM.out.grow hB (Nat.le_refl _))).mono ?_
            rintro e v9 ⟨a_a, n_a, c_a, us, pp, rfl, o_a, hna, p0, p1, st⟩
            replace hB := hB.trans (st.mono hB.size)
            clear st
            by_cases hcy : good us pp = true ∧ (us.length : Int) ≤ pp
            · skip
              by_cases hap : allPark pp us = true
              · skip
                obtain ⟨ds, hds⟩ : ∃ ds, cdrive pp us = ds := ⟨_, rfl⟩
                have HCI : Hid (circleOf us pp = (ds, true)) := hid (by unfold circleOf; rw [if_pos (by simpa using hcy), hds])
                have HDR : Hid (driveCars us pp = (ds, true)) := hid (by unfold driveCars; rw [if_pos (by simp [hcy.1, hap]), ← circle_street hcy.1 hap, hds])
                clear hcy hap hds
                go_wp2_with fail
                refine (driveCircle_any _ _ _ _ _ _ o_a.has).mono ?_
                rw [HCI.out]
                rintro e v10 ⟨a_d, n_d, c_d, rfl, o_d, st⟩
                replace o_a := o_a.below st (Nat.le_refl _)
                replace hB := hB.trans (st.mono hB.size)
                clear st
                go_wp2_with fail
                refine (specCircle_any _ _ _ _ _ _ o_a.has).mono ?_
                rw [HCI.out]
                rintro e v11 ⟨a_e, n_e, c_e, rfl, o_e, st⟩
                replace o_a := o_a.below st (Nat.le_refl _)
                replace o_d := o_d.below st (Nat.le_refl _)
                replace hB := hB.trans (st.mono hB.size)
                clear st
                go_wp2_with fail
                refine (drawTurn_any b m cap' _ (HM.out.grow hB (Nat.le_refl _))).mono ?_
                rintro e v12 ⟨a_b, n_b, c_b, vs, mm, kk, rfl, o_b, hnb, q0, q1, q2, q3, st⟩
                replace o_a := o_a.below st (Nat.le_refl _)
                replace o_d := o_d.below st (Nat.le_refl _)
                replace o_e := o_e.below st (Nat.le_refl _)
                replace hB := hB.trans (st.mono hB.size)
                clear st
                obtain ⟨⟨ts, tb⟩, hts⟩ : ∃ r, turnOf vs mm kk = r := ⟨_, rfl⟩
                have HTU := hid hts
                clear hts
                have htb : (tb != tb) = false := by simp
                go_wp2_with fail
                refine (turnFavourites_any _ _ _ _ _ _ _ o_b.has).mono ?_
                rw [HTU.out]
                rintro e v13 ⟨a_t, n_t, c_t, rfl, o_t, st⟩
                replace o_a := o_a.below st (Nat.le_refl _)
                replace o_d := o_d.below st (Nat.le_refl _)
                replace o_e := o_e.below st (Nat.le_refl _)
                replace o_b := o_b.below st (Nat.le_refl _)
                replace hB := hB.trans (st.mono hB.size)
                clear st
                go_wp2_with fail
                refine (specTurn_any _ _ _ _ _ _ _ o_b.has).mono ?_
                rw [HTU.out]
                rintro e v14 ⟨a_u, n_u, c_u, rfl, o_u, st⟩
                replace o_a := o_a.below st (Nat.le_refl _)
                replace o_d := o_d.below st (Nat.le_refl _)
                replace o_e := o_e.below st (Nat.le_refl _)
                replace o_b := o_b.below st (Nat.le_refl _)
                replace o_t := o_t.below st (Nat.le_refl _)
                replace hB := hB.trans (st.mono hB.size)
                clear st
                clear o_b
                go_wp2_with fail
                refine (jSame_any _ _ _ _ _ _ _ _ _ o_d.has o_e.has).mono ?_
                rintro e v15 ⟨rfl, q⟩
                have st : Below v14.heap.size v14 v15 := q.below _
                replace o_a := o_a.below st (Nat.le_refl _)
                replace o_d := o_d.below st (Nat.le_refl _)
                replace o_e := o_e.below st (Nat.le_refl _)
                replace o_t := o_t.below st (Nat.le_refl _)
                replace o_u := o_u.below st (Nat.le_refl _)
                replace hB := hB.trans (st.mono hB.size)
                clear st
                clear q
                rw [same_self]
                clear o_e
                go_wp2_with fail
                refine (jSame_any _ _ _ _ _ _ _ _ _ o_t.has o_u.has).mono ?_
                rintro e v16 ⟨rfl, q⟩
                have st : Below v15.heap.size v15 v16 := q.below _
                replace o_a := o_a.below st (Nat.le_refl _)
                replace o_d := o_d.below st (Nat.le_refl _)
                replace o_t := o_t.below st (Nat.le_refl _)
                replace o_u := o_u.below st (Nat.le_refl _)
                replace hB := hB.trans (st.mono hB.size)
                clear st
                clear q
                rw [same_self]
                clear o_t o_u
                go_wp2_with fail
                refine (driveCars_any _ _ _ _ _ _ o_a.has).mono ?_
                rw [HDR.out]
                rintro e v17 ⟨a_s, n_s, c_s, rfl, o_s, st⟩
                replace o_a := o_a.below st (Nat.le_refl _)
                replace o_d := o_d.below st (Nat.le_refl _)
                replace hB := hB.trans (st.mono hB.size)
                clear st
                go_wp2_with fail
                refine (jSame_any _ _ _ _ _ _ _ _ _ o_s.has o_d.has).mono ?_
                rintro e v18 ⟨rfl, q⟩
                have st : Below v17.heap.size v17 v18 := q.below _
                replace o_a := o_a.below st (Nat.le_refl _)
                replace o_d := o_d.below st (Nat.le_refl _)
                replace o_s := o_s.below st (Nat.le_refl _)
                replace hB := hB.trans (st.mono hB.size)
                clear st
                clear q
                rw [same_self]
                go_wp2_with fail
                go_ret
                exact ⟨rfl, hB⟩
              · skip
                obtain ⟨ds, hds⟩ : ∃ ds, cdrive pp us = ds := ⟨_, rfl⟩
                have HCI : Hid (circleOf us pp = (ds, true)) := hid (by unfold circleOf; rw [if_pos (by simpa using hcy), hds])
                have HDR : Hid (driveCars us pp = ([], false)) := hid (by unfold driveCars; rw [if_neg (by simp [hcy.1, hap])])
                clear hcy hap hds
                go_wp2_with fail
                refine (driveCircle_any _ _ _ _ _ _ o_a.has).mono ?_
                rw [HCI.out]
                rintro e v10 ⟨a_d, n_d, c_d, rfl, o_d, st⟩
                replace o_a := o_a.below st (Nat.le_refl _)
                replace hB := hB.trans (st.mono hB.size)
                clear st
                go_wp2_with fail
                refine (specCircle_any _ _ _ _ _ _ o_a.has).mono ?_
                rw [HCI.out]
                rintro e v11 ⟨a_e, n_e, c_e, rfl, o_e, st⟩
                replace o_a := o_a.below st (Nat.le_refl _)
                replace o_d := o_d.below st (Nat.le_refl _)
                replace hB := hB.trans (st.mono hB.size)
                clear st
                go_wp2_with fail
                refine (drawTurn_any b m cap' _ (HM.out.grow hB (Nat.le_refl _))).mono ?_
                rintro e v12 ⟨a_b, n_b, c_b, vs, mm, kk, rfl, o_b, hnb, q0, q1, q2, q3, st⟩
                replace o_a := o_a.below st (Nat.le_refl _)
                replace o_d := o_d.below st (Nat.le_refl _)
                replace o_e := o_e.below st (Nat.le_refl _)
                replace hB := hB.trans (st.mono hB.size)
                clear st
                obtain ⟨⟨ts, tb⟩, hts⟩ : ∃ r, turnOf vs mm kk = r := ⟨_, rfl⟩
                have HTU := hid hts
                clear hts
                have htb : (tb != tb) = false := by simp
                go_wp2_with fail
                refine (turnFavourites_any _ _ _ _ _ _ _ o_b.has).mono ?_
                rw [HTU.out]
                rintro e v13 ⟨a_t, n_t, c_t, rfl, o_t, st⟩
                replace o_a := o_a.below st (Nat.le_refl _)
                replace o_d := o_d.below st (Nat.le_refl _)
                replace o_e := o_e.below st (Nat.le_refl _)
                replace o_b := o_b.below st (Nat.le_refl _)
                replace hB := hB.trans (st.mono hB.size)
                clear st
                go_wp2_with fail
                refine (specTurn_any _ _ _ _ _ _ _ o_b.has).mono ?_
                rw [HTU.out]
                rintro e v14 ⟨a_u, n_u, c_u, rfl, o_u, st⟩
                replace o_a := o_a.below st (Nat.le_refl _)
                replace o_d := o_d.below st (Nat.le_refl _)
                replace o_e := o_e.below st (Nat.le_refl _)
                replace o_b := o_b.below st (Nat.le_refl _)
                replace o_t := o_t.below st (Nat.le_refl _)
                replace hB := hB.trans (st.mono hB.size)
                clear st
                clear o_b
                go_wp2_with fail
                refine (jSame_any _ _ _ _ _ _ _ _ _ o_d.has o_e.has).mono ?_
                rintro e v15 ⟨rfl, q⟩
                have st : Below v14.heap.size v14 v15 := q.below _
                replace o_a := o_a.below st (Nat.le_refl _)
                replace o_d := o_d.below st (Nat.le_refl _)
                replace o_e := o_e.below st (Nat.le_refl _)
                replace o_t := o_t.below st (Nat.le_refl _)
                replace o_u := o_u.below st (Nat.le_refl _)
                replace hB := hB.trans (st.mono hB.size)
                clear st
                clear q
                rw [same_self]
                clear o_e
                go_wp2_with fail
                refine (jSame_any _ _ _ _ _ _ _ _ _ o_t.has o_u.has).mono ?_
                rintro e v16 ⟨rfl, q⟩
                have st : Below v15.heap.size v15 v16 := q.below _
                replace o_a := o_a.below st (Nat.le_refl _)
                replace o_d := o_d.below st (Nat.le_refl _)
                replace o_t := o_t.below st (Nat.le_refl _)
                replace o_u := o_u.below st (Nat.le_refl _)
                replace hB := hB.trans (st.mono hB.size)
                clear st
                clear q
                rw [same_self]
                clear o_t o_u
                go_wp2_with fail
                refine (driveCars_any _ _ _ _ _ _ o_a.has).mono ?_
                rw [HDR.out]
                rintro e v17 ⟨a_s, n_s, c_s, rfl, o_s, st⟩
                replace o_a := o_a.below st (Nat.le_refl _)
                replace o_d := o_d.below st (Nat.le_refl _)
                replace hB := hB.trans (st.mono hB.size)
                clear st
                go_wp2_with fail
                go_ret
                exact ⟨rfl, hB⟩
            · skip
              have HCI : Hid (circleOf us pp = ([], false)) := hid (by unfold circleOf; rw [if_neg (by simpa using hcy)])
              clear hcy
              go_wp2_with fail
              refine (driveCircle_any _ _ _ _ _ _ o_a.has).mono ?_
              rw [HCI.out]
              rintro e v10 ⟨a_d, n_d, c_d, rfl, o_d, st⟩
              replace o_a := o_a.below st (Nat.le_refl _)
              replace hB := hB.trans (st.mono hB.size)
              clear st
              go_wp2_with fail
              refine (specCircle_any _ _ _ _ _ _ o_a.has).mono ?_
              rw [HCI.out]
              rintro e v11 ⟨a_e, n_e, c_e, rfl, o_e, st⟩
              replace o_a := o_a.below st (Nat.le_refl _)
              replace o_d := o_d.below st (Nat.le_refl _)
              replace hB := hB.trans (st.mono hB.size)
              clear st
              go_wp2_with fail
              refine (drawTurn_any b m cap' _ (HM.out.grow hB (Nat.le_refl _))).mono ?_
              rintro e v12 ⟨a_b, n_b, c_b, vs, mm, kk, rfl, o_b, hnb, q0, q1, q2, q3, st⟩
              replace o_a := o_a.below st (Nat.le_refl _)
              replace o_d := o_d.below st (Nat.le_refl _)
              replace o_e := o_e.below st (Nat.le_refl _)
              replace hB := hB.trans (st.mono hB.size)
              clear st
              obtain ⟨⟨ts, tb⟩, hts⟩ : ∃ r, turnOf vs mm kk = r := ⟨_, rfl⟩
              have HTU := hid hts
              clear hts
              have htb : (tb != tb) = false := by simp
              go_wp2_with fail
              refine (turnFavourites_any _ _ _ _ _ _ _ o_b.has).mono ?_
              rw [HTU.out]
              rintro e v13 ⟨a_t, n_t, c_t, rfl, o_t, st⟩
              replace o_a := o_a.below st (Nat.le_refl _)
              replace o_d := o_d.below st (Nat.le_refl _)
              replace o_e := o_e.below st (Nat.le_refl _)
              replace o_b := o_b.below st (Nat.le_refl _)
              replace hB := hB.trans (st.mono hB.size)
              clear st
              go_wp2_with fail
              refine (specTurn_any _ _ _ _ _ _ _ o_b.has).mono ?_
              rw [HTU.out]
              rintro e v14 ⟨a_u, n_u, c_u, rfl, o_u, st⟩
              replace o_a := o_a.below st (Nat.le_refl _)
              replace o_d := o_d.below st (Nat.le_refl _)
              replace o_e := o_e.below st (Nat.le_refl _)
              replace o_b := o_b.below st (Nat.le_refl _)
              replace o_t := o_t.below st (Nat.le_refl _)
              replace hB := hB.trans (st.mono hB.size)
              clear st
              clear o_b
              go_wp2_with fail
              refine (jSame_any _ _ _ _ _ _ _ _ _ o_d.has o_e.has).mono ?_
              rintro e v15 ⟨rfl, q⟩
              have st : Below v14.heap.size v14 v15 := q.below _
              replace o_a := o_a.below st (Nat.le_refl _)
              replace o_d := o_d.below st (Nat.le_refl _)
              replace o_e := o_e.below st (Nat.le_refl _)
              replace o_t := o_t.below st (Nat.le_refl _)
              replace o_u := o_u.below st (Nat.le_refl _)
              replace hB := hB.trans (st.mono hB.size)
              clear st
              clear q
              rw [same_self]
              clear o_e
              go_wp2_with fail
              refine (jSame_any _ _ _ _ _ _ _ _ _ o_t.has o_u.has).mono ?_
              rintro e v16 ⟨rfl, q⟩
              have st : Below v15.heap.size v15 v16 := q.below _
              replace o_a := o_a.below st (Nat.le_refl _)
              replace o_d := o_d.below st (Nat.le_refl _)
              replace o_t := o_t.below st (Nat.le_refl _)
              replace o_u := o_u.below st (Nat.le_refl _)
              replace hB := hB.trans (st.mono hB.size)
              clear st
              clear q
              rw [same_self]
              clear o_t o_u
              go_wp2_with fail
              go_ret
              exact ⟨rfl, hB⟩
          · skip
            go_wp2_with fail
            refine (freeOnCircle_any _ _ _ _ _ o_l.has).mono ?_
            rw [HFR.out]
            rintro e v7 ⟨rfl, st⟩
            replace o_l := o_l.below st (Nat.le_refl _)
            replace hB := hB.trans (st.mono hB.size)
            clear st
            clear o_l
            go_wp2_with fail
            refine (drawCircle_any b m cap' _ (HM.out.grow hB (Nat.le_refl _))).mono ?_
            rintro e v8 ⟨a_a, n_a, c_a, us, pp, rfl, o_a, hna, p0, p1, st⟩
            replace hB := hB.trans (st.mono hB.size)
            clear st
            by_cases hcy : good us pp = true ∧ (us.length : Int) ≤ pp
            · skip
              by_cases hap : allPark pp us = true
              · skip
                obtain ⟨ds, hds⟩ : ∃ ds, cdrive pp us = ds := ⟨_, rfl⟩
                have HCI : Hid (circleOf us pp = (ds, true)) := hid (by unfold circleOf; rw [if_pos (by simpa using hcy), hds])
                have HDR : Hid (driveCars us pp = (ds, true)) := hid (by unfold driveCars; rw [if_pos (by simp [hcy.1, hap]), ← circle_street hcy.1 hap, hds])
                clear hcy hap hds
                go_wp2_with fail
                refine (driveCircle_any _ _ _ _ _ _ o_a.has).mono ?_
                rw [HCI.out]
                rintro e v9 ⟨a_d, n_d, c_d, rfl, o_d, st⟩
                replace o_a := o_a.below st (Nat.le_refl _)
                replace hB := hB.trans (st.mono hB.size)
                clear st
                go_wp2_with fail
                refine (specCircle_any _ _ _ _ _ _ o_a.has).mono ?_
                rw [HCI.out]
                rintro e v10 ⟨a_e, n_e, c_e, rfl, o_e, st⟩
                replace o_a := o_a.below st (Nat.le_refl _)
                replace o_d := o_d.below st (Nat.le_refl _)
                replace hB := hB.trans (st.mono hB.size)
                clear st
                go_wp2_with fail
                refine (drawTurn_any b m cap' _ (HM.out.grow hB (Nat.le_refl _))).mono ?_
                rintro e v11 ⟨a_b, n_b, c_b, vs, mm, kk, rfl, o_b, hnb, q0, q1, q2, q3, st⟩
                replace o_a := o_a.below st (Nat.le_refl _)
                replace o_d := o_d.below st (Nat.le_refl _)
                replace o_e := o_e.below st (Nat.le_refl _)
                replace hB := hB.trans (st.mono hB.size)
                clear st
                obtain ⟨⟨ts, tb⟩, hts⟩ : ∃ r, turnOf vs mm kk = r := ⟨_, rfl⟩
                have HTU := hid hts
                clear hts
                have htb : (tb != tb) = false := by simp
                go_wp2_with fail
                refine (turnFavourites_any _ _ _ _ _ _ _ o_b.has).mono ?_
                rw [HTU.out]
                rintro e v12 ⟨a_t, n_t, c_t, rfl, o_t, st⟩
                replace o_a := o_a.below st (Nat.le_refl _)
                replace o_d := o_d.below st (Nat.le_refl _)
                replace o_e := o_e.below st (Nat.le_refl _)
                replace o_b := o_b.below st (Nat.le_refl _)
                replace hB := hB.trans (st.mono hB.size)
                clear st
                go_wp2_with fail
                refine (specTurn_any _ _ _ _ _ _ _ o_b.has).mono ?_
                rw [HTU.out]
                rintro e v13 ⟨a_u, n_u, c_u, rfl, o_u, st⟩
                replace o_a := o_a.below st (Nat.le_refl _)
                replace o_d := o_d.below st (Nat.le_refl _)
                replace o_e := o_e.below st (Nat.le_refl _)
                replace o_b := o_b.below st (Nat.le_refl _)
                replace o_t := o_t.below st (Nat.le_refl _)
                replace hB := hB.trans (st.mono hB.size)
                clear st
                clear o_b
                go_wp2_with fail
                refine (jSame_any _ _ _ _ _ _ _ _ _ o_d.has o_e.has).mono ?_
                rintro e v14 ⟨rfl, q⟩
                have st : Below v13.heap.size v13 v14 := q.below _
                replace o_a := o_a.below st (Nat.le_refl _)
                replace o_d := o_d.below st (Nat.le_refl _)
                replace o_e := o_e.below st (Nat.le_refl _)
                replace o_t := o_t.below st (Nat.le_refl _)
                replace o_u := o_u.below st (Nat.le_refl _)
                replace hB := hB.trans (st.mono hB.size)
                clear st
                clear q
                rw [same_self]
                clear o_e
                go_wp2_with fail
                refine (jSame_any _ _ _ _ _ _ _ _ _ o_t.has o_u.has).mono ?_
                rintro e v15 ⟨rfl, q⟩
                have st : Below v14.heap.size v14 v15 := q.below _
                replace o_a := o_a.below st (Nat.le_refl _)
                replace o_d := o_d.below st (Nat.le_refl _)
                replace o_t := o_t.below st (Nat.le_refl _)
                replace o_u := o_u.below st (Nat.le_refl _)
                replace hB := hB.trans (st.mono hB.size)
                clear st
                clear q
                rw [same_self]
                clear o_t o_u
                go_wp2_with fail
                refine (driveCars_any _ _ _ _ _ _ o_a.has).mono ?_
                rw [HDR.out]
                rintro e v16 ⟨a_s, n_s, c_s, rfl, o_s, st⟩
                replace o_a := o_a.below st (Nat.le_refl _)
                replace o_d := o_d.below st (Nat.le_refl _)
                replace hB := hB.trans (st.mono hB.size)
                clear st
                go_wp2_with fail
                refine (jSame_any _ _ _ _ _ _ _ _ _ o_s.has o_d.has).mono ?_
                rintro e v17 ⟨rfl, q⟩
                have st : Below v16.heap.size v16 v17 := q.below _
                replace o_a := o_a.below st (Nat.le_refl _)
                replace o_d := o_d.below st (Nat.le_refl _)
                replace o_s := o_s.below st (Nat.le_refl _)
                replace hB := hB.trans (st.mono hB.size)
                clear st
                clear q
                rw [same_self]
                go_wp2_with fail
                go_ret
                exact ⟨rfl, hB⟩
              · skip
                obtain ⟨ds, hds⟩ : ∃ ds, cdrive pp us = ds := ⟨_, rfl⟩
                have HCI : Hid (circleOf us pp = (ds, true)) := hid (by unfold circleOf; rw [if_pos (by simpa using hcy), hds])
                have HDR : Hid (driveCars us pp = ([], false)) := hid (by unfold driveCars; rw [if_neg (by simp [hcy.1, hap])])
                clear hcy hap hds
                go_wp2_with fail
                refine (driveCircle_any _ _ _ _ _ _ o_a.has).mono ?_
                rw [HCI.out]
                rintro e v9 ⟨a_d, n_d, c_d, rfl, o_d, st⟩
                replace o_a := o_a.below st (Nat.le_refl _)
                replace hB := hB.trans (st.mono hB.size)
                clear st
                go_wp2_with fail
                refine (specCircle_any _ _ _ _ _ _ o_a.has).mono ?_
                rw [HCI.out]
                rintro e v10 ⟨a_e, n_e, c_e, rfl, o_e, st⟩
                replace o_a := o_a.below st (Nat.le_refl _)
                replace o_d := o_d.below st (Nat.le_refl _)
                replace hB := hB.trans (st.mono hB.size)
                clear st
                go_wp2_with fail
                refine (drawTurn_any b m cap' _ (HM.out.grow hB (Nat.le_refl _))).mono ?_
                rintro e v11 ⟨a_b, n_b, c_b, vs, mm, kk, rfl, o_b, hnb, q0, q1, q2, q3, st⟩
                replace o_a := o_a.below st (Nat.le_refl _)
                replace o_d := o_d.below st (Nat.le_refl _)
                replace o_e := o_e.below st (Nat.le_refl _)
                replace hB := hB.trans (st.mono hB.size)
                clear st
                obtain ⟨⟨ts, tb⟩, hts⟩ : ∃ r, turnOf vs mm kk = r := ⟨_, rfl⟩
                have HTU := hid hts
                clear hts
                have htb : (tb != tb) = false := by simp
                go_wp2_with fail
                refine (turnFavourites_any _ _ _ _ _ _ _ o_b.has).mono ?_
                rw [HTU.out]
                rintro e v12 ⟨a_t, n_t, c_t, rfl, o_t, st⟩
                replace o_a := o_a.below st (Nat.le_refl _)
                replace o_d := o_d.below st (Nat.le_refl _)
                replace o_e := o_e.below st (Nat.le_refl _)
                replace o_b := o_b.below st (Nat.le_refl _)
                replace hB := hB.trans (st.mono hB.size)
                clear st
                go_wp2_with fail
                refine (specTurn_any _ _ _ _ _ _ _ o_b.has).mono ?_
                rw [HTU.out]
                rintro e v13 ⟨a_u, n_u, c_u, rfl, o_u, st⟩
                replace o_a := o_a.below st (Nat.le_refl _)
                replace o_d := o_d.below st (Nat.le_refl _)
                replace o_e := o_e.below st (Nat.le_refl _)
                replace o_b := o_b.below st (Nat.le_refl _)
                replace o_t := o_t.below st (Nat.le_refl _)
                replace hB := hB.trans (st.mono hB.size)
                clear st
                clear o_b
                go_wp2_with fail
                refine (jSame_any _ _ _ _ _ _ _ _ _ o_d.has o_e.has).mono ?_
                rintro e v14 ⟨rfl, q⟩
                have st : Below v13.heap.size v13 v14 := q.below _
                replace o_a := o_a.below st (Nat.le_refl _)
                replace o_d := o_d.below st (Nat.le_refl _)
                replace o_e := o_e.below st (Nat.le_refl _)
                replace o_t := o_t.below st (Nat.le_refl _)
                replace o_u := o_u.below st (Nat.le_refl _)
                replace hB := hB.trans (st.mono hB.size)
                clear st
                clear q
                rw [same_self]
                clear o_e
                go_wp2_with fail
                refine (jSame_any _ _ _ _ _ _ _ _ _ o_t.has o_u.has).mono ?_
                rintro e v15 ⟨rfl, q⟩
                have st : Below v14.heap.size v14 v15 := q.below _
                replace o_a := o_a.below st (Nat.le_refl _)
                replace o_d := o_d.below st (Nat.le_refl _)
                replace o_t := o_t.below st (Nat.le_refl _)
                replace o_u := o_u.below st (Nat.le_refl _)
                replace hB := hB.trans (st.mono hB.size)
                clear st
                clear q
                rw [same_self]
                clear o_t o_u
                go_wp2_with fail
                refine (driveCars_any _ _ _ _ _ _ o_a.has).mono ?_
                rw [HDR.out]
                rintro e v16 ⟨a_s, n_s, c_s, rfl, o_s, st⟩
                replace o_a := o_a.below st (Nat.le_refl _)
                replace o_d := o_d.below st (Nat.le_refl _)
                replace hB := hB.trans (st.mono hB.size)
                clear st
                go_wp2_with fail
                go_ret
                exact ⟨rfl, hB⟩
            · skip
              have HCI : Hid (circleOf us pp = ([], false)) := hid (by unfold circleOf; rw [if_neg (by simpa using hcy)])
              clear hcy
              go_wp2_with fail
              refine (driveCircle_any _ _ _ _ _ _ o_a.has).mono ?_
              rw [HCI.out]
              rintro e v9 ⟨a_d, n_d, c_d, rfl, o_d, st⟩
              replace o_a := o_a.below st (Nat.le_refl _)
              replace hB := hB.trans (st.mono hB.size)
              clear st
              go_wp2_with fail
              refine (specCircle_any _ _ _ _ _ _ o_a.has).mono ?_
              rw [HCI.out]
              rintro e v10 ⟨a_e, n_e, c_e, rfl, o_e, st⟩
              replace o_a := o_a.below st (Nat.le_refl _)
              replace o_d := o_d.below st (Nat.le_refl _)
              replace hB := hB.trans (st.mono hB.size)
              clear st
              go_wp2_with fail
              refine (drawTurn_any b m cap' _ (HM.out.grow hB (Nat.le_refl _))).mono ?_
              rintro e v11 ⟨a_b, n_b, c_b, vs, mm, kk, rfl, o_b, hnb, q0, q1, q2, q3, st⟩
              replace o_a := o_a.below st (Nat.le_refl _)
              replace o_d := o_d.below st (Nat.le_refl _)
              replace o_e := o_e.below st (Nat.le_refl _)
              replace hB := hB.trans (st.mono hB.size)
              clear st
              obtain ⟨⟨ts, tb⟩, hts⟩ : ∃ r, turnOf vs mm kk = r := ⟨_, rfl⟩
              have HTU := hid hts
              clear hts
              have htb : (tb != tb) = false := by simp
              go_wp2_with fail
              refine (turnFavourites_any _ _ _ _ _ _ _ o_b.has).mono ?_
              rw [HTU.out]
              rintro e v12 ⟨a_t, n_t, c_t, rfl, o_t, st⟩
              replace o_a := o_a.below st (Nat.le_refl _)
              replace o_d := o_d.below st (Nat.le_refl _)
              replace o_e := o_e.below st (Nat.le_refl _)
              replace o_b := o_b.below st (Nat.le_refl _)
              replace hB := hB.trans (st.mono hB.size)
              clear st
              go_wp2_with fail
              refine (specTurn_any _ _ _ _ _ _ _ o_b.has).mono ?_
              rw [HTU.out]
              rintro e v13 ⟨a_u, n_u, c_u, rfl, o_u, st⟩
              replace o_a := o_a.below st (Nat.le_refl _)
              replace o_d := o_d.below st (Nat.le_refl _)
              replace o_e := o_e.below st (Nat.le_refl _)
              replace o_b := o_b.below st (Nat.le_refl _)
              replace o_t := o_t.below st (Nat.le_refl _)
              replace hB := hB.trans (st.mono hB.size)
              clear st
              clear o_b
              go_wp2_with fail
              refine (jSame_any _ _ _ _ _ _ _ _ _ o_d.has o_e.has).mono ?_
              rintro e v14 ⟨rfl, q⟩
              have st : Below v13.heap.size v13 v14 := q.below _
              replace o_a := o_a.below st (Nat.le_refl _)
              replace o_d := o_d.below st (Nat.le_refl _)
              replace o_e := o_e.below st (Nat.le_refl _)
              replace o_t := o_t.below st (Nat.le_refl _)
              replace o_u := o_u.below st (Nat.le_refl _)
              replace hB := hB.trans (st.mono hB.size)
              clear st
              clear q
              rw [same_self]
              clear o_e
              go_wp2_with fail
              refine (jSame_any _ _ _ _ _ _ _ _ _ o_t.has o_u.has).mono ?_
              rintro e v15 ⟨rfl, q⟩
              have st : Below v14.heap.size v14 v15 := q.below _
              replace o_a := o_a.below st (Nat.le_refl _)
              replace o_d := o_d.below st (Nat.le_refl _)
              replace o_t := o_t.below st (Nat.le_refl _)
              replace o_u := o_u.below st (Nat.le_refl _)
              replace hB := hB.trans (st.mono hB.size)
              clear st
              clear q
              rw [same_self]
              clear o_t o_u
              go_wp2_with fail
              go_ret
              exact ⟨rfl, hB⟩
    · skip
      have HCL : Hid (classOf xs = ([], 0, false)) := hid (by simp [classOf, hcx])
      have HFR : Hid (freeOf xs = (0, false)) := hid (by simp [freeOf, hcx])
      clear hcx
      go_wp2_with fail
      refine (parkingOfClass_any _ _ _ _ _ o_l.has).mono ?_
      rw [HCL.out]
      rintro e v2 ⟨a_p, n_p, c_p, rfl, o_p, st⟩
      replace o_l := o_l.below st (Nat.le_refl _)
      replace hB := hB.trans (st.mono hB.size)
      clear st
      go_wp2_with fail
      refine (specClass_any _ _ _ _ _ o_l.has).mono ?_
      rw [HCL.out]
      rintro e v3 ⟨a_r, n_r, c_r, rfl, o_r, st⟩
      replace o_l := o_l.below st (Nat.le_refl _)
      replace o_p := o_p.below st (Nat.le_refl _)
      replace hB := hB.trans (st.mono hB.size)
      clear st
      go_wp2_with fail
      refine (freeOnCircle_any _ _ _ _ _ o_l.has).mono ?_
      rw [HFR.out]
      rintro e v4 ⟨rfl, st⟩
      replace o_l := o_l.below st (Nat.le_refl _)
      replace o_p := o_p.below st (Nat.le_refl _)
      replace o_r := o_r.below st (Nat.le_refl _)
      replace hB := hB.trans (st.mono hB.size)
      clear st
      go_wp2_with fail
      refine (specFree_any _ _ _ _ _ o_l.has).mono ?_
      rw [HFR.out]
      rintro e v5 ⟨rfl, st⟩
      replace o_l := o_l.below st (Nat.le_refl _)
      replace o_p := o_p.below st (Nat.le_refl _)
      replace o_r := o_r.below st (Nat.le_refl _)
      replace hB := hB.trans (st.mono hB.size)
      clear st
      go_wp2_with fail
      refine (jSame_any _ _ _ _ _ _ _ _ _ o_p.has o_r.has).mono ?_
      rintro e v6 ⟨rfl, q⟩
      have st : Below v5.heap.size v5 v6 := q.below _
      replace o_l := o_l.below st (Nat.le_refl _)
      replace o_p := o_p.below st (Nat.le_refl _)
      replace o_r := o_r.below st (Nat.le_refl _)
      replace hB := hB.trans (st.mono hB.size)
      clear st
      clear q
      rw [same_self]
      clear o_r
      clear o_p o_l
      go_wp2_with fail
      refine (drawCircle_any b m cap' _ (HM.out.grow hB (Nat.le_refl _))).mono ?_
      rintro e v7 ⟨a_a, n_a, c_a, us, pp, rfl, o_a, hna, p0, p1, st⟩
      replace hB := hB.trans (st.mono hB.size)
      clear st
      by_cases hcy : good us pp = true ∧ (us.length : Int) ≤ pp
      · skip
        by_cases hap : allPark pp us = true
        · skip
          obtain ⟨ds, hds⟩ : ∃ ds, cdrive pp us = ds := ⟨_, rfl⟩
          have HCI : Hid (circleOf us pp = (ds, true)) := hid (by unfold circleOf; rw [if_pos (by simpa using hcy), hds])
          have HDR : Hid (driveCars us pp = (ds, true)) := hid (by unfold driveCars; rw [if_pos (by simp [hcy.1, hap]), ← circle_street hcy.1 hap, hds])
          clear hcy hap hds
          go_wp2_with fail
          refine (driveCircle_any _ _ _ _ _ _ o_a.has).mono ?_
          rw [HCI.out]
          rintro e v8 ⟨a_d, n_d, c_d, rfl, o_d, st⟩
          replace o_a := o_a.below st (Nat.le_refl _)
          replace hB := hB.trans (st.mono hB.size)
          clear st
          go_wp2_with fail
          refine (specCircle_any _ _ _ _ _ _ o_a.has).mono ?_
          rw [HCI.out]
          rintro e v9 ⟨a_e, n_e, c_e, rfl, o_e, st⟩
          replace o_a := o_a.below st (Nat.le_refl _)
          replace o_d := o_d.below st (Nat.le_refl _)
          replace hB := hB.trans (st.mono hB.size)
          clear st
          go_wp2_with fail
          refine (drawTurn_any b m cap' _ (HM.out.grow hB (Nat.le_refl _))).mono ?_
          rintro e v10 ⟨a_b, n_b, c_b, vs, mm, kk, rfl, o_b, hnb, q0, q1, q2, q3, st⟩
          replace o_a := o_a.below st (Nat.le_refl _)
          replace o_d := o_d.below st (Nat.le_refl _)
          replace o_e := o_e.below st (Nat.le_refl _)
          replace hB := hB.trans (st.mono hB.size)
          clear st
          obtain ⟨⟨ts, tb⟩, hts⟩ : ∃ r, turnOf vs mm kk = r := ⟨_, rfl⟩
          have HTU := hid hts
          clear hts
          have htb : (tb != tb) = false := by simp
          go_wp2_with fail
          refine (turnFavourites_any _ _ _ _ _ _ _ o_b.has).mono ?_
          rw [HTU.out]
          rintro e v11 ⟨a_t, n_t, c_t, rfl, o_t, st⟩
          replace o_a := o_a.below st (Nat.le_refl _)
          replace o_d := o_d.below st (Nat.le_refl _)
          replace o_e := o_e.below st (Nat.le_refl _)
          replace o_b := o_b.below st (Nat.le_refl _)
          replace hB := hB.trans (st.mono hB.size)
          clear st
          go_wp2_with fail
          refine (specTurn_any _ _ _ _ _ _ _ o_b.has).mono ?_
          rw [HTU.out]
          rintro e v12 ⟨a_u, n_u, c_u, rfl, o_u, st⟩
          replace o_a := o_a.below st (Nat.le_refl _)
          replace o_d := o_d.below st (Nat.le_refl _)
          replace o_e := o_e.below st (Nat.le_refl _)
          replace o_b := o_b.below st (Nat.le_refl _)
          replace o_t := o_t.below st (Nat.le_refl _)
          replace hB := hB.trans (st.mono hB.size)
          clear st
          clear o_b
          go_wp2_with fail
          refine (jSame_any _ _ _ _ _ _ _ _ _ o_d.has o_e.has).mono ?_
          rintro e v13 ⟨rfl, q⟩
          have st : Below v12.heap.size v12 v13 := q.below _
          replace o_a := o_a.below st (Nat.le_refl _)
          replace o_d := o_d.below st (Nat.le_refl _)
          replace o_e := o_e.below st (Nat.le_refl _)
          replace o_t := o_t.below st (Nat.le_refl _)
          replace o_u := o_u.below st (Nat.le_refl _)
          replace hB := hB.trans (st.mono hB.size)
          clear st
          clear q
          rw [same_self]
          clear o_e
          go_wp2_with fail
          refine (jSame_any _ _ _ _ _ _ _ _ _ o_t.has o_u.has).mono ?_
          rintro e v14 ⟨rfl, q⟩
          have st : Below v13.heap.size v13 v14 := q.below _
          replace o_a := o_a.below st (Nat.le_refl _)
          replace o_d := o_d.below st (Nat.le_refl _)
          replace o_t := o_t.below st (Nat.le_refl _)
          replace o_u := o_u.below st (Nat.le_refl _)
          replace hB := hB.trans (st.mono hB.size)
          clear st
          clear q
          rw [same_self]
          clear o_t o_u
          go_wp2_with fail
          refine (driveCars_any _ _ _ _ _ _ o_a.has).mono ?_
          rw [HDR.out]
          rintro e v15 ⟨a_s, n_s, c_s, rfl, o_s, st⟩
          replace o_a := o_a.below st (Nat.le_refl _)
          replace o_d := o_d.below st (Nat.le_refl _)
          replace hB := hB.trans (st.mono hB.size)
          clear st
          go_wp2_with fail
          refine (jSame_any _ _ _ _ _ _ _ _ _ o_s.has o_d.has).mono ?_
          rintro e v16 ⟨rfl, q⟩
          have st : Below v15.heap.size v15 v16 := q.below _
          replace o_a := o_a.below st (Nat.le_refl _)
          replace o_d := o_d.below st (Nat.le_refl _)
          replace o_s := o_s.below st (Nat.le_refl _)
          replace hB := hB.trans (st.mono hB.size)
          clear st
          clear q
          rw [same_self]
          go_wp2_with fail
          go_ret
          exact ⟨rfl, hB⟩
        · skip
          obtain ⟨ds, hds⟩ : ∃ ds, cdrive pp us = ds := ⟨_, rfl⟩
          have HCI : Hid (circleOf us pp = (ds, true)) := hid (by unfold circleOf; rw [if_pos (by simpa using hcy), hds])
          have HDR : Hid (driveCars us pp = ([], false)) := hid (by unfold driveCars; rw [if_neg (by simp [hcy.1, hap])])
          clear hcy hap hds
          go_wp2_with fail
          refine (driveCircle_any _ _ _ _ _ _ o_a.has).mono ?_
          rw [HCI.out]
          rintro e v8 ⟨a_d, n_d, c_d, rfl, o_d, st⟩
          replace o_a := o_a.below st (Nat.le_refl _)
          replace hB := hB.trans (st.mono hB.size)
          clear st
          go_wp2_with fail
          refine (specCircle_any _ _ _ _ _ _ o_a.has).mono ?_
          rw [HCI.out]
          rintro e v9 ⟨a_e, n_e, c_e, rfl, o_e, st⟩
          replace o_a := o_a.below st (Nat.le_refl _)
          replace o_d := o_d.below st (Nat.le_refl _)
          replace hB := hB.trans (st.mono hB.size)
          clear st
          go_wp2_with fail
          refine (drawTurn_any b m cap' _ (HM.out.grow hB (Nat.le_refl _))).mono ?_
          rintro e v10 ⟨a_b, n_b, c_b, vs, mm, kk, rfl, o_b, hnb, q0, q1, q2, q3, st⟩
          replace o_a := o_a.below st (Nat.le_refl _)
          replace o_d := o_d.below st (Nat.le_refl _)
          replace o_e := o_e.below st (Nat.le_refl _)
          replace hB := hB.trans (st.mono hB.size)
          clear st
          obtain ⟨⟨ts, tb⟩, hts⟩ : ∃ r, turnOf vs mm kk = r := ⟨_, rfl⟩
          have HTU := hid hts
          clear hts
          have htb : (tb != tb) = false := by simp
          go_wp2_with fail
          refine (turnFavourites_any _ _ _ _ _ _ _ o_b.has).mono ?_
          rw [HTU.out]
          rintro e v11 ⟨a_t, n_t, c_t, rfl, o_t, st⟩
          replace o_a := o_a.below st (Nat.le_refl _)
          replace o_d := o_d.below st (Nat.le_refl _)
          replace o_e := o_e.below st (Nat.le_refl _)
          replace o_b := o_b.below st (Nat.le_refl _)
          replace hB := hB.trans (st.mono hB.size)
          clear st
          go_wp2_with fail
          refine (specTurn_any _ _ _ _ _ _ _ o_b.has).mono ?_
          rw [HTU.out]
          rintro e v12 ⟨a_u, n_u, c_u, rfl, o_u, st⟩
          replace o_a := o_a.below st (Nat.le_refl _)
          replace o_d := o_d.below st (Nat.le_refl _)
          replace o_e := o_e.below st (Nat.le_refl _)
          replace o_b := o_b.below st (Nat.le_refl _)
          replace o_t := o_t.below st (Nat.le_refl _)
          replace hB := hB.trans (st.mono hB.size)
          clear st
          clear o_b
          go_wp2_with fail
          refine (jSame_any _ _ _ _ _ _ _ _ _ o_d.has o_e.has).mono ?_
          rintro e v13 ⟨rfl, q⟩
          have st : Below v12.heap.size v12 v13 := q.below _
          replace o_a := o_a.below st (Nat.le_refl _)
          replace o_d := o_d.below st (Nat.le_refl _)
          replace o_e := o_e.below st (Nat.le_refl _)
          replace o_t := o_t.below st (Nat.le_refl _)
          replace o_u := o_u.below st (Nat.le_refl _)
          replace hB := hB.trans (st.mono hB.size)
          clear st
          clear q
          rw [same_self]
          clear o_e
          go_wp2_with fail
          refine (jSame_any _ _ _ _ _ _ _ _ _ o_t.has o_u.has).mono ?_
          rintro e v14 ⟨rfl, q⟩
          have st : Below v13.heap.size v13 v14 := q.below _
          replace o_a := o_a.below st (Nat.le_refl _)
          replace o_d := o_d.below st (Nat.le_refl _)
          replace o_t := o_t.below st (Nat.le_refl _)
          replace o_u := o_u.below st (Nat.le_refl _)
          replace hB := hB.trans (st.mono hB.size)
          clear st
          clear q
          rw [same_self]
          clear o_t o_u
          go_wp2_with fail
          refine (driveCars_any _ _ _ _ _ _ o_a.has).mono ?_
          rw [HDR.out]
          rintro e v15 ⟨a_s, n_s, c_s, rfl, o_s, st⟩
          replace o_a := o_a.below st (Nat.le_refl _)
          replace o_d := o_d.below st (Nat.le_refl _)
          replace hB := hB.trans (st.mono hB.size)
          clear st
          go_wp2_with fail
          go_ret
          exact ⟨rfl, hB⟩
      · skip
        have HCI : Hid (circleOf us pp = ([], false)) := hid (by unfold circleOf; rw [if_neg (by simpa using hcy)])
        clear hcy
        go_wp2_with fail
        refine (driveCircle_any _ _ _ _ _ _ o_a.has).mono ?_
        rw [HCI.out]
        rintro e v8 ⟨a_d, n_d, c_d, rfl, o_d, st⟩
        replace o_a := o_a.below st (Nat.le_refl _)
        replace hB := hB.trans (st.mono hB.size)
        clear st
        go_wp2_with fail
        refine (specCircle_any _ _ _ _ _ _ o_a.has).mono ?_
        rw [HCI.out]
        rintro e v9 ⟨a_e, n_e, c_e, rfl, o_e, st⟩
        replace o_a := o_a.below st (Nat.le_refl _)
        replace o_d := o_d.below st (Nat.le_refl _)
        replace hB := hB.trans (st.mono hB.size)
        clear st
        go_wp2_with fail
        refine (drawTurn_any b m cap' _ (HM.out.grow hB (Nat.le_refl _))).mono ?_
        rintro e v10 ⟨a_b, n_b, c_b, vs, mm, kk, rfl, o_b, hnb, q0, q1, q2, q3, st⟩
        replace o_a := o_a.below st (Nat.le_refl _)
        replace o_d := o_d.below st (Nat.le_refl _)
        replace o_e := o_e.below st (Nat.le_refl _)
        replace hB := hB.trans (st.mono hB.size)
        clear st
        obtain ⟨⟨ts, tb⟩, hts⟩ : ∃ r, turnOf vs mm kk = r := ⟨_, rfl⟩
        have HTU := hid hts
        clear hts
        have htb : (tb != tb) = false := by simp
        go_wp2_with fail
        refine (turnFavourites_any _ _ _ _ _ _ _ o_b.has).mono ?_
        rw [HTU.out]
        rintro e v11 ⟨a_t, n_t, c_t, rfl, o_t, st⟩
        replace o_a := o_a.below st (Nat.le_refl _)
        replace o_d := o_d.below st (Nat.le_refl _)
        replace o_e := o_e.below st (Nat.le_refl _)
        replace o_b := o_b.below st (Nat.le_refl _)
        replace hB := hB.trans (st.mono hB.size)
        clear st
        go_wp2_with fail
        refine (specTurn_any _ _ _ _ _ _ _ o_b.has).mono ?_
        rw [HTU.out]
        rintro e v12 ⟨a_u, n_u, c_u, rfl, o_u, st⟩
        replace o_a := o_a.below st (Nat.le_refl _)
        replace o_d := o_d.below st (Nat.le_refl _)
        replace o_e := o_e.below st (Nat.le_refl _)
        replace o_b := o_b.below st (Nat.le_refl _)
        replace o_t := o_t.below st (Nat.le_refl _)
        replace hB := hB.trans (st.mono hB.size)
        clear st
        clear o_b
        go_wp2_with fail
        refine (jSame_any _ _ _ _ _ _ _ _ _ o_d.has o_e.has).mono ?_
        rintro e v13 ⟨rfl, q⟩
        have st : Below v12.heap.size v12 v13 := q.below _
        replace o_a := o_a.below st (Nat.le_refl _)
        replace o_d := o_d.below st (Nat.le_refl _)
        replace o_e := o_e.below st (Nat.le_refl _)
        replace o_t := o_t.below st (Nat.le_refl _)
        replace o_u := o_u.below st (Nat.le_refl _)
        replace hB := hB.trans (st.mono hB.size)
        clear st
        clear q
        rw [same_self]
        clear o_e
        go_wp2_with fail
        refine (jSame_any _ _ _ _ _ _ _ _ _ o_t.has o_u.has).mono ?_
        rintro e v14 ⟨rfl, q⟩
        have st : Below v13.heap.size v13 v14 := q.below _
        replace o_a := o_a.below st (Nat.le_refl _)
        replace o_d := o_d.below st (Nat.le_refl _)
        replace o_t := o_t.below st (Nat.le_refl _)
        replace o_u := o_u.below st (Nat.le_refl _)
        replace hB := hB.trans (st.mono hB.size)
        clear st
        clear q
        rw [same_self]
        clear o_t o_u
        go_wp2_with fail
        go_ret
        exact ⟨rfl, hB⟩
end Go.Proofs.Ytkkhlkaieohklab
