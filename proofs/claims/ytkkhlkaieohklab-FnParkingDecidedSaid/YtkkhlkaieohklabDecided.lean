/- The law that driving, refusing places and sorted numbers decide alike, walked. -/
import Derived.Test.YtkkhlkaieohklabNamed
import Derived.Test.YtkkhlkaieohklabDraw3
import Derived.Test.YtkkhlkaieohklabSort
import Derived.Test.YtkkhlkaieohklabImplE
import Derived.Test.YtkkhlkaieohklabMathP
import Derived.Test.YtkkhlkaieohklabJ
namespace Go.Proofs.Ytkkhlkaieohklab
open Go.RowKit
set_option maxRecDepth 100000 in
set_option maxHeartbeats 16000000 in
theorem decided_walk (a b : Option Addr) (n m cap cap' : Nat) (w : World) (hn : n ≤ maxLen) (h : n ≤ 1048576 → HasB w a n w.heap.size) (h' : m ≤ 1048576 → HasB w b m w.heap.size) :
    Calls Try.prog 4 #[.slice a n cap, .slice b m cap'] w (Holds w) := by
  have H1 := hid h
  have H2 := hid h'
  have HN := hid hn
  clear h h' hn
  have hB : Below w.heap.size w w := Below.refl _ _
  go_enter Try.func4, Try.ntmps4
  go_wp2_with fail
  refine (big_any _ _ _ _ _ _ _ (by have := HN.out; unfold maxLen at this; omega)).mono ?_
  rintro e _ ⟨r, rfl, hr, rfl⟩
  have HR := hid hr
  clear hr
  cases r with
  | true =>
    go_wp2_with fail
    go_ret
    exact ⟨rfl, hB⟩
  | false =>
    have hnm := HR.out rfl
    clear HR
    have HA := hid (H1.out (by omega))
    have HM := hid (H2.out (by omega))
    clear H1 H2 HN
    go_wp2_with fail
    refine (drawRefusing_any _ _ _ _ HA.out).mono ?_
    rintro e v1 ⟨a_l, nl, c_l, xs, p, rfl, o_l, hnl, hp1, hp2, st⟩
    replace hB := hB.trans (st.mono hB.size)
    clear st
    have HL := hid o_l.len
    by_cases hg : good xs p = true
    · skip
      by_cases ha : allPark p xs = true
      · skip
        have HR : Hid (refusing xs p = (0, false)) := hid (refusing_park hg ha)
        have HP : Hid (doAllPark xs p = (true, true)) := hid (by unfold doAllPark; rw [if_pos hg, ha])
        clear hg ha
        go_wp2_with fail
        refine (refusing_any _ _ _ _ _ _ o_l.has).mono ?_
        rw [HR.out]
        rintro e v2 ⟨rfl, st⟩
        replace o_l := o_l.below st (Nat.le_refl _)
        replace hB := hB.trans (st.mono hB.size)
        clear st
        go_wp2_with fail
        refine (specRefusing_any _ _ _ _ _ _ o_l.has).mono ?_
        rw [HR.out]
        rintro e v3 ⟨rfl, st⟩
        replace o_l := o_l.below st (Nat.le_refl _)
        replace hB := hB.trans (st.mono hB.size)
        clear st
        go_wp2_with fail
        refine (doAllPark_any _ _ _ _ _ _ o_l.has).mono ?_
        rw [HP.out]
        rintro e v4 ⟨rfl, st⟩
        replace o_l := o_l.below st (Nat.le_refl _)
        replace hB := hB.trans (st.mono hB.size)
        clear st
        go_wp2_with fail
        refine (specDoAllPark_any _ _ _ _ _ _ o_l.has).mono ?_
        rw [HP.out]
        rintro e v5 ⟨rfl, st⟩
        replace o_l := o_l.below st (Nat.le_refl _)
        replace hB := hB.trans (st.mono hB.size)
        clear st
        clear o_l
        go_wp2_with fail
        refine (drawIsParking_any b m cap' _ (HM.out.grow hB (Nat.le_refl _))).mono ?_
        rintro e v6 ⟨a_y, n_y, c_y, ys, rfl, o_y, hny, _, st⟩
        replace hB := hB.trans (st.mono hB.size)
        clear st
        have HLY := hid o_y.len
        by_cases hk : asked ys = true
        · skip
          by_cases hi : isPark ys = true
          · skip
            have HI : Hid (isParking ys = (true, true)) := hid (by unfold isParking; rw [if_pos hk, hi])
            have HF : Hid (fitsOf ys = (true, true)) := hid (by unfold fitsOf; rw [if_pos hk, fits_park hk, hi])
            have HIP := hid hi
            clear hk hi
            go_wp2_with fail
            refine (isParking_any _ _ _ _ _ o_y.has).mono ?_
            rw [HI.out]
            rintro e v7 ⟨rfl, st⟩
            replace o_y := o_y.below st (Nat.le_refl _)
            replace hB := hB.trans (st.mono hB.size)
            clear st
            go_wp2_with fail
            refine (specIsParking_any _ _ _ _ _ o_y.has).mono ?_
            rw [HI.out]
            rintro e v8 ⟨rfl, st⟩
            replace o_y := o_y.below st (Nat.le_refl _)
            replace hB := hB.trans (st.mono hB.size)
            clear st
            go_wp2_with fail
            refine (sortedFits_any _ _ _ _ _ o_y.has).mono ?_
            rw [HF.out]
            rintro e v9 ⟨rfl, st⟩
            replace o_y := o_y.below st (Nat.le_refl _)
            replace hB := hB.trans (st.mono hB.size)
            clear st
            go_wp2_with fail
            refine (specFits_any _ _ _ _ _ o_y.has).mono ?_
            rw [HF.out]
            rintro e v10 ⟨rfl, st⟩
            replace o_y := o_y.below st (Nat.le_refl _)
            replace hB := hB.trans (st.mono hB.size)
            clear st
            
            rcases Nat.eq_zero_or_pos n_y with h0 | h0
            · skip
              go_wp2_with fail
              go_ret
              exact ⟨rfl, hB⟩
            · skip
              have hlp : ys.length = n_y := HLY.out
              obtain ⟨k1, k2, k3⟩ := isPark_iff.1 HIP.out
              have HD : Hid (driveCars ys (n_y : Int) = (drive ys.length ys, true)) := hid (by unfold driveCars; rw [← hlp, if_pos]; rw [good_iff.2 ⟨by omega, k1, k2⟩, k3]; rfl)
              have HW : Hid (isBelowOf ys (drive ys.length ys) = (true, true)) := hid (by obtain ⟨d1, d2⟩ := drive_park HIP.out; unfold isBelowOf; rw [if_pos (by rw [HIP.out, d1]; rfl), d2, length_drive]; simp)
              clear k1 k2 k3 hlp
              go_wp2_with fail
              refine (driveCars_any _ _ _ _ _ _ o_y.has).mono ?_
              rw [HD.out]
              rintro e v11 ⟨a_d, n_d, c_d, rfl, o_d, st⟩
              replace o_y := o_y.below st (Nat.le_refl _)
              replace hB := hB.trans (st.mono hB.size)
              clear st
              go_wp2_with fail
              refine (isBelowFn_any _ _ _ _ _ _ _ _ _ o_y.has o_d.has).mono ?_
              rw [HW.out]
              rintro e v12 ⟨rfl, st⟩
              replace o_y := o_y.below st (Nat.le_refl _)
              replace o_d := o_d.below st (Nat.le_refl _)
              replace hB := hB.trans (st.mono hB.size)
              clear st
              go_wp2_with fail
              go_ret
              exact ⟨rfl, hB⟩
          · skip
            have hi' := Bool.eq_false_iff.2 hi
            have HI : Hid (isParking ys = (false, true)) := hid (by unfold isParking; rw [if_pos hk, hi'])
            have HF : Hid (fitsOf ys = (false, true)) := hid (by unfold fitsOf; rw [if_pos hk, fits_park hk, hi'])
            clear hk hi hi'
            go_wp2_with fail
            refine (isParking_any _ _ _ _ _ o_y.has).mono ?_
            rw [HI.out]
            rintro e v7 ⟨rfl, st⟩
            replace o_y := o_y.below st (Nat.le_refl _)
            replace hB := hB.trans (st.mono hB.size)
            clear st
            go_wp2_with fail
            refine (specIsParking_any _ _ _ _ _ o_y.has).mono ?_
            rw [HI.out]
            rintro e v8 ⟨rfl, st⟩
            replace o_y := o_y.below st (Nat.le_refl _)
            replace hB := hB.trans (st.mono hB.size)
            clear st
            go_wp2_with fail
            refine (sortedFits_any _ _ _ _ _ o_y.has).mono ?_
            rw [HF.out]
            rintro e v9 ⟨rfl, st⟩
            replace o_y := o_y.below st (Nat.le_refl _)
            replace hB := hB.trans (st.mono hB.size)
            clear st
            go_wp2_with fail
            refine (specFits_any _ _ _ _ _ o_y.has).mono ?_
            rw [HF.out]
            rintro e v10 ⟨rfl, st⟩
            replace o_y := o_y.below st (Nat.le_refl _)
            replace hB := hB.trans (st.mono hB.size)
            clear st
            go_wp2_with fail
            go_ret
            exact ⟨rfl, hB⟩
        · skip
          have HI : Hid (isParking ys = (false, false)) := hid (by unfold isParking; rw [if_neg hk])
          have HF : Hid (fitsOf ys = (false, false)) := hid (by unfold fitsOf; rw [if_neg hk])
          clear hk
          go_wp2_with fail
          refine (isParking_any _ _ _ _ _ o_y.has).mono ?_
          rw [HI.out]
          rintro e v7 ⟨rfl, st⟩
          replace o_y := o_y.below st (Nat.le_refl _)
          replace hB := hB.trans (st.mono hB.size)
          clear st
          go_wp2_with fail
          refine (specIsParking_any _ _ _ _ _ o_y.has).mono ?_
          rw [HI.out]
          rintro e v8 ⟨rfl, st⟩
          replace o_y := o_y.below st (Nat.le_refl _)
          replace hB := hB.trans (st.mono hB.size)
          clear st
          go_wp2_with fail
          refine (sortedFits_any _ _ _ _ _ o_y.has).mono ?_
          rw [HF.out]
          rintro e v9 ⟨rfl, st⟩
          replace o_y := o_y.below st (Nat.le_refl _)
          replace hB := hB.trans (st.mono hB.size)
          clear st
          go_wp2_with fail
          refine (specFits_any _ _ _ _ _ o_y.has).mono ?_
          rw [HF.out]
          rintro e v10 ⟨rfl, st⟩
          replace o_y := o_y.below st (Nat.le_refl _)
          replace hB := hB.trans (st.mono hB.size)
          clear st
          go_wp2_with fail
          go_ret
          exact ⟨rfl, hB⟩
      · skip
        obtain ⟨j, hj, hr, hf⟩ := refusing_fails hg ha
        have HR := hid hr
        have HP : Hid (doAllPark xs p = (false, true)) := hid (by unfold doAllPark; rw [if_pos hg, Bool.eq_false_iff.2 ha])
        have hjj := neq_self_int (j : Int)
        have HF1 := hid hf
        clear hg ha hr hf
        go_wp2_with fail
        refine (refusing_any _ _ _ _ _ _ o_l.has).mono ?_
        rw [HR.out]
        rintro e v2 ⟨rfl, st⟩
        replace o_l := o_l.below st (Nat.le_refl _)
        replace hB := hB.trans (st.mono hB.size)
        clear st
        go_wp2_with fail
        refine (specRefusing_any _ _ _ _ _ _ o_l.has).mono ?_
        rw [HR.out]
        rintro e v3 ⟨rfl, st⟩
        replace o_l := o_l.below st (Nat.le_refl _)
        replace hB := hB.trans (st.mono hB.size)
        clear st
        go_wp2_with fail
        refine (doAllPark_any _ _ _ _ _ _ o_l.has).mono ?_
        rw [HP.out]
        rintro e v4 ⟨rfl, st⟩
        replace o_l := o_l.below st (Nat.le_refl _)
        replace hB := hB.trans (st.mono hB.size)
        clear st
        go_wp2_with fail
        refine (specDoAllPark_any _ _ _ _ _ _ o_l.has).mono ?_
        rw [HP.out]
        rintro e v5 ⟨rfl, st⟩
        replace o_l := o_l.below st (Nat.le_refl _)
        replace hB := hB.trans (st.mono hB.size)
        clear st
        go_wp2_with fail
        go_loop [15, 99] (fun c i => ∃ k : Nat, k ≤ nl ∧ i = .int .i64 k ∧ c = .int .i64 (from' (xs.take k) j : Int)) (fun _ i => nl - (intOf i).toNat)
        case atStart => exact ⟨0, Nat.zero_le _, rfl, rfl⟩
        case round =>
          obtain ⟨k, hk, rfl, rfl⟩ := hrel
          by_cases hlt : k < nl
          · skip
            obtain ⟨b1, off1, rfl, hb1, hc1⟩ := o_l.has.2.2.2.2 (by omega)
            have hck := hc1 k hlt
            have HS := hid (from_succ (xs := xs) (k := k) (by rw [HL.out]; exact hlt) (j : Int))
            have hf8 := from_le (xs.take k) (j : Int)
            rw [List.length_take] at hf8
            clear hc1
            by_cases hxj : (j : Int) ≤ nth xs k
            · skip
              have HS2 := HS.out
              rw [if_pos hxj] at HS2
              have HS3 := hid HS2
              clear HS HS2
              go_wp2_with fail
              go_round
              case rel => exact ⟨k + 1, by omega, by go_num, congrArg (Value.int .i64) (by have := HS3.out; omega)⟩
              case measure => simp [intOf]; omega
            · skip
              have HS2 := HS.out
              rw [if_neg hxj] at HS2
              have HS3 := hid HS2
              clear HS HS2
              go_wp2_with fail
              go_round
              case rel => exact ⟨k + 1, by omega, by go_num, congrArg (Value.int .i64) (by have := HS3.out; omega)⟩
              case measure => simp [intOf]; omega
          · skip
            obtain rfl : k = nl := by omega
            have hft := HF1.out
            rw [show xs = xs.take k from (List.take_of_length_le (by rw [HL.out]; exact Nat.le_refl _)).symm] at hft
            have hf8 := from_le (xs.take k) (j : Int)
            rw [List.length_take] at hf8
            generalize from' (xs.take k) (j : Int) = f at *
            clear o_l
            go_wp2_with fail
            refine (drawIsParking_any b m cap' _ (HM.out.grow hB (Nat.le_refl _))).mono ?_
            rintro e v6 ⟨a_y, n_y, c_y, ys, rfl, o_y, hny, _, st⟩
            replace hB := hB.trans (st.mono hB.size)
            clear st
            have HLY := hid o_y.len
            by_cases hk : asked ys = true
            · skip
              by_cases hi : isPark ys = true
              · skip
                have HI : Hid (isParking ys = (true, true)) := hid (by unfold isParking; rw [if_pos hk, hi])
                have HF : Hid (fitsOf ys = (true, true)) := hid (by unfold fitsOf; rw [if_pos hk, fits_park hk, hi])
                have HIP := hid hi
                clear hk hi
                go_wp2_with fail
                refine (isParking_any _ _ _ _ _ o_y.has).mono ?_
                rw [HI.out]
                rintro e v7 ⟨rfl, st⟩
                replace o_y := o_y.below st (Nat.le_refl _)
                replace hB := hB.trans (st.mono hB.size)
                clear st
                go_wp2_with fail
                refine (specIsParking_any _ _ _ _ _ o_y.has).mono ?_
                rw [HI.out]
                rintro e v8 ⟨rfl, st⟩
                replace o_y := o_y.below st (Nat.le_refl _)
                replace hB := hB.trans (st.mono hB.size)
                clear st
                go_wp2_with fail
                refine (sortedFits_any _ _ _ _ _ o_y.has).mono ?_
                rw [HF.out]
                rintro e v9 ⟨rfl, st⟩
                replace o_y := o_y.below st (Nat.le_refl _)
                replace hB := hB.trans (st.mono hB.size)
                clear st
                go_wp2_with fail
                refine (specFits_any _ _ _ _ _ o_y.has).mono ?_
                rw [HF.out]
                rintro e v10 ⟨rfl, st⟩
                replace o_y := o_y.below st (Nat.le_refl _)
                replace hB := hB.trans (st.mono hB.size)
                clear st
                
                rcases Nat.eq_zero_or_pos n_y with h0 | h0
                · skip
                  go_wp2_with fail
                  go_ret
                  exact ⟨rfl, hB⟩
                · skip
                  have hlp : ys.length = n_y := HLY.out
                  obtain ⟨k1, k2, k3⟩ := isPark_iff.1 HIP.out
                  have HD : Hid (driveCars ys (n_y : Int) = (drive ys.length ys, true)) := hid (by unfold driveCars; rw [← hlp, if_pos]; rw [good_iff.2 ⟨by omega, k1, k2⟩, k3]; rfl)
                  have HW : Hid (isBelowOf ys (drive ys.length ys) = (true, true)) := hid (by obtain ⟨d1, d2⟩ := drive_park HIP.out; unfold isBelowOf; rw [if_pos (by rw [HIP.out, d1]; rfl), d2, length_drive]; simp)
                  clear k1 k2 k3 hlp
                  go_wp2_with fail
                  refine (driveCars_any _ _ _ _ _ _ o_y.has).mono ?_
                  rw [HD.out]
                  rintro e v11 ⟨a_d, n_d, c_d, rfl, o_d, st⟩
                  replace o_y := o_y.below st (Nat.le_refl _)
                  replace hB := hB.trans (st.mono hB.size)
                  clear st
                  go_wp2_with fail
                  refine (isBelowFn_any _ _ _ _ _ _ _ _ _ o_y.has o_d.has).mono ?_
                  rw [HW.out]
                  rintro e v12 ⟨rfl, st⟩
                  replace o_y := o_y.below st (Nat.le_refl _)
                  replace o_d := o_d.below st (Nat.le_refl _)
                  replace hB := hB.trans (st.mono hB.size)
                  clear st
                  go_wp2_with fail
                  go_ret
                  exact ⟨rfl, hB⟩
              · skip
                have hi' := Bool.eq_false_iff.2 hi
                have HI : Hid (isParking ys = (false, true)) := hid (by unfold isParking; rw [if_pos hk, hi'])
                have HF : Hid (fitsOf ys = (false, true)) := hid (by unfold fitsOf; rw [if_pos hk, fits_park hk, hi'])
                clear hk hi hi'
                go_wp2_with fail
                refine (isParking_any _ _ _ _ _ o_y.has).mono ?_
                rw [HI.out]
                rintro e v7 ⟨rfl, st⟩
                replace o_y := o_y.below st (Nat.le_refl _)
                replace hB := hB.trans (st.mono hB.size)
                clear st
                go_wp2_with fail
                refine (specIsParking_any _ _ _ _ _ o_y.has).mono ?_
                rw [HI.out]
                rintro e v8 ⟨rfl, st⟩
                replace o_y := o_y.below st (Nat.le_refl _)
                replace hB := hB.trans (st.mono hB.size)
                clear st
                go_wp2_with fail
                refine (sortedFits_any _ _ _ _ _ o_y.has).mono ?_
                rw [HF.out]
                rintro e v9 ⟨rfl, st⟩
                replace o_y := o_y.below st (Nat.le_refl _)
                replace hB := hB.trans (st.mono hB.size)
                clear st
                go_wp2_with fail
                refine (specFits_any _ _ _ _ _ o_y.has).mono ?_
                rw [HF.out]
                rintro e v10 ⟨rfl, st⟩
                replace o_y := o_y.below st (Nat.le_refl _)
                replace hB := hB.trans (st.mono hB.size)
                clear st
                go_wp2_with fail
                go_ret
                exact ⟨rfl, hB⟩
            · skip
              have HI : Hid (isParking ys = (false, false)) := hid (by unfold isParking; rw [if_neg hk])
              have HF : Hid (fitsOf ys = (false, false)) := hid (by unfold fitsOf; rw [if_neg hk])
              clear hk
              go_wp2_with fail
              refine (isParking_any _ _ _ _ _ o_y.has).mono ?_
              rw [HI.out]
              rintro e v7 ⟨rfl, st⟩
              replace o_y := o_y.below st (Nat.le_refl _)
              replace hB := hB.trans (st.mono hB.size)
              clear st
              go_wp2_with fail
              refine (specIsParking_any _ _ _ _ _ o_y.has).mono ?_
              rw [HI.out]
              rintro e v8 ⟨rfl, st⟩
              replace o_y := o_y.below st (Nat.le_refl _)
              replace hB := hB.trans (st.mono hB.size)
              clear st
              go_wp2_with fail
              refine (sortedFits_any _ _ _ _ _ o_y.has).mono ?_
              rw [HF.out]
              rintro e v9 ⟨rfl, st⟩
              replace o_y := o_y.below st (Nat.le_refl _)
              replace hB := hB.trans (st.mono hB.size)
              clear st
              go_wp2_with fail
              refine (specFits_any _ _ _ _ _ o_y.has).mono ?_
              rw [HF.out]
              rintro e v10 ⟨rfl, st⟩
              replace o_y := o_y.below st (Nat.le_refl _)
              replace hB := hB.trans (st.mono hB.size)
              clear st
              go_wp2_with fail
              go_ret
              exact ⟨rfl, hB⟩
    · skip
      have HR : Hid (refusing xs p = (0, false)) := hid (by unfold refusing; rw [if_neg hg])
      have HP : Hid (doAllPark xs p = (false, false)) := hid (by unfold doAllPark; rw [if_neg hg])
      clear hg
      go_wp2_with fail
      refine (refusing_any _ _ _ _ _ _ o_l.has).mono ?_
      rw [HR.out]
      rintro e v2 ⟨rfl, st⟩
      replace o_l := o_l.below st (Nat.le_refl _)
      replace hB := hB.trans (st.mono hB.size)
      clear st
      go_wp2_with fail
      refine (specRefusing_any _ _ _ _ _ _ o_l.has).mono ?_
      rw [HR.out]
      rintro e v3 ⟨rfl, st⟩
      replace o_l := o_l.below st (Nat.le_refl _)
      replace hB := hB.trans (st.mono hB.size)
      clear st
      go_wp2_with fail
      refine (doAllPark_any _ _ _ _ _ _ o_l.has).mono ?_
      rw [HP.out]
      rintro e v4 ⟨rfl, st⟩
      replace o_l := o_l.below st (Nat.le_refl _)
      replace hB := hB.trans (st.mono hB.size)
      clear st
      go_wp2_with fail
      refine (specDoAllPark_any _ _ _ _ _ _ o_l.has).mono ?_
      rw [HP.out]
      rintro e v5 ⟨rfl, st⟩
      replace o_l := o_l.below st (Nat.le_refl _)
      replace hB := hB.trans (st.mono hB.size)
      clear st
      clear o_l
      go_wp2_with fail
      refine (drawIsParking_any b m cap' _ (HM.out.grow hB (Nat.le_refl _))).mono ?_
      rintro e v6 ⟨a_y, n_y, c_y, ys, rfl, o_y, hny, _, st⟩
      replace hB := hB.trans (st.mono hB.size)
      clear st
      have HLY := hid o_y.len
      by_cases hk : asked ys = true
      · skip
        by_cases hi : isPark ys = true
        · skip
          have HI : Hid (isParking ys = (true, true)) := hid (by unfold isParking; rw [if_pos hk, hi])
          have HF : Hid (fitsOf ys = (true, true)) := hid (by unfold fitsOf; rw [if_pos hk, fits_park hk, hi])
          have HIP := hid hi
          clear hk hi
          go_wp2_with fail
          refine (isParking_any _ _ _ _ _ o_y.has).mono ?_
          rw [HI.out]
          rintro e v7 ⟨rfl, st⟩
          replace o_y := o_y.below st (Nat.le_refl _)
          replace hB := hB.trans (st.mono hB.size)
          clear st
          go_wp2_with fail
          refine (specIsParking_any _ _ _ _ _ o_y.has).mono ?_
          rw [HI.out]
          rintro e v8 ⟨rfl, st⟩
          replace o_y := o_y.below st (Nat.le_refl _)
          replace hB := hB.trans (st.mono hB.size)
          clear st
          go_wp2_with fail
          refine (sortedFits_any _ _ _ _ _ o_y.has).mono ?_
          rw [HF.out]
          rintro e v9 ⟨rfl, st⟩
          replace o_y := o_y.below st (Nat.le_refl _)
          replace hB := hB.trans (st.mono hB.size)
          clear st
          go_wp2_with fail
          refine (specFits_any _ _ _ _ _ o_y.has).mono ?_
          rw [HF.out]
          rintro e v10 ⟨rfl, st⟩
          replace o_y := o_y.below st (Nat.le_refl _)
          replace hB := hB.trans (st.mono hB.size)
          clear st
          
          rcases Nat.eq_zero_or_pos n_y with h0 | h0
          · skip
            go_wp2_with fail
            go_ret
            exact ⟨rfl, hB⟩
          · skip
            have hlp : ys.length = n_y := HLY.out
            obtain ⟨k1, k2, k3⟩ := isPark_iff.1 HIP.out
            have HD : Hid (driveCars ys (n_y : Int) = (drive ys.length ys, true)) := hid (by unfold driveCars; rw [← hlp, if_pos]; rw [good_iff.2 ⟨by omega, k1, k2⟩, k3]; rfl)
            have HW : Hid (isBelowOf ys (drive ys.length ys) = (true, true)) := hid (by obtain ⟨d1, d2⟩ := drive_park HIP.out; unfold isBelowOf; rw [if_pos (by rw [HIP.out, d1]; rfl), d2, length_drive]; simp)
            clear k1 k2 k3 hlp
            go_wp2_with fail
            refine (driveCars_any _ _ _ _ _ _ o_y.has).mono ?_
            rw [HD.out]
            rintro e v11 ⟨a_d, n_d, c_d, rfl, o_d, st⟩
            replace o_y := o_y.below st (Nat.le_refl _)
            replace hB := hB.trans (st.mono hB.size)
            clear st
            go_wp2_with fail
            refine (isBelowFn_any _ _ _ _ _ _ _ _ _ o_y.has o_d.has).mono ?_
            rw [HW.out]
            rintro e v12 ⟨rfl, st⟩
            replace o_y := o_y.below st (Nat.le_refl _)
            replace o_d := o_d.below st (Nat.le_refl _)
            replace hB := hB.trans (st.mono hB.size)
            clear st
            go_wp2_with fail
            go_ret
            exact ⟨rfl, hB⟩
        · skip
          have hi' := Bool.eq_false_iff.2 hi
          have HI : Hid (isParking ys = (false, true)) := hid (by unfold isParking; rw [if_pos hk, hi'])
          have HF : Hid (fitsOf ys = (false, true)) := hid (by unfold fitsOf; rw [if_pos hk, fits_park hk, hi'])
          clear hk hi hi'
          go_wp2_with fail
          refine (isParking_any _ _ _ _ _ o_y.has).mono ?_
          rw [HI.out]
          rintro e v7 ⟨rfl, st⟩
          replace o_y := o_y.below st (Nat.le_refl _)
          replace hB := hB.trans (st.mono hB.size)
          clear st
          go_wp2_with fail
          refine (specIsParking_any _ _ _ _ _ o_y.has).mono ?_
          rw [HI.out]
          rintro e v8 ⟨rfl, st⟩
          replace o_y := o_y.below st (Nat.le_refl _)
          replace hB := hB.trans (st.mono hB.size)
          clear st
          go_wp2_with fail
          refine (sortedFits_any _ _ _ _ _ o_y.has).mono ?_
          rw [HF.out]
          rintro e v9 ⟨rfl, st⟩
          replace o_y := o_y.below st (Nat.le_refl _)
          replace hB := hB.trans (st.mono hB.size)
          clear st
          go_wp2_with fail
          refine (specFits_any _ _ _ _ _ o_y.has).mono ?_
          rw [HF.out]
          rintro e v10 ⟨rfl, st⟩
          replace o_y := o_y.below st (Nat.le_refl _)
          replace hB := hB.trans (st.mono hB.size)
          clear st
          go_wp2_with fail
          go_ret
          exact ⟨rfl, hB⟩
      · skip
        have HI : Hid (isParking ys = (false, false)) := hid (by unfold isParking; rw [if_neg hk])
        have HF : Hid (fitsOf ys = (false, false)) := hid (by unfold fitsOf; rw [if_neg hk])
        clear hk
        go_wp2_with fail
        refine (isParking_any _ _ _ _ _ o_y.has).mono ?_
        rw [HI.out]
        rintro e v7 ⟨rfl, st⟩
        replace o_y := o_y.below st (Nat.le_refl _)
        replace hB := hB.trans (st.mono hB.size)
        clear st
        go_wp2_with fail
        refine (specIsParking_any _ _ _ _ _ o_y.has).mono ?_
        rw [HI.out]
        rintro e v8 ⟨rfl, st⟩
        replace o_y := o_y.below st (Nat.le_refl _)
        replace hB := hB.trans (st.mono hB.size)
        clear st
        go_wp2_with fail
        refine (sortedFits_any _ _ _ _ _ o_y.has).mono ?_
        rw [HF.out]
        rintro e v9 ⟨rfl, st⟩
        replace o_y := o_y.below st (Nat.le_refl _)
        replace hB := hB.trans (st.mono hB.size)
        clear st
        go_wp2_with fail
        refine (specFits_any _ _ _ _ _ o_y.has).mono ?_
        rw [HF.out]
        rintro e v10 ⟨rfl, st⟩
        replace o_y := o_y.below st (Nat.le_refl _)
        replace hB := hB.trans (st.mono hB.size)
        clear st
        go_wp2_with fail
        go_ret
        exact ⟨rfl, hB⟩
end Go.Proofs.Ytkkhlkaieohklab
