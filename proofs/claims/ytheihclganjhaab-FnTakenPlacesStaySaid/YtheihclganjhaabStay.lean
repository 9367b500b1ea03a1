/- The law of the taken places, walked. -/
import Derived.Test.YtheihclganjhaabDraw1
import Derived.Test.YtheihclganjhaabJ
import Derived.Test.YtheihclganjhaabSort
import Derived.Test.YtheihclganjhaabImplC
namespace Go.Proofs.Ytheihclganjhaab
open Go.RowKit

theorem HasB.below {w w' : World} {a : Option Addr} {n K : Nat} (h : HasB w a n K) (hb : Below K w w') : HasB w' a n K := by
  refine ⟨h.1, fun hx => ?_⟩
  obtain ⟨b, off, ha, hbk, hc⟩ := h.2 hx
  refine ⟨b, off, ha, hbk, fun i hi => ?_⟩
  obtain ⟨u, u0, u1, hu⟩ := hc i hi
  exact ⟨u, u0, u1, by rw [hb.cell (p := ⟨b, off + i, none⟩) hbk]; exact hu⟩

/-- An argument's slice of bytes. -/
theorem hasB_of_row {w : World} {a : Option Addr} {len cap : Nat} {zs : List Int}
    (h : (a = none ∧ len = 0 ∧ cap = 0 ∧ zs = []) ∨ ∃ x, a = some x ∧ len ≤ cap ∧ cap ≤ maxLen ∧ zs.length = cap ∧ (∀ i, i < zs.length → w.cell? (x.add i) = some (.int .u8 (zs.getD i 0))) ∧ ∀ n ∈ zs, (Lit.int .u8 n).wf = true) :
    len ≤ maxLen ∧ (len ≤ 1048576 → HasB w a len w.heap.size) := by
  rcases h with ⟨rfl, rfl, rfl, rfl⟩ | ⟨x, rfl, h1, h2, h3, h4, h5⟩
  · exact ⟨by unfold maxLen; omega, fun _ => ⟨by omega, by omega⟩⟩
  · refine ⟨by omega, fun hl => ⟨by omega, fun hx => ?_⟩⟩
    obtain ⟨b, off, spot⟩ := x
    have hc := h4 0 (by omega)
    have hspot : spot = none := by simpa [Addr.add] using World.cell?_spot hc
    subst hspot
    refine ⟨b, off, rfl, by have := World.block_lt_of_cell? w _ hc; simpa [Addr.add] using this, fun i hi => ?_⟩
    have := h4 i (by omega)
    have e : (⟨b, off, none⟩ : Addr).add i = ⟨b, off + i, none⟩ := by unfold Addr.add; split <;> simp_all
    rw [e] at this
    have hm : zs.getD i 0 ∈ zs := by simp [show i < zs.length by omega]
    have hw := h5 _ hm
    generalize zs.getD i 0 = u at *
    have hw' : (0 : Int) ≤ u ∧ u ≤ 255 := by simpa [Lit.wf, IntKind.min, IntKind.max, IntKind.signed, IntKind.bits] using hw
    exact ⟨u, hw'.1, hw'.2, this⟩

/-- The law's answer. -/
def Holds (w : World) (e : Ending) (w' : World) : Prop := e = .returned (.bool true) ∧ Below w.heap.size w w'

/-- How many of the first k cars are lucky. -/
def zeros (p : Int) (xs : List Int) (k : Nat) : Nat := (idxs (fun i => nth (dists p xs) i == 0) k).length
theorem zeros_succ (p : Int) (xs : List Int) (k : Nat) : zeros p xs (k + 1) = zeros p xs k + if (nth (dists p xs) k == 0) = true then 1 else 0 := by
  unfold zeros
  rw [idxs_succ, List.length_append]
  split <;> simp_all
theorem has_idxs {f : Nat → Bool} {n k : Nat} (h : k < n) : hasB (idxs f n) (k : Int) = f k := by
  rw [Bool.eq_iff_iff, hasB_iff, mem_idxs]
  exact ⟨fun h => h.2, fun h' => ⟨h, h'⟩⟩

set_option maxRecDepth 100000 in
set_option maxHeartbeats 16000000 in
theorem stay_walk (a b : Option Addr) (n m cap cap' : Nat) (w : World) (hn : n ≤ maxLen) (h : n ≤ 1048576 → HasB w a n w.heap.size) (h' : m ≤ 1048576 → HasB w b m w.heap.size) :
    Calls Try.prog 7 #[.slice a n cap, .slice b m cap'] w (Holds w) := by
  have H1 := hid h
  have H2 := hid h'
  have HN := hid hn
  clear h h' hn
  have hB : Below w.heap.size w w := Below.refl _ _
  go_enter Try.func7, Try.ntmps7
  go_wp2_with fail
  refine (big_any _ _ _ _ _ _ _ (by have := HN.out; unfold maxLen at this; omega)).mono ?_
  rintro e _ ⟨r, rfl, hr, rfl⟩
  have HR := hid hr
  clear hr
  cases r with
  | true =>
    go_wp2_with fail
    go_ret
    exact ⟨rfl, hB⟩
  | false =>
    have hnm := HR.out rfl
    clear HR
    have HA := H1.out (by omega)
    have HM := hid (H2.out (by omega))
    clear H1 H2 HN
    go_wp2_with fail
    refine (drawDrive_any _ _ _ _ HA).mono ?_
    rintro e v1 ⟨a_l, nl, c_l, xs, p, rfl, o_l, hnl, hp1, hp2, st⟩
    have hB := st
    clear st HA
    have HL := hid o_l.len
    by_cases hg : good xs p = true
    · by_cases ha : allPark p xs = true
      · have HG := hid (hg)
        have HAP := hid ha
        have hgy : (good xs p && allPark p xs) = true := by rw [hg, ha]; rfl
        have HD : Hid (driveCars xs p = (drive p xs, true)) := hid (by unfold driveCars; rw [if_pos hgy])
        have HT : Hid (takenOf xs p = (insSort (drive p xs), true)) := hid (by unfold takenOf; rw [if_pos hgy])
        have HF : Hid (distsOf xs p = (dists p xs, true)) := hid (by unfold distsOf; rw [if_pos hgy])
        have HTO : Hid (totalOf xs p = (total (dists p xs), true)) := hid (by unfold totalOf; rw [if_pos hgy])
        have HK : Hid (luckyOf xs p = (idxs (fun i => nth (dists p xs) i == 0) xs.length, true)) := hid (by unfold luckyOf; rw [if_pos hgy])
        have HP : Hid (doAllPark xs p = (true, true)) := hid (by unfold doAllPark; rw [if_pos hg, ha])
        obtain ⟨tt, htt⟩ : ∃ t, total (dists p xs) = t := ⟨_, rfl⟩
        rw [htt] at HTO
        have hy := neq_self_int tt
        have HTT := hid htt
        clear hg ha hgy htt
        go_wp2_with fail
        refine (driveCars_any _ _ _ _ _ _ o_l.has).mono ?_
        rw [HD.out]
        rintro e v2 ⟨a_r, n_r, c_r, rfl, o_r, st⟩
        replace o_l := o_l.below st (Nat.le_refl _)
        replace hB := hB.trans (st.mono hB.size)
        clear st
        go_wp2_with fail
        refine (specDriveCars_any _ _ _ _ _ _ o_l.has).mono ?_
        rw [HD.out]
        rintro e v3 ⟨a_s, n_s, c_s, rfl, o_s, st⟩
        replace o_l := o_l.below st (Nat.le_refl _)
        replace o_r := o_r.below st (Nat.le_refl _)
        replace hB := hB.trans (st.mono hB.size)
        clear st
        go_wp2_with fail
        refine (jSame_any _ _ _ _ _ _ _ _ _ o_r.has o_s.has).mono ?_
        rintro e v4 ⟨rfl, q⟩
        have st : Below v3.heap.size v3 v4 := q.below _
        replace o_l := o_l.below st (Nat.le_refl _)
        replace o_r := o_r.below st (Nat.le_refl _)
        replace o_s := o_s.below st (Nat.le_refl _)
        replace hB := hB.trans (st.mono hB.size)
        clear st
        clear q
        rw [same_self]
        clear o_s
        go_wp2_with fail
        refine (takenPlaces_any _ _ _ _ _ _ o_l.has).mono ?_
        rw [HT.out]
        rintro e v5 ⟨a_t, n_t, c_t, rfl, o_t, st⟩
        replace o_l := o_l.below st (Nat.le_refl _)
        replace o_r := o_r.below st (Nat.le_refl _)
        replace hB := hB.trans (st.mono hB.size)
        clear st
        go_wp2_with fail
        refine (distancesOf_any _ _ _ _ _ _ o_l.has).mono ?_
        rw [HF.out]
        rintro e v6 ⟨a_d, n_d, c_d, rfl, o_d, st⟩
        replace o_l := o_l.below st (Nat.le_refl _)
        replace o_r := o_r.below st (Nat.le_refl _)
        replace o_t := o_t.below st (Nat.le_refl _)
        replace hB := hB.trans (st.mono hB.size)
        clear st
        go_wp2_with fail
        refine (totalDistance_any _ _ _ _ _ _ o_l.has).mono ?_
        rw [HTO.out]
        rintro e v7 ⟨rfl, st⟩
        replace o_l := o_l.below st (Nat.le_refl _)
        replace o_r := o_r.below st (Nat.le_refl _)
        replace o_t := o_t.below st (Nat.le_refl _)
        replace o_d := o_d.below st (Nat.le_refl _)
        replace hB := hB.trans (st.mono hB.size)
        clear st
        go_wp2_with fail
        refine (luckyCars_any _ _ _ _ _ _ o_l.has).mono ?_
        rw [HK.out]
        rintro e v8 ⟨a_k, n_k, c_k, rfl, o_k, st⟩
        replace o_l := o_l.below st (Nat.le_refl _)
        replace o_r := o_r.below st (Nat.le_refl _)
        replace o_t := o_t.below st (Nat.le_refl _)
        replace o_d := o_d.below st (Nat.le_refl _)
        replace hB := hB.trans (st.mono hB.size)
        clear st
        go_wp2_with fail
        refine (doAllPark_any _ _ _ _ _ _ o_l.has).mono ?_
        rw [HP.out]
        rintro e v9 ⟨rfl, st⟩
        replace o_l := o_l.below st (Nat.le_refl _)
        replace o_r := o_r.below st (Nat.le_refl _)
        replace o_t := o_t.below st (Nat.le_refl _)
        replace o_d := o_d.below st (Nat.le_refl _)
        replace o_k := o_k.below st (Nat.le_refl _)
        replace hB := hB.trans (st.mono hB.size)
        clear st
        go_wp2_with fail
        refine (areFavourites_any _ _ _ _ _ _ o_l.has).mono ?_
        rintro e _ ⟨rfl, rfl⟩
        rw [HG.out]
        by_cases h1 : (1 : Int) < (nl : Int)
        · skip
          obtain ⟨K, HMK⟩ : ∃ K, HasB v9 b m K := ⟨_, HM.out.below hB⟩
          have hn1 : ¬ (nl : Int) - 1 = 0 := by omega
          go_wp2_with fail
          refine (numberOf_any _ _ _ K _ HMK).mono ?_
          rintro e _ ⟨z, rfl, z0, z1, rfl⟩
          clear HMK
          obtain ⟨i, hi⟩ : ∃ i : Nat, z % ((nl : Int) - 1) = (i : Int) := ⟨_, (Int.toNat_of_nonneg (Int.emod_nonneg _ (by omega))).symm⟩
          have hi2 : i + 1 < nl := by have := Int.emod_lt_of_pos z (show 0 < (nl : Int) - 1 by omega); omega
          have HTS := hid ((taken_swapped (p := p) (show i + 1 < xs.length by rw [HL.out]; exact hi2)).trans HT.out)
          have HTO2 := hid ((total_swapped (p := p) (show i + 1 < xs.length by rw [HL.out]; exact hi2)).trans HTO.out)
          go_wp2_with fail
          rw [hi]
          refine (jSwapped_any _ _ _ xs i _ o_l.has hi2).mono ?_
          rintro e v10 ⟨a_w, c_w, rfl, o_w, st⟩
          replace o_l := o_l.below st (Nat.le_refl _)
          replace o_r := o_r.below st (Nat.le_refl _)
          replace o_t := o_t.below st (Nat.le_refl _)
          replace o_d := o_d.below st (Nat.le_refl _)
          replace o_k := o_k.below st (Nat.le_refl _)
          replace hB := hB.trans (st.mono hB.size)
          clear st hi z0 z1
          go_wp2_with fail
          refine (takenPlaces_any _ _ _ _ _ _ o_w.has).mono ?_
          rw [HTS.out]
          rintro e v11 ⟨a_x, n_x, c_x, rfl, o_x, st⟩
          replace o_l := o_l.below st (Nat.le_refl _)
          replace o_r := o_r.below st (Nat.le_refl _)
          replace o_t := o_t.below st (Nat.le_refl _)
          replace o_d := o_d.below st (Nat.le_refl _)
          replace o_k := o_k.below st (Nat.le_refl _)
          replace o_w := o_w.below st (Nat.le_refl _)
          replace hB := hB.trans (st.mono hB.size)
          clear st
          go_wp2_with fail
          refine (totalDistance_any _ _ _ _ _ _ o_w.has).mono ?_
          rw [HTO2.out]
          rintro e v12 ⟨rfl, st⟩
          replace o_l := o_l.below st (Nat.le_refl _)
          replace o_r := o_r.below st (Nat.le_refl _)
          replace o_t := o_t.below st (Nat.le_refl _)
          replace o_d := o_d.below st (Nat.le_refl _)
          replace o_k := o_k.below st (Nat.le_refl _)
          replace o_w := o_w.below st (Nat.le_refl _)
          replace o_x := o_x.below st (Nat.le_refl _)
          replace hB := hB.trans (st.mono hB.size)
          clear st
          go_wp2_with fail
          refine (jSame_any _ _ _ _ _ _ _ _ _ o_x.has o_t.has).mono ?_
          rintro e v13 ⟨rfl, q⟩
          have st : Below v12.heap.size v12 v13 := q.below _
          replace o_l := o_l.below st (Nat.le_refl _)
          replace o_r := o_r.below st (Nat.le_refl _)
          replace o_t := o_t.below st (Nat.le_refl _)
          replace o_d := o_d.below st (Nat.le_refl _)
          replace o_k := o_k.below st (Nat.le_refl _)
          replace o_w := o_w.below st (Nat.le_refl _)
          replace o_x := o_x.below st (Nat.le_refl _)
          replace hB := hB.trans (st.mono hB.size)
          clear st
          clear q
          rw [same_self]
          clear o_w o_x
          have hrn := o_r.len
          rw [length_drive, HL.out] at hrn
          have hdn := o_d.len
          rw [length_dists, HL.out] at hdn
          have htn := o_t.len
          rw [length_insSort, length_drive, HL.out] at htn
          have hkn : zeros p xs xs.length = n_k := o_k.len
          rw [HL.out] at hkn
          subst hrn hdn htn
          have HKN := hid hkn
          clear hkn
          go_wp2_with fail
          go_loopw [26, 168] (fun c i wr => ∃ k : Nat, k ≤ nl ∧ i = .int .i64 k ∧ c = .int .i64 (zeros p xs k : Int) ∧ Quiet v13 wr) (fun _ i _ => nl - (intOf i).toNat)
          case atStart => exact ⟨0, by omega, rfl, rfl, ⟨0, rfl⟩⟩
          case round =>
            obtain ⟨wo, rfl⟩ : ∃ wo : World, wo = wr := ⟨_, rfl⟩
            obtain ⟨k, hk, rfl, rfl, HQ⟩ := hrel
            have stq := HQ.below (v13.heap.size)
            have q_l := o_l.below stq (Nat.le_refl _)
            have q_r := o_r.below stq (Nat.le_refl _)
            have q_t := o_t.below stq (Nat.le_refl _)
            have q_d := o_d.below stq (Nat.le_refl _)
            have q_k := o_k.below stq (Nat.le_refl _)
            replace hB := hB.trans (HQ.below _)
            clear stq o_l o_r o_t o_d o_k
            have hz8 : zeros p xs k ≤ k := length_idxs _ _
            by_cases hlt : k < nl
            · have hkx : k < xs.length := by rw [HL.out]; exact hlt
              have hbs := (good_iff.1 HG.out).2.2
              have hcar := car_at hkx hbs HAP.out
              have hx := hbs _ (nth_mem hkx)
              have hde := nth_dists (p := p) hkx
              have HZS := hid (zeros_succ p xs k)
              obtain ⟨b1, off1, rfl, hb1, hc1⟩ := q_l.has.2.2.2.2 (by omega)
              obtain ⟨b2, off2, rfl, hb2, hc2⟩ := q_r.has.2.2.2.2 (by omega)
              obtain ⟨b3, off3, rfl, hb3, hc3⟩ := q_d.has.2.2.2.2 (by omega)
              have e1 := hc1 k hlt
              have e2 := hc2 k hlt
              have e3 := hc3 k hlt
              have hkc : k ≤ c_r := by have := q_r.has.2.1; omega
              have cq1 : ∀ j, Calls Try.prog 38 #[.slice (some ⟨b2, off2, none⟩) k c_r, .int .i64 (nth (drive p xs) k)] (wo.drewN j) fun e w' => e = .returned (.bool false) ∧ w' = wo.drewN j := fun j =>
                (jHas_any _ _ _ _ _ (wo.drewN j) (q_r.has.take (k := k) (by omega))).mono fun e w' ⟨he, hw⟩ => ⟨by rw [he, hasB_not.2 hcar.2.2.1], hw.symm⟩
              have cq2 : ∀ j, Calls Try.prog 38 #[.slice a_t nl c_t, .int .i64 (nth (drive p xs) k)] (wo.drewN j) fun e w' => e = .returned (.bool true) ∧ w' = wo.drewN j := fun j =>
                (jHas_any _ _ _ _ _ (wo.drewN j) q_t.has).mono fun e w' ⟨he, hw⟩ => ⟨by rw [he, hasB_iff.2 ((insSort_perm _).mem_iff.2 (nth_mem (by rw [length_drive]; exact hkx)))], hw.symm⟩
              have cq3 : ∀ j, Calls Try.prog 38 #[.slice a_k n_k c_k, .int .i64 (k : Int)] (wo.drewN j) fun e w' => e = .returned (.bool (nth (dists p xs) k == 0)) ∧ w' = wo.drewN j := fun j =>
                (jHas_any _ _ _ _ _ (wo.drewN j) q_k.has).mono fun e w' ⟨he, hw⟩ => ⟨by rw [he, has_idxs hkx], hw.symm⟩
              have cq4 : ∀ (t : Int) (j : Nat), nth xs k ≤ t → t < nth (drive p xs) k → Calls Try.prog 38 #[.slice (some ⟨b2, off2, none⟩) k c_r, .int .i64 t] (wo.drewN j) fun e w' => e = .returned (.bool true) ∧ w' = wo.drewN j := fun t j ht1 ht2 =>
                (jHas_any _ _ _ _ _ (wo.drewN j) (q_r.has.take (k := k) (by omega))).mono fun e w' ⟨he, hw⟩ => ⟨by rw [he, hasB_iff.2 (hcar.2.2.2 t ht1 ht2)], hw.symm⟩
              have hc4 := hcar.1
              have hc5 := hcar.2.1
              clear hcar hbs hc1 hc2 hc3
              generalize nth xs k = x at *
              generalize nth (drive p xs) k = y at *
              generalize nth (dists p xs) k = d at *
              obtain ⟨hx0, hx1⟩ := hx
              have hw1 : IntKind.i64.wrap (y - x) = y - x := by first | (rw [IntKind.wrap_i64]; omega) | (show wrap64 (y - x) = y - x; exact IntWalk.wrap64_in _ ⟨by omega, by omega⟩)
              have hne : (IntKind.i64.wrap (y - x) != d) = false := by rw [hw1]; simp [hde]
              clear hw1
              have hd0 : ¬ d < 0 := by omega
              have hdd : decide (d < 0) = false := by simp; omega
              have CQ1 := hid cq1
              have CQ2 := hid cq2
              have CQ4 := hid cq4
              have hki : (k : Int) < (nl : Int) := by omega
              have hkz : (0 : Int) ≤ (k : Int) := by omega
              have hkm : k ≤ nl := hk
              clear cq1 cq2 cq4 hde
              by_cases hz : d = 0
              · have hzb : (d == 0) = true := by simp [hz]
                rw [hzb] at cq3
                have CQ3 := hid cq3
                have HZ := hid hz
                have HS := HZS.out
                rw [hzb, if_pos rfl] at HS
                have HS2 := hid HS
                clear cq3 hz HS HZS
                go_wp2_with fail
                go_quiet (first | (go_at_call_of 38 (Value.slice (some ⟨b2, off2, none⟩) k c_r); exact Calls.quiet_of_same (CQ1.out _)) | (go_at_call_of 38 (Value.slice a_t nl c_t); exact Calls.quiet_of_same (CQ2.out _)) | (go_at_call_of 38 (Value.slice a_k n_k c_k); exact Calls.quiet_of_same (CQ3.out _)))
                go_wp2_with fail
                go_loop [29] (fun v => ∃ t : Int, v = .int .i64 t ∧ x ≤ t ∧ t ≤ y) (fun v => (y - intOf v).toNat)
                case atStart => exact ⟨x, rfl, Int.le_refl _, hc4⟩
                case round =>
                  obtain ⟨t, rfl, ht1, ht2⟩ := hrel
                  by_cases hty : t < y
                  · go_wp2_with fail
                    refine (CQ4.out t nq ht1 hty).mono ?_
                    rintro e _ ⟨rfl, rfl⟩
                    go_wp2_with fail
                    go_round
                    case rel => exact ⟨t + 1, rfl, by omega, by omega⟩
                    case measure => simp [intOf]; omega
                  · go_wp2_with fail
                    go_roundw
                    case rel => exact ⟨k + 1, by omega, by go_num, congrArg (Value.int .i64) (by have := HS2.out; omega), Quiet.more HQ _⟩
                    case measure => simp [intOf]; omega
              · have hzb : (d == 0) = false := by simp [hz]
                rw [hzb] at cq3
                have CQ3 := hid cq3
                have HZ := hid hz
                have HS := HZS.out
                rw [hzb, if_neg (by simp)] at HS
                have HS2 := hid HS
                clear cq3 hz HS HZS
                go_wp2_with fail
                go_quiet (first | (go_at_call_of 38 (Value.slice (some ⟨b2, off2, none⟩) k c_r); exact Calls.quiet_of_same (CQ1.out _)) | (go_at_call_of 38 (Value.slice a_t nl c_t); exact Calls.quiet_of_same (CQ2.out _)) | (go_at_call_of 38 (Value.slice a_k n_k c_k); exact Calls.quiet_of_same (CQ3.out _)))
                go_wp2_with fail
                go_loop [29] (fun v => ∃ t : Int, v = .int .i64 t ∧ x ≤ t ∧ t ≤ y) (fun v => (y - intOf v).toNat)
                case atStart => exact ⟨x, rfl, Int.le_refl _, hc4⟩
                case round =>
                  obtain ⟨t, rfl, ht1, ht2⟩ := hrel
                  by_cases hty : t < y
                  · go_wp2_with fail
                    refine (CQ4.out t nq ht1 hty).mono ?_
                    rintro e _ ⟨rfl, rfl⟩
                    go_wp2_with fail
                    go_round
                    case rel => exact ⟨t + 1, rfl, by omega, by omega⟩
                    case measure => simp [intOf]; omega
                  · go_wp2_with fail
                    go_roundw
                    case rel => exact ⟨k + 1, by omega, by go_num, congrArg (Value.int .i64) (by have := HS2.out; omega), Quiet.more HQ _⟩
                    case measure => simp [intOf]; omega
            · obtain rfl : k = nl := by omega
              have hcnt : ((zeros p xs k : Int) == (n_k : Int)) = true := by simp [HKN.out]
              have htt2 : (tt == tt) = true := by simp
              have hll : ((k : Int) == (k : Int)) = true := by simp
              go_wp2_with fail
              refine (jSum_any _ _ _ _ wo q_d.has (small_dists HG.out)).mono ?_
              rintro e _ ⟨rfl, rfl⟩
              rw [HTT.out]
              go_wp2_with fail
              go_ret
              exact ⟨rfl, hB⟩
        · skip
          have hrn := o_r.len
          rw [length_drive, HL.out] at hrn
          have hdn := o_d.len
          rw [length_dists, HL.out] at hdn
          have htn := o_t.len
          rw [length_insSort, length_drive, HL.out] at htn
          have hkn : zeros p xs xs.length = n_k := o_k.len
          rw [HL.out] at hkn
          subst hrn hdn htn
          have HKN := hid hkn
          clear hkn
          go_wp2_with fail
          go_loopw [26, 168] (fun c i wr => ∃ k : Nat, k ≤ nl ∧ i = .int .i64 k ∧ c = .int .i64 (zeros p xs k : Int) ∧ Quiet v9 wr) (fun _ i _ => nl - (intOf i).toNat)
          case atStart => exact ⟨0, by omega, rfl, rfl, ⟨0, rfl⟩⟩
          case round =>
            obtain ⟨wo, rfl⟩ : ∃ wo : World, wo = wr := ⟨_, rfl⟩
            obtain ⟨k, hk, rfl, rfl, HQ⟩ := hrel
            have stq := HQ.below (v9.heap.size)
            have q_l := o_l.below stq (Nat.le_refl _)
            have q_r := o_r.below stq (Nat.le_refl _)
            have q_t := o_t.below stq (Nat.le_refl _)
            have q_d := o_d.below stq (Nat.le_refl _)
            have q_k := o_k.below stq (Nat.le_refl _)
            replace hB := hB.trans (HQ.below _)
            clear stq o_l o_r o_t o_d o_k
            have hz8 : zeros p xs k ≤ k := length_idxs _ _
            by_cases hlt : k < nl
            · have hkx : k < xs.length := by rw [HL.out]; exact hlt
              have hbs := (good_iff.1 HG.out).2.2
              have hcar := car_at hkx hbs HAP.out
              have hx := hbs _ (nth_mem hkx)
              have hde := nth_dists (p := p) hkx
              have HZS := hid (zeros_succ p xs k)
              obtain ⟨b1, off1, rfl, hb1, hc1⟩ := q_l.has.2.2.2.2 (by omega)
              obtain ⟨b2, off2, rfl, hb2, hc2⟩ := q_r.has.2.2.2.2 (by omega)
              obtain ⟨b3, off3, rfl, hb3, hc3⟩ := q_d.has.2.2.2.2 (by omega)
              have e1 := hc1 k hlt
              have e2 := hc2 k hlt
              have e3 := hc3 k hlt
              have hkc : k ≤ c_r := by have := q_r.has.2.1; omega
              have cq1 : ∀ j, Calls Try.prog 38 #[.slice (some ⟨b2, off2, none⟩) k c_r, .int .i64 (nth (drive p xs) k)] (wo.drewN j) fun e w' => e = .returned (.bool false) ∧ w' = wo.drewN j := fun j =>
                (jHas_any _ _ _ _ _ (wo.drewN j) (q_r.has.take (k := k) (by omega))).mono fun e w' ⟨he, hw⟩ => ⟨by rw [he, hasB_not.2 hcar.2.2.1], hw.symm⟩
              have cq2 : ∀ j, Calls Try.prog 38 #[.slice a_t nl c_t, .int .i64 (nth (drive p xs) k)] (wo.drewN j) fun e w' => e = .returned (.bool true) ∧ w' = wo.drewN j := fun j =>
                (jHas_any _ _ _ _ _ (wo.drewN j) q_t.has).mono fun e w' ⟨he, hw⟩ => ⟨by rw [he, hasB_iff.2 ((insSort_perm _).mem_iff.2 (nth_mem (by rw [length_drive]; exact hkx)))], hw.symm⟩
              have cq3 : ∀ j, Calls Try.prog 38 #[.slice a_k n_k c_k, .int .i64 (k : Int)] (wo.drewN j) fun e w' => e = .returned (.bool (nth (dists p xs) k == 0)) ∧ w' = wo.drewN j := fun j =>
                (jHas_any _ _ _ _ _ (wo.drewN j) q_k.has).mono fun e w' ⟨he, hw⟩ => ⟨by rw [he, has_idxs hkx], hw.symm⟩
              have cq4 : ∀ (t : Int) (j : Nat), nth xs k ≤ t → t < nth (drive p xs) k → Calls Try.prog 38 #[.slice (some ⟨b2, off2, none⟩) k c_r, .int .i64 t] (wo.drewN j) fun e w' => e = .returned (.bool true) ∧ w' = wo.drewN j := fun t j ht1 ht2 =>
                (jHas_any _ _ _ _ _ (wo.drewN j) (q_r.has.take (k := k) (by omega))).mono fun e w' ⟨he, hw⟩ => ⟨by rw [he, hasB_iff.2 (hcar.2.2.2 t ht1 ht2)], hw.symm⟩
              have hc4 := hcar.1
              have hc5 := hcar.2.1
              clear hcar hbs hc1 hc2 hc3
              generalize nth xs k = x at *
              generalize nth (drive p xs) k = y at *
              generalize nth (dists p xs) k = d at *
              obtain ⟨hx0, hx1⟩ := hx
              have hw1 : IntKind.i64.wrap (y - x) = y - x := by first | (rw [IntKind.wrap_i64]; omega) | (show wrap64 (y - x) = y - x; exact IntWalk.wrap64_in _ ⟨by omega, by omega⟩)
              have hne : (IntKind.i64.wrap (y - x) != d) = false := by rw [hw1]; simp [hde]
              clear hw1
              have hd0 : ¬ d < 0 := by omega
              have hdd : decide (d < 0) = false := by simp; omega
              have CQ1 := hid cq1
              have CQ2 := hid cq2
              have CQ4 := hid cq4
              have hki : (k : Int) < (nl : Int) := by omega
              have hkz : (0 : Int) ≤ (k : Int) := by omega
              have hkm : k ≤ nl := hk
              clear cq1 cq2 cq4 hde
              by_cases hz : d = 0
              · have hzb : (d == 0) = true := by simp [hz]
                rw [hzb] at cq3
                have CQ3 := hid cq3
                have HZ := hid hz
                have HS := HZS.out
                rw [hzb, if_pos rfl] at HS
                have HS2 := hid HS
                clear cq3 hz HS HZS
                go_wp2_with fail
                go_quiet (first | (go_at_call_of 38 (Value.slice (some ⟨b2, off2, none⟩) k c_r); exact Calls.quiet_of_same (CQ1.out _)) | (go_at_call_of 38 (Value.slice a_t nl c_t); exact Calls.quiet_of_same (CQ2.out _)) | (go_at_call_of 38 (Value.slice a_k n_k c_k); exact Calls.quiet_of_same (CQ3.out _)))
                go_wp2_with fail
                go_loop [29] (fun v => ∃ t : Int, v = .int .i64 t ∧ x ≤ t ∧ t ≤ y) (fun v => (y - intOf v).toNat)
                case atStart => exact ⟨x, rfl, Int.le_refl _, hc4⟩
                case round =>
                  obtain ⟨t, rfl, ht1, ht2⟩ := hrel
                  by_cases hty : t < y
                  · go_wp2_with fail
                    refine (CQ4.out t nq ht1 hty).mono ?_
                    rintro e _ ⟨rfl, rfl⟩
                    go_wp2_with fail
                    go_round
                    case rel => exact ⟨t + 1, rfl, by omega, by omega⟩
                    case measure => simp [intOf]; omega
                  · go_wp2_with fail
                    go_roundw
                    case rel => exact ⟨k + 1, by omega, by go_num, congrArg (Value.int .i64) (by have := HS2.out; omega), Quiet.more HQ _⟩
                    case measure => simp [intOf]; omega
              · have hzb : (d == 0) = false := by simp [hz]
                rw [hzb] at cq3
                have CQ3 := hid cq3
                have HZ := hid hz
                have HS := HZS.out
                rw [hzb, if_neg (by simp)] at HS
                have HS2 := hid HS
                clear cq3 hz HS HZS
                go_wp2_with fail
                go_quiet (first | (go_at_call_of 38 (Value.slice (some ⟨b2, off2, none⟩) k c_r); exact Calls.quiet_of_same (CQ1.out _)) | (go_at_call_of 38 (Value.slice a_t nl c_t); exact Calls.quiet_of_same (CQ2.out _)) | (go_at_call_of 38 (Value.slice a_k n_k c_k); exact Calls.quiet_of_same (CQ3.out _)))
                go_wp2_with fail
                go_loop [29] (fun v => ∃ t : Int, v = .int .i64 t ∧ x ≤ t ∧ t ≤ y) (fun v => (y - intOf v).toNat)
                case atStart => exact ⟨x, rfl, Int.le_refl _, hc4⟩
                case round =>
                  obtain ⟨t, rfl, ht1, ht2⟩ := hrel
                  by_cases hty : t < y
                  · go_wp2_with fail
                    refine (CQ4.out t nq ht1 hty).mono ?_
                    rintro e _ ⟨rfl, rfl⟩
                    go_wp2_with fail
                    go_round
                    case rel => exact ⟨t + 1, rfl, by omega, by omega⟩
                    case measure => simp [intOf]; omega
                  · go_wp2_with fail
                    go_roundw
                    case rel => exact ⟨k + 1, by omega, by go_num, congrArg (Value.int .i64) (by have := HS2.out; omega), Quiet.more HQ _⟩
                    case measure => simp [intOf]; omega
            · obtain rfl : k = nl := by omega
              have hcnt : ((zeros p xs k : Int) == (n_k : Int)) = true := by simp [HKN.out]
              have htt2 : (tt == tt) = true := by simp
              have hll : ((k : Int) == (k : Int)) = true := by simp
              go_wp2_with fail
              refine (jSum_any _ _ _ _ wo q_d.has (small_dists HG.out)).mono ?_
              rintro e _ ⟨rfl, rfl⟩
              rw [HTT.out]
              go_wp2_with fail
              go_ret
              exact ⟨rfl, hB⟩
      · have HG := hid (hg)
        have hgy : ¬ (good xs p && allPark p xs) = true := by simp [ha]
        have HD : Hid (driveCars xs p = ([], false)) := hid (by unfold driveCars; rw [if_neg hgy])
        have HT : Hid (takenOf xs p = ([], false)) := hid (by unfold takenOf; rw [if_neg hgy])
        have HF : Hid (distsOf xs p = ([], false)) := hid (by unfold distsOf; rw [if_neg hgy])
        have HTO : Hid (totalOf xs p = (0, false)) := hid (by unfold totalOf; rw [if_neg hgy])
        have HK : Hid (luckyOf xs p = ([], false)) := hid (by unfold luckyOf; rw [if_neg hgy])
        have HP : Hid (doAllPark xs p = (false, true)) := hid (by unfold doAllPark; rw [if_pos hg, Bool.eq_false_iff.2 ha])
        clear hg ha hgy
        go_wp2_with fail
        refine (driveCars_any _ _ _ _ _ _ o_l.has).mono ?_
        rw [HD.out]
        rintro e v2 ⟨a_r, n_r, c_r, rfl, o_r, st⟩
        replace o_l := o_l.below st (Nat.le_refl _)
        replace hB := hB.trans (st.mono hB.size)
        clear st
        go_wp2_with fail
        refine (specDriveCars_any _ _ _ _ _ _ o_l.has).mono ?_
        rw [HD.out]
        rintro e v3 ⟨a_s, n_s, c_s, rfl, o_s, st⟩
        replace o_l := o_l.below st (Nat.le_refl _)
        replace o_r := o_r.below st (Nat.le_refl _)
        replace hB := hB.trans (st.mono hB.size)
        clear st
        go_wp2_with fail
        refine (jSame_any _ _ _ _ _ _ _ _ _ o_r.has o_s.has).mono ?_
        rintro e v4 ⟨rfl, q⟩
        have st : Below v3.heap.size v3 v4 := q.below _
        replace o_l := o_l.below st (Nat.le_refl _)
        replace o_r := o_r.below st (Nat.le_refl _)
        replace o_s := o_s.below st (Nat.le_refl _)
        replace hB := hB.trans (st.mono hB.size)
        clear st
        clear q
        rw [same_self]
        clear o_s
        go_wp2_with fail
        refine (takenPlaces_any _ _ _ _ _ _ o_l.has).mono ?_
        rw [HT.out]
        rintro e v5 ⟨a_t, n_t, c_t, rfl, o_t, st⟩
        replace o_l := o_l.below st (Nat.le_refl _)
        replace o_r := o_r.below st (Nat.le_refl _)
        replace hB := hB.trans (st.mono hB.size)
        clear st
        go_wp2_with fail
        refine (distancesOf_any _ _ _ _ _ _ o_l.has).mono ?_
        rw [HF.out]
        rintro e v6 ⟨a_d, n_d, c_d, rfl, o_d, st⟩
        replace o_l := o_l.below st (Nat.le_refl _)
        replace o_r := o_r.below st (Nat.le_refl _)
        replace o_t := o_t.below st (Nat.le_refl _)
        replace hB := hB.trans (st.mono hB.size)
        clear st
        go_wp2_with fail
        refine (totalDistance_any _ _ _ _ _ _ o_l.has).mono ?_
        rw [HTO.out]
        rintro e v7 ⟨rfl, st⟩
        replace o_l := o_l.below st (Nat.le_refl _)
        replace o_r := o_r.below st (Nat.le_refl _)
        replace o_t := o_t.below st (Nat.le_refl _)
        replace o_d := o_d.below st (Nat.le_refl _)
        replace hB := hB.trans (st.mono hB.size)
        clear st
        go_wp2_with fail
        refine (luckyCars_any _ _ _ _ _ _ o_l.has).mono ?_
        rw [HK.out]
        rintro e v8 ⟨a_k, n_k, c_k, rfl, o_k, st⟩
        replace o_l := o_l.below st (Nat.le_refl _)
        replace o_r := o_r.below st (Nat.le_refl _)
        replace o_t := o_t.below st (Nat.le_refl _)
        replace o_d := o_d.below st (Nat.le_refl _)
        replace hB := hB.trans (st.mono hB.size)
        clear st
        go_wp2_with fail
        refine (doAllPark_any _ _ _ _ _ _ o_l.has).mono ?_
        rw [HP.out]
        rintro e v9 ⟨rfl, st⟩
        replace o_l := o_l.below st (Nat.le_refl _)
        replace o_r := o_r.below st (Nat.le_refl _)
        replace o_t := o_t.below st (Nat.le_refl _)
        replace o_d := o_d.below st (Nat.le_refl _)
        replace o_k := o_k.below st (Nat.le_refl _)
        replace hB := hB.trans (st.mono hB.size)
        clear st
        go_wp2_with fail
        refine (areFavourites_any _ _ _ _ _ _ o_l.has).mono ?_
        rintro e _ ⟨rfl, rfl⟩
        rw [HG.out]
        by_cases h1 : (1 : Int) < (nl : Int)
        · skip
          obtain ⟨K, HMK⟩ : ∃ K, HasB v9 b m K := ⟨_, HM.out.below hB⟩
          have hn1 : ¬ (nl : Int) - 1 = 0 := by omega
          go_wp2_with fail
          refine (numberOf_any _ _ _ K _ HMK).mono ?_
          rintro e _ ⟨z, rfl, z0, z1, rfl⟩
          clear HMK
          obtain ⟨i, hi⟩ : ∃ i : Nat, z % ((nl : Int) - 1) = (i : Int) := ⟨_, (Int.toNat_of_nonneg (Int.emod_nonneg _ (by omega))).symm⟩
          have hi2 : i + 1 < nl := by have := Int.emod_lt_of_pos z (show 0 < (nl : Int) - 1 by omega); omega
          have HTS := hid ((taken_swapped (p := p) (show i + 1 < xs.length by rw [HL.out]; exact hi2)).trans HT.out)
          have HTO2 := hid ((total_swapped (p := p) (show i + 1 < xs.length by rw [HL.out]; exact hi2)).trans HTO.out)
          go_wp2_with fail
          rw [hi]
          refine (jSwapped_any _ _ _ xs i _ o_l.has hi2).mono ?_
          rintro e v10 ⟨a_w, c_w, rfl, o_w, st⟩
          replace o_l := o_l.below st (Nat.le_refl _)
          replace o_r := o_r.below st (Nat.le_refl _)
          replace o_t := o_t.below st (Nat.le_refl _)
          replace o_d := o_d.below st (Nat.le_refl _)
          replace o_k := o_k.below st (Nat.le_refl _)
          replace hB := hB.trans (st.mono hB.size)
          clear st hi z0 z1
          go_wp2_with fail
          refine (takenPlaces_any _ _ _ _ _ _ o_w.has).mono ?_
          rw [HTS.out]
          rintro e v11 ⟨a_x, n_x, c_x, rfl, o_x, st⟩
          replace o_l := o_l.below st (Nat.le_refl _)
          replace o_r := o_r.below st (Nat.le_refl _)
          replace o_t := o_t.below st (Nat.le_refl _)
          replace o_d := o_d.below st (Nat.le_refl _)
          replace o_k := o_k.below st (Nat.le_refl _)
          replace o_w := o_w.below st (Nat.le_refl _)
          replace hB := hB.trans (st.mono hB.size)
          clear st
          go_wp2_with fail
          refine (totalDistance_any _ _ _ _ _ _ o_w.has).mono ?_
          rw [HTO2.out]
          rintro e v12 ⟨rfl, st⟩
          replace o_l := o_l.below st (Nat.le_refl _)
          replace o_r := o_r.below st (Nat.le_refl _)
          replace o_t := o_t.below st (Nat.le_refl _)
          replace o_d := o_d.below st (Nat.le_refl _)
          replace o_k := o_k.below st (Nat.le_refl _)
          replace o_w := o_w.below st (Nat.le_refl _)
          replace o_x := o_x.below st (Nat.le_refl _)
          replace hB := hB.trans (st.mono hB.size)
          clear st
          go_wp2_with fail
          refine (jSame_any _ _ _ _ _ _ _ _ _ o_x.has o_t.has).mono ?_
          rintro e v13 ⟨rfl, q⟩
          have st : Below v12.heap.size v12 v13 := q.below _
          replace o_l := o_l.below st (Nat.le_refl _)
          replace o_r := o_r.below st (Nat.le_refl _)
          replace o_t := o_t.below st (Nat.le_refl _)
          replace o_d := o_d.below st (Nat.le_refl _)
          replace o_k := o_k.below st (Nat.le_refl _)
          replace o_w := o_w.below st (Nat.le_refl _)
          replace o_x := o_x.below st (Nat.le_refl _)
          replace hB := hB.trans (st.mono hB.size)
          clear st
          clear q
          rw [same_self]
          clear o_w o_x
          go_wp2_with fail
          go_ret
          exact ⟨rfl, hB⟩
        · skip
          go_wp2_with fail
          go_ret
          exact ⟨rfl, hB⟩
    · have HG := hid (Bool.eq_false_iff.2 hg)
      have hgy : ¬ (good xs p && allPark p xs) = true := by simp [hg]
      have HD : Hid (driveCars xs p = ([], false)) := hid (by unfold driveCars; rw [if_neg hgy])
      have HT : Hid (takenOf xs p = ([], false)) := hid (by unfold takenOf; rw [if_neg hgy])
      have HF : Hid (distsOf xs p = ([], false)) := hid (by unfold distsOf; rw [if_neg hgy])
      have HTO : Hid (totalOf xs p = (0, false)) := hid (by unfold totalOf; rw [if_neg hgy])
      have HK : Hid (luckyOf xs p = ([], false)) := hid (by unfold luckyOf; rw [if_neg hgy])
      have HP : Hid (doAllPark xs p = (false, false)) := hid (by unfold doAllPark; rw [if_neg hg])
      clear hg hgy
      go_wp2_with fail
      refine (driveCars_any _ _ _ _ _ _ o_l.has).mono ?_
      rw [HD.out]
      rintro e v2 ⟨a_r, n_r, c_r, rfl, o_r, st⟩
      replace o_l := o_l.below st (Nat.le_refl _)
      replace hB := hB.trans (st.mono hB.size)
      clear st
      go_wp2_with fail
      refine (specDriveCars_any _ _ _ _ _ _ o_l.has).mono ?_
      rw [HD.out]
      rintro e v3 ⟨a_s, n_s, c_s, rfl, o_s, st⟩
      replace o_l := o_l.below st (Nat.le_refl _)
      replace o_r := o_r.below st (Nat.le_refl _)
      replace hB := hB.trans (st.mono hB.size)
      clear st
      go_wp2_with fail
      refine (jSame_any _ _ _ _ _ _ _ _ _ o_r.has o_s.has).mono ?_
      rintro e v4 ⟨rfl, q⟩
      have st : Below v3.heap.size v3 v4 := q.below _
      replace o_l := o_l.below st (Nat.le_refl _)
      replace o_r := o_r.below st (Nat.le_refl _)
      replace o_s := o_s.below st (Nat.le_refl _)
      replace hB := hB.trans (st.mono hB.size)
      clear st
      clear q
      rw [same_self]
      clear o_s
      go_wp2_with fail
      refine (takenPlaces_any _ _ _ _ _ _ o_l.has).mono ?_
      rw [HT.out]
      rintro e v5 ⟨a_t, n_t, c_t, rfl, o_t, st⟩
      replace o_l := o_l.below st (Nat.le_refl _)
      replace o_r := o_r.below st (Nat.le_refl _)
      replace hB := hB.trans (st.mono hB.size)
      clear st
      go_wp2_with fail
      refine (distancesOf_any _ _ _ _ _ _ o_l.has).mono ?_
      rw [HF.out]
      rintro e v6 ⟨a_d, n_d, c_d, rfl, o_d, st⟩
      replace o_l := o_l.below st (Nat.le_refl _)
      replace o_r := o_r.below st (Nat.le_refl _)
      replace o_t := o_t.below st (Nat.le_refl _)
      replace hB := hB.trans (st.mono hB.size)
      clear st
      go_wp2_with fail
      refine (totalDistance_any _ _ _ _ _ _ o_l.has).mono ?_
      rw [HTO.out]
      rintro e v7 ⟨rfl, st⟩
      replace o_l := o_l.below st (Nat.le_refl _)
      replace o_r := o_r.below st (Nat.le_refl _)
      replace o_t := o_t.below st (Nat.le_refl _)
      replace o_d := o_d.below st (Nat.le_refl _)
      replace hB := hB.trans (st.mono hB.size)
      clear st
      go_wp2_with fail
      refine (luckyCars_any _ _ _ _ _ _ o_l.has).mono ?_
      rw [HK.out]
      rintro e v8 ⟨a_k, n_k, c_k, rfl, o_k, st⟩
      replace o_l := o_l.below st (Nat.le_refl _)
      replace o_r := o_r.below st (Nat.le_refl _)
      replace o_t := o_t.below st (Nat.le_refl _)
      replace o_d := o_d.below st (Nat.le_refl _)
      replace hB := hB.trans (st.mono hB.size)
      clear st
      go_wp2_with fail
      refine (doAllPark_any _ _ _ _ _ _ o_l.has).mono ?_
      rw [HP.out]
      rintro e v9 ⟨rfl, st⟩
      replace o_l := o_l.below st (Nat.le_refl _)
      replace o_r := o_r.below st (Nat.le_refl _)
      replace o_t := o_t.below st (Nat.le_refl _)
      replace o_d := o_d.below st (Nat.le_refl _)
      replace o_k := o_k.below st (Nat.le_refl _)
      replace hB := hB.trans (st.mono hB.size)
      clear st
      go_wp2_with fail
      refine (areFavourites_any _ _ _ _ _ _ o_l.has).mono ?_
      rintro e _ ⟨rfl, rfl⟩
      rw [HG.out]
      by_cases h1 : (1 : Int) < (nl : Int)
      · skip
        obtain ⟨K, HMK⟩ : ∃ K, HasB v9 b m K := ⟨_, HM.out.below hB⟩
        have hn1 : ¬ (nl : Int) - 1 = 0 := by omega
        go_wp2_with fail
        refine (numberOf_any _ _ _ K _ HMK).mono ?_
        rintro e _ ⟨z, rfl, z0, z1, rfl⟩
        clear HMK
        obtain ⟨i, hi⟩ : ∃ i : Nat, z % ((nl : Int) - 1) = (i : Int) := ⟨_, (Int.toNat_of_nonneg (Int.emod_nonneg _ (by omega))).symm⟩
        have hi2 : i + 1 < nl := by have := Int.emod_lt_of_pos z (show 0 < (nl : Int) - 1 by omega); omega
        have HTS := hid ((taken_swapped (p := p) (show i + 1 < xs.length by rw [HL.out]; exact hi2)).trans HT.out)
        have HTO2 := hid ((total_swapped (p := p) (show i + 1 < xs.length by rw [HL.out]; exact hi2)).trans HTO.out)
        go_wp2_with fail
        rw [hi]
        refine (jSwapped_any _ _ _ xs i _ o_l.has hi2).mono ?_
        rintro e v10 ⟨a_w, c_w, rfl, o_w, st⟩
        replace o_l := o_l.below st (Nat.le_refl _)
        replace o_r := o_r.below st (Nat.le_refl _)
        replace o_t := o_t.below st (Nat.le_refl _)
        replace o_d := o_d.below st (Nat.le_refl _)
        replace o_k := o_k.below st (Nat.le_refl _)
        replace hB := hB.trans (st.mono hB.size)
        clear st hi z0 z1
        go_wp2_with fail
        refine (takenPlaces_any _ _ _ _ _ _ o_w.has).mono ?_
        rw [HTS.out]
        rintro e v11 ⟨a_x, n_x, c_x, rfl, o_x, st⟩
        replace o_l := o_l.below st (Nat.le_refl _)
        replace o_r := o_r.below st (Nat.le_refl _)
        replace o_t := o_t.below st (Nat.le_refl _)
        replace o_d := o_d.below st (Nat.le_refl _)
        replace o_k := o_k.below st (Nat.le_refl _)
        replace o_w := o_w.below st (Nat.le_refl _)
        replace hB := hB.trans (st.mono hB.size)
        clear st
        go_wp2_with fail
        refine (totalDistance_any _ _ _ _ _ _ o_w.has).mono ?_
        rw [HTO2.out]
        rintro e v12 ⟨rfl, st⟩
        replace o_l := o_l.below st (Nat.le_refl _)
        replace o_r := o_r.below st (Nat.le_refl _)
        replace o_t := o_t.below st (Nat.le_refl _)
        replace o_d := o_d.below st (Nat.le_refl _)
        replace o_k := o_k.below st (Nat.le_refl _)
        replace o_w := o_w.below st (Nat.le_refl _)
        replace o_x := o_x.below st (Nat.le_refl _)
        replace hB := hB.trans (st.mono hB.size)
        clear st
        go_wp2_with fail
        refine (jSame_any _ _ _ _ _ _ _ _ _ o_x.has o_t.has).mono ?_
        rintro e v13 ⟨rfl, q⟩
        have st : Below v12.heap.size v12 v13 := q.below _
        replace o_l := o_l.below st (Nat.le_refl _)
        replace o_r := o_r.below st (Nat.le_refl _)
        replace o_t := o_t.below st (Nat.le_refl _)
        replace o_d := o_d.below st (Nat.le_refl _)
        replace o_k := o_k.below st (Nat.le_refl _)
        replace o_w := o_w.below st (Nat.le_refl _)
        replace o_x := o_x.below st (Nat.le_refl _)
        replace hB := hB.trans (st.mono hB.size)
        clear st
        clear q
        rw [same_self]
        clear o_w o_x
        go_wp2_with fail
        go_ret
        exact ⟨rfl, hB⟩
      · skip
        go_wp2_with fail
        go_ret
        exact ⟨rfl, hB⟩
end Go.Proofs.Ytheihclganjhaab
