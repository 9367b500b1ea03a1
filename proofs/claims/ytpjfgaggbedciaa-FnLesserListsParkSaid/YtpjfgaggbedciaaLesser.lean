/- The law that what lies below a parking function is one, walked. -/
import Derived.Test.YtpjfgaggbedciaaNamed
import Derived.Test.YtpjfgaggbedciaaDraw3
import Derived.Test.YtpjfgaggbedciaaImplE
import Derived.Test.YtpjfgaggbedciaaMathP
import Derived.Test.YtpjfgaggbedciaaJ2
import Derived.Test.YtpjfgaggbedciaaReg
import Derived.Deep.DeepCutAuto
import Derived.StillTailTactics
namespace Go.Proofs.Ytpjfgaggbedciaa
open Go.RowKit

theorem isParking_yes {xs : List Int} (h : isParking xs = (true, true)) : isPark xs = true := by
  unfold isParking at h
  split at h <;> simp_all
theorem park_asked {xs : List Int} (h : isPark xs = true) : isParking xs = (true, true) := by
  have ha : asked xs = true := by
    obtain ⟨h1, h2, _⟩ := isPark_iff.1 h
    rw [asked_cars]
    exact carsB_iff.2 ⟨h1, fun x hx => by have := h2 x hx; omega⟩
  unfold isParking
  rw [if_pos ha, h]
theorem between_snoc {xs ys cs : List Int} {k : Nat} {x y z : Int} (hl : cs.length = k) (h : ∀ i, i < k → nth xs i ≤ nth cs i ∧ nth cs i ≤ nth ys i) (hx : nth xs k = x) (hy : nth ys k = y) (h1 : x ≤ z) (h2 : z ≤ y) :
    Hid (∀ i, i < k + 1 → nth xs i ≤ nth (cs ++ [z]) i ∧ nth (cs ++ [z]) i ≤ nth ys i) := by
  refine hid fun i hi => ?_
  by_cases e : i = k
  · subst e; rw [hx, hy, ← hl, nth_append_at]; exact ⟨h1, h2⟩
  · rw [nth_append_left (by omega)]; exact h i (by omega)

set_option maxRecDepth 100000 in
set_option maxHeartbeats 16000000 in
theorem lesser_walk (a b : Option Addr) (n m cap cap' : Nat) (w : World) (hn : n ≤ maxLen) (h : n ≤ 1048576 → HasB w a n w.heap.size) (h' : m ≤ 1048576 → HasB w b m w.heap.size) :
    Calls Try.prog 3 #[.slice a n cap, .slice b m cap'] w (Holds w) := by
  have H1 := hid h
  have H2 := hid h'
  have HN := hid hn
  clear h h' hn
  have hB : Below w.heap.size w w := Below.refl _ _
  go_enter Try.func3, Try.ntmps3
  go_wp2_with fail
  refine (big_any _ _ _ _ _ _ _ (by have := HN.out; unfold maxLen at this; omega)).mono ?_
  rintro e _ ⟨r, rfl, hr, rfl⟩
  have HR := hid hr
  clear hr
  cases r with
  | true =>
    go_wp2_with fail
    go_ret
    exact ⟨rfl, hB⟩
  | false =>
    have hnm := HR.out rfl
    clear HR
    have HA := hid (H1.out (by omega))
    have HM := hid (H2.out (by omega))
    clear H1 H2 HN
    go_wp2_with fail
    refine (drawIsBelow_any _ _ _ _ HA.out).mono ?_
    rintro e v1 ⟨a_a, n_a, c_a, xs, a_b, n_b, c_b, ys, rfl, o_a, o_b, hna, hnb, st⟩
    replace hB := hB.trans (st.mono hB.size)
    clear st
    have HLA := hid o_a.len
    have HLB := hid o_b.len
    by_cases hbel : isPark xs = true ∧ isPark ys = true ∧ xs.length = ys.length ∧ leB xs ys xs.length = true
    · skip
      obtain ⟨hx, hy, hl, hle⟩ := hbel
      have HI : Hid (isBelowOf xs ys = (true, true)) := hid (by unfold isBelowOf; rw [hx, hy, hle]; simp [hl])
      obtain rfl : n_a = n_b := by rw [← HLA.out, ← HLB.out]; exact hl
      have HLB2 : Hid (∀ i, i < n_a → nth xs i ≤ nth ys i) := hid (fun i hi => leB_iff.1 hle i (by rw [HLA.out]; exact hi))
      have HXB : Hid (∀ i, i < n_a → 0 ≤ nth xs i ∧ nth xs i ≤ 8) := hid (fun i hi => by obtain ⟨k1, k2, _⟩ := isPark_iff.1 hx; have := k2 _ (nth_mem (xs := xs) (i := i) (by rw [HLA.out]; exact hi)); omega)
      have HYB : Hid (∀ i, i < n_a → 0 ≤ nth ys i ∧ nth ys i ≤ 8) := hid (fun i hi => by obtain ⟨k1, k2, _⟩ := isPark_iff.1 hy; have := k2 _ (nth_mem (xs := ys) (i := i) (by rw [HLB.out]; exact hi)); omega)
      have HLA2 : Hid (ys.length = n_a) := hid HLB.out
      have HYP := hid hy
      clear hx hy hl hle
      go_wp2_with fail
      refine (isBelowFn_any _ _ _ _ _ _ _ _ _ o_a.has o_b.has).mono ?_
      rw [HI.out]
      rintro e v2 ⟨rfl, st⟩
      replace o_a := o_a.below st (Nat.le_refl _)
      replace o_b := o_b.below st (Nat.le_refl _)
      replace hB := hB.trans (st.mono hB.size)
      clear st
      go_wp2_with fail
      refine (specIsBelow_any _ _ _ _ _ _ _ _ _ o_a.has o_b.has).mono ?_
      rw [HI.out]
      rintro e v3 ⟨rfl, st⟩
      replace o_a := o_a.below st (Nat.le_refl _)
      replace o_b := o_b.below st (Nat.le_refl _)
      replace hB := hB.trans (st.mono hB.size)
      clear st
      go_wp2_with fail
      refine (drawMixOf_any b m cap' _ (HM.out.grow hB (Nat.le_refl _))).mono ?_
      rintro e v4 ⟨a_x, n_x, c_x, us, a_y, n_y, c_y, vs, low, rfl, o_x, o_y, hnx, hny, st⟩
      replace o_a := o_a.below st (Nat.le_refl _)
      replace o_b := o_b.below st (Nat.le_refl _)
      replace hB := hB.trans (st.mono hB.size)
      clear st
      have HLX := hid o_x.len
      have HLY := hid o_y.len
      by_cases hmix : isPark us = true ∧ isPark vs = true ∧ us.length = vs.length ∧ isPark (mixWith us vs low) = true
      · skip
        obtain ⟨hu, hv, hl, hm⟩ := hmix
        have HMX : Hid (mixOf us vs low = (mixWith us vs low, true)) := hid (by unfold mixOf; rw [hu, hv, hm]; simp [hl])
        have HU := hid hu
        have HV := hid hv
        have HLE := hid hl
        have HMP := hid hm
        clear hu hv hl hm
        go_wp2_with fail
        refine (mixOf_any _ _ _ _ _ _ _ _ _ _ o_x.has o_y.has).mono ?_
        rw [HMX.out]
        rintro e v5 ⟨a_m, n_m, c_m, rfl, o_m, st⟩
        replace o_a := o_a.below st (Nat.le_refl _)
        replace o_b := o_b.below st (Nat.le_refl _)
        replace o_x := o_x.below st (Nat.le_refl _)
        replace o_y := o_y.below st (Nat.le_refl _)
        replace hB := hB.trans (st.mono hB.size)
        clear st
        go_wp2_with fail
        refine (specMixOf_any _ _ _ _ _ _ _ _ _ _ o_x.has o_y.has).mono ?_
        rw [HMX.out]
        rintro e v6 ⟨a_w, n_w, c_w, rfl, o_w, st⟩
        replace o_a := o_a.below st (Nat.le_refl _)
        replace o_b := o_b.below st (Nat.le_refl _)
        replace o_x := o_x.below st (Nat.le_refl _)
        replace o_y := o_y.below st (Nat.le_refl _)
        replace o_m := o_m.below st (Nat.le_refl _)
        replace hB := hB.trans (st.mono hB.size)
        clear st
        go_wp2_with fail
        refine (jSame_any _ _ _ _ _ _ _ _ _ o_m.has o_w.has).mono ?_
        rintro e v7 ⟨rfl, q⟩
        have st : Below v6.heap.size v6 v7 := q.below _
        replace o_a := o_a.below st (Nat.le_refl _)
        replace o_b := o_b.below st (Nat.le_refl _)
        replace o_x := o_x.below st (Nat.le_refl _)
        replace o_y := o_y.below st (Nat.le_refl _)
        replace o_m := o_m.below st (Nat.le_refl _)
        replace o_w := o_w.below st (Nat.le_refl _)
        replace hB := hB.trans (st.mono hB.size)
        clear st
        clear q
        rw [same_self]
        clear o_w
        have HP : Hid (isParking us = (true, true)) := hid (park_asked HU.out)
        have HQ : Hid (isParking vs = (true, true)) := hid (park_asked HV.out)
        go_wp2_with fail
        refine (isParking_any _ _ _ _ _ o_x.has).mono ?_
        rw [HP.out]
        rintro e v8 ⟨rfl, st⟩
        replace o_a := o_a.below st (Nat.le_refl _)
        replace o_b := o_b.below st (Nat.le_refl _)
        replace o_x := o_x.below st (Nat.le_refl _)
        replace o_y := o_y.below st (Nat.le_refl _)
        replace o_m := o_m.below st (Nat.le_refl _)
        replace hB := hB.trans (st.mono hB.size)
        clear st
        go_wp2_with fail
        refine (isParking_any _ _ _ _ _ o_y.has).mono ?_
        rw [HQ.out]
        rintro e v9 ⟨rfl, st⟩
        replace o_a := o_a.below st (Nat.le_refl _)
        replace o_b := o_b.below st (Nat.le_refl _)
        replace o_x := o_x.below st (Nat.le_refl _)
        replace o_y := o_y.below st (Nat.le_refl _)
        replace o_m := o_m.below st (Nat.le_refl _)
        replace hB := hB.trans (st.mono hB.size)
        clear st
        have hxy : n_x = n_y := by rw [← HLX.out, ← HLY.out, HLE.out]
        have hxyb : ((n_x : Int) == (n_y : Int)) = true := by simp [hxy]
        have hlm : (mixWith us vs low).length = us.length := by rw [length_mixWith, ← HLE.out]; omega
        rcases (Bool.eq_false_or_eq_true low) with hlow | hlow
        · skip
          obtain rfl : low = true := hlow
          obtain ⟨f1, hf⟩ : ∃ f, leB us (mixWith us vs true) us.length = f := ⟨_, rfl⟩
          have HE1 : Hid (isBelowOf us (mixWith us vs true) = (f1, true)) := hid (by unfold isBelowOf; rw [HU.out, HMP.out, hf, hlm]; simp)
          have HE2 : Hid (isBelowOf (mixWith us vs true) us = (true, true)) := hid (by unfold isBelowOf; rw [HU.out, HMP.out, hlm, (mix_le HLE.out).1]; simp)
          clear hf
          clear hlm hxy
          go_wp2_with fail
          refine (isBelowFn_any _ _ _ _ _ _ _ _ _ o_x.has o_m.has).mono ?_
          rw [HE1.out]
          rintro e v10 ⟨rfl, st⟩
          replace o_a := o_a.below st (Nat.le_refl _)
          replace o_b := o_b.below st (Nat.le_refl _)
          replace o_x := o_x.below st (Nat.le_refl _)
          replace o_y := o_y.below st (Nat.le_refl _)
          replace o_m := o_m.below st (Nat.le_refl _)
          replace hB := hB.trans (st.mono hB.size)
          clear st
          go_wp2_with fail
          refine (isBelowFn_any _ _ _ _ _ _ _ _ _ o_m.has o_x.has).mono ?_
          rw [HE2.out]
          rintro e v11 ⟨rfl, st⟩
          replace o_a := o_a.below st (Nat.le_refl _)
          replace o_b := o_b.below st (Nat.le_refl _)
          replace o_x := o_x.below st (Nat.le_refl _)
          replace o_y := o_y.below st (Nat.le_refl _)
          replace o_m := o_m.below st (Nat.le_refl _)
          replace hB := hB.trans (st.mono hB.size)
          clear st
          skip
          go_wp2_with fail
          go_loopw [26, 159] (fun c i wr => ∃ (k : Nat) (a_c : Option Addr) (c_c : Nat) (cs : List Int), k ≤ n_a ∧ i = .int .i64 k ∧ c = .slice a_c k c_c ∧ Own wr v11.heap.size a_c k c_c cs ∧ Hid (∀ i, i < k → nth xs i ≤ nth cs i ∧ nth cs i ≤ nth ys i) ∧ Below v11.heap.size v11 wr) (fun _ i _ => n_a - (intOf i).toNat)
          case atStart => exact ⟨0, none, 0, [], by omega, rfl, rfl, Own.nil _ _, hid (fun i hi => by omega), Below.refl _ _⟩
          case round =>
            obtain ⟨wo, rfl⟩ : ∃ wo : World, wo = wr := ⟨_, rfl⟩
            obtain ⟨k, a_c, c_c, cs, hk, rfl, rfl, o_c, HC, st⟩ := hrel
            have hV := st
            have hsz := st.size
            replace o_a := o_a.below st (Nat.le_refl _)
            replace o_b := o_b.below st (Nat.le_refl _)
            replace hB := hB.trans (st.mono hB.size)
            clear st
            by_cases hlt : k < n_a
            · skip
              obtain ⟨b1, off1, rfl, hb1, hc1⟩ := o_a.has.2.2.2.2 (by omega)
              obtain ⟨b2, off2, rfl, hb2, hc2⟩ := o_b.has.2.2.2.2 (by omega)
              have hck := hc1 k hlt
              have hdk := hc2 k (by omega)
              have hle := HLB2.out k hlt
              obtain ⟨hx0, hx1⟩ := HXB.out k hlt
              obtain ⟨hy0, hy1⟩ := HYB.out k hlt
              obtain ⟨bs, hbs⟩ := bytes_of (HM.out.below hB)
              obtain ⟨z0, z1⟩ := numOf_bounds bs
              have hcl := o_c.len
              have HCL := hid hcl
              clear hc1 hc2 hcl
              generalize hxk : nth xs k = x at *
              generalize hyk : nth ys k = y at *
              have HXK := hid hxk
              have HYK := hid hyk
              clear hxk hyk
              obtain ⟨z, hz⟩ : ∃ z, numOf bs = z := ⟨_, rfl⟩
              rw [hz] at z0 z1
              have cq : Calls Try.prog 14 #[.slice b m cap'] wo.drew fun e w' => e = .returned (.int .i64 z) ∧ w' = wo.drew := (numberOf_val _ _ _ _ bs wo.drew (hbs.below (Quiet.below (w := wo) (w' := wo.drew) ⟨1, rfl⟩ _))).mono (fun e w' ⟨h1, h2⟩ => ⟨by rw [h1, hz], h2.symm⟩)
              have CQ := hid cq
              clear cq hz hbs
              have hki : (k : Int) < (n_a : Int) := by omega
              have hkz : (0 : Int) ≤ (k : Int) := by omega
              have e1 : IntKind.i64.wrap (z + (k : Int)) = z + (k : Int) := by rw [IntKind.wrap_i64]; omega
              have e2 : IntKind.i64.wrap (y - x) = y - x := by rw [IntKind.wrap_i64]; omega
              have e3 : IntKind.i64.wrap (y - x + 1) = y - x + 1 := by rw [IntKind.wrap_i64]; omega
              have e4 : ¬ y - x + 1 = 0 := by omega
              obtain ⟨r, hr⟩ : ∃ r, (z + (k : Int)).tmod (y - x + 1) = r := ⟨_, rfl⟩
              have hr0 : 0 ≤ r := by rw [← hr, Int.tmod_eq_emod_of_nonneg (by omega)]; exact Int.emod_nonneg _ e4
              have hr1 : r < y - x + 1 := by rw [← hr, Int.tmod_eq_emod_of_nonneg (by omega)]; exact Int.emod_lt_of_pos _ (by omega)
              have e5 : IntKind.i64.wrap (x + r) = x + r := by rw [IntKind.wrap_i64]; omega
              go_wp2_with fail
              have ent : ∀ args, (callFunc 14 args).run Try.prog wo.drew = .ok (.enter 14 args) wo.drew := by intro args; go_simp
              have ENT := hid ent
              clear ent
              go_region_law (first | (refine step_call rfl 14 _ _ rfl ENT.out #[.slice b m cap'] (by simp [Act.eval, Act.put]) CQ.out ?_; rintro e w' ⟨rfl, rfl⟩; refine ⟨_, rfl, ?_⟩) | (refine step_append_int _ rfl _ _ rfl v11.heap.size _ _ _ _ _ (by simp [Act.eval]) (by simp [Act.eval]) (own_drew o_c) (by omega) hsz ?_; intro a_d c_d wd o_d hd))
              all_goals
                go_wp2_with fail
                go_roundw
                case rel => exact ⟨k + 1, a_d, c_d, cs ++ [x + r], by omega, by go_num, rfl, o_d, between_snoc HCL.out HC.out HXK.out HYK.out (by omega) (by omega), hV.drew.trans hd⟩
                case measure => simp [intOf]; omega
            · skip
              obtain rfl : k = n_a := by omega
              have HPC : Hid (isParking cs = (true, true)) := hid (park_asked (park_below HYP.out (by rw [o_c.len, HLA2.out]) (fun i hi => by rw [o_c.len] at hi; have h1 := HC.out i hi; have h2 := (HXB.out i hi).1; omega)))
              go_wp2_with fail
              refine (isParking_any _ _ _ _ _ o_c.has).mono ?_
              rw [HPC.out]
              rintro e v12 ⟨rfl, st⟩
              replace o_a := o_a.below st (Nat.le_refl _)
              replace o_b := o_b.below st (Nat.le_refl _)
              replace hB := hB.trans (st.mono hB.size)
              replace hV := hV.trans (st.mono hV.size)
              clear st
              go_wp2_with fail
              go_ret
              exact ⟨rfl, hB⟩
        · skip
          obtain rfl : low = false := hlow
          obtain ⟨f1, hf⟩ : ∃ f, leB (mixWith us vs false) us us.length = f := ⟨_, rfl⟩
          have HE1 : Hid (isBelowOf us (mixWith us vs false) = (true, true)) := hid (by unfold isBelowOf; rw [HU.out, HMP.out, hlm, (mix_le HLE.out).2]; simp)
          have HE2 : Hid (isBelowOf (mixWith us vs false) us = (f1, true)) := hid (by unfold isBelowOf; rw [HU.out, HMP.out, hlm, hf]; simp)
          clear hf
          clear hlm hxy
          go_wp2_with fail
          refine (isBelowFn_any _ _ _ _ _ _ _ _ _ o_x.has o_m.has).mono ?_
          rw [HE1.out]
          rintro e v10 ⟨rfl, st⟩
          replace o_a := o_a.below st (Nat.le_refl _)
          replace o_b := o_b.below st (Nat.le_refl _)
          replace o_x := o_x.below st (Nat.le_refl _)
          replace o_y := o_y.below st (Nat.le_refl _)
          replace o_m := o_m.below st (Nat.le_refl _)
          replace hB := hB.trans (st.mono hB.size)
          clear st
          go_wp2_with fail
          refine (isBelowFn_any _ _ _ _ _ _ _ _ _ o_m.has o_x.has).mono ?_
          rw [HE2.out]
          rintro e v11 ⟨rfl, st⟩
          replace o_a := o_a.below st (Nat.le_refl _)
          replace o_b := o_b.below st (Nat.le_refl _)
          replace o_x := o_x.below st (Nat.le_refl _)
          replace o_y := o_y.below st (Nat.le_refl _)
          replace o_m := o_m.below st (Nat.le_refl _)
          replace hB := hB.trans (st.mono hB.size)
          clear st
          skip
          go_wp2_with fail
          go_loopw [26, 159] (fun c i wr => ∃ (k : Nat) (a_c : Option Addr) (c_c : Nat) (cs : List Int), k ≤ n_a ∧ i = .int .i64 k ∧ c = .slice a_c k c_c ∧ Own wr v11.heap.size a_c k c_c cs ∧ Hid (∀ i, i < k → nth xs i ≤ nth cs i ∧ nth cs i ≤ nth ys i) ∧ Below v11.heap.size v11 wr) (fun _ i _ => n_a - (intOf i).toNat)
          case atStart => exact ⟨0, none, 0, [], by omega, rfl, rfl, Own.nil _ _, hid (fun i hi => by omega), Below.refl _ _⟩
          case round =>
            obtain ⟨wo, rfl⟩ : ∃ wo : World, wo = wr := ⟨_, rfl⟩
            obtain ⟨k, a_c, c_c, cs, hk, rfl, rfl, o_c, HC, st⟩ := hrel
            have hV := st
            have hsz := st.size
            replace o_a := o_a.below st (Nat.le_refl _)
            replace o_b := o_b.below st (Nat.le_refl _)
            replace hB := hB.trans (st.mono hB.size)
            clear st
            by_cases hlt : k < n_a
            · skip
              obtain ⟨b1, off1, rfl, hb1, hc1⟩ := o_a.has.2.2.2.2 (by omega)
              obtain ⟨b2, off2, rfl, hb2, hc2⟩ := o_b.has.2.2.2.2 (by omega)
              have hck := hc1 k hlt
              have hdk := hc2 k (by omega)
              have hle := HLB2.out k hlt
              obtain ⟨hx0, hx1⟩ := HXB.out k hlt
              obtain ⟨hy0, hy1⟩ := HYB.out k hlt
              obtain ⟨bs, hbs⟩ := bytes_of (HM.out.below hB)
              obtain ⟨z0, z1⟩ := numOf_bounds bs
              have hcl := o_c.len
              have HCL := hid hcl
              clear hc1 hc2 hcl
              generalize hxk : nth xs k = x at *
              generalize hyk : nth ys k = y at *
              have HXK := hid hxk
              have HYK := hid hyk
              clear hxk hyk
              obtain ⟨z, hz⟩ : ∃ z, numOf bs = z := ⟨_, rfl⟩
              rw [hz] at z0 z1
              have cq : Calls Try.prog 14 #[.slice b m cap'] wo.drew fun e w' => e = .returned (.int .i64 z) ∧ w' = wo.drew := (numberOf_val _ _ _ _ bs wo.drew (hbs.below (Quiet.below (w := wo) (w' := wo.drew) ⟨1, rfl⟩ _))).mono (fun e w' ⟨h1, h2⟩ => ⟨by rw [h1, hz], h2.symm⟩)
              have CQ := hid cq
              clear cq hz hbs
              have hki : (k : Int) < (n_a : Int) := by omega
              have hkz : (0 : Int) ≤ (k : Int) := by omega
              have e1 : IntKind.i64.wrap (z + (k : Int)) = z + (k : Int) := by rw [IntKind.wrap_i64]; omega
              have e2 : IntKind.i64.wrap (y - x) = y - x := by rw [IntKind.wrap_i64]; omega
              have e3 : IntKind.i64.wrap (y - x + 1) = y - x + 1 := by rw [IntKind.wrap_i64]; omega
              have e4 : ¬ y - x + 1 = 0 := by omega
              obtain ⟨r, hr⟩ : ∃ r, (z + (k : Int)).tmod (y - x + 1) = r := ⟨_, rfl⟩
              have hr0 : 0 ≤ r := by rw [← hr, Int.tmod_eq_emod_of_nonneg (by omega)]; exact Int.emod_nonneg _ e4
              have hr1 : r < y - x + 1 := by rw [← hr, Int.tmod_eq_emod_of_nonneg (by omega)]; exact Int.emod_lt_of_pos _ (by omega)
              have e5 : IntKind.i64.wrap (x + r) = x + r := by rw [IntKind.wrap_i64]; omega
              go_wp2_with fail
              have ent : ∀ args, (callFunc 14 args).run Try.prog wo.drew = .ok (.enter 14 args) wo.drew := by intro args; go_simp
              have ENT := hid ent
              clear ent
              go_region_law (first | (refine step_call rfl 14 _ _ rfl ENT.out #[.slice b m cap'] (by simp [Act.eval, Act.put]) CQ.out ?_; rintro e w' ⟨rfl, rfl⟩; refine ⟨_, rfl, ?_⟩) | (refine step_append_int _ rfl _ _ rfl v11.heap.size _ _ _ _ _ (by simp [Act.eval]) (by simp [Act.eval]) (own_drew o_c) (by omega) hsz ?_; intro a_d c_d wd o_d hd))
              all_goals
                go_wp2_with fail
                go_roundw
                case rel => exact ⟨k + 1, a_d, c_d, cs ++ [x + r], by omega, by go_num, rfl, o_d, between_snoc HCL.out HC.out HXK.out HYK.out (by omega) (by omega), hV.drew.trans hd⟩
                case measure => simp [intOf]; omega
            · skip
              obtain rfl : k = n_a := by omega
              have HPC : Hid (isParking cs = (true, true)) := hid (park_asked (park_below HYP.out (by rw [o_c.len, HLA2.out]) (fun i hi => by rw [o_c.len] at hi; have h1 := HC.out i hi; have h2 := (HXB.out i hi).1; omega)))
              go_wp2_with fail
              refine (isParking_any _ _ _ _ _ o_c.has).mono ?_
              rw [HPC.out]
              rintro e v12 ⟨rfl, st⟩
              replace o_a := o_a.below st (Nat.le_refl _)
              replace o_b := o_b.below st (Nat.le_refl _)
              replace hB := hB.trans (st.mono hB.size)
              replace hV := hV.trans (st.mono hV.size)
              clear st
              go_wp2_with fail
              go_ret
              exact ⟨rfl, hB⟩
      · skip
        have HMX : Hid (mixOf us vs low = ([], false)) := hid (by unfold mixOf; rw [if_neg]; simp only [Bool.and_eq_true, decide_eq_true_eq]; exact fun h => hmix ⟨h.1.1.1, h.1.1.2, h.1.2, h.2⟩)
        have HNO : Hid (isParking us = (true, true) → isParking vs = (true, true) → us.length = vs.length → low = true → False) := hid (fun h1 h2 h3 h4 => hmix (by subst h4; exact ⟨isParking_yes h1, isParking_yes h2, h3, mix_low (isParking_yes h1) (isParking_yes h2) h3⟩))
        clear hmix
        go_wp2_with fail
        refine (mixOf_any _ _ _ _ _ _ _ _ _ _ o_x.has o_y.has).mono ?_
        rw [HMX.out]
        rintro e v5 ⟨a_m, n_m, c_m, rfl, o_m, st⟩
        replace o_a := o_a.below st (Nat.le_refl _)
        replace o_b := o_b.below st (Nat.le_refl _)
        replace o_x := o_x.below st (Nat.le_refl _)
        replace o_y := o_y.below st (Nat.le_refl _)
        replace hB := hB.trans (st.mono hB.size)
        clear st
        go_wp2_with fail
        refine (specMixOf_any _ _ _ _ _ _ _ _ _ _ o_x.has o_y.has).mono ?_
        rw [HMX.out]
        rintro e v6 ⟨a_w, n_w, c_w, rfl, o_w, st⟩
        replace o_a := o_a.below st (Nat.le_refl _)
        replace o_b := o_b.below st (Nat.le_refl _)
        replace o_x := o_x.below st (Nat.le_refl _)
        replace o_y := o_y.below st (Nat.le_refl _)
        replace o_m := o_m.below st (Nat.le_refl _)
        replace hB := hB.trans (st.mono hB.size)
        clear st
        go_wp2_with fail
        refine (jSame_any _ _ _ _ _ _ _ _ _ o_m.has o_w.has).mono ?_
        rintro e v7 ⟨rfl, q⟩
        have st : Below v6.heap.size v6 v7 := q.below _
        replace o_a := o_a.below st (Nat.le_refl _)
        replace o_b := o_b.below st (Nat.le_refl _)
        replace o_x := o_x.below st (Nat.le_refl _)
        replace o_y := o_y.below st (Nat.le_refl _)
        replace o_m := o_m.below st (Nat.le_refl _)
        replace o_w := o_w.below st (Nat.le_refl _)
        replace hB := hB.trans (st.mono hB.size)
        clear st
        clear q
        rw [same_self]
        clear o_w
        obtain ⟨⟨p1, a1⟩, hp⟩ : ∃ r, isParking us = r := ⟨_, rfl⟩
        obtain ⟨⟨p2, a2⟩, hq⟩ : ∃ r, isParking vs = r := ⟨_, rfl⟩
        have HP := hid hp
        have HQ := hid hq
        clear hp hq
        go_wp2_with fail
        refine (isParking_any _ _ _ _ _ o_x.has).mono ?_
        rw [HP.out]
        rintro e v8 ⟨rfl, st⟩
        replace o_a := o_a.below st (Nat.le_refl _)
        replace o_b := o_b.below st (Nat.le_refl _)
        replace o_x := o_x.below st (Nat.le_refl _)
        replace o_y := o_y.below st (Nat.le_refl _)
        replace o_m := o_m.below st (Nat.le_refl _)
        replace hB := hB.trans (st.mono hB.size)
        clear st
        go_wp2_with fail
        refine (isParking_any _ _ _ _ _ o_y.has).mono ?_
        rw [HQ.out]
        rintro e v9 ⟨rfl, st⟩
        replace o_a := o_a.below st (Nat.le_refl _)
        replace o_b := o_b.below st (Nat.le_refl _)
        replace o_x := o_x.below st (Nat.le_refl _)
        replace o_y := o_y.below st (Nat.le_refl _)
        replace o_m := o_m.below st (Nat.le_refl _)
        replace hB := hB.trans (st.mono hB.size)
        clear st
        go_upto_region 15 with fail
        go_cut [121] (fun c wx => c = .bool false ∧ wx = v9)
        case first =>
          rcases (Bool.eq_false_or_eq_true a1) with ha1 | ha1
          · skip
            obtain rfl : a1 = true := ha1
            rcases (Bool.eq_false_or_eq_true a2) with ha2 | ha2
            · skip
              obtain rfl : a2 = true := ha2
              rcases (Bool.eq_false_or_eq_true p1) with hp1 | hp1
              · skip
                obtain rfl : p1 = true := hp1
                rcases (Bool.eq_false_or_eq_true p2) with hp2 | hp2
                · skip
                  obtain rfl : p2 = true := hp2
                  by_cases hxy : n_x = n_y
                  · skip
                    have hxyb : ((n_x : Int) == (n_y : Int)) = true := by simp [hxy]
                    rcases (Bool.eq_false_or_eq_true low) with hlow | hlow
                    · skip
                      obtain rfl : low = true := hlow
                      exact (HNO.out HP.out HQ.out (by rw [HLX.out, HLY.out]; exact hxy) rfl).elim
                    · skip
                      obtain rfl : low = false := hlow
                      go_wp2_with fail
                      go_meet
                      case rel => exact ⟨rfl, rfl⟩
                  · skip
                    have hxyb : ((n_x : Int) == (n_y : Int)) = false := by simp; omega
                    go_wp2_with fail
                    go_meet
                    case rel => exact ⟨rfl, rfl⟩
                · skip
                  obtain rfl : p2 = false := hp2
                  go_wp2_with fail
                  go_meet
                  case rel => exact ⟨rfl, rfl⟩
              · skip
                obtain rfl : p1 = false := hp1
                go_wp2_with fail
                go_meet
                case rel => exact ⟨rfl, rfl⟩
            · skip
              obtain rfl : a2 = false := ha2
              go_wp2_with fail
              go_meet
              case rel => exact ⟨rfl, rfl⟩
          · skip
            obtain rfl : a1 = false := ha1
            go_wp2_with fail
            go_meet
            case rel => exact ⟨rfl, rfl⟩
        case rest =>
          obtain ⟨rfl, hw⟩ := hcut
          obtain rfl := hw.symm
          skip
          go_wp2_with fail
          go_loopw [26, 159] (fun c i wr => ∃ (k : Nat) (a_c : Option Addr) (c_c : Nat) (cs : List Int), k ≤ n_a ∧ i = .int .i64 k ∧ c = .slice a_c k c_c ∧ Own wr v9.heap.size a_c k c_c cs ∧ Hid (∀ i, i < k → nth xs i ≤ nth cs i ∧ nth cs i ≤ nth ys i) ∧ Below v9.heap.size v9 wr) (fun _ i _ => n_a - (intOf i).toNat)
          case atStart => exact ⟨0, none, 0, [], by omega, rfl, rfl, Own.nil _ _, hid (fun i hi => by omega), Below.refl _ _⟩
          case round =>
            obtain ⟨wo, rfl⟩ : ∃ wo : World, wo = wr := ⟨_, rfl⟩
            obtain ⟨k, a_c, c_c, cs, hk, rfl, rfl, o_c, HC, st⟩ := hrel
            have hV := st
            have hsz := st.size
            replace o_a := o_a.below st (Nat.le_refl _)
            replace o_b := o_b.below st (Nat.le_refl _)
            replace hB := hB.trans (st.mono hB.size)
            clear st
            by_cases hlt : k < n_a
            · skip
              obtain ⟨b1, off1, rfl, hb1, hc1⟩ := o_a.has.2.2.2.2 (by omega)
              obtain ⟨b2, off2, rfl, hb2, hc2⟩ := o_b.has.2.2.2.2 (by omega)
              have hck := hc1 k hlt
              have hdk := hc2 k (by omega)
              have hle := HLB2.out k hlt
              obtain ⟨hx0, hx1⟩ := HXB.out k hlt
              obtain ⟨hy0, hy1⟩ := HYB.out k hlt
              obtain ⟨bs, hbs⟩ := bytes_of (HM.out.below hB)
              obtain ⟨z0, z1⟩ := numOf_bounds bs
              have hcl := o_c.len
              have HCL := hid hcl
              clear hc1 hc2 hcl
              generalize hxk : nth xs k = x at *
              generalize hyk : nth ys k = y at *
              have HXK := hid hxk
              have HYK := hid hyk
              clear hxk hyk
              obtain ⟨z, hz⟩ : ∃ z, numOf bs = z := ⟨_, rfl⟩
              rw [hz] at z0 z1
              have cq : Calls Try.prog 14 #[.slice b m cap'] wo.drew fun e w' => e = .returned (.int .i64 z) ∧ w' = wo.drew := (numberOf_val _ _ _ _ bs wo.drew (hbs.below (Quiet.below (w := wo) (w' := wo.drew) ⟨1, rfl⟩ _))).mono (fun e w' ⟨h1, h2⟩ => ⟨by rw [h1, hz], h2.symm⟩)
              have CQ := hid cq
              clear cq hz hbs
              have hki : (k : Int) < (n_a : Int) := by omega
              have hkz : (0 : Int) ≤ (k : Int) := by omega
              have e1 : IntKind.i64.wrap (z + (k : Int)) = z + (k : Int) := by rw [IntKind.wrap_i64]; omega
              have e2 : IntKind.i64.wrap (y - x) = y - x := by rw [IntKind.wrap_i64]; omega
              have e3 : IntKind.i64.wrap (y - x + 1) = y - x + 1 := by rw [IntKind.wrap_i64]; omega
              have e4 : ¬ y - x + 1 = 0 := by omega
              obtain ⟨r, hr⟩ : ∃ r, (z + (k : Int)).tmod (y - x + 1) = r := ⟨_, rfl⟩
              have hr0 : 0 ≤ r := by rw [← hr, Int.tmod_eq_emod_of_nonneg (by omega)]; exact Int.emod_nonneg _ e4
              have hr1 : r < y - x + 1 := by rw [← hr, Int.tmod_eq_emod_of_nonneg (by omega)]; exact Int.emod_lt_of_pos _ (by omega)
              have e5 : IntKind.i64.wrap (x + r) = x + r := by rw [IntKind.wrap_i64]; omega
              go_wp2_with fail
              have ent : ∀ args, (callFunc 14 args).run Try.prog wo.drew = .ok (.enter 14 args) wo.drew := by intro args; go_simp
              have ENT := hid ent
              clear ent
              go_region_law (first | (refine step_call rfl 14 _ _ rfl ENT.out #[.slice b m cap'] (by simp [Act.eval, Act.put]) CQ.out ?_; rintro e w' ⟨rfl, rfl⟩; refine ⟨_, rfl, ?_⟩) | (refine step_append_int _ rfl _ _ rfl v9.heap.size _ _ _ _ _ (by simp [Act.eval]) (by simp [Act.eval]) (own_drew o_c) (by omega) hsz ?_; intro a_d c_d wd o_d hd))
              all_goals
                go_wp2_with fail
                go_roundw
                case rel => exact ⟨k + 1, a_d, c_d, cs ++ [x + r], by omega, by go_num, rfl, o_d, between_snoc HCL.out HC.out HXK.out HYK.out (by omega) (by omega), hV.drew.trans hd⟩
                case measure => simp [intOf]; omega
            · skip
              obtain rfl : k = n_a := by omega
              have HPC : Hid (isParking cs = (true, true)) := hid (park_asked (park_below HYP.out (by rw [o_c.len, HLA2.out]) (fun i hi => by rw [o_c.len] at hi; have h1 := HC.out i hi; have h2 := (HXB.out i hi).1; omega)))
              go_wp2_with fail
              refine (isParking_any _ _ _ _ _ o_c.has).mono ?_
              rw [HPC.out]
              rintro e v10 ⟨rfl, st⟩
              replace o_a := o_a.below st (Nat.le_refl _)
              replace o_b := o_b.below st (Nat.le_refl _)
              replace hB := hB.trans (st.mono hB.size)
              replace hV := hV.trans (st.mono hV.size)
              clear st
              go_wp2_with fail
              go_ret
              exact ⟨rfl, hB⟩
    · skip
      obtain ⟨r, hr⟩ : ∃ r, isBelowOf xs ys = r := ⟨_, rfl⟩
      by_cases hxy : isPark xs = true ∧ isPark ys = true
      · skip
        have HI : Hid (isBelowOf xs ys = (false, true)) := hid (by unfold isBelowOf; rw [if_pos (by rw [hxy.1, hxy.2]; rfl)]; simp only [Prod.mk.injEq, and_true, Bool.and_eq_false_iff, decide_eq_false_iff_not]; by_cases hl : xs.length = ys.length; exact .inr (Bool.eq_false_iff.2 fun hle => hbel ⟨hxy.1, hxy.2, hl, hle⟩); exact .inl hl)
        clear hbel hxy hr
        go_wp2_with fail
        refine (isBelowFn_any _ _ _ _ _ _ _ _ _ o_a.has o_b.has).mono ?_
        rw [HI.out]
        rintro e v2 ⟨rfl, st⟩
        replace o_a := o_a.below st (Nat.le_refl _)
        replace o_b := o_b.below st (Nat.le_refl _)
        replace hB := hB.trans (st.mono hB.size)
        clear st
        go_wp2_with fail
        refine (specIsBelow_any _ _ _ _ _ _ _ _ _ o_a.has o_b.has).mono ?_
        rw [HI.out]
        rintro e v3 ⟨rfl, st⟩
        replace o_a := o_a.below st (Nat.le_refl _)
        replace o_b := o_b.below st (Nat.le_refl _)
        replace hB := hB.trans (st.mono hB.size)
        clear st
        clear o_a o_b
        go_wp2_with fail
        refine (drawMixOf_any b m cap' _ (HM.out.grow hB (Nat.le_refl _))).mono ?_
        rintro e v4 ⟨a_x, n_x, c_x, us, a_y, n_y, c_y, vs, low, rfl, o_x, o_y, hnx, hny, st⟩
        replace hB := hB.trans (st.mono hB.size)
        clear st
        have HLX := hid o_x.len
        have HLY := hid o_y.len
        by_cases hmix : isPark us = true ∧ isPark vs = true ∧ us.length = vs.length ∧ isPark (mixWith us vs low) = true
        · skip
          obtain ⟨hu, hv, hl, hm⟩ := hmix
          have HMX : Hid (mixOf us vs low = (mixWith us vs low, true)) := hid (by unfold mixOf; rw [hu, hv, hm]; simp [hl])
          have HU := hid hu
          have HV := hid hv
          have HLE := hid hl
          have HMP := hid hm
          clear hu hv hl hm
          go_wp2_with fail
          refine (mixOf_any _ _ _ _ _ _ _ _ _ _ o_x.has o_y.has).mono ?_
          rw [HMX.out]
          rintro e v5 ⟨a_m, n_m, c_m, rfl, o_m, st⟩
          replace o_x := o_x.below st (Nat.le_refl _)
          replace o_y := o_y.below st (Nat.le_refl _)
          replace hB := hB.trans (st.mono hB.size)
          clear st
          go_wp2_with fail
          refine (specMixOf_any _ _ _ _ _ _ _ _ _ _ o_x.has o_y.has).mono ?_
          rw [HMX.out]
          rintro e v6 ⟨a_w, n_w, c_w, rfl, o_w, st⟩
          replace o_x := o_x.below st (Nat.le_refl _)
          replace o_y := o_y.below st (Nat.le_refl _)
          replace o_m := o_m.below st (Nat.le_refl _)
          replace hB := hB.trans (st.mono hB.size)
          clear st
          go_wp2_with fail
          refine (jSame_any _ _ _ _ _ _ _ _ _ o_m.has o_w.has).mono ?_
          rintro e v7 ⟨rfl, q⟩
          have st : Below v6.heap.size v6 v7 := q.below _
          replace o_x := o_x.below st (Nat.le_refl _)
          replace o_y := o_y.below st (Nat.le_refl _)
          replace o_m := o_m.below st (Nat.le_refl _)
          replace o_w := o_w.below st (Nat.le_refl _)
          replace hB := hB.trans (st.mono hB.size)
          clear st
          clear q
          rw [same_self]
          clear o_w
          have HP : Hid (isParking us = (true, true)) := hid (park_asked HU.out)
          have HQ : Hid (isParking vs = (true, true)) := hid (park_asked HV.out)
          go_wp2_with fail
          refine (isParking_any _ _ _ _ _ o_x.has).mono ?_
          rw [HP.out]
          rintro e v8 ⟨rfl, st⟩
          replace o_x := o_x.below st (Nat.le_refl _)
          replace o_y := o_y.below st (Nat.le_refl _)
          replace o_m := o_m.below st (Nat.le_refl _)
          replace hB := hB.trans (st.mono hB.size)
          clear st
          go_wp2_with fail
          refine (isParking_any _ _ _ _ _ o_y.has).mono ?_
          rw [HQ.out]
          rintro e v9 ⟨rfl, st⟩
          replace o_x := o_x.below st (Nat.le_refl _)
          replace o_y := o_y.below st (Nat.le_refl _)
          replace o_m := o_m.below st (Nat.le_refl _)
          replace hB := hB.trans (st.mono hB.size)
          clear st
          have hxy : n_x = n_y := by rw [← HLX.out, ← HLY.out, HLE.out]
          have hxyb : ((n_x : Int) == (n_y : Int)) = true := by simp [hxy]
          have hlm : (mixWith us vs low).length = us.length := by rw [length_mixWith, ← HLE.out]; omega
          rcases (Bool.eq_false_or_eq_true low) with hlow | hlow
          · skip
            obtain rfl : low = true := hlow
            obtain ⟨f1, hf⟩ : ∃ f, leB us (mixWith us vs true) us.length = f := ⟨_, rfl⟩
            have HE1 : Hid (isBelowOf us (mixWith us vs true) = (f1, true)) := hid (by unfold isBelowOf; rw [HU.out, HMP.out, hf, hlm]; simp)
            have HE2 : Hid (isBelowOf (mixWith us vs true) us = (true, true)) := hid (by unfold isBelowOf; rw [HU.out, HMP.out, hlm, (mix_le HLE.out).1]; simp)
            clear hf
            clear hlm hxy
            go_wp2_with fail
            refine (isBelowFn_any _ _ _ _ _ _ _ _ _ o_x.has o_m.has).mono ?_
            rw [HE1.out]
            rintro e v10 ⟨rfl, st⟩
            replace o_x := o_x.below st (Nat.le_refl _)
            replace o_y := o_y.below st (Nat.le_refl _)
            replace o_m := o_m.below st (Nat.le_refl _)
            replace hB := hB.trans (st.mono hB.size)
            clear st
            go_wp2_with fail
            refine (isBelowFn_any _ _ _ _ _ _ _ _ _ o_m.has o_x.has).mono ?_
            rw [HE2.out]
            rintro e v11 ⟨rfl, st⟩
            replace o_x := o_x.below st (Nat.le_refl _)
            replace o_y := o_y.below st (Nat.le_refl _)
            replace o_m := o_m.below st (Nat.le_refl _)
            replace hB := hB.trans (st.mono hB.size)
            clear st
            go_wp2_with fail
            go_ret
            exact ⟨rfl, hB⟩
          · skip
            obtain rfl : low = false := hlow
            obtain ⟨f1, hf⟩ : ∃ f, leB (mixWith us vs false) us us.length = f := ⟨_, rfl⟩
            have HE1 : Hid (isBelowOf us (mixWith us vs false) = (true, true)) := hid (by unfold isBelowOf; rw [HU.out, HMP.out, hlm, (mix_le HLE.out).2]; simp)
            have HE2 : Hid (isBelowOf (mixWith us vs false) us = (f1, true)) := hid (by unfold isBelowOf; rw [HU.out, HMP.out, hlm, hf]; simp)
            clear hf
            clear hlm hxy
            go_wp2_with fail
            refine (isBelowFn_any _ _ _ _ _ _ _ _ _ o_x.has o_m.has).mono ?_
            rw [HE1.out]
            rintro e v10 ⟨rfl, st⟩
            replace o_x := o_x.below st (Nat.le_refl _)
            replace o_y := o_y.below st (Nat.le_refl _)
            replace o_m := o_m.below st (Nat.le_refl _)
            replace hB := hB.trans (st.mono hB.size)
            clear st
            go_wp2_with fail
            refine (isBelowFn_any _ _ _ _ _ _ _ _ _ o_m.has o_x.has).mono ?_
            rw [HE2.out]
            rintro e v11 ⟨rfl, st⟩
            replace o_x := o_x.below st (Nat.le_refl _)
            replace o_y := o_y.below st (Nat.le_refl _)
            replace o_m := o_m.below st (Nat.le_refl _)
            replace hB := hB.trans (st.mono hB.size)
            clear st
            go_wp2_with fail
            go_ret
            exact ⟨rfl, hB⟩
        · skip
          have HMX : Hid (mixOf us vs low = ([], false)) := hid (by unfold mixOf; rw [if_neg]; simp only [Bool.and_eq_true, decide_eq_true_eq]; exact fun h => hmix ⟨h.1.1.1, h.1.1.2, h.1.2, h.2⟩)
          have HNO : Hid (isParking us = (true, true) → isParking vs = (true, true) → us.length = vs.length → low = true → False) := hid (fun h1 h2 h3 h4 => hmix (by subst h4; exact ⟨isParking_yes h1, isParking_yes h2, h3, mix_low (isParking_yes h1) (isParking_yes h2) h3⟩))
          clear hmix
          go_wp2_with fail
          refine (mixOf_any _ _ _ _ _ _ _ _ _ _ o_x.has o_y.has).mono ?_
          rw [HMX.out]
          rintro e v5 ⟨a_m, n_m, c_m, rfl, o_m, st⟩
          replace o_x := o_x.below st (Nat.le_refl _)
          replace o_y := o_y.below st (Nat.le_refl _)
          replace hB := hB.trans (st.mono hB.size)
          clear st
          go_wp2_with fail
          refine (specMixOf_any _ _ _ _ _ _ _ _ _ _ o_x.has o_y.has).mono ?_
          rw [HMX.out]
          rintro e v6 ⟨a_w, n_w, c_w, rfl, o_w, st⟩
          replace o_x := o_x.below st (Nat.le_refl _)
          replace o_y := o_y.below st (Nat.le_refl _)
          replace o_m := o_m.below st (Nat.le_refl _)
          replace hB := hB.trans (st.mono hB.size)
          clear st
          go_wp2_with fail
          refine (jSame_any _ _ _ _ _ _ _ _ _ o_m.has o_w.has).mono ?_
          rintro e v7 ⟨rfl, q⟩
          have st : Below v6.heap.size v6 v7 := q.below _
          replace o_x := o_x.below st (Nat.le_refl _)
          replace o_y := o_y.below st (Nat.le_refl _)
          replace o_m := o_m.below st (Nat.le_refl _)
          replace o_w := o_w.below st (Nat.le_refl _)
          replace hB := hB.trans (st.mono hB.size)
          clear st
          clear q
          rw [same_self]
          clear o_w
          obtain ⟨⟨p1, a1⟩, hp⟩ : ∃ r, isParking us = r := ⟨_, rfl⟩
          obtain ⟨⟨p2, a2⟩, hq⟩ : ∃ r, isParking vs = r := ⟨_, rfl⟩
          have HP := hid hp
          have HQ := hid hq
          clear hp hq
          go_wp2_with fail
          refine (isParking_any _ _ _ _ _ o_x.has).mono ?_
          rw [HP.out]
          rintro e v8 ⟨rfl, st⟩
          replace o_x := o_x.below st (Nat.le_refl _)
          replace o_y := o_y.below st (Nat.le_refl _)
          replace o_m := o_m.below st (Nat.le_refl _)
          replace hB := hB.trans (st.mono hB.size)
          clear st
          go_wp2_with fail
          refine (isParking_any _ _ _ _ _ o_y.has).mono ?_
          rw [HQ.out]
          rintro e v9 ⟨rfl, st⟩
          replace o_x := o_x.below st (Nat.le_refl _)
          replace o_y := o_y.below st (Nat.le_refl _)
          replace o_m := o_m.below st (Nat.le_refl _)
          replace hB := hB.trans (st.mono hB.size)
          clear st
          go_upto_region 15 with fail
          go_cut [121] (fun c wx => c = .bool false ∧ wx = v9)
          case first =>
            rcases (Bool.eq_false_or_eq_true a1) with ha1 | ha1
            · skip
              obtain rfl : a1 = true := ha1
              rcases (Bool.eq_false_or_eq_true a2) with ha2 | ha2
              · skip
                obtain rfl : a2 = true := ha2
                rcases (Bool.eq_false_or_eq_true p1) with hp1 | hp1
                · skip
                  obtain rfl : p1 = true := hp1
                  rcases (Bool.eq_false_or_eq_true p2) with hp2 | hp2
                  · skip
                    obtain rfl : p2 = true := hp2
                    by_cases hxy : n_x = n_y
                    · skip
                      have hxyb : ((n_x : Int) == (n_y : Int)) = true := by simp [hxy]
                      rcases (Bool.eq_false_or_eq_true low) with hlow | hlow
                      · skip
                        obtain rfl : low = true := hlow
                        exact (HNO.out HP.out HQ.out (by rw [HLX.out, HLY.out]; exact hxy) rfl).elim
                      · skip
                        obtain rfl : low = false := hlow
                        go_wp2_with fail
                        go_meet
                        case rel => exact ⟨rfl, rfl⟩
                    · skip
                      have hxyb : ((n_x : Int) == (n_y : Int)) = false := by simp; omega
                      go_wp2_with fail
                      go_meet
                      case rel => exact ⟨rfl, rfl⟩
                  · skip
                    obtain rfl : p2 = false := hp2
                    go_wp2_with fail
                    go_meet
                    case rel => exact ⟨rfl, rfl⟩
                · skip
                  obtain rfl : p1 = false := hp1
                  go_wp2_with fail
                  go_meet
                  case rel => exact ⟨rfl, rfl⟩
              · skip
                obtain rfl : a2 = false := ha2
                go_wp2_with fail
                go_meet
                case rel => exact ⟨rfl, rfl⟩
            · skip
              obtain rfl : a1 = false := ha1
              go_wp2_with fail
              go_meet
              case rel => exact ⟨rfl, rfl⟩
          case rest =>
            obtain ⟨rfl, hw⟩ := hcut
            obtain rfl := hw.symm
            go_wp2_with fail
            go_ret
            exact ⟨rfl, hB⟩
      · skip
        have HI : Hid (isBelowOf xs ys = (false, false)) := hid (by unfold isBelowOf; rw [if_neg (by simpa using hxy)])
        clear hbel hxy hr
        go_wp2_with fail
        refine (isBelowFn_any _ _ _ _ _ _ _ _ _ o_a.has o_b.has).mono ?_
        rw [HI.out]
        rintro e v2 ⟨rfl, st⟩
        replace o_a := o_a.below st (Nat.le_refl _)
        replace o_b := o_b.below st (Nat.le_refl _)
        replace hB := hB.trans (st.mono hB.size)
        clear st
        go_wp2_with fail
        refine (specIsBelow_any _ _ _ _ _ _ _ _ _ o_a.has o_b.has).mono ?_
        rw [HI.out]
        rintro e v3 ⟨rfl, st⟩
        replace o_a := o_a.below st (Nat.le_refl _)
        replace o_b := o_b.below st (Nat.le_refl _)
        replace hB := hB.trans (st.mono hB.size)
        clear st
        clear o_a o_b
        go_wp2_with fail
        refine (drawMixOf_any b m cap' _ (HM.out.grow hB (Nat.le_refl _))).mono ?_
        rintro e v4 ⟨a_x, n_x, c_x, us, a_y, n_y, c_y, vs, low, rfl, o_x, o_y, hnx, hny, st⟩
        replace hB := hB.trans (st.mono hB.size)
        clear st
        have HLX := hid o_x.len
        have HLY := hid o_y.len
        by_cases hmix : isPark us = true ∧ isPark vs = true ∧ us.length = vs.length ∧ isPark (mixWith us vs low) = true
        · skip
          obtain ⟨hu, hv, hl, hm⟩ := hmix
          have HMX : Hid (mixOf us vs low = (mixWith us vs low, true)) := hid (by unfold mixOf; rw [hu, hv, hm]; simp [hl])
          have HU := hid hu
          have HV := hid hv
          have HLE := hid hl
          have HMP := hid hm
          clear hu hv hl hm
          go_wp2_with fail
          refine (mixOf_any _ _ _ _ _ _ _ _ _ _ o_x.has o_y.has).mono ?_
          rw [HMX.out]
          rintro e v5 ⟨a_m, n_m, c_m, rfl, o_m, st⟩
          replace o_x := o_x.below st (Nat.le_refl _)
          replace o_y := o_y.below st (Nat.le_refl _)
          replace hB := hB.trans (st.mono hB.size)
          clear st
          go_wp2_with fail
          refine (specMixOf_any _ _ _ _ _ _ _ _ _ _ o_x.has o_y.has).mono ?_
          rw [HMX.out]
          rintro e v6 ⟨a_w, n_w, c_w, rfl, o_w, st⟩
          replace o_x := o_x.below st (Nat.le_refl _)
          replace o_y := o_y.below st (Nat.le_refl _)
          replace o_m := o_m.below st (Nat.le_refl _)
          replace hB := hB.trans (st.mono hB.size)
          clear st
          go_wp2_with fail
          refine (jSame_any _ _ _ _ _ _ _ _ _ o_m.has o_w.has).mono ?_
          rintro e v7 ⟨rfl, q⟩
          have st : Below v6.heap.size v6 v7 := q.below _
          replace o_x := o_x.below st (Nat.le_refl _)
          replace o_y := o_y.below st (Nat.le_refl _)
          replace o_m := o_m.below st (Nat.le_refl _)
          replace o_w := o_w.below st (Nat.le_refl _)
          replace hB := hB.trans (st.mono hB.size)
          clear st
          clear q
          rw [same_self]
          clear o_w
          have HP : Hid (isParking us = (true, true)) := hid (park_asked HU.out)
          have HQ : Hid (isParking vs = (true, true)) := hid (park_asked HV.out)
          go_wp2_with fail
          refine (isParking_any _ _ _ _ _ o_x.has).mono ?_
          rw [HP.out]
          rintro e v8 ⟨rfl, st⟩
          replace o_x := o_x.below st (Nat.le_refl _)
          replace o_y := o_y.below st (Nat.le_refl _)
          replace o_m := o_m.below st (Nat.le_refl _)
          replace hB := hB.trans (st.mono hB.size)
          clear st
          go_wp2_with fail
          refine (isParking_any _ _ _ _ _ o_y.has).mono ?_
          rw [HQ.out]
          rintro e v9 ⟨rfl, st⟩
          replace o_x := o_x.below st (Nat.le_refl _)
          replace o_y := o_y.below st (Nat.le_refl _)
          replace o_m := o_m.below st (Nat.le_refl _)
          replace hB := hB.trans (st.mono hB.size)
          clear st
          have hxy : n_x = n_y := by rw [← HLX.out, ← HLY.out, HLE.out]
          have hxyb : ((n_x : Int) == (n_y : Int)) = true := by simp [hxy]
          have hlm : (mixWith us vs low).length = us.length := by rw [length_mixWith, ← HLE.out]; omega
          rcases (Bool.eq_false_or_eq_true low) with hlow | hlow
          · skip
            obtain rfl : low = true := hlow
            obtain ⟨f1, hf⟩ : ∃ f, leB us (mixWith us vs true) us.length = f := ⟨_, rfl⟩
            have HE1 : Hid (isBelowOf us (mixWith us vs true) = (f1, true)) := hid (by unfold isBelowOf; rw [HU.out, HMP.out, hf, hlm]; simp)
            have HE2 : Hid (isBelowOf (mixWith us vs true) us = (true, true)) := hid (by unfold isBelowOf; rw [HU.out, HMP.out, hlm, (mix_le HLE.out).1]; simp)
            clear hf
            clear hlm hxy
            go_wp2_with fail
            refine (isBelowFn_any _ _ _ _ _ _ _ _ _ o_x.has o_m.has).mono ?_
            rw [HE1.out]
            rintro e v10 ⟨rfl, st⟩
            replace o_x := o_x.below st (Nat.le_refl _)
            replace o_y := o_y.below st (Nat.le_refl _)
            replace o_m := o_m.below st (Nat.le_refl _)
            replace hB := hB.trans (st.mono hB.size)
            clear st
            go_wp2_with fail
            refine (isBelowFn_any _ _ _ _ _ _ _ _ _ o_m.has o_x.has).mono ?_
            rw [HE2.out]
            rintro e v11 ⟨rfl, st⟩
            replace o_x := o_x.below st (Nat.le_refl _)
            replace o_y := o_y.below st (Nat.le_refl _)
            replace o_m := o_m.below st (Nat.le_refl _)
            replace hB := hB.trans (st.mono hB.size)
            clear st
            go_wp2_with fail
            go_ret
            exact ⟨rfl, hB⟩
          · skip
            obtain rfl : low = false := hlow
            obtain ⟨f1, hf⟩ : ∃ f, leB (mixWith us vs false) us us.length = f := ⟨_, rfl⟩
            have HE1 : Hid (isBelowOf us (mixWith us vs false) = (true, true)) := hid (by unfold isBelowOf; rw [HU.out, HMP.out, hlm, (mix_le HLE.out).2]; simp)
            have HE2 : Hid (isBelowOf (mixWith us vs false) us = (f1, true)) := hid (by unfold isBelowOf; rw [HU.out, HMP.out, hlm, hf]; simp)
            clear hf
            clear hlm hxy
            go_wp2_with fail
            refine (isBelowFn_any _ _ _ _ _ _ _ _ _ o_x.has o_m.has).mono ?_
            rw [HE1.out]
            rintro e v10 ⟨rfl, st⟩
            replace o_x := o_x.below st (Nat.le_refl _)
            replace o_y := o_y.below st (Nat.le_refl _)
            replace o_m := o_m.below st (Nat.le_refl _)
            replace hB := hB.trans (st.mono hB.size)
            clear st
            go_wp2_with fail
            refine (isBelowFn_any _ _ _ _ _ _ _ _ _ o_m.has o_x.has).mono ?_
            rw [HE2.out]
            rintro e v11 ⟨rfl, st⟩
            replace o_x := o_x.below st (Nat.le_refl _)
            replace o_y := o_y.below st (Nat.le_refl _)
            replace o_m := o_m.below st (Nat.le_refl _)
            replace hB := hB.trans (st.mono hB.size)
            clear st
            go_wp2_with fail
            go_ret
            exact ⟨rfl, hB⟩
        · skip
          have HMX : Hid (mixOf us vs low = ([], false)) := hid (by unfold mixOf; rw [if_neg]; simp only [Bool.and_eq_true, decide_eq_true_eq]; exact fun h => hmix ⟨h.1.1.1, h.1.1.2, h.1.2, h.2⟩)
          have HNO : Hid (isParking us = (true, true) → isParking vs = (true, true) → us.length = vs.length → low = true → False) := hid (fun h1 h2 h3 h4 => hmix (by subst h4; exact ⟨isParking_yes h1, isParking_yes h2, h3, mix_low (isParking_yes h1) (isParking_yes h2) h3⟩))
          clear hmix
          go_wp2_with fail
          refine (mixOf_any _ _ _ _ _ _ _ _ _ _ o_x.has o_y.has).mono ?_
          rw [HMX.out]
          rintro e v5 ⟨a_m, n_m, c_m, rfl, o_m, st⟩
          replace o_x := o_x.below st (Nat.le_refl _)
          replace o_y := o_y.below st (Nat.le_refl _)
          replace hB := hB.trans (st.mono hB.size)
          clear st
          go_wp2_with fail
          refine (specMixOf_any _ _ _ _ _ _ _ _ _ _ o_x.has o_y.has).mono ?_
          rw [HMX.out]
          rintro e v6 ⟨a_w, n_w, c_w, rfl, o_w, st⟩
          replace o_x := o_x.below st (Nat.le_refl _)
          replace o_y := o_y.below st (Nat.le_refl _)
          replace o_m := o_m.below st (Nat.le_refl _)
          replace hB := hB.trans (st.mono hB.size)
          clear st
          go_wp2_with fail
          refine (jSame_any _ _ _ _ _ _ _ _ _ o_m.has o_w.has).mono ?_
          rintro e v7 ⟨rfl, q⟩
          have st : Below v6.heap.size v6 v7 := q.below _
          replace o_x := o_x.below st (Nat.le_refl _)
          replace o_y := o_y.below st (Nat.le_refl _)
          replace o_m := o_m.below st (Nat.le_refl _)
          replace o_w := o_w.below st (Nat.le_refl _)
          replace hB := hB.trans (st.mono hB.size)
          clear st
          clear q
          rw [same_self]
          clear o_w
          obtain ⟨⟨p1, a1⟩, hp⟩ : ∃ r, isParking us = r := ⟨_, rfl⟩
          obtain ⟨⟨p2, a2⟩, hq⟩ : ∃ r, isParking vs = r := ⟨_, rfl⟩
          have HP := hid hp
          have HQ := hid hq
          clear hp hq
          go_wp2_with fail
          refine (isParking_any _ _ _ _ _ o_x.has).mono ?_
          rw [HP.out]
          rintro e v8 ⟨rfl, st⟩
          replace o_x := o_x.below st (Nat.le_refl _)
          replace o_y := o_y.below st (Nat.le_refl _)
          replace o_m := o_m.below st (Nat.le_refl _)
          replace hB := hB.trans (st.mono hB.size)
          clear st
          go_wp2_with fail
          refine (isParking_any _ _ _ _ _ o_y.has).mono ?_
          rw [HQ.out]
          rintro e v9 ⟨rfl, st⟩
          replace o_x := o_x.below st (Nat.le_refl _)
          replace o_y := o_y.below st (Nat.le_refl _)
          replace o_m := o_m.below st (Nat.le_refl _)
          replace hB := hB.trans (st.mono hB.size)
          clear st
          go_upto_region 15 with fail
          go_cut [121] (fun c wx => c = .bool false ∧ wx = v9)
          case first =>
            rcases (Bool.eq_false_or_eq_true a1) with ha1 | ha1
            · skip
              obtain rfl : a1 = true := ha1
              rcases (Bool.eq_false_or_eq_true a2) with ha2 | ha2
              · skip
                obtain rfl : a2 = true := ha2
                rcases (Bool.eq_false_or_eq_true p1) with hp1 | hp1
                · skip
                  obtain rfl : p1 = true := hp1
                  rcases (Bool.eq_false_or_eq_true p2) with hp2 | hp2
                  · skip
                    obtain rfl : p2 = true := hp2
                    by_cases hxy : n_x = n_y
                    · skip
                      have hxyb : ((n_x : Int) == (n_y : Int)) = true := by simp [hxy]
                      rcases (Bool.eq_false_or_eq_true low) with hlow | hlow
                      · skip
                        obtain rfl : low = true := hlow
                        exact (HNO.out HP.out HQ.out (by rw [HLX.out, HLY.out]; exact hxy) rfl).elim
                      · skip
                        obtain rfl : low = false := hlow
                        go_wp2_with fail
                        go_meet
                        case rel => exact ⟨rfl, rfl⟩
                    · skip
                      have hxyb : ((n_x : Int) == (n_y : Int)) = false := by simp; omega
                      go_wp2_with fail
                      go_meet
                      case rel => exact ⟨rfl, rfl⟩
                  · skip
                    obtain rfl : p2 = false := hp2
                    go_wp2_with fail
                    go_meet
                    case rel => exact ⟨rfl, rfl⟩
                · skip
                  obtain rfl : p1 = false := hp1
                  go_wp2_with fail
                  go_meet
                  case rel => exact ⟨rfl, rfl⟩
              · skip
                obtain rfl : a2 = false := ha2
                go_wp2_with fail
                go_meet
                case rel => exact ⟨rfl, rfl⟩
            · skip
              obtain rfl : a1 = false := ha1
              go_wp2_with fail
              go_meet
              case rel => exact ⟨rfl, rfl⟩
          case rest =>
            obtain ⟨rfl, hw⟩ := hcut
            obtain rfl := hw.symm
            go_wp2_with fail
            go_ret
            exact ⟨rfl, hB⟩
end Go.Proofs.Ytpjfgaggbedciaa
