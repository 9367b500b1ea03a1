/- The law of long cars, walked. -/
import Derived.Test.YtnddplldkgphnacNamed
import Derived.Test.YtnddplldkgphnacJ
import Derived.Test.YtnddplldkgphnacDrawSt
import Derived.Test.YtnddplldkgphnacMathLc
import Derived.Test.YtnddplldkgphnacImplLu
import Derived.Test.YtnddplldkgphnacImplLv
import Derived.Test.YtnddplldkgphnacSpecLp
namespace Go.Proofs.Ytnddplldkgphnac
open Go.RowKit

set_option maxHeartbeats 400000 in
theorem jSumL_any (a : Option Addr) (n cap : Nat) (xs : List Int) (w : World) (h : Has w a n cap xs) (h8 : n ≤ 100) (hb : ∀ i, i < n → 0 ≤ nth xs i ∧ nth xs i ≤ 5000) :
    Calls Try.prog 21 #[.slice a n cap] w fun e w' => e = .returned (.int .i64 (total xs)) ∧ w = w' := by
  have HL := hid h.len
  have HB := hid hb
  clear hb
  go_enter Try.func21, Try.ntmps21
  go_wp2_with fail
  go_loop [3, 8] (fun s i => ∃ (k : Nat) (v : Int), k ≤ n ∧ i = .int .i64 (k : Int) ∧ s = .int .i64 v ∧ Hid (v = total (xs.take k)) ∧ 0 ≤ v ∧ v ≤ 5000 * (k : Int)) (fun _ i => n - (intOf i).toNat)
  case atStart => exact ⟨0, 0, by omega, rfl, rfl, hid rfl, by omega, by omega⟩
  case round =>
    obtain ⟨k, v, hk, rfl, rfl, HV, s0, s1⟩ := hrel
    by_cases hlt : k < n
    · obtain ⟨b0, off, rfl, hbb, hc⟩ := h.2.2.2.2 (by omega)
      have hck := hc k hlt
      obtain ⟨u0, u1⟩ := HB.out k hlt
      have HS : Hid (total (xs.take (k + 1)) = v + nth xs k) := hid (by rw [total_succ (by rw [HL.out]; exact hlt), HV.out])
      clear hc
      go_wp2_with fail
      go_round
      case rel => exact ⟨k + 1, v + nth xs k, by omega, by go_num, by go_num, hid HS.out.symm, by omega, by omega⟩
      case measure => simp [intOf]; omega
    · obtain rfl : k = n := by omega
      have HR : Hid (v = total xs) := hid (by rw [HV.out, List.take_of_length_le (by rw [HL.out]; omega)])
      go_wp2_with fail
      go_ret
      exact ⟨ret_int HR.out, rfl⟩

set_option maxRecDepth 100000 in
set_option maxHeartbeats 32000000 in
theorem longs_walk (a b : Option Addr) (n m cap cap' : Nat) (w : World) (hn : n ≤ maxLen) (h : n ≤ 1048576 → HasB w a n w.heap.size) (h' : m ≤ 1048576 → HasB w b m w.heap.size) :
    Calls Try.prog 4 #[.slice a n cap, .slice b m cap'] w (Holds w) := by
  have H1 := hid h
  have H2 := hid h'
  have HN := hid hn
  clear h h' hn
  have hB : Below w.heap.size w w := Below.refl _ _
  go_enter Try.func4, Try.ntmps4
  go_wp2_with fail
  refine (big_any _ _ _ _ _ _ _ (by have := HN.out; unfold maxLen at this; omega)).mono ?_
  rintro e _ ⟨r, rfl, hr, rfl⟩
  have HR := hid hr
  clear hr
  cases r with
  | true =>
    go_wp2_with fail
    go_ret
    exact ⟨rfl, hB⟩
  | false =>
    have hnm := HR.out rfl
    clear HR
    have HA := hid (H1.out (by omega))
    have HM := hid (H2.out (by omega))
    clear H1 H2 HN
    go_wp2_with fail
    refine (drawLong_any _ _ _ _ HA.out).mono ?_
    rintro e v1 ⟨a_l, n_l, c_l, xs, a_y, n_y, c_y, ls, rfl, o_l, o_y, hnl, hny, st⟩
    replace hB := hB.trans (st.mono hB.size)
    clear st
    obtain ⟨os, ok, one, c, f1, f2, f3, f4⟩ := long_same xs ls
    have HDL := hid f1
    have HIL := hid f2
    have HBL := hid f3
    have HOK := hid f4
    have hok : (ok != ok) = false := by cases ok <;> rfl
    have hone : (one != one) = false := by cases one <;> rfl
    have hbb : ((one && !ok) != (one && !ok)) = false := by cases ok <;> cases one <;> rfl
    have hcc := neq_self_int c
    clear f1 f2 f3 f4
    go_wp2_with fail
    refine (driveLong_any _ _ _ _ _ _ _ _ _ o_l.has o_y.has).mono ?_
    rw [HDL.out]
    rintro e v2 ⟨a_o, n_o, c_o, rfl, o_o, st⟩
    replace o_l := o_l.below st (Nat.le_refl _)
    replace o_y := o_y.below st (Nat.le_refl _)
    replace hB := hB.trans (st.mono hB.size)
    clear st
    go_wp2_with fail
    refine (specDriveLong_any _ _ _ _ _ _ _ _ _ o_l.has o_y.has).mono ?_
    rw [HDL.out]
    rintro e v3 ⟨a_r, n_r, c_r, rfl, o_r, st⟩
    replace o_l := o_l.below st (Nat.le_refl _)
    replace o_y := o_y.below st (Nat.le_refl _)
    replace o_o := o_o.below st (Nat.le_refl _)
    replace hB := hB.trans (st.mono hB.size)
    clear st
    go_wp2_with fail
    refine (isLong_any _ _ _ _ _ _ _ _ _ o_l.has o_y.has).mono ?_
    rw [HIL.out]
    rintro e v4 ⟨rfl, st⟩
    replace o_l := o_l.below st (Nat.le_refl _)
    replace o_y := o_y.below st (Nat.le_refl _)
    replace o_o := o_o.below st (Nat.le_refl _)
    replace o_r := o_r.below st (Nat.le_refl _)
    replace hB := hB.trans (st.mono hB.size)
    clear st
    go_wp2_with fail
    refine (specIsLong_any _ _ _ _ _ _ _ _ _ o_l.has o_y.has).mono ?_
    rw [HIL.out]
    rintro e v5 ⟨rfl, st⟩
    replace o_l := o_l.below st (Nat.le_refl _)
    replace o_y := o_y.below st (Nat.le_refl _)
    replace o_o := o_o.below st (Nat.le_refl _)
    replace o_r := o_r.below st (Nat.le_refl _)
    replace hB := hB.trans (st.mono hB.size)
    clear st
    go_wp2_with fail
    refine (blocked_any _ _ _ _ _ _ _ _ _ o_l.has o_y.has).mono ?_
    rw [HBL.out]
    rintro e v6 ⟨rfl, st⟩
    replace o_l := o_l.below st (Nat.le_refl _)
    replace o_y := o_y.below st (Nat.le_refl _)
    replace o_o := o_o.below st (Nat.le_refl _)
    replace o_r := o_r.below st (Nat.le_refl _)
    replace hB := hB.trans (st.mono hB.size)
    clear st
    go_wp2_with fail
    refine (specBlocked_any _ _ _ _ _ _ _ _ _ o_l.has o_y.has).mono ?_
    rw [HBL.out]
    rintro e v7 ⟨rfl, st⟩
    replace o_l := o_l.below st (Nat.le_refl _)
    replace o_y := o_y.below st (Nat.le_refl _)
    replace o_o := o_o.below st (Nat.le_refl _)
    replace o_r := o_r.below st (Nat.le_refl _)
    replace hB := hB.trans (st.mono hB.size)
    clear st
    go_wp2_with fail
    refine (jSame_any _ _ _ _ _ _ _ _ _ o_o.has o_r.has).mono ?_
    rintro e v8 ⟨rfl, q⟩
    have st : Below v7.heap.size v7 v8 := q.below _
    replace o_l := o_l.below st (Nat.le_refl _)
    replace o_y := o_y.below st (Nat.le_refl _)
    replace o_o := o_o.below st (Nat.le_refl _)
    replace o_r := o_r.below st (Nat.le_refl _)
    replace hB := hB.trans (st.mono hB.size)
    clear st
    clear q
    rw [same_self]
    clear o_r
    cases ok
    · skip
      clear HOK
      clear o_o o_l o_y
      cases one
      · skip
        go_wp2_with fail
        refine (drawStretch_any b m cap' _ (HM.out.grow hB (Nat.le_refl _))).mono ?_
        rintro e v9 ⟨a_a, n_a, c_a, ys, a_b, n_b, c_b, ms, rfl, o_a, o_b, hna, hnb, st⟩
        replace hB := hB.trans (st.mono hB.size)
        clear st
        obtain ⟨⟨ss, sb⟩, hs⟩ : ∃ r, stretchOf ys ms = r := ⟨_, rfl⟩
        have HS := hid hs
        have hsb : (sb == sb) = true := by simp
        clear hs
        go_wp2_with fail
        refine (stretch_any _ _ _ _ _ _ _ _ _ o_a.has o_b.has).mono ?_
        rw [HS.out]
        rintro e v10 ⟨a_c, n_c, c_c, rfl, o_c, st⟩
        replace o_a := o_a.below st (Nat.le_refl _)
        replace o_b := o_b.below st (Nat.le_refl _)
        replace hB := hB.trans (st.mono hB.size)
        clear st
        go_wp2_with fail
        refine (specStretch_any _ _ _ _ _ _ _ _ _ o_a.has o_b.has).mono ?_
        rw [HS.out]
        rintro e v11 ⟨a_d, n_d, c_d, rfl, o_d, st⟩
        replace o_a := o_a.below st (Nat.le_refl _)
        replace o_b := o_b.below st (Nat.le_refl _)
        replace o_c := o_c.below st (Nat.le_refl _)
        replace hB := hB.trans (st.mono hB.size)
        clear st
        go_wp2_with fail
        refine (jSame_any _ _ _ _ _ _ _ _ _ o_c.has o_d.has).mono ?_
        rintro e v12 ⟨rfl, q⟩
        have st : Below v11.heap.size v11 v12 := q.below _
        replace o_a := o_a.below st (Nat.le_refl _)
        replace o_b := o_b.below st (Nat.le_refl _)
        replace o_c := o_c.below st (Nat.le_refl _)
        replace o_d := o_d.below st (Nat.le_refl _)
        replace hB := hB.trans (st.mono hB.size)
        clear st
        clear q
        rw [same_self]
        clear o_a o_b o_c o_d
        go_wp2_with fail
        go_ret
        exact ⟨rfl, hB⟩
      · skip
        go_wp2_with fail
        refine (drawStretch_any b m cap' _ (HM.out.grow hB (Nat.le_refl _))).mono ?_
        rintro e v9 ⟨a_a, n_a, c_a, ys, a_b, n_b, c_b, ms, rfl, o_a, o_b, hna, hnb, st⟩
        replace hB := hB.trans (st.mono hB.size)
        clear st
        obtain ⟨⟨ss, sb⟩, hs⟩ : ∃ r, stretchOf ys ms = r := ⟨_, rfl⟩
        have HS := hid hs
        have hsb : (sb == sb) = true := by simp
        clear hs
        go_wp2_with fail
        refine (stretch_any _ _ _ _ _ _ _ _ _ o_a.has o_b.has).mono ?_
        rw [HS.out]
        rintro e v10 ⟨a_c, n_c, c_c, rfl, o_c, st⟩
        replace o_a := o_a.below st (Nat.le_refl _)
        replace o_b := o_b.below st (Nat.le_refl _)
        replace hB := hB.trans (st.mono hB.size)
        clear st
        go_wp2_with fail
        refine (specStretch_any _ _ _ _ _ _ _ _ _ o_a.has o_b.has).mono ?_
        rw [HS.out]
        rintro e v11 ⟨a_d, n_d, c_d, rfl, o_d, st⟩
        replace o_a := o_a.below st (Nat.le_refl _)
        replace o_b := o_b.below st (Nat.le_refl _)
        replace o_c := o_c.below st (Nat.le_refl _)
        replace hB := hB.trans (st.mono hB.size)
        clear st
        go_wp2_with fail
        refine (jSame_any _ _ _ _ _ _ _ _ _ o_c.has o_d.has).mono ?_
        rintro e v12 ⟨rfl, q⟩
        have st : Below v11.heap.size v11 v12 := q.below _
        replace o_a := o_a.below st (Nat.le_refl _)
        replace o_b := o_b.below st (Nat.le_refl _)
        replace o_c := o_c.below st (Nat.le_refl _)
        replace o_d := o_d.below st (Nat.le_refl _)
        replace hB := hB.trans (st.mono hB.size)
        clear st
        clear q
        rw [same_self]
        clear o_a o_b o_c o_d
        go_wp2_with fail
        go_ret
        exact ⟨rfl, hB⟩
    · skip
      obtain ⟨hT, hO, rfl, rfl⟩ := HOK.out rfl
      obtain ⟨P, T, F⟩ := long_facts o_l.len hT hO
      obtain ⟨os, hos⟩ : ∃ os, longN xs ls = os := ⟨_, rfl⟩
      rw [hos] at F o_o
      obtain rfl : n_o = n_l := by rw [← o_o.len, F.lenO]
      obtain rfl : n_y = n_o := by rw [← o_y.len, F.len]
      have hP1 := F.P1
      have hP12 := F.P12
      have hn8 := F.n8
      have HTO := hid F.tot
      have HT0 := hid F.T0
      have HTS := hid F.Ts
      have HFV := hid F.fav
      have HLN := hid F.ln
      have HFR := hid F.free
      have HSH := hid F.short
      have HLB : Hid (∀ i, i < n_y → 0 ≤ nth ls i ∧ nth ls i ≤ 5000) := hid (fun i hi => by have := F.ln i hi; have := F.fav i hi; omega)
      clear F hos hT hO HOK
      go_wp2_with fail
      refine (jSumL_any _ _ _ _ _ o_y.has (by omega) HLB.out).mono ?_
      rw [HTO.out]
      rintro e _ ⟨rfl, rfl⟩
      go_wp2_with (at_make; refine wpList_make_bools _ rfl _ _ rfl P rfl rfl (by omega) ?_; intro wm hc1 hf1 hb1 hs1)
      have BS : Bls wm v8.heap.size P (fun i => hasB (T 0) (i : Int)) := by rw [HT0.out]; exact ⟨hs1, fun i hi => by rw [hc1 i hi]; simp [hasB], hf1⟩
      clear hc1 hf1
      go_loopw [21, 127] (fun sh i wr => ∃ k : Nat, k ≤ n_y ∧ i = .int .i64 (k : Int) ∧ sh = .bool (shortB ls k) ∧ Bls wr v8.heap.size P (fun i => hasB (T k) (i : Int)) ∧ Below v8.heap.size v8 wr) (fun _ i _ => n_y - (intOf i).toNat)
      case atStart => exact ⟨0, Nat.zero_le _, rfl, rfl, BS, hb1⟩
      case round =>
        obtain ⟨k, hk, rfl, rfl, hB2, hq⟩ := hrel
        clear BS hb1 hs1
        by_cases hlt : k < n_y
        · skip
          obtain ⟨f0, f1⟩ := HFV.out k hlt
          obtain ⟨l1, l2⟩ := HLN.out k hlt
          obtain ⟨b1, off1, rfl, hb1, hc1⟩ := o_o.has.2.2.2.2 (by omega)
          have HC1 := hid (fun (wq : World) (hh : Below v8.heap.size v8 wq) => (hh.cell (p := ⟨b1, off1 + k, none⟩) hb1).trans (hc1 k hlt))
          have hok := HC1.out wr hq
          obtain ⟨b2, off2, rfl, hb2, hc2⟩ := o_y.has.2.2.2.2 (by omega)
          have HC2 := hid (fun (wq : World) (hh : Below v8.heap.size v8 wq) => (hh.cell (p := ⟨b2, off2 + k, none⟩) hb2).trans (hc2 k hlt))
          have hlk := HC2.out wr hq
          obtain ⟨b3, off3, rfl, hb3, hc3⟩ := o_l.has.2.2.2.2 (by omega)
          have HC3 := hid (fun (wq : World) (hh : Below v8.heap.size v8 wq) => (hh.cell (p := ⟨b3, off3 + k, none⟩) hb3).trans (hc3 k hlt))
          have hxk := HC3.out wr hq
          have HF := hid (HFR.out k hlt)
          have HS := hid (HTS.out k hlt)
          have HSS : Hid (shortB ls (k + 1) = (shortB ls k && decide (nth ls k = 1))) := hid rfl
          generalize nth ls k = L at *
          generalize nth xs k = fv at *
          generalize nth os k = xx at *
          obtain ⟨x, rfl⟩ : ∃ x : Nat, xx = (x : Int) := ⟨xx.toNat, by omega⟩
          obtain ⟨l, rfl⟩ : ∃ l : Nat, L = (l : Int) := ⟨L.toNat, by omega⟩
          rw [Int.toNat_natCast] at HS
          have hfv : ¬ ((x : Int) < fv) := by omega
          have hw0 : IntKind.i64.wrap ((x : Int) + (l : Int)) = (x : Int) + (l : Int) := by rw [IntKind.wrap_i64]; omega
          clear hc1 hc2 hc3
          obtain ⟨s0, hs0⟩ : ∃ s0, shortB ls k = s0 := ⟨_, rfl⟩
          obtain ⟨s1, hs1⟩ : ∃ s1, shortB ls (k + 1) = s1 := ⟨_, rfl⟩
          rw [hs0, hs1] at HSS
          rw [hs0]
          have HS1 := hid hs1
          clear hs0 hs1
          have hle1 : decide ((l : Int) = 1) = ((l : Int) == 1) := by rw [Bool.eq_iff_iff]; simp
          cases s0
          · skip
            obtain rfl : s1 = false := by rw [HSS.out]; rfl
            go_wp2_with fail
            go_loopw [24] (fun i wr => ∃ d : Nat, d ≤ l ∧ i = .int .i64 ((x + d : Nat) : Int) ∧ Bls wr v8.heap.size P (fun i => hasB (T k ++ cover (x : Int) d) (i : Int)) ∧ Below v8.heap.size v8 wr) (fun i _ => x + l - (intOf i).toNat)
            case atStart => exact ⟨0, Nat.zero_le _, rfl, by simpa [cover] using hB2, hq⟩
            case round =>
              obtain ⟨d, hd, rfl, hB3, hq3⟩ := hrel
              clear hB2 hlk hxk hok
              have hlk := HC2.out wr hq3
              have hxk := HC3.out wr hq3
              by_cases hdl : d < l
              · skip
                have hfr := cover_free (HF.out ((x + d : Nat) : Int) (by omega) (by omega)) (x := (x : Int)) (d := d) (by omega)
                have hcc := hB3.cells (x + d) (by omega)
                rw [hfr] at hcc
                have hff := hB3.free (x + d)
                have hB4 := (hB3.set (x := x + d) (by omega)).congr (f' := fun i => hasB (T k ++ cover (x : Int) (d + 1)) (i : Int)) (fun i hi => cover_next (T k) x d i)
                have hq4 := hq3.setCell (p := ⟨v8.heap.size, x + d, none⟩) (by simp) (.bool true)
                have hxP : ((x + d : Nat) : Int) < (P : Int) := by omega
                have hx0 : (0 : Int) ≤ ((x + d : Nat) : Int) := by omega
                clear hfr hB3 hq3
                go_wp2_with fail
                go_roundw
                case rel => exact ⟨d + 1, by omega, by go_num, hB4, hq4⟩
                case measure => simp [intOf]; omega
              · skip
                obtain rfl : d = l := by omega
                skip
                go_wp2_with fail
                go_roundw
                case rel => exact ⟨k + 1, by omega, by go_num, by rw [HS1.out], by rw [HS.out]; exact hB3, hq3⟩
                case measure => simp [intOf]; omega
          · skip
            by_cases h1 : (l : Int) = 1
            · skip
              have hl1 : ((l : Int) == 1) = true := by simpa using h1
              obtain rfl : s1 = true := by rw [HSS.out, hle1, hl1]; rfl
              go_wp2_with fail
              go_loopw [24] (fun i wr => ∃ d : Nat, d ≤ l ∧ i = .int .i64 ((x + d : Nat) : Int) ∧ Bls wr v8.heap.size P (fun i => hasB (T k ++ cover (x : Int) d) (i : Int)) ∧ Below v8.heap.size v8 wr) (fun i _ => x + l - (intOf i).toNat)
              case atStart => exact ⟨0, Nat.zero_le _, rfl, by simpa [cover] using hB2, hq⟩
              case round =>
                obtain ⟨d, hd, rfl, hB3, hq3⟩ := hrel
                clear hB2 hlk hxk hok
                have hlk := HC2.out wr hq3
                have hxk := HC3.out wr hq3
                by_cases hdl : d < l
                · skip
                  have hfr := cover_free (HF.out ((x + d : Nat) : Int) (by omega) (by omega)) (x := (x : Int)) (d := d) (by omega)
                  have hcc := hB3.cells (x + d) (by omega)
                  rw [hfr] at hcc
                  have hff := hB3.free (x + d)
                  have hB4 := (hB3.set (x := x + d) (by omega)).congr (f' := fun i => hasB (T k ++ cover (x : Int) (d + 1)) (i : Int)) (fun i hi => cover_next (T k) x d i)
                  have hq4 := hq3.setCell (p := ⟨v8.heap.size, x + d, none⟩) (by simp) (.bool true)
                  have hxP : ((x + d : Nat) : Int) < (P : Int) := by omega
                  have hx0 : (0 : Int) ≤ ((x + d : Nat) : Int) := by omega
                  clear hfr hB3 hq3
                  go_wp2_with fail
                  go_roundw
                  case rel => exact ⟨d + 1, by omega, by go_num, hB4, hq4⟩
                  case measure => simp [intOf]; omega
                · skip
                  obtain rfl : d = l := by omega
                  skip
                  go_wp2_with fail
                  go_roundw
                  case rel => exact ⟨k + 1, by omega, by go_num, by rw [HS1.out], by rw [HS.out]; exact hB3, hq3⟩
                  case measure => simp [intOf]; omega
            · skip
              have hl1 : ((l : Int) == 1) = false := by simpa using h1
              obtain rfl : s1 = false := by rw [HSS.out, hle1, hl1]; rfl
              go_wp2_with fail
              go_loopw [24] (fun i wr => ∃ d : Nat, d ≤ l ∧ i = .int .i64 ((x + d : Nat) : Int) ∧ Bls wr v8.heap.size P (fun i => hasB (T k ++ cover (x : Int) d) (i : Int)) ∧ Below v8.heap.size v8 wr) (fun i _ => x + l - (intOf i).toNat)
              case atStart => exact ⟨0, Nat.zero_le _, rfl, by simpa [cover] using hB2, hq⟩
              case round =>
                obtain ⟨d, hd, rfl, hB3, hq3⟩ := hrel
                clear hB2 hlk hxk hok
                have hlk := HC2.out wr hq3
                have hxk := HC3.out wr hq3
                by_cases hdl : d < l
                · skip
                  have hfr := cover_free (HF.out ((x + d : Nat) : Int) (by omega) (by omega)) (x := (x : Int)) (d := d) (by omega)
                  have hcc := hB3.cells (x + d) (by omega)
                  rw [hfr] at hcc
                  have hff := hB3.free (x + d)
                  have hB4 := (hB3.set (x := x + d) (by omega)).congr (f' := fun i => hasB (T k ++ cover (x : Int) (d + 1)) (i : Int)) (fun i hi => cover_next (T k) x d i)
                  have hq4 := hq3.setCell (p := ⟨v8.heap.size, x + d, none⟩) (by simp) (.bool true)
                  have hxP : ((x + d : Nat) : Int) < (P : Int) := by omega
                  have hx0 : (0 : Int) ≤ ((x + d : Nat) : Int) := by omega
                  clear hfr hB3 hq3
                  go_wp2_with fail
                  go_roundw
                  case rel => exact ⟨d + 1, by omega, by go_num, hB4, hq4⟩
                  case measure => simp [intOf]; omega
                · skip
                  obtain rfl : d = l := by omega
                  skip
                  go_wp2_with fail
                  go_roundw
                  case rel => exact ⟨k + 1, by omega, by go_num, by rw [HS1.out], by rw [HS.out]; exact hB3, hq3⟩
                  case measure => simp [intOf]; omega
        · skip
          obtain rfl : k = n_y := by omega
          clear hB2
          have st := hq
          replace o_l := o_l.below st (Nat.le_refl _)
          replace o_y := o_y.below st (Nat.le_refl _)
          replace o_o := o_o.below st (Nat.le_refl _)
          replace hB := hB.trans (st.mono hB.size)
          clear st
          by_cases hs : shortB ls k = true
          · skip
            have HDC := hid (HSH.out hs)
            rw [hs]
            go_wp2_with fail
            refine (driveCars_any _ _ _ _ _ _ o_l.has).mono ?_
            rw [HDC.out]
            rintro e v9 ⟨a_p, n_p, c_p, rfl, o_p, st⟩
            replace o_l := o_l.below st (Nat.le_refl _)
            replace o_y := o_y.below st (Nat.le_refl _)
            replace o_o := o_o.below st (Nat.le_refl _)
            replace hB := hB.trans (st.mono hB.size)
            clear st
            go_wp2_with fail
            refine (jSame_any _ _ _ _ _ _ _ _ _ o_p.has o_o.has).mono ?_
            rintro e v10 ⟨rfl, q⟩
            have st : Below v9.heap.size v9 v10 := q.below _
            replace o_l := o_l.below st (Nat.le_refl _)
            replace o_y := o_y.below st (Nat.le_refl _)
            replace o_o := o_o.below st (Nat.le_refl _)
            replace o_p := o_p.below st (Nat.le_refl _)
            replace hB := hB.trans (st.mono hB.size)
            clear st
            clear q
            rw [same_self]
            clear o_p o_o o_l o_y
            go_wp2_with fail
            refine (drawStretch_any b m cap' _ (HM.out.grow hB (Nat.le_refl _))).mono ?_
            rintro e v11 ⟨a_a, n_a, c_a, ys, a_b, n_b, c_b, ms, rfl, o_a, o_b, hna, hnb, st⟩
            replace hB := hB.trans (st.mono hB.size)
            clear st
            obtain ⟨⟨ss, sb⟩, hs⟩ : ∃ r, stretchOf ys ms = r := ⟨_, rfl⟩
            have HS := hid hs
            have hsb : (sb == sb) = true := by simp
            clear hs
            go_wp2_with fail
            refine (stretch_any _ _ _ _ _ _ _ _ _ o_a.has o_b.has).mono ?_
            rw [HS.out]
            rintro e v12 ⟨a_c, n_c, c_c, rfl, o_c, st⟩
            replace o_a := o_a.below st (Nat.le_refl _)
            replace o_b := o_b.below st (Nat.le_refl _)
            replace hB := hB.trans (st.mono hB.size)
            clear st
            go_wp2_with fail
            refine (specStretch_any _ _ _ _ _ _ _ _ _ o_a.has o_b.has).mono ?_
            rw [HS.out]
            rintro e v13 ⟨a_d, n_d, c_d, rfl, o_d, st⟩
            replace o_a := o_a.below st (Nat.le_refl _)
            replace o_b := o_b.below st (Nat.le_refl _)
            replace o_c := o_c.below st (Nat.le_refl _)
            replace hB := hB.trans (st.mono hB.size)
            clear st
            go_wp2_with fail
            refine (jSame_any _ _ _ _ _ _ _ _ _ o_c.has o_d.has).mono ?_
            rintro e v14 ⟨rfl, q⟩
            have st : Below v13.heap.size v13 v14 := q.below _
            replace o_a := o_a.below st (Nat.le_refl _)
            replace o_b := o_b.below st (Nat.le_refl _)
            replace o_c := o_c.below st (Nat.le_refl _)
            replace o_d := o_d.below st (Nat.le_refl _)
            replace hB := hB.trans (st.mono hB.size)
            clear st
            clear q
            rw [same_self]
            clear o_a o_b o_c o_d
            go_wp2_with fail
            go_ret
            exact ⟨rfl, hB⟩
          · skip
            rw [Bool.eq_false_iff.2 hs]
            clear o_o o_l o_y
            go_wp2_with fail
            refine (drawStretch_any b m cap' _ (HM.out.grow hB (Nat.le_refl _))).mono ?_
            rintro e v9 ⟨a_a, n_a, c_a, ys, a_b, n_b, c_b, ms, rfl, o_a, o_b, hna, hnb, st⟩
            replace hB := hB.trans (st.mono hB.size)
            clear st
            obtain ⟨⟨ss, sb⟩, hs⟩ : ∃ r, stretchOf ys ms = r := ⟨_, rfl⟩
            have HS := hid hs
            have hsb : (sb == sb) = true := by simp
            clear hs
            go_wp2_with fail
            refine (stretch_any _ _ _ _ _ _ _ _ _ o_a.has o_b.has).mono ?_
            rw [HS.out]
            rintro e v10 ⟨a_c, n_c, c_c, rfl, o_c, st⟩
            replace o_a := o_a.below st (Nat.le_refl _)
            replace o_b := o_b.below st (Nat.le_refl _)
            replace hB := hB.trans (st.mono hB.size)
            clear st
            go_wp2_with fail
            refine (specStretch_any _ _ _ _ _ _ _ _ _ o_a.has o_b.has).mono ?_
            rw [HS.out]
            rintro e v11 ⟨a_d, n_d, c_d, rfl, o_d, st⟩
            replace o_a := o_a.below st (Nat.le_refl _)
            replace o_b := o_b.below st (Nat.le_refl _)
            replace o_c := o_c.below st (Nat.le_refl _)
            replace hB := hB.trans (st.mono hB.size)
            clear st
            go_wp2_with fail
            refine (jSame_any _ _ _ _ _ _ _ _ _ o_c.has o_d.has).mono ?_
            rintro e v12 ⟨rfl, q⟩
            have st : Below v11.heap.size v11 v12 := q.below _
            replace o_a := o_a.below st (Nat.le_refl _)
            replace o_b := o_b.below st (Nat.le_refl _)
            replace o_c := o_c.below st (Nat.le_refl _)
            replace o_d := o_d.below st (Nat.le_refl _)
            replace hB := hB.trans (st.mono hB.size)
            clear st
            clear q
            rw [same_self]
            clear o_a o_b o_c o_d
            go_wp2_with fail
            go_ret
            exact ⟨rfl, hB⟩
end Go.Proofs.Ytnddplldkgphnac
