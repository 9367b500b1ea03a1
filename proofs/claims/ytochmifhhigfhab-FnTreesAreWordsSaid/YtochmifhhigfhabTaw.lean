/- The law of trees and their words, walked. -/
import Derived.Test.YtochmifhhigfhabNamed
import Derived.Test.YtochmifhhigfhabW
import Derived.Test.YtochmifhhigfhabJ
import Derived.Test.YtochmifhhigfhabSpecTd
import Derived.Test.YtochmifhhigfhabMathWd
import Derived.Test.YtochmifhhigfhabImplTp
import Derived.Test.YtochmifhhigfhabImplTq
import Derived.Test.YtochmifhhigfhabImplTs
import Derived.Test.YtochmifhhigfhabSpecTp
import Derived.Test.YtochmifhhigfhabSpecTq
namespace Go.Proofs.Ytochmifhhigfhab
open Go.RowKit

theorem pru_facts {xs : List Int} {n : Nat} (h : treeB xs = true) (hl : xs.length = n) (hn : 0 < n) :
    pruB xs = (pruOf xs, true) ∧ unB (pruOf xs) = (xs, true) ∧ degOf xs = (degL xs, true) ∧ leavesOf xs = (leavesL xs, true) ∧ (pruOf xs).length + 1 = n := by
  have ht := tree_of h hl
  have hw := pru_word ht hn
  have hlen := hw.len
  have h8 := ht.le
  refine ⟨pruB_yes h (by omega), ?_, by simp [degOf, h], by simp [leavesOf, h], hlen⟩
  have hb : allB (pruOf xs) 0 (((pruOf xs).length : Int) + 1) = true := by
    rw [allB_iff]
    intro x hx
    obtain ⟨i, hi, e⟩ := mem_nth hx
    have := hw.nthB i hi
    rw [e] at this
    omega
  have := (unB_yes (ws := pruOf xs) rfl (by omega) hb).1
  rw [this, un_pru ht hn]
theorem un_facts {ws : List Int} {m : Nat} (hl : ws.length = m) (h8 : m < 8) (hb : allB ws 0 ((m : Int) + 1) = true) :
    unB ws = (unOf ws, true) ∧ pruB (unOf ws) = (ws, true) ∧ treeB (unOf ws) = true := by
  obtain ⟨h1, h2⟩ := unB_yes hl h8 hb
  obtain ⟨h3, h4⟩ := pru_un h2
  refine ⟨h1, ?_, h4.b⟩
  rw [pruB_yes h4.b (by rw [h4.len]; omega), h3]
theorem node_facts {xs : List Int} {n k : Nat} (h : treeB xs = true) (hl : xs.length = n) (hn : 0 < n) (hk : k ≤ n) :
    nth (degL xs) k = ((pruOf xs).count (k : Int) : Int) + 1 ∧ (1 ≤ k → hasB (leavesL xs) (k : Int) = decide ((pruOf xs).count (k : Int) = 0)) := by
  have ht := tree_of h hl
  have hd := deg_word ht hn k
  refine ⟨?_, fun h1 => ?_⟩
  · rw [nth_degL (by omega), hd]; omega
  · rw [mem_leaves h1 (by omega), hd, decide_eq_decide]; omega
theorem count_succ {xs : List Int} {x : Int} {j : Nat} (h : j < xs.length) : (xs.take (j + 1)).count x = (xs.take j).count x + if nth xs j = x then 1 else 0 := by
  rw [take_succ_nth h, List.count_append]
  by_cases e : nth xs j = x <;> simp [e]

set_option maxRecDepth 100000 in
set_option maxHeartbeats 16000000 in
theorem trees_walk (a b : Option Addr) (n m cap cap' : Nat) (w : World) (hn : n ≤ maxLen) (h : n ≤ 1048576 → HasB w a n w.heap.size) (h' : m ≤ 1048576 → HasB w b m w.heap.size) :
    Calls Try.prog 8 #[.slice a n cap, .slice b m cap'] w (Holds w) := by
  have H1 := hid h
  have H2 := hid h'
  have HN := hid hn
  clear h h' hn
  have hB : Below w.heap.size w w := Below.refl _ _
  go_enter Try.func8, Try.ntmps8
  go_wp2_with fail
  refine (big_any _ _ _ _ _ _ _ (by have := HN.out; unfold maxLen at this; omega)).mono ?_
  rintro e _ ⟨r, rfl, hr, rfl⟩
  have HR := hid hr
  clear hr
  cases r with
  | true =>
    go_wp2_with fail
    go_ret
    exact ⟨rfl, hB⟩
  | false =>
    have hnm := HR.out rfl
    clear HR
    have HA := hid (H1.out (by omega))
    have HM := hid (H2.out (by omega))
    clear H1 H2 HN
    go_wp2_with fail
    refine (drawTree_any _ _ _ _ HA.out).mono ?_
    rintro e v1 ⟨a_p, n_p, c_p, xs, rfl, o_p, hnp, st⟩
    replace hB := hB.trans (st.mono hB.size)
    clear st
    have HLP := hid o_p.len
    by_cases hg : treeB xs = true ∧ 0 < n_p
    · skip
      obtain ⟨f1, f2, f3, f4, f5⟩ := pru_facts hg.1 HLP.out hg.2
      have HPR := hid f1
      have HUP := hid f2
      have HDG := hid f3
      have HLV := hid f4
      have HLW := hid f5
      have HTX := hid hg.1
      have hnp0 := hg.2
      clear f1 f2 f3 f4 f5 hg
      go_wp2_with fail
      refine (implPrufer_any _ _ _ _ _ o_p.has).mono ?_
      rw [HPR.out]
      rintro e v2 ⟨a_w, n_w, c_w, rfl, o_w, st⟩
      replace o_p := o_p.below st (Nat.le_refl _)
      replace hB := hB.trans (st.mono hB.size)
      clear st
      go_wp2_with fail
      refine (specPrufer_any _ _ _ _ _ o_p.has).mono ?_
      rw [HPR.out]
      rintro e v3 ⟨a_r, n_r, c_r, rfl, o_r, st⟩
      replace o_p := o_p.below st (Nat.le_refl _)
      replace o_w := o_w.below st (Nat.le_refl _)
      replace hB := hB.trans (st.mono hB.size)
      clear st
      go_wp2_with fail
      refine (wSame_any _ _ _ _ _ _ _ _ _ o_w.has o_r.has).mono ?_
      rw [same_self]
      rintro e v4 ⟨rfl, q⟩
      have st : Below v3.heap.size v3 v4 := q.below _
      replace o_p := o_p.below st (Nat.le_refl _)
      replace o_w := o_w.below st (Nat.le_refl _)
      replace o_r := o_r.below st (Nat.le_refl _)
      replace hB := hB.trans (st.mono hB.size)
      clear st
      clear q
      clear o_r
      go_wp2_with fail
      refine (drawWord_any b m cap' _ (HM.out.grow hB (Nat.le_refl _))).mono ?_
      rintro e v5 ⟨a_s, n_s, c_s, ws, rfl, o_s, hns, st⟩
      replace o_p := o_p.below st (Nat.le_refl _)
      replace o_w := o_w.below st (Nat.le_refl _)
      replace hB := hB.trans (st.mono hB.size)
      clear st
      have HLS := hid o_s.len
      by_cases hw : n_s < 8 ∧ allB ws 0 ((n_s : Int) + 1) = true
      · skip
        obtain ⟨u1, u2, u3⟩ := un_facts HLS.out hw.1 hw.2
        have HUN := hid u1
        have HPU := hid u2
        have HTU := hid u3
        clear hw u1 u2 u3
        go_wp2_with fail
        refine (implUnPrufer_any _ _ _ _ _ o_s.has).mono ?_
        rw [HUN.out]
        rintro e v6 ⟨a_t, n_t, c_t, rfl, o_t, st⟩
        replace o_p := o_p.below st (Nat.le_refl _)
        replace o_w := o_w.below st (Nat.le_refl _)
        replace o_s := o_s.below st (Nat.le_refl _)
        replace hB := hB.trans (st.mono hB.size)
        clear st
        go_wp2_with fail
        refine (specUnPrufer_any _ _ _ _ _ o_s.has).mono ?_
        rw [HUN.out]
        rintro e v7 ⟨a_u, n_u, c_u, rfl, o_u, st⟩
        replace o_p := o_p.below st (Nat.le_refl _)
        replace o_w := o_w.below st (Nat.le_refl _)
        replace o_s := o_s.below st (Nat.le_refl _)
        replace o_t := o_t.below st (Nat.le_refl _)
        replace hB := hB.trans (st.mono hB.size)
        clear st
        go_wp2_with fail
        refine (wSame_any _ _ _ _ _ _ _ _ _ o_t.has o_u.has).mono ?_
        rw [same_self]
        rintro e v8 ⟨rfl, q⟩
        have st : Below v7.heap.size v7 v8 := q.below _
        replace o_p := o_p.below st (Nat.le_refl _)
        replace o_w := o_w.below st (Nat.le_refl _)
        replace o_s := o_s.below st (Nat.le_refl _)
        replace o_t := o_t.below st (Nat.le_refl _)
        replace o_u := o_u.below st (Nat.le_refl _)
        replace hB := hB.trans (st.mono hB.size)
        clear st
        clear q
        clear o_u
        go_wp2_with fail
        refine (implPrufer_any _ _ _ _ _ o_t.has).mono ?_
        rw [HPU.out]
        rintro e v9 ⟨a_g, n_g, c_g, rfl, o_g, st⟩
        replace o_p := o_p.below st (Nat.le_refl _)
        replace o_w := o_w.below st (Nat.le_refl _)
        replace o_s := o_s.below st (Nat.le_refl _)
        replace o_t := o_t.below st (Nat.le_refl _)
        replace hB := hB.trans (st.mono hB.size)
        clear st
        go_wp2_with fail
        refine (wSame_any _ _ _ _ _ _ _ _ _ o_g.has o_s.has).mono ?_
        rw [same_self]
        rintro e v10 ⟨rfl, q⟩
        have st : Below v9.heap.size v9 v10 := q.below _
        replace o_p := o_p.below st (Nat.le_refl _)
        replace o_w := o_w.below st (Nat.le_refl _)
        replace o_s := o_s.below st (Nat.le_refl _)
        replace o_t := o_t.below st (Nat.le_refl _)
        replace o_g := o_g.below st (Nat.le_refl _)
        replace hB := hB.trans (st.mono hB.size)
        clear st
        clear q
        clear o_g
        go_wp2_with fail
        refine (isTree_any _ _ _ _ _ o_t.has).mono ?_
        rw [HTU.out]
        rintro e v11 ⟨rfl, st⟩
        replace o_p := o_p.below st (Nat.le_refl _)
        replace o_w := o_w.below st (Nat.le_refl _)
        replace o_s := o_s.below st (Nat.le_refl _)
        replace o_t := o_t.below st (Nat.le_refl _)
        replace hB := hB.trans (st.mono hB.size)
        clear st
        clear o_t o_s
        go_wp2_with fail
        refine (implUnPrufer_any _ _ _ _ _ o_w.has).mono ?_
        rw [HUP.out]
        rintro e v12 ⟨a_k, n_k, c_k, rfl, o_k, st⟩
        replace o_p := o_p.below st (Nat.le_refl _)
        replace o_w := o_w.below st (Nat.le_refl _)
        replace hB := hB.trans (st.mono hB.size)
        clear st
        go_wp2_with fail
        refine (implDegrees_any _ _ _ _ _ o_p.has).mono ?_
        rw [HDG.out]
        rintro e v13 ⟨a_d, n_d, c_d, rfl, o_d, st⟩
        replace o_p := o_p.below st (Nat.le_refl _)
        replace o_w := o_w.below st (Nat.le_refl _)
        replace o_k := o_k.below st (Nat.le_refl _)
        replace hB := hB.trans (st.mono hB.size)
        clear st
        go_wp2_with fail
        refine (implLeaves_any _ _ _ _ _ o_p.has).mono ?_
        rw [HLV.out]
        rintro e v14 ⟨a_l, n_l, c_l, rfl, o_l, st⟩
        replace o_p := o_p.below st (Nat.le_refl _)
        replace o_w := o_w.below st (Nat.le_refl _)
        replace o_k := o_k.below st (Nat.le_refl _)
        replace o_d := o_d.below st (Nat.le_refl _)
        replace hB := hB.trans (st.mono hB.size)
        clear st
        have hlw : n_w + 1 = n_p := by have := HLW.out; rw [o_w.len] at this; exact this
        have hbl : ((n_w : Int) != (n_p : Int) - 1) = false := by simp; omega
        go_wp2_with fail
        refine (wSame_any _ _ _ _ _ _ _ _ _ o_k.has o_p.has).mono ?_
        rw [same_self]
        rintro e v15 ⟨rfl, q⟩
        have st : Below v14.heap.size v14 v15 := q.below _
        replace o_p := o_p.below st (Nat.le_refl _)
        replace o_w := o_w.below st (Nat.le_refl _)
        replace o_k := o_k.below st (Nat.le_refl _)
        replace o_d := o_d.below st (Nat.le_refl _)
        replace o_l := o_l.below st (Nat.le_refl _)
        replace hB := hB.trans (st.mono hB.size)
        clear st
        clear q
        clear o_k
        have hnd : n_d = n_p + 1 := by have := o_d.len; rw [length_degL, HLP.out] at this; omega
        obtain ⟨_, _, _, _, cd⟩ := o_d.has
        obtain ⟨_, _, _, _, cw⟩ := o_w.has
        have HCL := o_l.has
        have HLWW := hid o_w.len
        have HLD := hid o_d.len
        clear o_d o_l o_w o_p
        clear hlw
        have HND := hid hnd
        clear hnd
        go_wp2_with fail
        go_loop [135] (fun i => ∃ k : Nat, k ≤ n_d ∧ i = .int .i64 (k : Int)) (fun i => n_d - (intOf i).toNat)
        case atStart => exact ⟨0, Nat.zero_le _, rfl⟩
        case round =>
          obtain ⟨k, hk, rfl⟩ := hrel
          by_cases hlt : k < n_d
          · skip
            obtain ⟨f1, f2⟩ := node_facts (k := k) HTX.out HLP.out hnp0 (by have := HND.out; omega)
            have HF1 := hid f1
            have HF2 := hid f2
            clear f1 f2
            obtain ⟨bd, od, rfl, hbd, hcd⟩ := cd (by omega)
            have hck := hcd k hlt
            clear hcd cd
            go_wp2_with fail
            go_loop [25, 142] (fun tm i => ∃ j t : Nat, j ≤ n_w ∧ i = .int .i64 (j : Int) ∧ tm = .int .i64 (t : Int) ∧ t ≤ j ∧ Hid (((pruOf xs).take j).count (k : Int) = t)) (fun _ i => n_w - (intOf i).toNat)
            case atStart => exact ⟨0, 0, Nat.zero_le _, rfl, rfl, Nat.le_refl _, hid (by simp)⟩
            case round =>
              obtain ⟨j, t, hj, rfl, rfl, htj, HC⟩ := hrel
              have hnw8 : n_w ≤ 9 := by have := HND.out; have := HLW.out; rw [HLWW.out] at this; omega
              by_cases hjl : j < n_w
              · skip
                obtain ⟨bw, ow, rfl, hbw, hcw⟩ := cw (by omega)
                have hcj := hcw j hjl
                clear hcw cw
                by_cases he : nth (pruOf xs) j = (k : Int)
                · skip
                  have hbe : (nth (pruOf xs) j == (k : Int)) = true := by simp [he]
                  have HS : Hid (((pruOf xs).take (j + 1)).count (k : Int) = t + 1) := hid (by rw [count_succ (by rw [HLWW.out]; exact hjl), HC.out, if_pos he])
                  clear he
                  go_wp2_with fail
                  go_round
                  case rel => exact ⟨j + 1, t + 1, by omega, by go_num, by go_num, by omega, HS⟩
                  case measure => simp [intOf]; omega
                · skip
                  have hbe : (nth (pruOf xs) j == (k : Int)) = false := by simp [he]
                  have HS : Hid (((pruOf xs).take (j + 1)).count (k : Int) = t) := hid (by rw [count_succ (by rw [HLWW.out]; exact hjl), HC.out, if_neg he]; rfl)
                  clear he
                  go_wp2_with fail
                  go_round
                  case rel => exact ⟨j + 1, t, by omega, by go_num, rfl, by omega, HS⟩
                  case measure => simp [intOf]; omega
              · skip
                obtain rfl : j = n_w := by omega
                have hc : (pruOf xs).count (k : Int) = t := by have := HC.out; rwa [List.take_of_length_le (by rw [HLWW.out]; exact Nat.le_refl _)] at this
                have hdk : nth (degL xs) k = (t : Int) + 1 := by have := HF1.out; rw [hc] at this; exact this
                have HHL : Hid (1 ≤ k → hasB (leavesL xs) (k : Int) = decide (t = 0)) := hid (by intro h1; have := HF2.out h1; rw [hc] at this; exact this)
                rw [hdk] at hck
                clear hc HF1 HF2 HC
                have hne : ((t : Int) + 1 != (t : Int) + 1) = false := by simp
                by_cases hk0 : k = 0
                · skip
                  subst hk0
                  have hgt : ¬ (0 : Int) < 0 := by omega
                  go_wp2_with fail
                  go_round
                  case rel => exact ⟨0 + 1, by omega, by go_num⟩
                  case measure => simp [intOf]; omega
                · skip
                  by_cases ht0 : t = 0
                  · skip
                    subst ht0
                    have HH : Hid (hasB (leavesL xs) (k : Int) = true) := hid (by rw [HHL.out (by omega)]; simp)
                    have hkp : (0 : Int) < (k : Int) := by omega
                    go_wp2_with fail
                    refine (wHas_any _ _ _ _ _ _ HCL).mono ?_
                    rw [HH.out]
                    rintro e _ ⟨rfl, rfl⟩
                    go_wp2_with fail
                    go_round
                    case rel => exact ⟨k + 1, by omega, by go_num⟩
                    case measure => simp [intOf]; omega
                  · skip
                    have HH : Hid (hasB (leavesL xs) (k : Int) = false) := hid (by rw [HHL.out (by omega)]; simp [ht0])
                    have hd1 : ((t : Int) + 1 == 1) = false := by simp; omega
                    have hkp : (0 : Int) < (k : Int) := by omega
                    go_wp2_with fail
                    refine (wHas_any _ _ _ _ _ _ HCL).mono ?_
                    rw [HH.out]
                    rintro e _ ⟨rfl, rfl⟩
                    go_wp2_with fail
                    go_round
                    case rel => exact ⟨k + 1, by omega, by go_num⟩
                    case measure => simp [intOf]; omega
          · skip
            obtain rfl : k = n_d := by omega
            go_wp2_with fail
            go_ret
            exact ⟨rfl, hB⟩
      · skip
        have HUN : Hid (unB ws = ([], false)) := hid (unB_no HLS.out (by by_cases e : n_s < 8; exact .inr (Bool.eq_false_iff.2 fun hh => hw ⟨e, hh⟩); exact .inl e))
        clear hw
        go_wp2_with fail
        refine (implUnPrufer_any _ _ _ _ _ o_s.has).mono ?_
        rw [HUN.out]
        rintro e v6 ⟨a_t, n_t, c_t, rfl, o_t, st⟩
        replace o_p := o_p.below st (Nat.le_refl _)
        replace o_w := o_w.below st (Nat.le_refl _)
        replace o_s := o_s.below st (Nat.le_refl _)
        replace hB := hB.trans (st.mono hB.size)
        clear st
        go_wp2_with fail
        refine (specUnPrufer_any _ _ _ _ _ o_s.has).mono ?_
        rw [HUN.out]
        rintro e v7 ⟨a_u, n_u, c_u, rfl, o_u, st⟩
        replace o_p := o_p.below st (Nat.le_refl _)
        replace o_w := o_w.below st (Nat.le_refl _)
        replace o_s := o_s.below st (Nat.le_refl _)
        replace o_t := o_t.below st (Nat.le_refl _)
        replace hB := hB.trans (st.mono hB.size)
        clear st
        go_wp2_with fail
        refine (wSame_any _ _ _ _ _ _ _ _ _ o_t.has o_u.has).mono ?_
        rw [same_self]
        rintro e v8 ⟨rfl, q⟩
        have st : Below v7.heap.size v7 v8 := q.below _
        replace o_p := o_p.below st (Nat.le_refl _)
        replace o_w := o_w.below st (Nat.le_refl _)
        replace o_s := o_s.below st (Nat.le_refl _)
        replace o_t := o_t.below st (Nat.le_refl _)
        replace o_u := o_u.below st (Nat.le_refl _)
        replace hB := hB.trans (st.mono hB.size)
        clear st
        clear q
        clear o_u o_t o_s
        go_wp2_with fail
        refine (implUnPrufer_any _ _ _ _ _ o_w.has).mono ?_
        rw [HUP.out]
        rintro e v9 ⟨a_k, n_k, c_k, rfl, o_k, st⟩
        replace o_p := o_p.below st (Nat.le_refl _)
        replace o_w := o_w.below st (Nat.le_refl _)
        replace hB := hB.trans (st.mono hB.size)
        clear st
        go_wp2_with fail
        refine (implDegrees_any _ _ _ _ _ o_p.has).mono ?_
        rw [HDG.out]
        rintro e v10 ⟨a_d, n_d, c_d, rfl, o_d, st⟩
        replace o_p := o_p.below st (Nat.le_refl _)
        replace o_w := o_w.below st (Nat.le_refl _)
        replace o_k := o_k.below st (Nat.le_refl _)
        replace hB := hB.trans (st.mono hB.size)
        clear st
        go_wp2_with fail
        refine (implLeaves_any _ _ _ _ _ o_p.has).mono ?_
        rw [HLV.out]
        rintro e v11 ⟨a_l, n_l, c_l, rfl, o_l, st⟩
        replace o_p := o_p.below st (Nat.le_refl _)
        replace o_w := o_w.below st (Nat.le_refl _)
        replace o_k := o_k.below st (Nat.le_refl _)
        replace o_d := o_d.below st (Nat.le_refl _)
        replace hB := hB.trans (st.mono hB.size)
        clear st
        have hlw : n_w + 1 = n_p := by have := HLW.out; rw [o_w.len] at this; exact this
        have hbl : ((n_w : Int) != (n_p : Int) - 1) = false := by simp; omega
        go_wp2_with fail
        refine (wSame_any _ _ _ _ _ _ _ _ _ o_k.has o_p.has).mono ?_
        rw [same_self]
        rintro e v12 ⟨rfl, q⟩
        have st : Below v11.heap.size v11 v12 := q.below _
        replace o_p := o_p.below st (Nat.le_refl _)
        replace o_w := o_w.below st (Nat.le_refl _)
        replace o_k := o_k.below st (Nat.le_refl _)
        replace o_d := o_d.below st (Nat.le_refl _)
        replace o_l := o_l.below st (Nat.le_refl _)
        replace hB := hB.trans (st.mono hB.size)
        clear st
        clear q
        clear o_k
        have hnd : n_d = n_p + 1 := by have := o_d.len; rw [length_degL, HLP.out] at this; omega
        obtain ⟨_, _, _, _, cd⟩ := o_d.has
        obtain ⟨_, _, _, _, cw⟩ := o_w.has
        have HCL := o_l.has
        have HLWW := hid o_w.len
        have HLD := hid o_d.len
        clear o_d o_l o_w o_p
        clear hlw
        have HND := hid hnd
        clear hnd
        go_wp2_with fail
        go_loop [135] (fun i => ∃ k : Nat, k ≤ n_d ∧ i = .int .i64 (k : Int)) (fun i => n_d - (intOf i).toNat)
        case atStart => exact ⟨0, Nat.zero_le _, rfl⟩
        case round =>
          obtain ⟨k, hk, rfl⟩ := hrel
          by_cases hlt : k < n_d
          · skip
            obtain ⟨f1, f2⟩ := node_facts (k := k) HTX.out HLP.out hnp0 (by have := HND.out; omega)
            have HF1 := hid f1
            have HF2 := hid f2
            clear f1 f2
            obtain ⟨bd, od, rfl, hbd, hcd⟩ := cd (by omega)
            have hck := hcd k hlt
            clear hcd cd
            go_wp2_with fail
            go_loop [25, 142] (fun tm i => ∃ j t : Nat, j ≤ n_w ∧ i = .int .i64 (j : Int) ∧ tm = .int .i64 (t : Int) ∧ t ≤ j ∧ Hid (((pruOf xs).take j).count (k : Int) = t)) (fun _ i => n_w - (intOf i).toNat)
            case atStart => exact ⟨0, 0, Nat.zero_le _, rfl, rfl, Nat.le_refl _, hid (by simp)⟩
            case round =>
              obtain ⟨j, t, hj, rfl, rfl, htj, HC⟩ := hrel
              have hnw8 : n_w ≤ 9 := by have := HND.out; have := HLW.out; rw [HLWW.out] at this; omega
              by_cases hjl : j < n_w
              · skip
                obtain ⟨bw, ow, rfl, hbw, hcw⟩ := cw (by omega)
                have hcj := hcw j hjl
                clear hcw cw
                by_cases he : nth (pruOf xs) j = (k : Int)
                · skip
                  have hbe : (nth (pruOf xs) j == (k : Int)) = true := by simp [he]
                  have HS : Hid (((pruOf xs).take (j + 1)).count (k : Int) = t + 1) := hid (by rw [count_succ (by rw [HLWW.out]; exact hjl), HC.out, if_pos he])
                  clear he
                  go_wp2_with fail
                  go_round
                  case rel => exact ⟨j + 1, t + 1, by omega, by go_num, by go_num, by omega, HS⟩
                  case measure => simp [intOf]; omega
                · skip
                  have hbe : (nth (pruOf xs) j == (k : Int)) = false := by simp [he]
                  have HS : Hid (((pruOf xs).take (j + 1)).count (k : Int) = t) := hid (by rw [count_succ (by rw [HLWW.out]; exact hjl), HC.out, if_neg he]; rfl)
                  clear he
                  go_wp2_with fail
                  go_round
                  case rel => exact ⟨j + 1, t, by omega, by go_num, rfl, by omega, HS⟩
                  case measure => simp [intOf]; omega
              · skip
                obtain rfl : j = n_w := by omega
                have hc : (pruOf xs).count (k : Int) = t := by have := HC.out; rwa [List.take_of_length_le (by rw [HLWW.out]; exact Nat.le_refl _)] at this
                have hdk : nth (degL xs) k = (t : Int) + 1 := by have := HF1.out; rw [hc] at this; exact this
                have HHL : Hid (1 ≤ k → hasB (leavesL xs) (k : Int) = decide (t = 0)) := hid (by intro h1; have := HF2.out h1; rw [hc] at this; exact this)
                rw [hdk] at hck
                clear hc HF1 HF2 HC
                have hne : ((t : Int) + 1 != (t : Int) + 1) = false := by simp
                by_cases hk0 : k = 0
                · skip
                  subst hk0
                  have hgt : ¬ (0 : Int) < 0 := by omega
                  go_wp2_with fail
                  go_round
                  case rel => exact ⟨0 + 1, by omega, by go_num⟩
                  case measure => simp [intOf]; omega
                · skip
                  by_cases ht0 : t = 0
                  · skip
                    subst ht0
                    have HH : Hid (hasB (leavesL xs) (k : Int) = true) := hid (by rw [HHL.out (by omega)]; simp)
                    have hkp : (0 : Int) < (k : Int) := by omega
                    go_wp2_with fail
                    refine (wHas_any _ _ _ _ _ _ HCL).mono ?_
                    rw [HH.out]
                    rintro e _ ⟨rfl, rfl⟩
                    go_wp2_with fail
                    go_round
                    case rel => exact ⟨k + 1, by omega, by go_num⟩
                    case measure => simp [intOf]; omega
                  · skip
                    have HH : Hid (hasB (leavesL xs) (k : Int) = false) := hid (by rw [HHL.out (by omega)]; simp [ht0])
                    have hd1 : ((t : Int) + 1 == 1) = false := by simp; omega
                    have hkp : (0 : Int) < (k : Int) := by omega
                    go_wp2_with fail
                    refine (wHas_any _ _ _ _ _ _ HCL).mono ?_
                    rw [HH.out]
                    rintro e _ ⟨rfl, rfl⟩
                    go_wp2_with fail
                    go_round
                    case rel => exact ⟨k + 1, by omega, by go_num⟩
                    case measure => simp [intOf]; omega
          · skip
            obtain rfl : k = n_d := by omega
            go_wp2_with fail
            go_ret
            exact ⟨rfl, hB⟩
    · skip
      have HPR : Hid (pruB xs = ([], false)) := hid (pruB_no (by by_cases e : treeB xs = true; exact .inr (by rw [HLP.out]; exact Nat.eq_zero_of_not_pos fun hh => hg ⟨e, hh⟩); exact .inl (Bool.eq_false_iff.2 e)))
      clear hg
      go_wp2_with fail
      refine (implPrufer_any _ _ _ _ _ o_p.has).mono ?_
      rw [HPR.out]
      rintro e v2 ⟨a_w, n_w, c_w, rfl, o_w, st⟩
      replace o_p := o_p.below st (Nat.le_refl _)
      replace hB := hB.trans (st.mono hB.size)
      clear st
      go_wp2_with fail
      refine (specPrufer_any _ _ _ _ _ o_p.has).mono ?_
      rw [HPR.out]
      rintro e v3 ⟨a_r, n_r, c_r, rfl, o_r, st⟩
      replace o_p := o_p.below st (Nat.le_refl _)
      replace o_w := o_w.below st (Nat.le_refl _)
      replace hB := hB.trans (st.mono hB.size)
      clear st
      go_wp2_with fail
      refine (wSame_any _ _ _ _ _ _ _ _ _ o_w.has o_r.has).mono ?_
      rw [same_self]
      rintro e v4 ⟨rfl, q⟩
      have st : Below v3.heap.size v3 v4 := q.below _
      replace o_p := o_p.below st (Nat.le_refl _)
      replace o_w := o_w.below st (Nat.le_refl _)
      replace o_r := o_r.below st (Nat.le_refl _)
      replace hB := hB.trans (st.mono hB.size)
      clear st
      clear q
      clear o_r
      go_wp2_with fail
      refine (drawWord_any b m cap' _ (HM.out.grow hB (Nat.le_refl _))).mono ?_
      rintro e v5 ⟨a_s, n_s, c_s, ws, rfl, o_s, hns, st⟩
      replace o_p := o_p.below st (Nat.le_refl _)
      replace o_w := o_w.below st (Nat.le_refl _)
      replace hB := hB.trans (st.mono hB.size)
      clear st
      have HLS := hid o_s.len
      by_cases hw : n_s < 8 ∧ allB ws 0 ((n_s : Int) + 1) = true
      · skip
        obtain ⟨u1, u2, u3⟩ := un_facts HLS.out hw.1 hw.2
        have HUN := hid u1
        have HPU := hid u2
        have HTU := hid u3
        clear hw u1 u2 u3
        go_wp2_with fail
        refine (implUnPrufer_any _ _ _ _ _ o_s.has).mono ?_
        rw [HUN.out]
        rintro e v6 ⟨a_t, n_t, c_t, rfl, o_t, st⟩
        replace o_p := o_p.below st (Nat.le_refl _)
        replace o_w := o_w.below st (Nat.le_refl _)
        replace o_s := o_s.below st (Nat.le_refl _)
        replace hB := hB.trans (st.mono hB.size)
        clear st
        go_wp2_with fail
        refine (specUnPrufer_any _ _ _ _ _ o_s.has).mono ?_
        rw [HUN.out]
        rintro e v7 ⟨a_u, n_u, c_u, rfl, o_u, st⟩
        replace o_p := o_p.below st (Nat.le_refl _)
        replace o_w := o_w.below st (Nat.le_refl _)
        replace o_s := o_s.below st (Nat.le_refl _)
        replace o_t := o_t.below st (Nat.le_refl _)
        replace hB := hB.trans (st.mono hB.size)
        clear st
        go_wp2_with fail
        refine (wSame_any _ _ _ _ _ _ _ _ _ o_t.has o_u.has).mono ?_
        rw [same_self]
        rintro e v8 ⟨rfl, q⟩
        have st : Below v7.heap.size v7 v8 := q.below _
        replace o_p := o_p.below st (Nat.le_refl _)
        replace o_w := o_w.below st (Nat.le_refl _)
        replace o_s := o_s.below st (Nat.le_refl _)
        replace o_t := o_t.below st (Nat.le_refl _)
        replace o_u := o_u.below st (Nat.le_refl _)
        replace hB := hB.trans (st.mono hB.size)
        clear st
        clear q
        clear o_u
        go_wp2_with fail
        refine (implPrufer_any _ _ _ _ _ o_t.has).mono ?_
        rw [HPU.out]
        rintro e v9 ⟨a_g, n_g, c_g, rfl, o_g, st⟩
        replace o_p := o_p.below st (Nat.le_refl _)
        replace o_w := o_w.below st (Nat.le_refl _)
        replace o_s := o_s.below st (Nat.le_refl _)
        replace o_t := o_t.below st (Nat.le_refl _)
        replace hB := hB.trans (st.mono hB.size)
        clear st
        go_wp2_with fail
        refine (wSame_any _ _ _ _ _ _ _ _ _ o_g.has o_s.has).mono ?_
        rw [same_self]
        rintro e v10 ⟨rfl, q⟩
        have st : Below v9.heap.size v9 v10 := q.below _
        replace o_p := o_p.below st (Nat.le_refl _)
        replace o_w := o_w.below st (Nat.le_refl _)
        replace o_s := o_s.below st (Nat.le_refl _)
        replace o_t := o_t.below st (Nat.le_refl _)
        replace o_g := o_g.below st (Nat.le_refl _)
        replace hB := hB.trans (st.mono hB.size)
        clear st
        clear q
        clear o_g
        go_wp2_with fail
        refine (isTree_any _ _ _ _ _ o_t.has).mono ?_
        rw [HTU.out]
        rintro e v11 ⟨rfl, st⟩
        replace o_p := o_p.below st (Nat.le_refl _)
        replace o_w := o_w.below st (Nat.le_refl _)
        replace o_s := o_s.below st (Nat.le_refl _)
        replace o_t := o_t.below st (Nat.le_refl _)
        replace hB := hB.trans (st.mono hB.size)
        clear st
        clear o_t o_s
        go_wp2_with fail
        go_ret
        exact ⟨rfl, hB⟩
      · skip
        have HUN : Hid (unB ws = ([], false)) := hid (unB_no HLS.out (by by_cases e : n_s < 8; exact .inr (Bool.eq_false_iff.2 fun hh => hw ⟨e, hh⟩); exact .inl e))
        clear hw
        go_wp2_with fail
        refine (implUnPrufer_any _ _ _ _ _ o_s.has).mono ?_
        rw [HUN.out]
        rintro e v6 ⟨a_t, n_t, c_t, rfl, o_t, st⟩
        replace o_p := o_p.below st (Nat.le_refl _)
        replace o_w := o_w.below st (Nat.le_refl _)
        replace o_s := o_s.below st (Nat.le_refl _)
        replace hB := hB.trans (st.mono hB.size)
        clear st
        go_wp2_with fail
        refine (specUnPrufer_any _ _ _ _ _ o_s.has).mono ?_
        rw [HUN.out]
        rintro e v7 ⟨a_u, n_u, c_u, rfl, o_u, st⟩
        replace o_p := o_p.below st (Nat.le_refl _)
        replace o_w := o_w.below st (Nat.le_refl _)
        replace o_s := o_s.below st (Nat.le_refl _)
        replace o_t := o_t.below st (Nat.le_refl _)
        replace hB := hB.trans (st.mono hB.size)
        clear st
        go_wp2_with fail
        refine (wSame_any _ _ _ _ _ _ _ _ _ o_t.has o_u.has).mono ?_
        rw [same_self]
        rintro e v8 ⟨rfl, q⟩
        have st : Below v7.heap.size v7 v8 := q.below _
        replace o_p := o_p.below st (Nat.le_refl _)
        replace o_w := o_w.below st (Nat.le_refl _)
        replace o_s := o_s.below st (Nat.le_refl _)
        replace o_t := o_t.below st (Nat.le_refl _)
        replace o_u := o_u.below st (Nat.le_refl _)
        replace hB := hB.trans (st.mono hB.size)
        clear st
        clear q
        clear o_u o_t o_s
        go_wp2_with fail
        go_ret
        exact ⟨rfl, hB⟩
end Go.Proofs.Ytochmifhhigfhab
