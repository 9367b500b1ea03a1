/- The law of parking functions and trees, walked. -/
import Derived.Test.YtochmifhhigfhacNamed
import Derived.Test.YtochmifhhigfhacW
import Derived.Test.YtochmifhhigfhacJ
import Derived.Test.YtochmifhhigfhacSpecTd
import Derived.Test.YtochmifhhigfhacMathPt
import Derived.Test.YtochmifhhigfhacImplTr
import Derived.Test.YtochmifhhigfhacImplTs
import Derived.Test.YtochmifhhigfhacImplTv
import Derived.Test.YtochmifhhigfhacSpecTu
import Derived.Test.YtochmifhhigfhacSpecTv
import Derived.Test.YtochmifhhigfhacImplC
namespace Go.Proofs.Ytochmifhhigfhac
open Go.RowKit

set_option maxHeartbeats 800000 in
theorem drawParkT_any (a : Option Addr) (n cap : Nat) (w : World) (h : HasB w a n w.heap.size) :
    Calls Try.prog 6 #[.slice a n cap] w fun e w' => ∃ a n cap xs, e = .returned (.slice a n cap) ∧ Own w' w.heap.size a n cap xs ∧ n ≤ 10 ∧ Below w.heap.size w w' := by
  have C0 := cur_new (cap := cap) h
  go_enter Try.func6, Try.ntmps6
  go_wp2_with fail
  refine (park_cur _ 0 8 _ C0 (by omega) (by omega) (by omega)).mono ?_
  rintro e w1 ⟨a1, n1, cap1, xs1, t1, rfl, o1, hn1, hw1, A1, ht1⟩
  have o1' := o1.mono (B' := w.heap.size) (by simp)
  have hb := (alloc_below w (.cells #[.slice a n cap, .int .i64 0, .int .u64 0] 40)).trans A1.below
  clear A1
  go_wp2_with fail
  go_ret
  exact ⟨_, _, _, _, rfl, o1', hn1, hb⟩

set_option maxHeartbeats 800000 in
theorem drawTreeP_any (a : Option Addr) (n cap : Nat) (w : World) (h : HasB w a n w.heap.size) :
    Calls Try.prog 11 #[.slice a n cap] w (DrewTree' w) := by
  have C0 := cur_new (cap := cap) h
  go_enter Try.func11, Try.ntmps11
  go_wp2_with fail
  refine (tree_cur _ 0 8 _ C0 (by omega) (by omega) (by omega)).mono ?_
  rintro e w1 ⟨a1, n1, cap1, xs1, t1, rfl, o1, hn1, A1, _⟩
  have o1' := o1.mono (B' := w.heap.size) (by simp)
  have hb := (alloc_below w (.cells #[.slice a n cap, .int .i64 0, .int .u64 0] 40)).trans A1.below
  clear A1
  go_wp2_with fail
  go_ret
  exact ⟨_, _, _, _, rfl, o1', hn1, hb⟩

theorem isPark_asked {xs : List Int} (h : isPark xs = true) : asked xs = true := by
  obtain ⟨h1, h2, _⟩ := isPark_iff.1 h
  simp only [asked, Bool.and_eq_true, decide_eq_true_eq, allB_iff]
  exact ⟨h1, fun x hx => by have := h2 x hx; omega⟩
set_option maxHeartbeats 400000 in
theorem wParking_any (a : Option Addr) (n cap : Nat) (xs : List Int) (w : World) (h : Has w a n cap xs) :
    Calls Try.prog 10 #[.slice a n cap] w (PostBool w (isPark xs)) := by
  by_cases hp : isPark xs = true
  · have HI : Hid (isParking xs = (true, true)) := hid (by simp [isParking, isPark_asked hp, hp])
    have HP := hid hp
    clear hp
    go_enter Try.func10, Try.ntmps10
    go_wp2_with fail
    refine (isParking_any _ _ _ _ _ h).mono ?_
    rw [HI.out]
    rintro e w1 ⟨rfl, hb⟩
    go_wp2_with fail
    go_ret
    exact postBool HP.out.symm hb
  · have HP := hid (Bool.eq_false_iff.2 hp)
    obtain ⟨ok, hok⟩ : ∃ ok, isParking xs = (false, ok) := by
      by_cases ha : asked xs = true
      · exact ⟨true, by simp [isParking, ha, Bool.eq_false_iff.2 hp]⟩
      · exact ⟨false, by simp [isParking, ha]⟩
    have HI := hid hok
    clear hok hp
    go_enter Try.func10, Try.ntmps10
    go_wp2_with fail
    refine (isParking_any _ _ _ _ _ h).mono ?_
    rw [HI.out]
    rintro e w1 ⟨rfl, hb⟩
    cases ok with
    | true =>
      go_wp2_with fail
      go_ret
      exact postBool HP.out.symm hb
    | false =>
      go_wp2_with fail
      go_ret
      exact postBool HP.out.symm hb

theorem tp_facts {xs : List Int} {n : Nat} (hp : isPark xs = true) (hl : xs.length = n) :
    tpOf xs = (tpL xs, true) ∧ potOf (tpL xs) = (xs, true) ∧ brOf (tpL xs) = (tpo xs n, true) ∧ degOf (tpL xs) = (degL (tpL xs), true) ∧ treeB (tpL xs) = true ∧ Ord xs (tpo xs n) n := by
  have ho := ord_of hp hl
  have ht := (ho.tree hp).b
  exact ⟨by simp [tpOf, hp], by simp [potOf, ht, ho.pot hp], by simp [brOf, ht, ho.br hp], by simp [degOf, ht], ht, ho⟩
theorem pot_facts {ts : List Int} {n : Nat} (hp : treeB ts = true) (hl : ts.length = n) :
    potOf ts = (potL ts, true) ∧ tpOf (potL ts) = (ts, true) ∧ isPark (potL ts) = true := by
  have ht := tree_of hp hl
  have hk := pot_park ht
  exact ⟨by simp [potOf, hp], by simp [tpOf, hk, tp_pot ht], hk⟩
theorem Ord.zero {xs O : List Int} {n : Nat} (hp : isPark xs = true) (h : Ord xs O n) : nth O 0 = 0 ∧ nth (degL (tpL xs)) 0 = (xs.count 0 : Int) := by
  have h0 := h.first hp
  refine ⟨h0, ?_⟩
  have hc := h.children (k := 0) (by omega)
  rw [h0] at hc
  rw [show nth (degL (tpL xs)) 0 = (deg (tpL xs) 0 : Int) from nth_degL (by omega)]
  unfold deg
  simp only [if_pos, Nat.zero_add]
  exact_mod_cast hc
theorem Ord.succ {xs O : List Int} {n k : Nat} (hp : isPark xs = true) (h : Ord xs O n) (h1 : 1 ≤ k) (hk : k ≤ n) : ∃ v : Nat, nth O k = ((v + 1 : Nat) : Int) ∧ v < n ∧ nth (degL (tpL xs)) (v + 1) = (xs.count (k : Int) : Int) + 1 := by
  have hm := nth_mem (xs := O) (i := k) (by rw [h.olen]; omega)
  have hb : 0 ≤ nth O k ∧ nth O k ≤ n := by
    rw [h.is, mem_tpo h.nn] at hm
    rw [← h.is, h.len] at hm
    omega
  have h0 : nth O k ≠ 0 := fun e => by
    have := nth_inj h.nodup (i := k) (j := 0) (by rw [h.olen]; omega) (by rw [h.olen]; omega) (by rw [e, h.first hp])
    omega
  obtain ⟨v, hv⟩ : ∃ v : Nat, nth O k = ((v + 1 : Nat) : Int) := ⟨(nth O k).toNat - 1, by omega⟩
  refine ⟨v, hv, by omega, ?_⟩
  have hc := h.children hk
  rw [hv] at hc
  rw [nth_degL (by rw [length_tpL, h.len]; omega)]
  unfold deg
  rw [if_neg (by omega), hc]
  omega
theorem count_succP {xs : List Int} {x : Int} {j : Nat} (h : j < xs.length) : (xs.take (j + 1)).count x = (xs.take j).count x + if nth xs j = x then 1 else 0 := by
  rw [take_succ_nth h, List.count_append]
  by_cases e : nth xs j = x <;> simp [e]

set_option maxRecDepth 100000 in
set_option maxHeartbeats 32000000 in
theorem parktrees_walk (a b : Option Addr) (n m cap cap' : Nat) (w : World) (hn : n ≤ maxLen) (h : n ≤ 1048576 → HasB w a n w.heap.size) (h' : m ≤ 1048576 → HasB w b m w.heap.size) :
    Calls Try.prog 3 #[.slice a n cap, .slice b m cap'] w (Holds w) := by
  have H1 := hid h
  have H2 := hid h'
  have HN := hid hn
  clear h h' hn
  have hB : Below w.heap.size w w := Below.refl _ _
  go_enter Try.func3, Try.ntmps3
  go_wp2_with fail
  refine (big_any _ _ _ _ _ _ _ (by have := HN.out; unfold maxLen at this; omega)).mono ?_
  rintro e _ ⟨r, rfl, hr, rfl⟩
  have HR := hid hr
  clear hr
  cases r with
  | true =>
    go_wp2_with fail
    go_ret
    exact ⟨rfl, hB⟩
  | false =>
    have hnm := HR.out rfl
    clear HR
    have HA := hid (H1.out (by omega))
    have HM := hid (H2.out (by omega))
    clear H1 H2 HN
    go_wp2_with fail
    refine (drawParkT_any _ _ _ _ HA.out).mono ?_
    rintro e v1 ⟨a_p, n_p, c_p, xs, rfl, o_p, hnp, st⟩
    replace hB := hB.trans (st.mono hB.size)
    clear st
    have HLP := hid o_p.len
    by_cases hp : isPark xs = true
    · skip
      obtain ⟨f1, f2, f3, f4, f5, f6⟩ := tp_facts hp HLP.out
      have HTP := hid f1
      have HPP := hid f2
      have HBR := hid f3
      have HDG := hid f4
      have HTX := hid f5
      have HOR := hid f6
      have HIP := hid hp
      clear f1 f2 f3 f4 f5 f6 hp
      go_wp2_with fail
      refine (implTreeOf_any _ _ _ _ _ o_p.has).mono ?_
      rw [HTP.out]
      rintro e v2 ⟨a_w, n_w, c_w, rfl, o_w, st⟩
      replace o_p := o_p.below st (Nat.le_refl _)
      replace hB := hB.trans (st.mono hB.size)
      clear st
      go_wp2_with fail
      refine (specTreeOf_any _ _ _ _ _ o_p.has).mono ?_
      rw [HTP.out]
      rintro e v3 ⟨a_r, n_r, c_r, rfl, o_r, st⟩
      replace o_p := o_p.below st (Nat.le_refl _)
      replace o_w := o_w.below st (Nat.le_refl _)
      replace hB := hB.trans (st.mono hB.size)
      clear st
      go_wp2_with fail
      refine (wSame_any _ _ _ _ _ _ _ _ _ o_w.has o_r.has).mono ?_
      rw [same_self]
      rintro e v4 ⟨rfl, q⟩
      have st : Below v3.heap.size v3 v4 := q.below _
      replace o_p := o_p.below st (Nat.le_refl _)
      replace o_w := o_w.below st (Nat.le_refl _)
      replace o_r := o_r.below st (Nat.le_refl _)
      replace hB := hB.trans (st.mono hB.size)
      clear st
      clear q
      clear o_r
      go_wp2_with fail
      refine (wParking_any _ _ _ _ _ o_p.has).mono ?_
      rw [HIP.out]
      rintro e v5 ⟨rfl, st⟩
      replace o_p := o_p.below st (Nat.le_refl _)
      replace o_w := o_w.below st (Nat.le_refl _)
      replace hB := hB.trans (st.mono hB.size)
      clear st
      go_wp2_with fail
      refine (drawTreeP_any b m cap' _ (HM.out.grow hB (Nat.le_refl _))).mono ?_
      rintro e v6 ⟨a_s, n_s, c_s, ts, rfl, o_s, hns, st⟩
      replace o_p := o_p.below st (Nat.le_refl _)
      replace o_w := o_w.below st (Nat.le_refl _)
      replace hB := hB.trans (st.mono hB.size)
      clear st
      have HLS := hid o_s.len
      by_cases ht : treeB ts = true
      · skip
        obtain ⟨u1, u2, u3⟩ := pot_facts ht HLS.out
        have HPO := hid u1
        have HTO := hid u2
        have HIO := hid u3
        have HTT := hid ht
        clear ht u1 u2 u3
        go_wp2_with fail
        refine (implParkOf_any _ _ _ _ _ o_s.has).mono ?_
        rw [HPO.out]
        rintro e v7 ⟨a_k, n_k, c_k, rfl, o_k, st⟩
        replace o_p := o_p.below st (Nat.le_refl _)
        replace o_w := o_w.below st (Nat.le_refl _)
        replace o_s := o_s.below st (Nat.le_refl _)
        replace hB := hB.trans (st.mono hB.size)
        clear st
        go_wp2_with fail
        refine (specParkOf_any _ _ _ _ _ o_s.has).mono ?_
        rw [HPO.out]
        rintro e v8 ⟨a_u, n_u, c_u, rfl, o_u, st⟩
        replace o_p := o_p.below st (Nat.le_refl _)
        replace o_w := o_w.below st (Nat.le_refl _)
        replace o_s := o_s.below st (Nat.le_refl _)
        replace o_k := o_k.below st (Nat.le_refl _)
        replace hB := hB.trans (st.mono hB.size)
        clear st
        go_wp2_with fail
        refine (wSame_any _ _ _ _ _ _ _ _ _ o_k.has o_u.has).mono ?_
        rw [same_self]
        rintro e v9 ⟨rfl, q⟩
        have st : Below v8.heap.size v8 v9 := q.below _
        replace o_p := o_p.below st (Nat.le_refl _)
        replace o_w := o_w.below st (Nat.le_refl _)
        replace o_s := o_s.below st (Nat.le_refl _)
        replace o_k := o_k.below st (Nat.le_refl _)
        replace o_u := o_u.below st (Nat.le_refl _)
        replace hB := hB.trans (st.mono hB.size)
        clear st
        clear q
        clear o_u
        go_wp2_with fail
        refine (isTree_any _ _ _ _ _ o_s.has).mono ?_
        rw [HTT.out]
        rintro e v10 ⟨rfl, st⟩
        replace o_p := o_p.below st (Nat.le_refl _)
        replace o_w := o_w.below st (Nat.le_refl _)
        replace o_s := o_s.below st (Nat.le_refl _)
        replace o_k := o_k.below st (Nat.le_refl _)
        replace hB := hB.trans (st.mono hB.size)
        clear st
        go_wp2_with fail
        refine (implTreeOf_any _ _ _ _ _ o_k.has).mono ?_
        rw [HTO.out]
        rintro e v11 ⟨a_g, n_g, c_g, rfl, o_g, st⟩
        replace o_p := o_p.below st (Nat.le_refl _)
        replace o_w := o_w.below st (Nat.le_refl _)
        replace o_s := o_s.below st (Nat.le_refl _)
        replace o_k := o_k.below st (Nat.le_refl _)
        replace hB := hB.trans (st.mono hB.size)
        clear st
        go_wp2_with fail
        refine (wSame_any _ _ _ _ _ _ _ _ _ o_g.has o_s.has).mono ?_
        rw [same_self]
        rintro e v12 ⟨rfl, q⟩
        have st : Below v11.heap.size v11 v12 := q.below _
        replace o_p := o_p.below st (Nat.le_refl _)
        replace o_w := o_w.below st (Nat.le_refl _)
        replace o_s := o_s.below st (Nat.le_refl _)
        replace o_k := o_k.below st (Nat.le_refl _)
        replace o_g := o_g.below st (Nat.le_refl _)
        replace hB := hB.trans (st.mono hB.size)
        clear st
        clear q
        clear o_g
        go_wp2_with fail
        refine (wParking_any _ _ _ _ _ o_k.has).mono ?_
        rw [HIO.out]
        rintro e v13 ⟨rfl, st⟩
        replace o_p := o_p.below st (Nat.le_refl _)
        replace o_w := o_w.below st (Nat.le_refl _)
        replace o_s := o_s.below st (Nat.le_refl _)
        replace o_k := o_k.below st (Nat.le_refl _)
        replace hB := hB.trans (st.mono hB.size)
        clear st
        clear o_k o_s
        go_wp2_with fail
        refine (implParkOf_any _ _ _ _ _ o_w.has).mono ?_
        rw [HPP.out]
        rintro e v14 ⟨a_b, n_b, c_b, rfl, o_b, st⟩
        replace o_p := o_p.below st (Nat.le_refl _)
        replace o_w := o_w.below st (Nat.le_refl _)
        replace hB := hB.trans (st.mono hB.size)
        clear st
        go_wp2_with fail
        refine (implBreadth_any _ _ _ _ _ o_w.has).mono ?_
        rw [HBR.out]
        rintro e v15 ⟨a_d, n_d, c_d, rfl, o_d, st⟩
        replace o_p := o_p.below st (Nat.le_refl _)
        replace o_w := o_w.below st (Nat.le_refl _)
        replace o_b := o_b.below st (Nat.le_refl _)
        replace hB := hB.trans (st.mono hB.size)
        clear st
        go_wp2_with fail
        refine (implDegrees_any _ _ _ _ _ o_w.has).mono ?_
        rw [HDG.out]
        rintro e v16 ⟨a_e, n_e, c_e, rfl, o_e, st⟩
        replace o_p := o_p.below st (Nat.le_refl _)
        replace o_w := o_w.below st (Nat.le_refl _)
        replace o_b := o_b.below st (Nat.le_refl _)
        replace o_d := o_d.below st (Nat.le_refl _)
        replace hB := hB.trans (st.mono hB.size)
        clear st
        have hnd : n_d = n_p + 1 := by have := o_d.len; rw [HOR.out.olen] at this; exact this.symm
        have hne : n_e = n_p + 1 := by have := o_e.len; rw [length_degL, length_tpL, HLP.out] at this; exact this.symm
        subst hnd
        subst hne
        have hbl : (((n_p + 1 : Nat) : Int) != (n_p : Int) + 1) = false := by simp
        go_wp2_with fail
        refine (wSame_any _ _ _ _ _ _ _ _ _ o_b.has o_p.has).mono ?_
        rw [same_self]
        rintro e v17 ⟨rfl, q⟩
        have st : Below v16.heap.size v16 v17 := q.below _
        replace o_p := o_p.below st (Nat.le_refl _)
        replace o_w := o_w.below st (Nat.le_refl _)
        replace o_b := o_b.below st (Nat.le_refl _)
        replace o_d := o_d.below st (Nat.le_refl _)
        replace o_e := o_e.below st (Nat.le_refl _)
        replace hB := hB.trans (st.mono hB.size)
        clear st
        clear q
        clear o_b
        go_wp2_with fail
        refine (isTree_any _ _ _ _ _ o_w.has).mono ?_
        rw [HTX.out]
        rintro e v18 ⟨rfl, st⟩
        replace o_p := o_p.below st (Nat.le_refl _)
        replace o_w := o_w.below st (Nat.le_refl _)
        replace o_d := o_d.below st (Nat.le_refl _)
        replace o_e := o_e.below st (Nat.le_refl _)
        replace hB := hB.trans (st.mono hB.size)
        clear st
        obtain ⟨g1, rfl, _, _, cd, _⟩ := o_d.opened (by omega)
        obtain ⟨g2, rfl, _, _, ce, _⟩ := o_e.opened (by omega)
        obtain ⟨_, _, _, _, cp⟩ := o_p.has
        obtain ⟨z1, z2⟩ := HOR.out.zero HIP.out
        have hc0 := cd 0 (by omega)
        rw [z1] at hc0
        have he0 := ce 0 (by omega)
        rw [z2] at he0
        have HE0 := hid he0
        have HZ1 := hid z1
        clear z1 z2 he0
        have HCD := hid cd
        have HCE := hid ce
        have HCP := hid cp
        clear cd ce cp
        clear o_d o_e o_w o_p
        go_wp2_with fail
        go_loopw [159] (fun i wr => ∃ k : Nat, k ≤ n_p + 1 ∧ i = .int .i64 (k : Int) ∧ Quiet v18 wr) (fun i _ => n_p + 1 - (intOf i).toNat)
        case atStart => exact ⟨0, Nat.zero_le _, rfl, ⟨0, rfl⟩⟩
        case round =>
          obtain ⟨k, hk, rfl, qq, rfl⟩ := hrel
          by_cases hlt : k < n_p + 1
          · skip
            by_cases hk0 : k = 0
            · skip
              obtain ⟨c, hc⟩ : ∃ c : Nat, xs.count (k : Int) = c := ⟨_, rfl⟩
              have HC0 := hid hc
              have hck : v18.cell? ⟨g1, k, none⟩ = some (.int .i64 0) := by rw [hk0]; exact hc0
              have hev : v18.cell? ⟨g2, 0, none⟩ = some (.int .i64 (c : Int)) := by have := HE0.out; rw [← hc, hk0]; exact this
              have hkg : ¬ (1 : Int) < (k : Int) := by omega
              have hkd : decide ((1 : Int) < (k : Int)) = false := by simp; omega
              clear hc hk0 hc0
              go_wp2_with fail
              go_loop [25, 166] (fun tm i => ∃ j t : Nat, j ≤ n_p ∧ i = .int .i64 (j : Int) ∧ tm = .int .i64 (t : Int) ∧ t ≤ j ∧ Hid ((xs.take j).count (k : Int) = t)) (fun _ i => n_p - (intOf i).toNat)
              case atStart => exact ⟨0, 0, Nat.zero_le _, rfl, rfl, Nat.le_refl _, hid (by simp)⟩
              case round =>
                obtain ⟨j, t, hj, rfl, rfl, htj, HC⟩ := hrel
                by_cases hjl : j < n_p
                · skip
                  obtain ⟨bp, op, rfl, hbp, hcp⟩ := HCP.out (by omega)
                  have hcj := hcp j hjl
                  clear hcp
                  by_cases he : nth xs j = (k : Int)
                  · skip
                    have hbe : (nth xs j == (k : Int)) = true := by simp [he]
                    have HS : Hid ((xs.take (j + 1)).count (k : Int) = t + 1) := hid (by rw [count_succP (by rw [HLP.out]; exact hjl), HC.out, if_pos he])
                    clear he
                    go_wp2_with fail
                    go_round
                    case rel => exact ⟨j + 1, t + 1, by omega, by go_num, by go_num, by omega, HS⟩
                    case measure => simp [intOf]; omega
                  · skip
                    have hbe : (nth xs j == (k : Int)) = false := by simp [he]
                    have HS : Hid ((xs.take (j + 1)).count (k : Int) = t) := hid (by rw [count_succP (by rw [HLP.out]; exact hjl), HC.out, if_neg he]; rfl)
                    clear he
                    go_wp2_with fail
                    go_round
                    case rel => exact ⟨j + 1, t, by omega, by go_num, rfl, by omega, HS⟩
                    case measure => simp [intOf]; omega
                · skip
                  obtain rfl : j = n_p := by omega
                  obtain rfl : c = t := by have := HC.out; rw [List.take_of_length_le (by rw [HLP.out]; exact Nat.le_refl _), HC0.out] at this; exact this
                  clear HC HC0
                  have hne : ((c : Int) != (c : Int)) = false := by simp
                  go_wp2_with fail
                  go_quiet (fail)
                  go_wp2_with fail
                  go_roundw
                  case rel => exact ⟨k + 1, by omega, by go_num, ⟨_, rfl⟩⟩
                  case measure => simp [intOf]; omega
            · skip
              obtain ⟨v, hv1, hv2, hv3⟩ := HOR.out.succ HIP.out (k := k) (by omega) (by omega)
              have HV1 := hid hv1
              have HV3 := hid hv3
              clear hv1 hv3
              by_cases hk1 : k = 1
              · skip
                obtain ⟨c, hc⟩ : ∃ c : Nat, xs.count (k : Int) = c := ⟨_, rfl⟩
                have HC0 := hid hc
                obtain ⟨vv, hvv⟩ : ∃ vv : Nat, v + 1 = vv := ⟨_, rfl⟩
                have hck := HCD.out k (by omega)
                rw [HV1.out, hvv] at hck
                have hev := HCE.out vv (by omega)
                have hv3 := HV3.out
                rw [hvv, hc] at hv3
                rw [hv3] at hev
                have hvm : (vv : Int) - 1 = (v : Int) := by omega
                have hvp : (0 : Int) < (vv : Int) := by omega
                have hvn : (vv : Int) < (n_p : Int) + 1 := by omega
                have hvl : (v : Int) < (n_p : Int) := by omega
                have hvz : (0 : Int) ≤ (v : Int) := by omega
                obtain ⟨bp, op, rfl, hbp, hcp⟩ := HCP.out (by omega)
                have hkg : ¬ (1 : Int) < (k : Int) := by omega
                have hkd : decide ((1 : Int) < (k : Int)) = false := by simp; omega
                have HCPP := hid hcp
                clear hcp hvv hv3 hc hc0 hk0 hk1
                go_wp2_with fail
                go_loop [25, 166] (fun tm i => ∃ j t : Nat, j ≤ n_p ∧ i = .int .i64 (j : Int) ∧ tm = .int .i64 (t : Int) ∧ t ≤ j ∧ Hid ((xs.take j).count (k : Int) = t)) (fun _ i => n_p - (intOf i).toNat)
                case atStart => exact ⟨0, 0, Nat.zero_le _, rfl, rfl, Nat.le_refl _, hid (by simp)⟩
                case round =>
                  obtain ⟨j, t, hj, rfl, rfl, htj, HC⟩ := hrel
                  by_cases hjl : j < n_p
                  · skip
                    have hcj := HCPP.out j hjl
                    by_cases he : nth xs j = (k : Int)
                    · skip
                      have hbe : (nth xs j == (k : Int)) = true := by simp [he]
                      have HS : Hid ((xs.take (j + 1)).count (k : Int) = t + 1) := hid (by rw [count_succP (by rw [HLP.out]; exact hjl), HC.out, if_pos he])
                      clear he
                      go_wp2_with fail
                      go_round
                      case rel => exact ⟨j + 1, t + 1, by omega, by go_num, by go_num, by omega, HS⟩
                      case measure => simp [intOf]; omega
                    · skip
                      have hbe : (nth xs j == (k : Int)) = false := by simp [he]
                      have HS : Hid ((xs.take (j + 1)).count (k : Int) = t) := hid (by rw [count_succP (by rw [HLP.out]; exact hjl), HC.out, if_neg he]; rfl)
                      clear he
                      go_wp2_with fail
                      go_round
                      case rel => exact ⟨j + 1, t, by omega, by go_num, rfl, by omega, HS⟩
                      case measure => simp [intOf]; omega
                  · skip
                    obtain rfl : j = n_p := by omega
                    obtain rfl : c = t := by have := HC.out; rw [List.take_of_length_le (by rw [HLP.out]; exact Nat.le_refl _), HC0.out] at this; exact this
                    clear HC HC0
                    have hne : ((c : Int) != (c : Int)) = false := by simp
                    go_wp2_with fail
                    go_quiet (fail)
                    go_wp2_with fail
                    go_roundw
                    case rel => exact ⟨k + 1, by omega, by go_num, ⟨_, rfl⟩⟩
                    case measure => simp [intOf]; omega
              · skip
                obtain ⟨k1, hke⟩ : ∃ k1, k = k1 + 1 := ⟨k - 1, by omega⟩
                obtain ⟨u, hu1, hu2, _⟩ := HOR.out.succ HIP.out (k := k1) (by omega) (by omega)
                have HU1 := hid hu1
                clear hu1
                obtain ⟨c, hc⟩ : ∃ c : Nat, xs.count (k : Int) = c := ⟨_, rfl⟩
                have HC0 := hid hc
                obtain ⟨vv, hvv⟩ : ∃ vv : Nat, v + 1 = vv := ⟨_, rfl⟩
                have hck := HCD.out k (by omega)
                rw [HV1.out, hvv] at hck
                have hev := HCE.out vv (by omega)
                have hv3 := HV3.out
                rw [hvv, hc] at hv3
                rw [hv3] at hev
                have hvm : (vv : Int) - 1 = (v : Int) := by omega
                have hvp : (0 : Int) < (vv : Int) := by omega
                have hvn : (vv : Int) < (n_p : Int) + 1 := by omega
                have hvl : (v : Int) < (n_p : Int) := by omega
                have hvz : (0 : Int) ≤ (v : Int) := by omega
                obtain ⟨bp, op, rfl, hbp, hcp⟩ := HCP.out (by omega)
                obtain ⟨uu, huu⟩ : ∃ uu : Nat, u + 1 = uu := ⟨_, rfl⟩
                have hck2 := HCD.out k1 (by omega)
                rw [HU1.out, huu] at hck2
                have hum : (uu : Int) - 1 = (u : Int) := by omega
                have hkm : (k : Int) - 1 = (k1 : Int) := by omega
                have hkg : (1 : Int) < (k : Int) := by omega
                have hkd : decide ((1 : Int) < (k : Int)) = true := by simp; omega
                have hkn : (k1 : Int) < (n_p : Int) + 1 := by omega
                have hkz : (0 : Int) ≤ (k1 : Int) := by omega
                have hul : (u : Int) < (n_p : Int) := by omega
                have huz : (0 : Int) ≤ (u : Int) := by omega
                have hxv := hcp v (by omega)
                have hxu := hcp u (by omega)
                have hmono := HOR.out.mono (k := k1) (by omega) (by rw [HU1.out]; omega) (by rw [← hke, HV1.out]; omega) (by rw [HU1.out]; omega)
                rw [← hke, HU1.out, HV1.out] at hmono
                have hnl : ¬ nth xs v < nth xs u := by have h1 : par xs ((u + 1 : Nat) : Int) = nth xs u := rfl; have h2 : par xs ((v + 1 : Nat) : Int) = nth xs v := rfl; rw [h1, h2] at hmono; omega
                have hnd : decide (nth xs v < nth xs u) = false := by simpa using hnl
                clear hmono huu hke
                have HCPP := hid hcp
                clear hcp hvv hv3 hc hc0 hk0 hk1
                go_wp2_with fail
                go_loop [25, 166] (fun tm i => ∃ j t : Nat, j ≤ n_p ∧ i = .int .i64 (j : Int) ∧ tm = .int .i64 (t : Int) ∧ t ≤ j ∧ Hid ((xs.take j).count (k : Int) = t)) (fun _ i => n_p - (intOf i).toNat)
                case atStart => exact ⟨0, 0, Nat.zero_le _, rfl, rfl, Nat.le_refl _, hid (by simp)⟩
                case round =>
                  obtain ⟨j, t, hj, rfl, rfl, htj, HC⟩ := hrel
                  by_cases hjl : j < n_p
                  · skip
                    have hcj := HCPP.out j hjl
                    by_cases he : nth xs j = (k : Int)
                    · skip
                      have hbe : (nth xs j == (k : Int)) = true := by simp [he]
                      have HS : Hid ((xs.take (j + 1)).count (k : Int) = t + 1) := hid (by rw [count_succP (by rw [HLP.out]; exact hjl), HC.out, if_pos he])
                      clear he
                      go_wp2_with fail
                      go_round
                      case rel => exact ⟨j + 1, t + 1, by omega, by go_num, by go_num, by omega, HS⟩
                      case measure => simp [intOf]; omega
                    · skip
                      have hbe : (nth xs j == (k : Int)) = false := by simp [he]
                      have HS : Hid ((xs.take (j + 1)).count (k : Int) = t) := hid (by rw [count_succP (by rw [HLP.out]; exact hjl), HC.out, if_neg he]; rfl)
                      clear he
                      go_wp2_with fail
                      go_round
                      case rel => exact ⟨j + 1, t, by omega, by go_num, rfl, by omega, HS⟩
                      case measure => simp [intOf]; omega
                  · skip
                    obtain rfl : j = n_p := by omega
                    obtain rfl : c = t := by have := HC.out; rw [List.take_of_length_le (by rw [HLP.out]; exact Nat.le_refl _), HC0.out] at this; exact this
                    clear HC HC0
                    have hne : ((c : Int) != (c : Int)) = false := by simp
                    go_wp2_with fail
                    go_quiet (fail)
                    go_wp2_with fail
                    go_roundw
                    case rel => exact ⟨k + 1, by omega, by go_num, ⟨_, rfl⟩⟩
                    case measure => simp [intOf]; omega
          · skip
            obtain rfl : k = n_p + 1 := by omega
            skip
            go_wp2_with fail
            go_ret
            exact ⟨rfl, below_drewN hB qq⟩
      · skip
        have HTT : Hid (treeB ts = false) := hid (Bool.eq_false_iff.2 ht)
        have HPO : Hid (potOf ts = ([], false)) := hid (by unfold potOf; rw [if_neg ht])
        clear ht
        go_wp2_with fail
        refine (implParkOf_any _ _ _ _ _ o_s.has).mono ?_
        rw [HPO.out]
        rintro e v7 ⟨a_k, n_k, c_k, rfl, o_k, st⟩
        replace o_p := o_p.below st (Nat.le_refl _)
        replace o_w := o_w.below st (Nat.le_refl _)
        replace o_s := o_s.below st (Nat.le_refl _)
        replace hB := hB.trans (st.mono hB.size)
        clear st
        go_wp2_with fail
        refine (specParkOf_any _ _ _ _ _ o_s.has).mono ?_
        rw [HPO.out]
        rintro e v8 ⟨a_u, n_u, c_u, rfl, o_u, st⟩
        replace o_p := o_p.below st (Nat.le_refl _)
        replace o_w := o_w.below st (Nat.le_refl _)
        replace o_s := o_s.below st (Nat.le_refl _)
        replace o_k := o_k.below st (Nat.le_refl _)
        replace hB := hB.trans (st.mono hB.size)
        clear st
        go_wp2_with fail
        refine (wSame_any _ _ _ _ _ _ _ _ _ o_k.has o_u.has).mono ?_
        rw [same_self]
        rintro e v9 ⟨rfl, q⟩
        have st : Below v8.heap.size v8 v9 := q.below _
        replace o_p := o_p.below st (Nat.le_refl _)
        replace o_w := o_w.below st (Nat.le_refl _)
        replace o_s := o_s.below st (Nat.le_refl _)
        replace o_k := o_k.below st (Nat.le_refl _)
        replace o_u := o_u.below st (Nat.le_refl _)
        replace hB := hB.trans (st.mono hB.size)
        clear st
        clear q
        clear o_u
        go_wp2_with fail
        refine (isTree_any _ _ _ _ _ o_s.has).mono ?_
        rw [HTT.out]
        rintro e v10 ⟨rfl, st⟩
        replace o_p := o_p.below st (Nat.le_refl _)
        replace o_w := o_w.below st (Nat.le_refl _)
        replace o_s := o_s.below st (Nat.le_refl _)
        replace o_k := o_k.below st (Nat.le_refl _)
        replace hB := hB.trans (st.mono hB.size)
        clear st
        clear o_k o_s
        go_wp2_with fail
        refine (implParkOf_any _ _ _ _ _ o_w.has).mono ?_
        rw [HPP.out]
        rintro e v11 ⟨a_b, n_b, c_b, rfl, o_b, st⟩
        replace o_p := o_p.below st (Nat.le_refl _)
        replace o_w := o_w.below st (Nat.le_refl _)
        replace hB := hB.trans (st.mono hB.size)
        clear st
        go_wp2_with fail
        refine (implBreadth_any _ _ _ _ _ o_w.has).mono ?_
        rw [HBR.out]
        rintro e v12 ⟨a_d, n_d, c_d, rfl, o_d, st⟩
        replace o_p := o_p.below st (Nat.le_refl _)
        replace o_w := o_w.below st (Nat.le_refl _)
        replace o_b := o_b.below st (Nat.le_refl _)
        replace hB := hB.trans (st.mono hB.size)
        clear st
        go_wp2_with fail
        refine (implDegrees_any _ _ _ _ _ o_w.has).mono ?_
        rw [HDG.out]
        rintro e v13 ⟨a_e, n_e, c_e, rfl, o_e, st⟩
        replace o_p := o_p.below st (Nat.le_refl _)
        replace o_w := o_w.below st (Nat.le_refl _)
        replace o_b := o_b.below st (Nat.le_refl _)
        replace o_d := o_d.below st (Nat.le_refl _)
        replace hB := hB.trans (st.mono hB.size)
        clear st
        have hnd : n_d = n_p + 1 := by have := o_d.len; rw [HOR.out.olen] at this; exact this.symm
        have hne : n_e = n_p + 1 := by have := o_e.len; rw [length_degL, length_tpL, HLP.out] at this; exact this.symm
        subst hnd
        subst hne
        have hbl : (((n_p + 1 : Nat) : Int) != (n_p : Int) + 1) = false := by simp
        go_wp2_with fail
        refine (wSame_any _ _ _ _ _ _ _ _ _ o_b.has o_p.has).mono ?_
        rw [same_self]
        rintro e v14 ⟨rfl, q⟩
        have st : Below v13.heap.size v13 v14 := q.below _
        replace o_p := o_p.below st (Nat.le_refl _)
        replace o_w := o_w.below st (Nat.le_refl _)
        replace o_b := o_b.below st (Nat.le_refl _)
        replace o_d := o_d.below st (Nat.le_refl _)
        replace o_e := o_e.below st (Nat.le_refl _)
        replace hB := hB.trans (st.mono hB.size)
        clear st
        clear q
        clear o_b
        go_wp2_with fail
        refine (isTree_any _ _ _ _ _ o_w.has).mono ?_
        rw [HTX.out]
        rintro e v15 ⟨rfl, st⟩
        replace o_p := o_p.below st (Nat.le_refl _)
        replace o_w := o_w.below st (Nat.le_refl _)
        replace o_d := o_d.below st (Nat.le_refl _)
        replace o_e := o_e.below st (Nat.le_refl _)
        replace hB := hB.trans (st.mono hB.size)
        clear st
        obtain ⟨g1, rfl, _, _, cd, _⟩ := o_d.opened (by omega)
        obtain ⟨g2, rfl, _, _, ce, _⟩ := o_e.opened (by omega)
        obtain ⟨_, _, _, _, cp⟩ := o_p.has
        obtain ⟨z1, z2⟩ := HOR.out.zero HIP.out
        have hc0 := cd 0 (by omega)
        rw [z1] at hc0
        have he0 := ce 0 (by omega)
        rw [z2] at he0
        have HE0 := hid he0
        have HZ1 := hid z1
        clear z1 z2 he0
        have HCD := hid cd
        have HCE := hid ce
        have HCP := hid cp
        clear cd ce cp
        clear o_d o_e o_w o_p
        go_wp2_with fail
        go_loopw [159] (fun i wr => ∃ k : Nat, k ≤ n_p + 1 ∧ i = .int .i64 (k : Int) ∧ Quiet v15 wr) (fun i _ => n_p + 1 - (intOf i).toNat)
        case atStart => exact ⟨0, Nat.zero_le _, rfl, ⟨0, rfl⟩⟩
        case round =>
          obtain ⟨k, hk, rfl, qq, rfl⟩ := hrel
          by_cases hlt : k < n_p + 1
          · skip
            by_cases hk0 : k = 0
            · skip
              obtain ⟨c, hc⟩ : ∃ c : Nat, xs.count (k : Int) = c := ⟨_, rfl⟩
              have HC0 := hid hc
              have hck : v15.cell? ⟨g1, k, none⟩ = some (.int .i64 0) := by rw [hk0]; exact hc0
              have hev : v15.cell? ⟨g2, 0, none⟩ = some (.int .i64 (c : Int)) := by have := HE0.out; rw [← hc, hk0]; exact this
              have hkg : ¬ (1 : Int) < (k : Int) := by omega
              have hkd : decide ((1 : Int) < (k : Int)) = false := by simp; omega
              clear hc hk0 hc0
              go_wp2_with fail
              go_loop [25, 166] (fun tm i => ∃ j t : Nat, j ≤ n_p ∧ i = .int .i64 (j : Int) ∧ tm = .int .i64 (t : Int) ∧ t ≤ j ∧ Hid ((xs.take j).count (k : Int) = t)) (fun _ i => n_p - (intOf i).toNat)
              case atStart => exact ⟨0, 0, Nat.zero_le _, rfl, rfl, Nat.le_refl _, hid (by simp)⟩
              case round =>
                obtain ⟨j, t, hj, rfl, rfl, htj, HC⟩ := hrel
                by_cases hjl : j < n_p
                · skip
                  obtain ⟨bp, op, rfl, hbp, hcp⟩ := HCP.out (by omega)
                  have hcj := hcp j hjl
                  clear hcp
                  by_cases he : nth xs j = (k : Int)
                  · skip
                    have hbe : (nth xs j == (k : Int)) = true := by simp [he]
                    have HS : Hid ((xs.take (j + 1)).count (k : Int) = t + 1) := hid (by rw [count_succP (by rw [HLP.out]; exact hjl), HC.out, if_pos he])
                    clear he
                    go_wp2_with fail
                    go_round
                    case rel => exact ⟨j + 1, t + 1, by omega, by go_num, by go_num, by omega, HS⟩
                    case measure => simp [intOf]; omega
                  · skip
                    have hbe : (nth xs j == (k : Int)) = false := by simp [he]
                    have HS : Hid ((xs.take (j + 1)).count (k : Int) = t) := hid (by rw [count_succP (by rw [HLP.out]; exact hjl), HC.out, if_neg he]; rfl)
                    clear he
                    go_wp2_with fail
                    go_round
                    case rel => exact ⟨j + 1, t, by omega, by go_num, rfl, by omega, HS⟩
                    case measure => simp [intOf]; omega
                · skip
                  obtain rfl : j = n_p := by omega
                  obtain rfl : c = t := by have := HC.out; rw [List.take_of_length_le (by rw [HLP.out]; exact Nat.le_refl _), HC0.out] at this; exact this
                  clear HC HC0
                  have hne : ((c : Int) != (c : Int)) = false := by simp
                  go_wp2_with fail
                  go_quiet (fail)
                  go_wp2_with fail
                  go_roundw
                  case rel => exact ⟨k + 1, by omega, by go_num, ⟨_, rfl⟩⟩
                  case measure => simp [intOf]; omega
            · skip
              obtain ⟨v, hv1, hv2, hv3⟩ := HOR.out.succ HIP.out (k := k) (by omega) (by omega)
              have HV1 := hid hv1
              have HV3 := hid hv3
              clear hv1 hv3
              by_cases hk1 : k = 1
              · skip
                obtain ⟨c, hc⟩ : ∃ c : Nat, xs.count (k : Int) = c := ⟨_, rfl⟩
                have HC0 := hid hc
                obtain ⟨vv, hvv⟩ : ∃ vv : Nat, v + 1 = vv := ⟨_, rfl⟩
                have hck := HCD.out k (by omega)
                rw [HV1.out, hvv] at hck
                have hev := HCE.out vv (by omega)
                have hv3 := HV3.out
                rw [hvv, hc] at hv3
                rw [hv3] at hev
                have hvm : (vv : Int) - 1 = (v : Int) := by omega
                have hvp : (0 : Int) < (vv : Int) := by omega
                have hvn : (vv : Int) < (n_p : Int) + 1 := by omega
                have hvl : (v : Int) < (n_p : Int) := by omega
                have hvz : (0 : Int) ≤ (v : Int) := by omega
                obtain ⟨bp, op, rfl, hbp, hcp⟩ := HCP.out (by omega)
                have hkg : ¬ (1 : Int) < (k : Int) := by omega
                have hkd : decide ((1 : Int) < (k : Int)) = false := by simp; omega
                have HCPP := hid hcp
                clear hcp hvv hv3 hc hc0 hk0 hk1
                go_wp2_with fail
                go_loop [25, 166] (fun tm i => ∃ j t : Nat, j ≤ n_p ∧ i = .int .i64 (j : Int) ∧ tm = .int .i64 (t : Int) ∧ t ≤ j ∧ Hid ((xs.take j).count (k : Int) = t)) (fun _ i => n_p - (intOf i).toNat)
                case atStart => exact ⟨0, 0, Nat.zero_le _, rfl, rfl, Nat.le_refl _, hid (by simp)⟩
                case round =>
                  obtain ⟨j, t, hj, rfl, rfl, htj, HC⟩ := hrel
                  by_cases hjl : j < n_p
                  · skip
                    have hcj := HCPP.out j hjl
                    by_cases he : nth xs j = (k : Int)
                    · skip
                      have hbe : (nth xs j == (k : Int)) = true := by simp [he]
                      have HS : Hid ((xs.take (j + 1)).count (k : Int) = t + 1) := hid (by rw [count_succP (by rw [HLP.out]; exact hjl), HC.out, if_pos he])
                      clear he
                      go_wp2_with fail
                      go_round
                      case rel => exact ⟨j + 1, t + 1, by omega, by go_num, by go_num, by omega, HS⟩
                      case measure => simp [intOf]; omega
                    · skip
                      have hbe : (nth xs j == (k : Int)) = false := by simp [he]
                      have HS : Hid ((xs.take (j + 1)).count (k : Int) = t) := hid (by rw [count_succP (by rw [HLP.out]; exact hjl), HC.out, if_neg he]; rfl)
                      clear he
                      go_wp2_with fail
                      go_round
                      case rel => exact ⟨j + 1, t, by omega, by go_num, rfl, by omega, HS⟩
                      case measure => simp [intOf]; omega
                  · skip
                    obtain rfl : j = n_p := by omega
                    obtain rfl : c = t := by have := HC.out; rw [List.take_of_length_le (by rw [HLP.out]; exact Nat.le_refl _), HC0.out] at this; exact this
                    clear HC HC0
                    have hne : ((c : Int) != (c : Int)) = false := by simp
                    go_wp2_with fail
                    go_quiet (fail)
                    go_wp2_with fail
                    go_roundw
                    case rel => exact ⟨k + 1, by omega, by go_num, ⟨_, rfl⟩⟩
                    case measure => simp [intOf]; omega
              · skip
                obtain ⟨k1, hke⟩ : ∃ k1, k = k1 + 1 := ⟨k - 1, by omega⟩
                obtain ⟨u, hu1, hu2, _⟩ := HOR.out.succ HIP.out (k := k1) (by omega) (by omega)
                have HU1 := hid hu1
                clear hu1
                obtain ⟨c, hc⟩ : ∃ c : Nat, xs.count (k : Int) = c := ⟨_, rfl⟩
                have HC0 := hid hc
                obtain ⟨vv, hvv⟩ : ∃ vv : Nat, v + 1 = vv := ⟨_, rfl⟩
                have hck := HCD.out k (by omega)
                rw [HV1.out, hvv] at hck
                have hev := HCE.out vv (by omega)
                have hv3 := HV3.out
                rw [hvv, hc] at hv3
                rw [hv3] at hev
                have hvm : (vv : Int) - 1 = (v : Int) := by omega
                have hvp : (0 : Int) < (vv : Int) := by omega
                have hvn : (vv : Int) < (n_p : Int) + 1 := by omega
                have hvl : (v : Int) < (n_p : Int) := by omega
                have hvz : (0 : Int) ≤ (v : Int) := by omega
                obtain ⟨bp, op, rfl, hbp, hcp⟩ := HCP.out (by omega)
                obtain ⟨uu, huu⟩ : ∃ uu : Nat, u + 1 = uu := ⟨_, rfl⟩
                have hck2 := HCD.out k1 (by omega)
                rw [HU1.out, huu] at hck2
                have hum : (uu : Int) - 1 = (u : Int) := by omega
                have hkm : (k : Int) - 1 = (k1 : Int) := by omega
                have hkg : (1 : Int) < (k : Int) := by omega
                have hkd : decide ((1 : Int) < (k : Int)) = true := by simp; omega
                have hkn : (k1 : Int) < (n_p : Int) + 1 := by omega
                have hkz : (0 : Int) ≤ (k1 : Int) := by omega
                have hul : (u : Int) < (n_p : Int) := by omega
                have huz : (0 : Int) ≤ (u : Int) := by omega
                have hxv := hcp v (by omega)
                have hxu := hcp u (by omega)
                have hmono := HOR.out.mono (k := k1) (by omega) (by rw [HU1.out]; omega) (by rw [← hke, HV1.out]; omega) (by rw [HU1.out]; omega)
                rw [← hke, HU1.out, HV1.out] at hmono
                have hnl : ¬ nth xs v < nth xs u := by have h1 : par xs ((u + 1 : Nat) : Int) = nth xs u := rfl; have h2 : par xs ((v + 1 : Nat) : Int) = nth xs v := rfl; rw [h1, h2] at hmono; omega
                have hnd : decide (nth xs v < nth xs u) = false := by simpa using hnl
                clear hmono huu hke
                have HCPP := hid hcp
                clear hcp hvv hv3 hc hc0 hk0 hk1
                go_wp2_with fail
                go_loop [25, 166] (fun tm i => ∃ j t : Nat, j ≤ n_p ∧ i = .int .i64 (j : Int) ∧ tm = .int .i64 (t : Int) ∧ t ≤ j ∧ Hid ((xs.take j).count (k : Int) = t)) (fun _ i => n_p - (intOf i).toNat)
                case atStart => exact ⟨0, 0, Nat.zero_le _, rfl, rfl, Nat.le_refl _, hid (by simp)⟩
                case round =>
                  obtain ⟨j, t, hj, rfl, rfl, htj, HC⟩ := hrel
                  by_cases hjl : j < n_p
                  · skip
                    have hcj := HCPP.out j hjl
                    by_cases he : nth xs j = (k : Int)
                    · skip
                      have hbe : (nth xs j == (k : Int)) = true := by simp [he]
                      have HS : Hid ((xs.take (j + 1)).count (k : Int) = t + 1) := hid (by rw [count_succP (by rw [HLP.out]; exact hjl), HC.out, if_pos he])
                      clear he
                      go_wp2_with fail
                      go_round
                      case rel => exact ⟨j + 1, t + 1, by omega, by go_num, by go_num, by omega, HS⟩
                      case measure => simp [intOf]; omega
                    · skip
                      have hbe : (nth xs j == (k : Int)) = false := by simp [he]
                      have HS : Hid ((xs.take (j + 1)).count (k : Int) = t) := hid (by rw [count_succP (by rw [HLP.out]; exact hjl), HC.out, if_neg he]; rfl)
                      clear he
                      go_wp2_with fail
                      go_round
                      case rel => exact ⟨j + 1, t, by omega, by go_num, rfl, by omega, HS⟩
                      case measure => simp [intOf]; omega
                  · skip
                    obtain rfl : j = n_p := by omega
                    obtain rfl : c = t := by have := HC.out; rw [List.take_of_length_le (by rw [HLP.out]; exact Nat.le_refl _), HC0.out] at this; exact this
                    clear HC HC0
                    have hne : ((c : Int) != (c : Int)) = false := by simp
                    go_wp2_with fail
                    go_quiet (fail)
                    go_wp2_with fail
                    go_roundw
                    case rel => exact ⟨k + 1, by omega, by go_num, ⟨_, rfl⟩⟩
                    case measure => simp [intOf]; omega
          · skip
            obtain rfl : k = n_p + 1 := by omega
            skip
            go_wp2_with fail
            go_ret
            exact ⟨rfl, below_drewN hB qq⟩
    · skip
      have HTP : Hid (tpOf xs = ([], false)) := hid (by unfold tpOf; rw [if_neg hp])
      have HIP : Hid (isPark xs = false) := hid (Bool.eq_false_iff.2 hp)
      clear hp
      go_wp2_with fail
      refine (implTreeOf_any _ _ _ _ _ o_p.has).mono ?_
      rw [HTP.out]
      rintro e v2 ⟨a_w, n_w, c_w, rfl, o_w, st⟩
      replace o_p := o_p.below st (Nat.le_refl _)
      replace hB := hB.trans (st.mono hB.size)
      clear st
      go_wp2_with fail
      refine (specTreeOf_any _ _ _ _ _ o_p.has).mono ?_
      rw [HTP.out]
      rintro e v3 ⟨a_r, n_r, c_r, rfl, o_r, st⟩
      replace o_p := o_p.below st (Nat.le_refl _)
      replace o_w := o_w.below st (Nat.le_refl _)
      replace hB := hB.trans (st.mono hB.size)
      clear st
      go_wp2_with fail
      refine (wSame_any _ _ _ _ _ _ _ _ _ o_w.has o_r.has).mono ?_
      rw [same_self]
      rintro e v4 ⟨rfl, q⟩
      have st : Below v3.heap.size v3 v4 := q.below _
      replace o_p := o_p.below st (Nat.le_refl _)
      replace o_w := o_w.below st (Nat.le_refl _)
      replace o_r := o_r.below st (Nat.le_refl _)
      replace hB := hB.trans (st.mono hB.size)
      clear st
      clear q
      clear o_r
      go_wp2_with fail
      refine (wParking_any _ _ _ _ _ o_p.has).mono ?_
      rw [HIP.out]
      rintro e v5 ⟨rfl, st⟩
      replace o_p := o_p.below st (Nat.le_refl _)
      replace o_w := o_w.below st (Nat.le_refl _)
      replace hB := hB.trans (st.mono hB.size)
      clear st
      go_wp2_with fail
      refine (drawTreeP_any b m cap' _ (HM.out.grow hB (Nat.le_refl _))).mono ?_
      rintro e v6 ⟨a_s, n_s, c_s, ts, rfl, o_s, hns, st⟩
      replace o_p := o_p.below st (Nat.le_refl _)
      replace o_w := o_w.below st (Nat.le_refl _)
      replace hB := hB.trans (st.mono hB.size)
      clear st
      have HLS := hid o_s.len
      by_cases ht : treeB ts = true
      · skip
        obtain ⟨u1, u2, u3⟩ := pot_facts ht HLS.out
        have HPO := hid u1
        have HTO := hid u2
        have HIO := hid u3
        have HTT := hid ht
        clear ht u1 u2 u3
        go_wp2_with fail
        refine (implParkOf_any _ _ _ _ _ o_s.has).mono ?_
        rw [HPO.out]
        rintro e v7 ⟨a_k, n_k, c_k, rfl, o_k, st⟩
        replace o_p := o_p.below st (Nat.le_refl _)
        replace o_w := o_w.below st (Nat.le_refl _)
        replace o_s := o_s.below st (Nat.le_refl _)
        replace hB := hB.trans (st.mono hB.size)
        clear st
        go_wp2_with fail
        refine (specParkOf_any _ _ _ _ _ o_s.has).mono ?_
        rw [HPO.out]
        rintro e v8 ⟨a_u, n_u, c_u, rfl, o_u, st⟩
        replace o_p := o_p.below st (Nat.le_refl _)
        replace o_w := o_w.below st (Nat.le_refl _)
        replace o_s := o_s.below st (Nat.le_refl _)
        replace o_k := o_k.below st (Nat.le_refl _)
        replace hB := hB.trans (st.mono hB.size)
        clear st
        go_wp2_with fail
        refine (wSame_any _ _ _ _ _ _ _ _ _ o_k.has o_u.has).mono ?_
        rw [same_self]
        rintro e v9 ⟨rfl, q⟩
        have st : Below v8.heap.size v8 v9 := q.below _
        replace o_p := o_p.below st (Nat.le_refl _)
        replace o_w := o_w.below st (Nat.le_refl _)
        replace o_s := o_s.below st (Nat.le_refl _)
        replace o_k := o_k.below st (Nat.le_refl _)
        replace o_u := o_u.below st (Nat.le_refl _)
        replace hB := hB.trans (st.mono hB.size)
        clear st
        clear q
        clear o_u
        go_wp2_with fail
        refine (isTree_any _ _ _ _ _ o_s.has).mono ?_
        rw [HTT.out]
        rintro e v10 ⟨rfl, st⟩
        replace o_p := o_p.below st (Nat.le_refl _)
        replace o_w := o_w.below st (Nat.le_refl _)
        replace o_s := o_s.below st (Nat.le_refl _)
        replace o_k := o_k.below st (Nat.le_refl _)
        replace hB := hB.trans (st.mono hB.size)
        clear st
        go_wp2_with fail
        refine (implTreeOf_any _ _ _ _ _ o_k.has).mono ?_
        rw [HTO.out]
        rintro e v11 ⟨a_g, n_g, c_g, rfl, o_g, st⟩
        replace o_p := o_p.below st (Nat.le_refl _)
        replace o_w := o_w.below st (Nat.le_refl _)
        replace o_s := o_s.below st (Nat.le_refl _)
        replace o_k := o_k.below st (Nat.le_refl _)
        replace hB := hB.trans (st.mono hB.size)
        clear st
        go_wp2_with fail
        refine (wSame_any _ _ _ _ _ _ _ _ _ o_g.has o_s.has).mono ?_
        rw [same_self]
        rintro e v12 ⟨rfl, q⟩
        have st : Below v11.heap.size v11 v12 := q.below _
        replace o_p := o_p.below st (Nat.le_refl _)
        replace o_w := o_w.below st (Nat.le_refl _)
        replace o_s := o_s.below st (Nat.le_refl _)
        replace o_k := o_k.below st (Nat.le_refl _)
        replace o_g := o_g.below st (Nat.le_refl _)
        replace hB := hB.trans (st.mono hB.size)
        clear st
        clear q
        clear o_g
        go_wp2_with fail
        refine (wParking_any _ _ _ _ _ o_k.has).mono ?_
        rw [HIO.out]
        rintro e v13 ⟨rfl, st⟩
        replace o_p := o_p.below st (Nat.le_refl _)
        replace o_w := o_w.below st (Nat.le_refl _)
        replace o_s := o_s.below st (Nat.le_refl _)
        replace o_k := o_k.below st (Nat.le_refl _)
        replace hB := hB.trans (st.mono hB.size)
        clear st
        clear o_k o_s
        go_wp2_with fail
        go_ret
        exact ⟨rfl, hB⟩
      · skip
        have HTT : Hid (treeB ts = false) := hid (Bool.eq_false_iff.2 ht)
        have HPO : Hid (potOf ts = ([], false)) := hid (by unfold potOf; rw [if_neg ht])
        clear ht
        go_wp2_with fail
        refine (implParkOf_any _ _ _ _ _ o_s.has).mono ?_
        rw [HPO.out]
        rintro e v7 ⟨a_k, n_k, c_k, rfl, o_k, st⟩
        replace o_p := o_p.below st (Nat.le_refl _)
        replace o_w := o_w.below st (Nat.le_refl _)
        replace o_s := o_s.below st (Nat.le_refl _)
        replace hB := hB.trans (st.mono hB.size)
        clear st
        go_wp2_with fail
        refine (specParkOf_any _ _ _ _ _ o_s.has).mono ?_
        rw [HPO.out]
        rintro e v8 ⟨a_u, n_u, c_u, rfl, o_u, st⟩
        replace o_p := o_p.below st (Nat.le_refl _)
        replace o_w := o_w.below st (Nat.le_refl _)
        replace o_s := o_s.below st (Nat.le_refl _)
        replace o_k := o_k.below st (Nat.le_refl _)
        replace hB := hB.trans (st.mono hB.size)
        clear st
        go_wp2_with fail
        refine (wSame_any _ _ _ _ _ _ _ _ _ o_k.has o_u.has).mono ?_
        rw [same_self]
        rintro e v9 ⟨rfl, q⟩
        have st : Below v8.heap.size v8 v9 := q.below _
        replace o_p := o_p.below st (Nat.le_refl _)
        replace o_w := o_w.below st (Nat.le_refl _)
        replace o_s := o_s.below st (Nat.le_refl _)
        replace o_k := o_k.below st (Nat.le_refl _)
        replace o_u := o_u.below st (Nat.le_refl _)
        replace hB := hB.trans (st.mono hB.size)
        clear st
        clear q
        clear o_u
        go_wp2_with fail
        refine (isTree_any _ _ _ _ _ o_s.has).mono ?_
        rw [HTT.out]
        rintro e v10 ⟨rfl, st⟩
        replace o_p := o_p.below st (Nat.le_refl _)
        replace o_w := o_w.below st (Nat.le_refl _)
        replace o_s := o_s.below st (Nat.le_refl _)
        replace o_k := o_k.below st (Nat.le_refl _)
        replace hB := hB.trans (st.mono hB.size)
        clear st
        clear o_k o_s
        go_wp2_with fail
        go_ret
        exact ⟨rfl, hB⟩
end Go.Proofs.Ytochmifhhigfhac
