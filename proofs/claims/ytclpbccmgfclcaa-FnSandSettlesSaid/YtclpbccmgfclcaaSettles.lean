/- The law that sand settles alike, walked. -/
import Derived.Test.YtclpbccmgfclcaaDrawU
import Derived.Test.YtclpbccmgfclcaaW
import Derived.Test.YtclpbccmgfclcaaJ
import Derived.Test.YtclpbccmgfclcaaMathSb
import Derived.Test.YtclpbccmgfclcaaImplSf
import Derived.IntWalk
namespace Go.Proofs.Ytclpbccmgfclcaa
open Go.RowKit

theorem wsum_bounds {xs : List Int} {n : Nat} (hl : xs.length = n) (h8 : n ≤ 8) (hb : ∀ i, i < n → 0 ≤ nth xs i ∧ nth xs i ≤ 5000) : ∀ k, k ≤ n → 0 ≤ total (xs.take k) ∧ total (xs.take k) ≤ 5000 * k
  | 0, _ => by simp [total]
  | k + 1, hk => by
    have ih := wsum_bounds hl h8 hb k (by omega)
    have := hb k (by omega)
    rw [total_succ (by omega), Int.natCast_succ]
    omega
set_option maxHeartbeats 400000 in
theorem wSum_any (a : Option Addr) (n cap : Nat) (xs : List Int) (w : World) (h : Has w a n cap xs) (h8 : n ≤ 8) (hb : ∀ i, i < n → 0 ≤ nth xs i ∧ nth xs i ≤ 5000) :
    Calls Try.prog 15 #[.slice a n cap] w fun e w' => e = .returned (.int .i64 (total xs)) ∧ w = w' := by
  have HL := hid h.len
  have HB := hid hb
  have HW := hid (wsum_bounds h.len h8 hb)
  clear hb
  go_enter Try.func15, Try.ntmps15
  go_wp2_with fail
  go_loop [3, 8] (fun s i => ∃ (k : Nat) (v : Int), k ≤ n ∧ i = .int .i64 (k : Int) ∧ s = .int .i64 v ∧ Hid (v = total (xs.take k))) (fun _ i => n - (intOf i).toNat)
  case atStart => exact ⟨0, 0, by omega, rfl, rfl, hid rfl⟩
  case round =>
    obtain ⟨k, v, hk, rfl, rfl, HV⟩ := hrel
    by_cases hlt : k < n
    · obtain ⟨b0, off, rfl, hbb, hc⟩ := h.2.2.2.2 (by omega)
      have hck := hc k hlt
      obtain ⟨u0, u1⟩ := HB.out k hlt
      obtain ⟨s0, s1⟩ := HW.out k (by omega)
      rw [← HV.out] at s0 s1
      have HS : Hid (total (xs.take (k + 1)) = v + nth xs k) := hid (by rw [total_succ (by rw [HL.out]; exact hlt), HV.out])
      clear hc
      go_wp2_with fail
      go_round
      case rel => exact ⟨k + 1, v + nth xs k, by omega, by go_num, by go_num, hid HS.out.symm⟩
      case measure => simp [intOf]; omega
    · obtain rfl : k = n := by omega
      have HR : Hid (v = total xs) := hid (by rw [HV.out, List.take_of_length_le (by rw [HL.out]; omega)])
      go_wp2_with fail
      go_ret
      exact ⟨ret_int HR.out, rfl⟩

/-- What is said of sand that settles. -/
structure SetF (xs ys ts : List Int) (n : Nat) (T : Int) : Prop where
  out : settleOf xs = (ys, ts, true)
  lenY : ys.length = n
  lenT : ts.length = n
  stab : stableOf ys = (true, true)
  was : stableOf xs = (decide (T = 0), true)
  sum : total xs - total ys = T
  tot : total ts = T
  each : ∀ k, k < n → nth ys k = nth xs k - ((n : Int) + 1) * nth ts k + T
  bx : ∀ k, k < n → 0 ≤ nth xs k ∧ nth xs k ≤ 60
  bY : ∀ k, k < n → 0 ≤ nth ys k ∧ nth ys k ≤ 60
  bT : ∀ k, k < n → 0 ≤ nth ts k ∧ nth ts k ≤ 480
  h8 : n ≤ 8
  bt : 0 ≤ T ∧ T ≤ 480
theorem setF {xs : List Int} {n : Nat} (hl : xs.length = n) (h : sandB xs = true) : SetF xs (settle xs).1 (timesL xs) n ((settle xs).2.length : Int) := by
  subst hl
  have hp := Pile.sand h
  have S := settled hp
  have hsum := settle_sum hp
  have h8 := (sandB_iff.1 h).1
  have htot := sand_tot h
  have hT : ((settle xs).2.length : Int) ≤ 480 := by have := S.cnt; omega
  have hd := S.done
  rw [← S.len] at hd
  have hst := stable_lt hd
  rw [S.len] at hst
  have hsy : sandB (settle xs).1 = true := sandB_iff.2 ⟨by rw [S.len]; exact h8, fun x hx => by have h1 := S.pile x hx; have h2 := hst x hx; omega⟩
  have hle := first_le xs
  refine ⟨by unfold settleOf; rw [if_pos h]; rfl, S.len, by simp, ?_, ?_, hsum.1, total_times hp, fun k hk => ?_, fun k hk => (sandB_iff.1 h).2 _ (nth_mem hk), fun k hk => ?_, fun k hk => ?_, h8, by omega⟩
  · unfold stableOf
    rw [if_pos hsy, decide_eq_true hd]
  · unfold stableOf
    rw [if_pos h]
    congr 1
    rw [decide_eq_decide]
    rw [stable_iff hp]
    constructor
    · intro e; rw [e]; rfl
    · intro e; exact List.eq_nil_of_length_eq_zero (by omega)
  · rw [nth_times hp hk]; exact hsum.2 k hk
  · have h1 := S.pile.nth (k := k) (by rw [S.len]; exact hk)
    have h2 := hst _ (nth_mem (xs := (settle xs).1) (i := k) (by rw [S.len]; exact hk))
    omega
  · rw [nth_times hp hk]
    have := List.count_le_length (a := (k : Int)) (l := (settle xs).2)
    omega
theorem settleOf_no {xs : List Int} (h : ¬ sandB xs = true) : settleOf xs = ([], [], false) := by unfold settleOf; rw [if_neg h]
/-- What is said of sand and what it is behind a toppling. -/
structure TopF (ds : List Int) (n t : Nat) : Prop where
  lt : t < n
  out : toppleOf ds (t : Int) = (topL ds t, true)
  len : (topL ds t).length = n
  fst : settleOf ds = ((settle ds).1, timesL ds, true)
  snd : settleOf (topL ds t) = ((settle ds).1, timesL (topL ds t), true)
  each : ∀ k, k < n → nth (timesL ds) k = nth (timesL (topL ds t)) k + (if k = t then 1 else 0)
  bd : ∀ k, k < n → 0 ≤ nth (timesL (topL ds t)) k ∧ nth (timesL (topL ds t)) k ≤ 480
  l1 : (timesL ds).length = n
  l2 : (timesL (topL ds t)).length = n
theorem topF {ds : List Int} {n : Nat} {i : Int} (hl : ds.length = n) (h : (toppleOf ds i).2 = true) : ∃ t : Nat, i = (t : Int) ∧ TopF ds n t := by
  subst hl
  have hc : sandB ds = true ∧ 0 ≤ i ∧ i < (ds.length : Int) ∧ (ds.length : Int) ≤ nth ds i.toNat ∧ sandB (topL ds i.toNat) = true := by
    apply Classical.byContradiction
    intro hno
    rw [topple_no hno] at h
    cases h
  obtain ⟨h1, h2, h3, h4, h5⟩ := hc
  obtain ⟨t, rfl⟩ : ∃ t : Nat, i = (t : Int) := ⟨i.toNat, by omega⟩
  rw [Int.toNat_natCast] at h4 h5
  have hp := Pile.sand h1
  have ht : t < ds.length := by omega
  have hf := settle_any_first (total ds).toNat ds hp (by have := (pile_total hp).1; omega) t ht h4
  have F := setF rfl h1
  have G := setF (xs := topL ds t) rfl h5
  refine ⟨t, rfl, ht, topple_yes rfl h1 ht h4 h5, by simp, F.out, ?_, fun k hk => times_first hp ht h4 hk, fun k hk => ?_, by simp, by simp⟩
  · rw [G.out, hf.1]
  · exact G.bT k (by simpa using hk)
theorem toppleOf_no {ds : List Int} {i : Int} (h : (toppleOf ds i).2 = false) : toppleOf ds i = ([], false) := by
  unfold toppleOf at h ⊢
  split at h
  · cases h
  · rw [if_neg (by assumption)]

set_option maxRecDepth 100000 in
set_option maxHeartbeats 32000000 in
theorem settles_walk (a b : Option Addr) (n m cap cap' : Nat) (w : World) (hn : n ≤ maxLen) (h : n ≤ 1048576 → HasB w a n w.heap.size) (h' : m ≤ 1048576 → HasB w b m w.heap.size) :
    Calls Try.prog 3 #[.slice a n cap, .slice b m cap'] w (Holds w) := by
  have H1 := hid h
  have H2 := hid h'
  have HN := hid hn
  clear h h' hn
  have hB : Below w.heap.size w w := Below.refl _ _
  go_enter Try.func3, Try.ntmps3
  go_wp2_with fail
  refine (big_any _ _ _ _ _ _ _ (by have := HN.out; unfold maxLen at this; omega)).mono ?_
  rintro e _ ⟨r, rfl, hr, rfl⟩
  have HR := hid hr
  clear hr
  cases r with
  | true =>
    go_wp2_with fail
    go_ret
    exact ⟨rfl, hB⟩
  | false =>
    have hnm := HR.out rfl
    clear HR
    have HA := hid (H1.out (by omega))
    have HM := hid (H2.out (by omega))
    clear H1 H2 HN
    go_wp2_with fail
    refine (drawStab_any _ _ _ _ HA.out).mono ?_
    rintro e v1 ⟨a_c, n_c, c_c, xs, rfl, o_c, hnc, st⟩
    replace hB := hB.trans (st.mono hB.size)
    clear st
    have HLC := hid o_c.len
    by_cases hs : sandB xs = true
    · skip
      have F := setF HLC.out hs
      obtain ⟨ys, hys⟩ : ∃ ys, (settle xs).1 = ys := ⟨_, rfl⟩
      obtain ⟨ts, hts⟩ : ∃ ts, timesL xs = ts := ⟨_, rfl⟩
      obtain ⟨T, hT⟩ : ∃ T : Int, ((settle xs).2.length : Int) = T := ⟨_, rfl⟩
      rw [hys, hts, hT] at F
      have HSO := hid F.out
      have HST := hid F.stab
      have HWS := hid F.was
      have FF := hid F
      clear F hys hts hT hs
      go_wp2_with fail
      refine (implStabilize_any _ _ _ _ _ o_c.has).mono ?_
      rw [HSO.out]
      rintro e v2 ⟨a_o, n_o, c_o, a_k, n_k, c_k, rfl, o_o, o_k, ap_o, st⟩
      replace o_c := o_c.below st (Nat.le_refl _)
      replace hB := hB.trans (st.mono hB.size)
      clear st
      clear ap_o
      go_wp2_with fail
      refine (specStabilize_any _ _ _ _ _ o_c.has).mono ?_
      rw [HSO.out]
      rintro e v3 ⟨a_r, n_r, c_r, a_v, n_v, c_v, rfl, o_r, o_v, ap_r, st⟩
      replace o_c := o_c.below st (Nat.le_refl _)
      replace o_o := o_o.below st (Nat.le_refl _)
      replace o_k := o_k.below st (Nat.le_refl _)
      replace hB := hB.trans (st.mono hB.size)
      clear st
      clear ap_r
      go_wp2_with fail
      refine (wSame_any _ _ _ _ _ _ _ _ _ o_o.has o_r.has).mono ?_
      rw [same_self]
      rintro e v4 ⟨rfl, q⟩
      have st : Below v3.heap.size v3 v4 := q.below _
      replace o_c := o_c.below st (Nat.le_refl _)
      replace o_o := o_o.below st (Nat.le_refl _)
      replace o_k := o_k.below st (Nat.le_refl _)
      replace o_r := o_r.below st (Nat.le_refl _)
      replace o_v := o_v.below st (Nat.le_refl _)
      replace hB := hB.trans (st.mono hB.size)
      clear st
      clear q
      go_wp2_with fail
      refine (wSame_any _ _ _ _ _ _ _ _ _ o_k.has o_v.has).mono ?_
      rw [same_self]
      rintro e v5 ⟨rfl, q⟩
      have st : Below v4.heap.size v4 v5 := q.below _
      replace o_c := o_c.below st (Nat.le_refl _)
      replace o_o := o_o.below st (Nat.le_refl _)
      replace o_k := o_k.below st (Nat.le_refl _)
      replace o_r := o_r.below st (Nat.le_refl _)
      replace o_v := o_v.below st (Nat.le_refl _)
      replace hB := hB.trans (st.mono hB.size)
      clear st
      clear q
      clear o_r o_v
      go_wp2_with fail
      refine (drawTop_any b m cap' _ (HM.out.grow hB (Nat.le_refl _))).mono ?_
      rintro e v6 ⟨a_d, n_d, c_d, ds, i, rfl, o_d, hnd, st⟩
      replace o_c := o_c.below st (Nat.le_refl _)
      replace o_o := o_o.below st (Nat.le_refl _)
      replace o_k := o_k.below st (Nat.le_refl _)
      replace hB := hB.trans (st.mono hB.size)
      clear st
      have HLD := hid o_d.len
      by_cases ht : (toppleOf ds i).2 = true
      · skip
        obtain ⟨t, rfl, F⟩ := topF HLD.out ht
        have HTO := hid F.out
        have HF1 := hid F.fst
        have HF2 := hid F.snd
        have HF := hid F
        have htn := F.lt
        clear ht F
        go_wp2_with fail
        refine (implTopple_any _ _ _ _ _ _ o_d.has).mono ?_
        rw [HTO.out]
        rintro e v7 ⟨a_n, n_n, c_n, rfl, o_n, st⟩
        replace o_c := o_c.below st (Nat.le_refl _)
        replace o_o := o_o.below st (Nat.le_refl _)
        replace o_k := o_k.below st (Nat.le_refl _)
        replace o_d := o_d.below st (Nat.le_refl _)
        replace hB := hB.trans (st.mono hB.size)
        clear st
        go_wp2_with fail
        refine (specTopple_any _ _ _ _ _ _ o_d.has).mono ?_
        rw [HTO.out]
        rintro e v8 ⟨a_m, n_m, c_m, rfl, o_m, st⟩
        replace o_c := o_c.below st (Nat.le_refl _)
        replace o_o := o_o.below st (Nat.le_refl _)
        replace o_k := o_k.below st (Nat.le_refl _)
        replace o_d := o_d.below st (Nat.le_refl _)
        replace o_n := o_n.below st (Nat.le_refl _)
        replace hB := hB.trans (st.mono hB.size)
        clear st
        go_wp2_with fail
        refine (wSame_any _ _ _ _ _ _ _ _ _ o_n.has o_m.has).mono ?_
        rw [same_self]
        rintro e v9 ⟨rfl, q⟩
        have st : Below v8.heap.size v8 v9 := q.below _
        replace o_c := o_c.below st (Nat.le_refl _)
        replace o_o := o_o.below st (Nat.le_refl _)
        replace o_k := o_k.below st (Nat.le_refl _)
        replace o_d := o_d.below st (Nat.le_refl _)
        replace o_n := o_n.below st (Nat.le_refl _)
        replace o_m := o_m.below st (Nat.le_refl _)
        replace hB := hB.trans (st.mono hB.size)
        clear st
        clear q
        clear o_m
        go_wp2_with fail
        refine (implStabilize_any _ _ _ _ _ o_d.has).mono ?_
        rw [HF1.out]
        rintro e v10 ⟨a_x, n_x, c_x, a_a, n_a, c_a, rfl, o_x, o_a, ap_x, st⟩
        replace o_c := o_c.below st (Nat.le_refl _)
        replace o_o := o_o.below st (Nat.le_refl _)
        replace o_k := o_k.below st (Nat.le_refl _)
        replace o_d := o_d.below st (Nat.le_refl _)
        replace o_n := o_n.below st (Nat.le_refl _)
        replace hB := hB.trans (st.mono hB.size)
        clear st
        clear ap_x
        go_wp2_with fail
        refine (implStabilize_any _ _ _ _ _ o_n.has).mono ?_
        rw [HF2.out]
        rintro e v11 ⟨a_y, n_y, c_y, a_b, n_b, c_b, rfl, o_y, o_b, ap_y, st⟩
        replace o_c := o_c.below st (Nat.le_refl _)
        replace o_o := o_o.below st (Nat.le_refl _)
        replace o_k := o_k.below st (Nat.le_refl _)
        replace o_d := o_d.below st (Nat.le_refl _)
        replace o_n := o_n.below st (Nat.le_refl _)
        replace o_x := o_x.below st (Nat.le_refl _)
        replace o_a := o_a.below st (Nat.le_refl _)
        replace hB := hB.trans (st.mono hB.size)
        clear st
        clear ap_y
        go_wp2_with fail
        refine (wSame_any _ _ _ _ _ _ _ _ _ o_x.has o_y.has).mono ?_
        rw [same_self]
        rintro e v12 ⟨rfl, q⟩
        have st : Below v11.heap.size v11 v12 := q.below _
        replace o_c := o_c.below st (Nat.le_refl _)
        replace o_o := o_o.below st (Nat.le_refl _)
        replace o_k := o_k.below st (Nat.le_refl _)
        replace o_d := o_d.below st (Nat.le_refl _)
        replace o_n := o_n.below st (Nat.le_refl _)
        replace o_x := o_x.below st (Nat.le_refl _)
        replace o_a := o_a.below st (Nat.le_refl _)
        replace o_y := o_y.below st (Nat.le_refl _)
        replace o_b := o_b.below st (Nat.le_refl _)
        replace hB := hB.trans (st.mono hB.size)
        clear st
        clear q
        clear o_x o_y
        have hna : n_a = n_d := by have := o_a.len; rw [HF.out.l1] at this; exact this.symm
        have hnb : n_b = n_d := by have := o_b.len; rw [HF.out.l2] at this; exact this.symm
        subst hna
        have HNB := hid hnb
        clear hnb
        obtain ⟨_, _, _, _, ca⟩ := o_a.has
        obtain ⟨_, _, _, _, cb⟩ := o_b.has
        have HCA := hid ca
        have HCB := hid cb
        clear ca cb
        go_wp2_with fail
        go_loop [118] (fun i => ∃ k : Nat, k ≤ n_a ∧ i = .int .i64 (k : Int)) (fun i => n_a - (intOf i).toNat)
        case atStart => exact ⟨0, Nat.zero_le _, rfl⟩
        case round =>
          obtain ⟨k, hk, rfl⟩ := hrel
          by_cases hlt : k < n_a
          · skip
            obtain ⟨ba, oa, rfl, hba, cca⟩ := HCA.out (by omega)
            obtain ⟨bb, ob, rfl, hbb, ccb⟩ := HCB.out (by rw [HNB.out]; omega)
            have hka := cca k hlt
            have hkb := ccb k (by rw [HNB.out]; exact hlt)
            have he := HF.out.each k hlt
            obtain ⟨u0, u1⟩ := HF.out.bd k hlt
            have hkn : (k : Int) < (n_b : Int) := by rw [HNB.out]; omega
            have hkz : (0 : Int) ≤ (k : Int) := by omega
            clear cca ccb
            by_cases hkt : k = t
            · skip
              rw [if_pos hkt] at he
              rw [he] at hka
              subst hkt
              have hbe : (nth (timesL (topL ds k)) k + 1 != nth (timesL (topL ds k)) k + 1) = false := by simp
              clear he
              go_wp2_with fail
              go_round
              case rel => exact ⟨k + 1, by omega, by go_num⟩
              case measure => simp [intOf]; omega
            · skip
              rw [if_neg hkt, Int.add_zero] at he
              rw [he] at hka
              have hbt : ((k : Int) == (t : Int)) = false := by simp; omega
              have hbe : (nth (timesL (topL ds t)) k != nth (timesL (topL ds t)) k) = false := by simp
              clear he
              go_wp2_with fail
              go_round
              case rel => exact ⟨k + 1, by omega, by go_num⟩
              case measure => simp [intOf]; omega
          · skip
            obtain rfl : k = n_a := by omega
            clear o_a o_b o_n o_d
            go_wp2_with fail
            refine (implIsStable_any _ _ _ _ _ o_o.has).mono ?_
            rw [HST.out]
            rintro e v13 ⟨rfl, st⟩
            replace o_c := o_c.below st (Nat.le_refl _)
            replace o_o := o_o.below st (Nat.le_refl _)
            replace o_k := o_k.below st (Nat.le_refl _)
            replace hB := hB.trans (st.mono hB.size)
            clear st
            obtain ⟨z, hz⟩ : ∃ z, (T == 0) = z := ⟨_, rfl⟩
            have hdz : decide (T = 0) = z := by rw [← hz]; by_cases e : T = 0 <;> simp [e]
            have HZ := hid hz
            rw [hdz] at HWS
            clear hz hdz
            go_wp2_with fail
            refine (implIsStable_any _ _ _ _ _ o_c.has).mono ?_
            rw [HWS.out]
            rintro e v14 ⟨rfl, st⟩
            replace o_c := o_c.below st (Nat.le_refl _)
            replace o_o := o_o.below st (Nat.le_refl _)
            replace o_k := o_k.below st (Nat.le_refl _)
            replace hB := hB.trans (st.mono hB.size)
            clear st
            have hno : n_o = n_c := by have := o_o.len; rw [FF.out.lenY] at this; exact this.symm
            have hnk : n_k = n_c := by have := o_k.len; rw [FF.out.lenT] at this; exact this.symm
            subst hno
            have HNK := hid hnk
            clear hnk
            have hk8 : n_k ≤ 8 := by rw [HNK.out]; exact FF.out.h8
            have hc8 := FF.out.h8
            have bk : ∀ i, i < n_k → 0 ≤ nth ts i ∧ nth ts i ≤ 5000 := fun i hi => by have := FF.out.bT i (by rw [← HNK.out]; exact hi); omega
            have bo : ∀ i, i < n_o → 0 ≤ nth ys i ∧ nth ys i ≤ 5000 := fun i hi => by have := FF.out.bY i hi; omega
            have bc : ∀ i, i < n_o → 0 ≤ nth xs i ∧ nth xs i ≤ 5000 := fun i hi => by have := FF.out.bx i hi; omega
            have HBK := hid bk
            have HBO := hid bo
            have HBC := hid bc
            clear bk bo bc
            have HTK := hid FF.out.tot
            obtain ⟨tt0, tt1⟩ := FF.out.bt
            obtain ⟨so, hso⟩ : ∃ so, total ys = so := ⟨_, rfl⟩
            have HSOT := hid hso
            obtain ⟨sc, hsc⟩ : ∃ sc, total xs = sc := ⟨_, rfl⟩
            have HSC := hid hsc
            have hdf : sc - so = T := by rw [← hso, ← hsc]; exact FF.out.sum
            have so0 : 0 ≤ so ∧ so ≤ 40000 := by have := wsum_bounds FF.out.lenY hc8 HBO.out n_o (Nat.le_refl _); rw [List.take_of_length_le (by rw [FF.out.lenY]; exact Nat.le_refl _), hso] at this; omega
            clear hso hsc
            obtain ⟨so1, so2⟩ := so0
            have hne : ((T : Int) != T) = false := by simp
            have hsub : IntKind.i64.wrap (sc - so) = T := by rw [hdf]; exact IntWalk.i64_in _ (by omega)
            have hT : Hid (sc = so + T) := hid (by omega)
            clear hdf
            rw [hT.out] at HSC
            have hsub2 : so + T - so = T := by omega
            clear hsub
            have OK8 := hid o_k.has
            have OO8 := hid o_o.has
            have OC8 := hid o_c.has
            have hzz : (T == 0) = z := HZ.out
            have hzn : (z != z) = false := by cases z <;> rfl
            go_wp2_with (go_at_call 15; first | (with_reducible refine (wSum_any _ _ _ _ _ OK8.out hk8 HBK.out).mono ?_; rintro e _ ⟨rfl, rfl⟩; rw [HTK.out]) | (with_reducible refine (wSum_any _ _ _ _ _ OO8.out hc8 HBO.out).mono ?_; rintro e _ ⟨rfl, rfl⟩; rw [HSOT.out]) | (with_reducible refine (wSum_any _ _ _ _ _ OC8.out hc8 HBC.out).mono ?_; rintro e _ ⟨rfl, rfl⟩; rw [HSC.out]))
            have he := FF.out.each
            have HE := hid he
            clear he hzz hzn hsub2 hne
            go_loopw [180] (fun i wr => ∃ k : Nat, k ≤ n_o ∧ i = .int .i64 (k : Int) ∧ Quiet v14 wr) (fun i _ => n_o - (intOf i).toNat)
            case atStart => exact ⟨0, Nat.zero_le _, rfl, ⟨0, rfl⟩⟩
            case round =>
              obtain ⟨k, hk, rfl, HQ⟩ := hrel
              by_cases hlt : k < n_o
              · skip
                obtain ⟨bx, ox, rfl, hbx, cx⟩ := OC8.out.2.2.2.2 (by omega)
                obtain ⟨bt, ot, rfl, hbt, ct⟩ := OK8.out.2.2.2.2 (by rw [HNK.out]; omega)
                obtain ⟨by_, oy, rfl, hby, cy⟩ := OO8.out.2.2.2.2 (by omega)
                have hcx : wr.cell? ⟨bx, ox + k, none⟩ = some (.int .i64 (nth xs k)) := by obtain ⟨q, hq⟩ := HQ; rw [hq]; exact cx k hlt
                have hct : wr.cell? ⟨bt, ot + k, none⟩ = some (.int .i64 (nth ts k)) := by obtain ⟨q, hq⟩ := HQ; rw [hq]; exact ct k (by rw [HNK.out]; exact hlt)
                have hcy : wr.cell? ⟨by_, oy + k, none⟩ = some (.int .i64 (nth ys k)) := by obtain ⟨q, hq⟩ := HQ; rw [hq]; exact cy k hlt
                rw [HE.out k hlt] at hcy
                obtain ⟨x0, x1⟩ := FF.out.bx k hlt
                obtain ⟨t0, t1⟩ := FF.out.bT k hlt
                obtain ⟨y0, y1⟩ := FF.out.bY k hlt
                have hm1 : 0 ≤ ((n_o : Int) + 1) * nth ts k := Int.mul_nonneg (by omega) t0
                have hm2 : ((n_o : Int) + 1) * nth ts k ≤ 9 * nth ts k := Int.mul_le_mul_of_nonneg_right (by omega) t0
                generalize nth xs k = x at *
                generalize nth ts k = tt at *
                clear cx ct cy
                have w1 : IntKind.i64.wrap ((n_o : Int) + 1) = (n_o : Int) + 1 := IntWalk.i64_in _ (by omega)
                have w2 : IntKind.i64.wrap (((n_o : Int) + 1) * tt) = ((n_o : Int) + 1) * tt := IntWalk.i64_in _ (by omega)
                have w3 : IntKind.i64.wrap (x - ((n_o : Int) + 1) * tt) = x - ((n_o : Int) + 1) * tt := IntWalk.i64_in _ (by omega)
                have w4 : IntKind.i64.wrap (x - ((n_o : Int) + 1) * tt + T) = x - ((n_o : Int) + 1) * tt + T := IntWalk.i64_in _ (by omega)
                have hne : ((x - ((n_o : Int) + 1) * tt + T) != (x - ((n_o : Int) + 1) * tt + T)) = false := by simp
                have hkn : (k : Int) < (n_o : Int) := by omega
                have hkz : (0 : Int) ≤ (k : Int) := by omega
                have hkk : (k : Int) < (n_k : Int) := by rw [HNK.out]; omega
                have HW1 := hid w1
                have HW2 := hid w2
                have HW3 := hid w3
                have HW4 := hid w4
                clear w1 w2 w3 w4
                go_wp2_with fail
                have w1 := HW1.out
                have w2 := HW2.out
                have w3 := HW3.out
                have w4 := HW4.out
                go_quiet (fail)
                clear w1 w2 w3 w4
                go_wp2_with fail
                go_roundw
                case rel => exact ⟨k + 1, by omega, by go_num, Quiet.more HQ _⟩
                case measure => simp [intOf]; omega
              · skip
                obtain rfl : k = n_o := by omega
                obtain ⟨q, rfl⟩ := HQ
                go_wp2_with fail
                go_ret
                exact ⟨rfl, below_drewN hB q⟩
      · skip
        have HTO := hid (toppleOf_no (Bool.eq_false_iff.2 ht))
        clear ht
        go_wp2_with fail
        refine (implTopple_any _ _ _ _ _ _ o_d.has).mono ?_
        rw [HTO.out]
        rintro e v7 ⟨a_n, n_n, c_n, rfl, o_n, st⟩
        replace o_c := o_c.below st (Nat.le_refl _)
        replace o_o := o_o.below st (Nat.le_refl _)
        replace o_k := o_k.below st (Nat.le_refl _)
        replace o_d := o_d.below st (Nat.le_refl _)
        replace hB := hB.trans (st.mono hB.size)
        clear st
        go_wp2_with fail
        refine (specTopple_any _ _ _ _ _ _ o_d.has).mono ?_
        rw [HTO.out]
        rintro e v8 ⟨a_m, n_m, c_m, rfl, o_m, st⟩
        replace o_c := o_c.below st (Nat.le_refl _)
        replace o_o := o_o.below st (Nat.le_refl _)
        replace o_k := o_k.below st (Nat.le_refl _)
        replace o_d := o_d.below st (Nat.le_refl _)
        replace o_n := o_n.below st (Nat.le_refl _)
        replace hB := hB.trans (st.mono hB.size)
        clear st
        go_wp2_with fail
        refine (wSame_any _ _ _ _ _ _ _ _ _ o_n.has o_m.has).mono ?_
        rw [same_self]
        rintro e v9 ⟨rfl, q⟩
        have st : Below v8.heap.size v8 v9 := q.below _
        replace o_c := o_c.below st (Nat.le_refl _)
        replace o_o := o_o.below st (Nat.le_refl _)
        replace o_k := o_k.below st (Nat.le_refl _)
        replace o_d := o_d.below st (Nat.le_refl _)
        replace o_n := o_n.below st (Nat.le_refl _)
        replace o_m := o_m.below st (Nat.le_refl _)
        replace hB := hB.trans (st.mono hB.size)
        clear st
        clear q
        clear o_m o_n o_d
        go_wp2_with fail
        refine (implIsStable_any _ _ _ _ _ o_o.has).mono ?_
        rw [HST.out]
        rintro e v10 ⟨rfl, st⟩
        replace o_c := o_c.below st (Nat.le_refl _)
        replace o_o := o_o.below st (Nat.le_refl _)
        replace o_k := o_k.below st (Nat.le_refl _)
        replace hB := hB.trans (st.mono hB.size)
        clear st
        obtain ⟨z, hz⟩ : ∃ z, (T == 0) = z := ⟨_, rfl⟩
        have hdz : decide (T = 0) = z := by rw [← hz]; by_cases e : T = 0 <;> simp [e]
        have HZ := hid hz
        rw [hdz] at HWS
        clear hz hdz
        go_wp2_with fail
        refine (implIsStable_any _ _ _ _ _ o_c.has).mono ?_
        rw [HWS.out]
        rintro e v11 ⟨rfl, st⟩
        replace o_c := o_c.below st (Nat.le_refl _)
        replace o_o := o_o.below st (Nat.le_refl _)
        replace o_k := o_k.below st (Nat.le_refl _)
        replace hB := hB.trans (st.mono hB.size)
        clear st
        have hno : n_o = n_c := by have := o_o.len; rw [FF.out.lenY] at this; exact this.symm
        have hnk : n_k = n_c := by have := o_k.len; rw [FF.out.lenT] at this; exact this.symm
        subst hno
        have HNK := hid hnk
        clear hnk
        have hk8 : n_k ≤ 8 := by rw [HNK.out]; exact FF.out.h8
        have hc8 := FF.out.h8
        have bk : ∀ i, i < n_k → 0 ≤ nth ts i ∧ nth ts i ≤ 5000 := fun i hi => by have := FF.out.bT i (by rw [← HNK.out]; exact hi); omega
        have bo : ∀ i, i < n_o → 0 ≤ nth ys i ∧ nth ys i ≤ 5000 := fun i hi => by have := FF.out.bY i hi; omega
        have bc : ∀ i, i < n_o → 0 ≤ nth xs i ∧ nth xs i ≤ 5000 := fun i hi => by have := FF.out.bx i hi; omega
        have HBK := hid bk
        have HBO := hid bo
        have HBC := hid bc
        clear bk bo bc
        have HTK := hid FF.out.tot
        obtain ⟨tt0, tt1⟩ := FF.out.bt
        obtain ⟨so, hso⟩ : ∃ so, total ys = so := ⟨_, rfl⟩
        have HSOT := hid hso
        obtain ⟨sc, hsc⟩ : ∃ sc, total xs = sc := ⟨_, rfl⟩
        have HSC := hid hsc
        have hdf : sc - so = T := by rw [← hso, ← hsc]; exact FF.out.sum
        have so0 : 0 ≤ so ∧ so ≤ 40000 := by have := wsum_bounds FF.out.lenY hc8 HBO.out n_o (Nat.le_refl _); rw [List.take_of_length_le (by rw [FF.out.lenY]; exact Nat.le_refl _), hso] at this; omega
        clear hso hsc
        obtain ⟨so1, so2⟩ := so0
        have hne : ((T : Int) != T) = false := by simp
        have hsub : IntKind.i64.wrap (sc - so) = T := by rw [hdf]; exact IntWalk.i64_in _ (by omega)
        have hT : Hid (sc = so + T) := hid (by omega)
        clear hdf
        rw [hT.out] at HSC
        have hsub2 : so + T - so = T := by omega
        clear hsub
        have OK8 := hid o_k.has
        have OO8 := hid o_o.has
        have OC8 := hid o_c.has
        have hzz : (T == 0) = z := HZ.out
        have hzn : (z != z) = false := by cases z <;> rfl
        go_wp2_with (go_at_call 15; first | (with_reducible refine (wSum_any _ _ _ _ _ OK8.out hk8 HBK.out).mono ?_; rintro e _ ⟨rfl, rfl⟩; rw [HTK.out]) | (with_reducible refine (wSum_any _ _ _ _ _ OO8.out hc8 HBO.out).mono ?_; rintro e _ ⟨rfl, rfl⟩; rw [HSOT.out]) | (with_reducible refine (wSum_any _ _ _ _ _ OC8.out hc8 HBC.out).mono ?_; rintro e _ ⟨rfl, rfl⟩; rw [HSC.out]))
        have he := FF.out.each
        have HE := hid he
        clear he hzz hzn hsub2 hne
        go_loopw [180] (fun i wr => ∃ k : Nat, k ≤ n_o ∧ i = .int .i64 (k : Int) ∧ Quiet v11 wr) (fun i _ => n_o - (intOf i).toNat)
        case atStart => exact ⟨0, Nat.zero_le _, rfl, ⟨0, rfl⟩⟩
        case round =>
          obtain ⟨k, hk, rfl, HQ⟩ := hrel
          by_cases hlt : k < n_o
          · skip
            obtain ⟨bx, ox, rfl, hbx, cx⟩ := OC8.out.2.2.2.2 (by omega)
            obtain ⟨bt, ot, rfl, hbt, ct⟩ := OK8.out.2.2.2.2 (by rw [HNK.out]; omega)
            obtain ⟨by_, oy, rfl, hby, cy⟩ := OO8.out.2.2.2.2 (by omega)
            have hcx : wr.cell? ⟨bx, ox + k, none⟩ = some (.int .i64 (nth xs k)) := by obtain ⟨q, hq⟩ := HQ; rw [hq]; exact cx k hlt
            have hct : wr.cell? ⟨bt, ot + k, none⟩ = some (.int .i64 (nth ts k)) := by obtain ⟨q, hq⟩ := HQ; rw [hq]; exact ct k (by rw [HNK.out]; exact hlt)
            have hcy : wr.cell? ⟨by_, oy + k, none⟩ = some (.int .i64 (nth ys k)) := by obtain ⟨q, hq⟩ := HQ; rw [hq]; exact cy k hlt
            rw [HE.out k hlt] at hcy
            obtain ⟨x0, x1⟩ := FF.out.bx k hlt
            obtain ⟨t0, t1⟩ := FF.out.bT k hlt
            obtain ⟨y0, y1⟩ := FF.out.bY k hlt
            have hm1 : 0 ≤ ((n_o : Int) + 1) * nth ts k := Int.mul_nonneg (by omega) t0
            have hm2 : ((n_o : Int) + 1) * nth ts k ≤ 9 * nth ts k := Int.mul_le_mul_of_nonneg_right (by omega) t0
            generalize nth xs k = x at *
            generalize nth ts k = tt at *
            clear cx ct cy
            have w1 : IntKind.i64.wrap ((n_o : Int) + 1) = (n_o : Int) + 1 := IntWalk.i64_in _ (by omega)
            have w2 : IntKind.i64.wrap (((n_o : Int) + 1) * tt) = ((n_o : Int) + 1) * tt := IntWalk.i64_in _ (by omega)
            have w3 : IntKind.i64.wrap (x - ((n_o : Int) + 1) * tt) = x - ((n_o : Int) + 1) * tt := IntWalk.i64_in _ (by omega)
            have w4 : IntKind.i64.wrap (x - ((n_o : Int) + 1) * tt + T) = x - ((n_o : Int) + 1) * tt + T := IntWalk.i64_in _ (by omega)
            have hne : ((x - ((n_o : Int) + 1) * tt + T) != (x - ((n_o : Int) + 1) * tt + T)) = false := by simp
            have hkn : (k : Int) < (n_o : Int) := by omega
            have hkz : (0 : Int) ≤ (k : Int) := by omega
            have hkk : (k : Int) < (n_k : Int) := by rw [HNK.out]; omega
            have HW1 := hid w1
            have HW2 := hid w2
            have HW3 := hid w3
            have HW4 := hid w4
            clear w1 w2 w3 w4
            go_wp2_with fail
            have w1 := HW1.out
            have w2 := HW2.out
            have w3 := HW3.out
            have w4 := HW4.out
            go_quiet (fail)
            clear w1 w2 w3 w4
            go_wp2_with fail
            go_roundw
            case rel => exact ⟨k + 1, by omega, by go_num, Quiet.more HQ _⟩
            case measure => simp [intOf]; omega
          · skip
            obtain rfl : k = n_o := by omega
            obtain ⟨q, rfl⟩ := HQ
            go_wp2_with fail
            go_ret
            exact ⟨rfl, below_drewN hB q⟩
    · skip
      have HSO := hid (settleOf_no hs)
      clear hs
      go_wp2_with fail
      refine (implStabilize_any _ _ _ _ _ o_c.has).mono ?_
      rw [HSO.out]
      rintro e v2 ⟨a_o, n_o, c_o, a_k, n_k, c_k, rfl, o_o, o_k, ap_o, st⟩
      replace o_c := o_c.below st (Nat.le_refl _)
      replace hB := hB.trans (st.mono hB.size)
      clear st
      clear ap_o
      go_wp2_with fail
      refine (specStabilize_any _ _ _ _ _ o_c.has).mono ?_
      rw [HSO.out]
      rintro e v3 ⟨a_r, n_r, c_r, a_v, n_v, c_v, rfl, o_r, o_v, ap_r, st⟩
      replace o_c := o_c.below st (Nat.le_refl _)
      replace o_o := o_o.below st (Nat.le_refl _)
      replace o_k := o_k.below st (Nat.le_refl _)
      replace hB := hB.trans (st.mono hB.size)
      clear st
      clear ap_r
      go_wp2_with fail
      refine (wSame_any _ _ _ _ _ _ _ _ _ o_o.has o_r.has).mono ?_
      rw [same_self]
      rintro e v4 ⟨rfl, q⟩
      have st : Below v3.heap.size v3 v4 := q.below _
      replace o_c := o_c.below st (Nat.le_refl _)
      replace o_o := o_o.below st (Nat.le_refl _)
      replace o_k := o_k.below st (Nat.le_refl _)
      replace o_r := o_r.below st (Nat.le_refl _)
      replace o_v := o_v.below st (Nat.le_refl _)
      replace hB := hB.trans (st.mono hB.size)
      clear st
      clear q
      go_wp2_with fail
      refine (wSame_any _ _ _ _ _ _ _ _ _ o_k.has o_v.has).mono ?_
      rw [same_self]
      rintro e v5 ⟨rfl, q⟩
      have st : Below v4.heap.size v4 v5 := q.below _
      replace o_c := o_c.below st (Nat.le_refl _)
      replace o_o := o_o.below st (Nat.le_refl _)
      replace o_k := o_k.below st (Nat.le_refl _)
      replace o_r := o_r.below st (Nat.le_refl _)
      replace o_v := o_v.below st (Nat.le_refl _)
      replace hB := hB.trans (st.mono hB.size)
      clear st
      clear q
      clear o_r o_v
      go_wp2_with fail
      refine (drawTop_any b m cap' _ (HM.out.grow hB (Nat.le_refl _))).mono ?_
      rintro e v6 ⟨a_d, n_d, c_d, ds, i, rfl, o_d, hnd, st⟩
      replace o_c := o_c.below st (Nat.le_refl _)
      replace o_o := o_o.below st (Nat.le_refl _)
      replace o_k := o_k.below st (Nat.le_refl _)
      replace hB := hB.trans (st.mono hB.size)
      clear st
      have HLD := hid o_d.len
      by_cases ht : (toppleOf ds i).2 = true
      · skip
        obtain ⟨t, rfl, F⟩ := topF HLD.out ht
        have HTO := hid F.out
        have HF1 := hid F.fst
        have HF2 := hid F.snd
        have HF := hid F
        have htn := F.lt
        clear ht F
        go_wp2_with fail
        refine (implTopple_any _ _ _ _ _ _ o_d.has).mono ?_
        rw [HTO.out]
        rintro e v7 ⟨a_n, n_n, c_n, rfl, o_n, st⟩
        replace o_c := o_c.below st (Nat.le_refl _)
        replace o_o := o_o.below st (Nat.le_refl _)
        replace o_k := o_k.below st (Nat.le_refl _)
        replace o_d := o_d.below st (Nat.le_refl _)
        replace hB := hB.trans (st.mono hB.size)
        clear st
        go_wp2_with fail
        refine (specTopple_any _ _ _ _ _ _ o_d.has).mono ?_
        rw [HTO.out]
        rintro e v8 ⟨a_m, n_m, c_m, rfl, o_m, st⟩
        replace o_c := o_c.below st (Nat.le_refl _)
        replace o_o := o_o.below st (Nat.le_refl _)
        replace o_k := o_k.below st (Nat.le_refl _)
        replace o_d := o_d.below st (Nat.le_refl _)
        replace o_n := o_n.below st (Nat.le_refl _)
        replace hB := hB.trans (st.mono hB.size)
        clear st
        go_wp2_with fail
        refine (wSame_any _ _ _ _ _ _ _ _ _ o_n.has o_m.has).mono ?_
        rw [same_self]
        rintro e v9 ⟨rfl, q⟩
        have st : Below v8.heap.size v8 v9 := q.below _
        replace o_c := o_c.below st (Nat.le_refl _)
        replace o_o := o_o.below st (Nat.le_refl _)
        replace o_k := o_k.below st (Nat.le_refl _)
        replace o_d := o_d.below st (Nat.le_refl _)
        replace o_n := o_n.below st (Nat.le_refl _)
        replace o_m := o_m.below st (Nat.le_refl _)
        replace hB := hB.trans (st.mono hB.size)
        clear st
        clear q
        clear o_m
        go_wp2_with fail
        refine (implStabilize_any _ _ _ _ _ o_d.has).mono ?_
        rw [HF1.out]
        rintro e v10 ⟨a_x, n_x, c_x, a_a, n_a, c_a, rfl, o_x, o_a, ap_x, st⟩
        replace o_c := o_c.below st (Nat.le_refl _)
        replace o_o := o_o.below st (Nat.le_refl _)
        replace o_k := o_k.below st (Nat.le_refl _)
        replace o_d := o_d.below st (Nat.le_refl _)
        replace o_n := o_n.below st (Nat.le_refl _)
        replace hB := hB.trans (st.mono hB.size)
        clear st
        clear ap_x
        go_wp2_with fail
        refine (implStabilize_any _ _ _ _ _ o_n.has).mono ?_
        rw [HF2.out]
        rintro e v11 ⟨a_y, n_y, c_y, a_b, n_b, c_b, rfl, o_y, o_b, ap_y, st⟩
        replace o_c := o_c.below st (Nat.le_refl _)
        replace o_o := o_o.below st (Nat.le_refl _)
        replace o_k := o_k.below st (Nat.le_refl _)
        replace o_d := o_d.below st (Nat.le_refl _)
        replace o_n := o_n.below st (Nat.le_refl _)
        replace o_x := o_x.below st (Nat.le_refl _)
        replace o_a := o_a.below st (Nat.le_refl _)
        replace hB := hB.trans (st.mono hB.size)
        clear st
        clear ap_y
        go_wp2_with fail
        refine (wSame_any _ _ _ _ _ _ _ _ _ o_x.has o_y.has).mono ?_
        rw [same_self]
        rintro e v12 ⟨rfl, q⟩
        have st : Below v11.heap.size v11 v12 := q.below _
        replace o_c := o_c.below st (Nat.le_refl _)
        replace o_o := o_o.below st (Nat.le_refl _)
        replace o_k := o_k.below st (Nat.le_refl _)
        replace o_d := o_d.below st (Nat.le_refl _)
        replace o_n := o_n.below st (Nat.le_refl _)
        replace o_x := o_x.below st (Nat.le_refl _)
        replace o_a := o_a.below st (Nat.le_refl _)
        replace o_y := o_y.below st (Nat.le_refl _)
        replace o_b := o_b.below st (Nat.le_refl _)
        replace hB := hB.trans (st.mono hB.size)
        clear st
        clear q
        clear o_x o_y
        have hna : n_a = n_d := by have := o_a.len; rw [HF.out.l1] at this; exact this.symm
        have hnb : n_b = n_d := by have := o_b.len; rw [HF.out.l2] at this; exact this.symm
        subst hna
        have HNB := hid hnb
        clear hnb
        obtain ⟨_, _, _, _, ca⟩ := o_a.has
        obtain ⟨_, _, _, _, cb⟩ := o_b.has
        have HCA := hid ca
        have HCB := hid cb
        clear ca cb
        go_wp2_with fail
        go_loop [118] (fun i => ∃ k : Nat, k ≤ n_a ∧ i = .int .i64 (k : Int)) (fun i => n_a - (intOf i).toNat)
        case atStart => exact ⟨0, Nat.zero_le _, rfl⟩
        case round =>
          obtain ⟨k, hk, rfl⟩ := hrel
          by_cases hlt : k < n_a
          · skip
            obtain ⟨ba, oa, rfl, hba, cca⟩ := HCA.out (by omega)
            obtain ⟨bb, ob, rfl, hbb, ccb⟩ := HCB.out (by rw [HNB.out]; omega)
            have hka := cca k hlt
            have hkb := ccb k (by rw [HNB.out]; exact hlt)
            have he := HF.out.each k hlt
            obtain ⟨u0, u1⟩ := HF.out.bd k hlt
            have hkn : (k : Int) < (n_b : Int) := by rw [HNB.out]; omega
            have hkz : (0 : Int) ≤ (k : Int) := by omega
            clear cca ccb
            by_cases hkt : k = t
            · skip
              rw [if_pos hkt] at he
              rw [he] at hka
              subst hkt
              have hbe : (nth (timesL (topL ds k)) k + 1 != nth (timesL (topL ds k)) k + 1) = false := by simp
              clear he
              go_wp2_with fail
              go_round
              case rel => exact ⟨k + 1, by omega, by go_num⟩
              case measure => simp [intOf]; omega
            · skip
              rw [if_neg hkt, Int.add_zero] at he
              rw [he] at hka
              have hbt : ((k : Int) == (t : Int)) = false := by simp; omega
              have hbe : (nth (timesL (topL ds t)) k != nth (timesL (topL ds t)) k) = false := by simp
              clear he
              go_wp2_with fail
              go_round
              case rel => exact ⟨k + 1, by omega, by go_num⟩
              case measure => simp [intOf]; omega
          · skip
            obtain rfl : k = n_a := by omega
            clear o_a o_b o_n o_d
            go_wp2_with fail
            go_ret
            exact ⟨rfl, hB⟩
      · skip
        have HTO := hid (toppleOf_no (Bool.eq_false_iff.2 ht))
        clear ht
        go_wp2_with fail
        refine (implTopple_any _ _ _ _ _ _ o_d.has).mono ?_
        rw [HTO.out]
        rintro e v7 ⟨a_n, n_n, c_n, rfl, o_n, st⟩
        replace o_c := o_c.below st (Nat.le_refl _)
        replace o_o := o_o.below st (Nat.le_refl _)
        replace o_k := o_k.below st (Nat.le_refl _)
        replace o_d := o_d.below st (Nat.le_refl _)
        replace hB := hB.trans (st.mono hB.size)
        clear st
        go_wp2_with fail
        refine (specTopple_any _ _ _ _ _ _ o_d.has).mono ?_
        rw [HTO.out]
        rintro e v8 ⟨a_m, n_m, c_m, rfl, o_m, st⟩
        replace o_c := o_c.below st (Nat.le_refl _)
        replace o_o := o_o.below st (Nat.le_refl _)
        replace o_k := o_k.below st (Nat.le_refl _)
        replace o_d := o_d.below st (Nat.le_refl _)
        replace o_n := o_n.below st (Nat.le_refl _)
        replace hB := hB.trans (st.mono hB.size)
        clear st
        go_wp2_with fail
        refine (wSame_any _ _ _ _ _ _ _ _ _ o_n.has o_m.has).mono ?_
        rw [same_self]
        rintro e v9 ⟨rfl, q⟩
        have st : Below v8.heap.size v8 v9 := q.below _
        replace o_c := o_c.below st (Nat.le_refl _)
        replace o_o := o_o.below st (Nat.le_refl _)
        replace o_k := o_k.below st (Nat.le_refl _)
        replace o_d := o_d.below st (Nat.le_refl _)
        replace o_n := o_n.below st (Nat.le_refl _)
        replace o_m := o_m.below st (Nat.le_refl _)
        replace hB := hB.trans (st.mono hB.size)
        clear st
        clear q
        clear o_m o_n o_d
        go_wp2_with fail
        go_ret
        exact ⟨rfl, hB⟩
end Go.Proofs.Ytclpbccmgfclcaa
