/- ClustersOf: the model's and the program's function. -/
import Derived.Test.YtbmghpgnakbnjabImplLt1
namespace Go.Proofs.Ytbmghpgnakbnjab
open Go.RowKit

def clusOf (cs : List Int) : List Int × Bool := if tblB cs then (clusL cs, true) else ([], false)
theorem clusOf_yes {cs : List Int} (h : tblB cs = true) : clusOf cs = (clusL cs, true) := if_pos h
theorem clusOf_no {cs : List Int} (h : tblB cs = false) : clusOf cs = ([], false) := if_neg (by simp [h])
theorem next_toNat' (c n : Nat) : (((c : Int) + 1) % (n : Int)).toNat = (c + 1) % n := by rw [show ((c : Int) + 1) = ((c + 1 : Nat) : Int) by omega, ← Int.natCast_emod, Int.toNat_natCast]
/-- On the way along a row. -/
structure Rn (cs : List Int) (q c m r : Nat) : Prop where
  lt : c < cs.length
  at_ : ∃ f, wayN cs.length c q ≤ f ∧ rowN cs f c + m = r
  le : m + wayN cs.length c q ≤ cs.length
theorem Rn.start {cs : List Int} {q c : Nat} (hc : c < cs.length) : Rn cs q c 0 (rowN cs cs.length c) := ⟨hc, ⟨cs.length, Nat.le_of_lt (way_lt (by omega)), by omega⟩, by have : wayN cs.length c q < cs.length := way_lt (by omega); omega⟩
theorem Rn.stop {cs : List Int} {q c m r : Nat} (h : Rn cs q c m r) (hc : nth cs c = -1) : m = r := by
  obtain ⟨f, _, h2⟩ := h.at_
  rw [rowN_end hc] at h2
  omega
theorem Rn.next {cs : List Int} {q c m r : Nat} (h : Rn cs q c m r) (hq : freeAt cs q) (hc : nth cs c ≠ -1) : Rn cs q ((c + 1) % cs.length) (m + 1) r ∧ wayN cs.length ((c + 1) % cs.length) q < wayN cs.length c q := by
  have hst := way_step h.lt hq.1 (fun e => hc (by rw [e]; exact hq.2))
  obtain ⟨f, h1, h2⟩ := h.at_
  have := h.le
  refine ⟨⟨Nat.mod_lt _ (by have := h.lt; omega), ?_, by omega⟩, by omega⟩
  cases f with
  | zero => omega
  | succ f => exact ⟨f, by omega, by rw [rowN_next hc] at h2; omega⟩

set_option maxRecDepth 100000 in
set_option maxHeartbeats 4000000 in
theorem rowFrom_any (cs : List Int) (c : Nat) (q : Nat) (w : World) (hr : Rg cs) (hc : c < cs.length) (hq : freeAt cs q) :
    Calls Try.prog 44 #[.agg (ivals (ringL cs)), .int .i64 (c : Int)] w fun e w' => e = .returned (.int .i64 (rowN cs cs.length c : Nat)) ∧ Below w.heap.size w w' := by
  have R := ringAt_new w hr.all
  have hb := (Below.refl w.heap.size w).alloc (Nat.le_refl _) (.cells (ivals (ringL cs)) 50)
  have h12 := hr.hi
  have HQ := hid hq
  have HS := hid (Rn.start (q := q) hc)
  obtain ⟨W, hW⟩ : ∃ W, w.alloc (.cells (ivals (ringL cs)) 50) = W := ⟨_, rfl⟩
  rw [hW] at R hb
  go_enter Try.func44, Try.ntmps44
  go_wp2_with fail
  clear hW
  go_loopw [1, 5] (fun s t wr => ∃ d m : Nat, s = .int .i64 (d : Int) ∧ t = .int .i64 (m : Int) ∧ Hid (Rn cs q d m (rowN cs cs.length c)) ∧ RingAt wr w.heap.size (ringL cs) ∧ Below w.heap.size w wr) (fun s _ _ => wayN cs.length (intOf s).toNat q)
  case atStart => exact ⟨c, 0, rfl, rfl, HS, R, hb⟩
  case round =>
    clear R hb
    obtain ⟨d, m, rfl, rfl, HN, R, hb⟩ := hrel
    have hd := HN.out.lt
    have hm := HN.out.le
    have hcell := ring_cell R hd h12
    have hd0 : (0 : Int) ≤ (d : Int) := by omega
    have hd12 : (d : Int) < 12 := by omega
    by_cases he : nth cs d = -1
    · have hb1 : (nth cs d != -1) = false := by simp [he]
      have HE := hid (HN.out.stop he)
      clear he
      go_wp2_with fail
      go_ret
      exact ⟨ret_int (by rw [← HE.out]), hb⟩
    · have hb1 : (nth cs d != -1) = true := by simp [he]
      have HE := hid (HN.out.next HQ.out he)
      clear he
      go_wp2_with (refine wpList_load_ring rfl _ rfl _ _ rfl R ?_)
      refine (behind_any cs.length (pad cs) d _ hr.of hd).mono ?_
      rintro e w5 ⟨rfl, st⟩
      go_wp2_with fail
      go_roundw
      case rel => exact ⟨_, m + 1, rfl, by go_num, hid HE.out.1, R.below st R.lt, hb.trans (st.mono hb.size)⟩
      case measure => simp only [intOf, Int.toNat_natCast, next_toNat']; exact HE.out.2

/-- The clusters behind the first k used cells. -/
def clusTo (cs : List Int) (k : Nat) : List Int := (((usedL cs).take k).filter fun c => decide (nth cs ((c.toNat + cs.length - 1) % cs.length) = -1)).map fun c => (rowN cs cs.length c.toNat : Int)
theorem clusTo_yes {cs : List Int} {k c : Nat} (hk : k < (usedL cs).length) (hc : nth (usedL cs) k = (c : Int)) (h : nth cs ((c + cs.length - 1) % cs.length) = -1) : clusTo cs (k + 1) = clusTo cs k ++ [(rowN cs cs.length c : Int)] := by
  unfold clusTo
  rw [take_succ_nth hk, hc, List.filter_append, List.map_append]
  simp [h]
theorem clusTo_no {cs : List Int} {k c : Nat} (hk : k < (usedL cs).length) (hc : nth (usedL cs) k = (c : Int)) (h : nth cs ((c + cs.length - 1) % cs.length) ≠ -1) : clusTo cs (k + 1) = clusTo cs k := by
  unfold clusTo
  rw [take_succ_nth hk, hc, List.filter_append, List.map_append]
  simp [h]
theorem clusTo_all (cs : List Int) : clusTo cs (usedL cs).length = clusL cs := by
  unfold clusTo clusL
  rw [List.take_length]
  unfold usedL coll
  rw [List.filter_map, List.map_map, List.filter_filter]
  congr 1
  refine List.filter_congr fun c _ => ?_
  simp only [startsAt, Function.comp, Int.toNat_natCast]
  rw [Bool.and_comm]
theorem length_clusTo (cs : List Int) (k : Nat) : (clusTo cs k).length ≤ k := by
  unfold clusTo
  rw [List.length_map]
  exact Nat.le_trans (List.length_filter_le _ _) (by rw [List.length_take]; omega)
theorem before_tmod {n c : Nat} (hn : 0 < n) : ((c : Int) + (n : Int) - 1).tmod (n : Int) = (((c + n - 1) % n : Nat) : Int) := by
  rw [Int.tmod_eq_emod_of_nonneg (by omega), Int.natCast_emod, show ((c + n - 1 : Nat) : Int) = (c : Int) + (n : Int) - 1 by omega]

set_option maxRecDepth 100000 in
set_option maxHeartbeats 2000000 in
theorem implClus_any (a : Option Addr) (n cap : Nat) (cs : List Int) (w : World) (h : Has w a n cap cs) :
    Calls Try.prog 19 #[.agg #[.slice a n cap]] w (PostInts w (clusOf cs)) := by
  obtain ⟨W, hW, C, hbW, hsW⟩ := boxed w (.slice a n cap) 28
  have hH := h.below hbW (Nat.le_refl _)
  obtain ⟨y1, y2⟩ := id C
  by_cases hg : tblB cs = true
  · have HR := hid (clusOf_yes hg)
    have HRO := hid (rings_yes hg)
    have ht := tb_iff.1 hg
    have h12 := ht.hi
    have hlo := ht.lo
    have hrg : Rg cs := ⟨by omega, h12⟩
    have HV := hid hrg.all
    clear hg
    go_enter Try.func19, Try.ntmps19
    go_wp2_with fail
    refine (ringOf_any _ _ _ _ _ hH).mono ?_
    rintro e w1 ⟨rfl, st⟩
    rw [HRO.out]
    have s1 := st.size
    obtain ⟨V, hV, RV, hbV, hsV⟩ := ring_stored w1 HV.out
    have Zn := ringAt_zero w1
    have hb2 := (hbW.trans (st.mono (by omega))).trans (hbV.mono (by omega))
    have hVs := hb2.size
    clear st hbV hbW y1 y2 C hH hW
    go_wp2_with (first | (refine wpList_store_ring rfl _ _ rfl _ _ _ rfl rfl Zn HV.out ?_) | (refine wpList_load_ring rfl _ rfl _ _ rfl RV ?_) | (go_at_call 43; refine (usedCells_any cs _ hrg).mono ?_; rintro e WW ⟨a1, m, cap1, rfl, own, st⟩))
    have sw := st.size
    have RW := RV.below st RV.lt
    have hbE := hb2.trans (st.mono hVs)
    have hm : (usedL cs).length = m := own.len
    have hm12 : m ≤ 12 := by rw [← hm]; exact Nat.le_trans (length_coll _ _ _) h12
    have HM := hid hm
    obtain ⟨q, hq⟩ := ht.fr
    have HQ : Hid (freeAt cs q) := hid hq
    clear st hV RV Zn hb2 hm hq
    go_loopw [6, 20] (fun o i wr => ∃ (k n2 : Nat) (a2 : Option Addr) (cap2 : Nat), i = .int .i64 k ∧ o = .slice a2 n2 cap2 ∧ k ≤ m ∧ n2 ≤ k ∧ Own wr WW.heap.size a2 n2 cap2 (clusTo cs k) ∧ Below WW.heap.size WW wr) (fun _ i _ => m - (intOf i).toNat)
    case atStart => exact ⟨0, 0, none, 0, rfl, rfl, by omega, by omega, Own.nil _ _, Below.refl _ _⟩
    case round =>
      obtain ⟨k, n2, a2, cap2, rfl, rfl, hk, hn2, own2, hb⟩ := hrel
      have hbs := hb.size
      have R := RW.below hb (by omega)
      by_cases hlt : k < m
      · obtain ⟨g, rfl, hg1, hg2, hcc, hff⟩ := (own.below hb (Nat.le_refl _)).opened (by omega)
        obtain ⟨c, HC1, hc2, hc3⟩ := used_at (cs := cs) (k := k) (by rw [HM.out]; exact hlt)
        have hck := hcc k hlt
        rw [HC1] at hck
        obtain ⟨p, hp⟩ : ∃ p, (c + cs.length - 1) % cs.length = p := ⟨_, rfl⟩
        have hp1 : p < cs.length := by rw [← hp]; exact Nat.mod_lt _ (by omega)
        have hpt : ((c : Int) + (cs.length : Int) - 1).tmod (cs.length : Int) = (p : Int) := by rw [before_tmod (by omega), hp]
        have hpe : ((c : Int) + (cs.length : Int) - 1) % (cs.length : Int) = (p : Int) := by rw [← Int.tmod_eq_emod_of_nonneg (by omega), hpt]
        have hz : ¬ ((cs.length : Int) = 0) := by omega
        have hp0 : (0 : Int) ≤ (p : Int) := by omega
        have hp12 : (p : Int) < 12 := by omega
        have hcell := ring_cell R hp1 h12
        have hc0 : R.cell (i := 0) (by omega) = R.cell (i := 0) (by omega) := rfl
        obtain ⟨x0, -⟩ := ring_out R
        have HP := hid hp
        have H1 := hid HC1
        have hn12 : n2 ≤ 12 := by omega
        clear hcc hff hp HC1 hc0
        by_cases he : nth cs p = -1
        · have hb1 : (nth cs p == -1) = true := by simp [he]
          have HT := hid (clusTo_yes (by rw [HM.out]; exact hlt) H1.out (by rw [HP.out]; exact he))
          clear he
          go_wp2_with (first | (refine wpList_load_ring rfl _ rfl _ _ rfl R ?_) | (go_at_call 44; refine (rowFrom_any cs c q _ hrg hc2 HQ.out).mono ?_; rintro e w5 ⟨rfl, st5⟩; have own5 := own2.below st5 (Nat.le_refl _); have hb5 := hb.trans (st5.mono hbs); have hbs5 := hb5.size) | (at_builtin; refine wpList_append_int _ rfl _ _ rfl WW.heap.size _ _ _ _ _ rfl rfl own5 (by omega) hbs5 ?_; intro a6 cap6 w6 own6 hb6))
          go_roundw
          case rel => exact ⟨k + 1, n2 + 1, a6, cap6, by go_num, rfl, by omega, by omega, by rw [HT.out]; exact own6, hb5.trans hb6⟩
          case measure => simp [intOf]; omega
        · have hb1 : (nth cs p == -1) = false := by simp [he]
          have HT := hid (clusTo_no (by rw [HM.out]; exact hlt) H1.out (by rw [HP.out]; exact he))
          clear he
          go_wp2_with fail
          go_roundw
          case rel => exact ⟨k + 1, n2, a2, cap2, by go_num, rfl, by omega, by omega, by rw [HT.out]; exact own2, hb⟩
          case measure => simp [intOf]; omega
      · obtain rfl : k = m := by omega
        have HA : Hid (clusTo cs k = clusL cs) := hid (by rw [← HM.out]; exact clusTo_all cs)
        go_wp2_with fail
        go_ret2
        exact postInts HR.out (by rw [← HA.out]; exact own2.mono (by have := hbE.size; omega)) (hbE.trans (hb.mono hbE.size))
  · have HRO := hid (rings_no (Bool.eq_false_iff.2 hg))
    have HR := hid (clusOf_no (Bool.eq_false_iff.2 hg))
    clear hg
    go_enter Try.func19, Try.ntmps19
    go_wp2_with fail
    refine (ringOf_any _ _ _ _ _ hH).mono ?_
    rintro e w1 ⟨rfl, st⟩
    rw [HRO.out]
    have s1 := st.size
    obtain ⟨V, hV, RV, hbV, hsV⟩ := ring_stored w1 (xs := zeroR) rfl
    have Zn := ringAt_zero w1
    have hb2 := (hbW.trans (st.mono (by omega))).trans (hbV.mono (by omega))
    clear st hbV hbW
    go_wp2_with (refine wpList_store_ring rfl _ _ rfl _ _ _ rfl rfl Zn rfl ?_)
    go_ret2
    exact postInts_no HR.out hb2
theorem startsAt_yes {cs : List Int} {c : Nat} (h1 : nth cs c ≠ -1) (h2 : nth cs ((c + cs.length - 1) % cs.length) = -1) : startsAt cs c = true := by simp [startsAt, isUsed, h1, h2]
theorem startsAt_no1 {cs : List Int} {c : Nat} (h1 : nth cs c = -1) : startsAt cs c = false := by simp [startsAt, isUsed, h1]
theorem startsAt_no2 {cs : List Int} {c : Nat} (h2 : nth cs ((c + cs.length - 1) % cs.length) ≠ -1) : startsAt cs c = false := by simp [startsAt, h2]
/-- On the way along a row, counted from its first cell. -/
theorem Rn_cell {cs : List Int} {c m a : Nat} (hc : c = (a + m) % cs.length) : (c + 1) % cs.length = (a + (m + 1)) % cs.length := by
  rw [hc, Nat.mod_add_mod, Nat.add_assoc]

set_option maxRecDepth 100000 in
set_option maxHeartbeats 4000000 in
theorem specClus_any (a : Option Addr) (n cap : Nat) (cs : List Int) (w : World) (h : Has w a n cap cs) :
    Calls Try.prog 18 #[.agg #[.slice a n cap]] w (PostInts w (clusOf cs)) := by
  obtain rfl := h.len
  obtain ⟨W, hW, C, hbW, hsW⟩ := boxed w (.slice a cs.length cap) 28
  have hH := h.below hbW (Nat.le_refl _)
  obtain ⟨y1, y2⟩ := id C
  by_cases hg : tblB cs = true
  · have HG := hid hg
    have HR := hid (clusOf_yes hg)
    have ht := tb_iff.1 hg
    have h12 := ht.hi
    have hlo := ht.lo
    obtain ⟨q, hq⟩ := ht.fr
    have HQ : Hid (freeAt cs q) := hid hq
    have hz : ¬ ((cs.length : Int) = 0) := by omega
    clear hg hq
    obtain ⟨b, off, rfl, hbw, -⟩ := h.2.2.2.2 (by omega)
    go_enter Try.func18, Try.ntmps18
    go_wp2_with (go_at_call 37; refine (prGood_any _ _ _ _ _ hH).mono ?_; rintro e V ⟨rfl, st⟩; rw [HG.out]; have CV := C.below st (by omega); have hHV := hH.below st (Nat.le_refl _); have hbV := hbW.trans (st.mono hbW.size); have sV := st.size; clear y1 y2 hH C; obtain ⟨z1, z2⟩ := id CV)
    clear hW z1 z2 st hbW
    go_loopw [5, 18] (fun o i wr => ∃ (k n2 : Nat) (a2 : Option Addr) (cap2 : Nat), i = .int .i64 k ∧ o = .slice a2 n2 cap2 ∧ k ≤ cs.length ∧ n2 ≤ k ∧ Own wr V.heap.size a2 n2 cap2 (coll (startsAt cs) (fun c => (rowN cs cs.length c : Int)) k) ∧ Below V.heap.size V wr) (fun _ i _ => cs.length - (intOf i).toNat)
    case atStart => exact ⟨0, 0, none, 0, rfl, rfl, by omega, by omega, Own.nil _ _, Below.refl _ _⟩
    case round =>
      obtain ⟨k, n2, a2, cap2, rfl, rfl, hk, hn2, own, hb⟩ := hrel
      have hbs := hb.size
      have hH := hHV.below hb (Nat.le_refl _)
      have C := CV.below hb (by omega)
      by_cases hlt : k < cs.length
      · obtain ⟨b2, off2, e2, hbb, hcc⟩ := hH.2.2.2.2 (by omega)
        cases e2
        have hck := hcc k hlt
        obtain ⟨p, hp⟩ : ∃ p, (k + cs.length - 1) % cs.length = p := ⟨_, rfl⟩
        have hp1 : p < cs.length := by rw [← hp]; exact Nat.mod_lt _ (by omega)
        have hpt : ((k : Int) - 1 + (cs.length : Int)).tmod (cs.length : Int) = (p : Int) := by rw [show (k : Int) - 1 + (cs.length : Int) = (k : Int) + (cs.length : Int) - 1 by omega, before_tmod (by omega), hp]
        have hpe : ((k : Int) - 1 + (cs.length : Int)) % (cs.length : Int) = (p : Int) := by rw [← Int.tmod_eq_emod_of_nonneg (by omega), hpt]
        have hp0 : (0 : Int) ≤ (p : Int) := by omega
        have hpn : (p : Int) < (cs.length : Int) := by omega
        have hcp := hcc p hp1
        have HCC := hid hcc
        have HP := hid hp
        obtain ⟨y1, y2⟩ := id C
        have hn12 : n2 ≤ 12 := by omega
        clear hcc hp
        by_cases he : nth cs k = -1
        · have hb1 : (nth cs k == -1) = true := by simp [he]
          have HT := hid (coll_no (f := fun c => (rowN cs cs.length c : Int)) (startsAt_no1 he))
          clear he
          go_wp2_with fail
          go_quiet (fail)
          go_wp2_with fail
          go_roundw
          case rel => exact ⟨k + 1, n2, a2, cap2, by go_num, rfl, by omega, by omega, by rw [HT.out]; exact own, below_drewN hb _⟩
          case measure => simp [intOf]; omega
        · have hb1 : (nth cs k == -1) = false := by simp [he]
          have HE := hid he
          clear he
          by_cases he2 : nth cs p = -1
          · have hb2 : (nth cs p != -1) = false := by simp [he2]
            have HT := hid (coll_yes (f := fun c => (rowN cs cs.length c : Int)) (startsAt_yes HE.out (by rw [HP.out]; exact he2)))
            clear he2
            go_wp2_with fail
            go_quiet (fail)
            go_wp2_with fail
            obtain ⟨wo, hwo⟩ : ∃ wo : World, wo = wr := ⟨_, rfl⟩
            subst hwo
            go_loopw [8] (fun i wq => ∃ m : Nat, i = .int .i64 (m : Int) ∧ Hid (Rn cs q ((k + m) % cs.length) m (rowN cs cs.length k)) ∧ Quiet wo wq) (fun i _ => wayN cs.length ((k + (intOf i).toNat) % cs.length) q)
            case atStart => exact ⟨0, rfl, hid (by rw [Nat.add_zero, Nat.mod_eq_of_lt hlt]; exact Rn.start hlt), ⟨_, rfl⟩⟩
            case round =>
              obtain ⟨m, rfl, HN, HQ2⟩ := hrel
              have hml := HN.out.le
              obtain ⟨d, hd⟩ : ∃ d, (k + m) % cs.length = d := ⟨_, rfl⟩
              have HD := hid hd
              rw [hd] at HN
              have hd1 : d < cs.length := by rw [← hd]; exact Nat.mod_lt _ (by omega)
              have hdt : ((k : Int) + (m : Int)).tmod (cs.length : Int) = (d : Int) := by rw [Int.tmod_eq_emod_of_nonneg (by omega), show (k : Int) + (m : Int) = ((k + m : Nat) : Int) by omega, ← Int.natCast_emod, hd]
              have hde : ((k : Int) + (m : Int)) % (cs.length : Int) = (d : Int) := by rw [← Int.tmod_eq_emod_of_nonneg (by omega), hdt]
              have hd0 : (0 : Int) ≤ (d : Int) := by omega
              have hdn : (d : Int) < (cs.length : Int) := by omega
              have hcd : wr.cell? ⟨b, off + d, none⟩ = some (.int .i64 (nth cs d)) := by obtain ⟨t, ht⟩ := HQ2; rw [ht]; exact HCC.out d hd1
              have x1 : wr.cell? ⟨w.heap.size, 0, none⟩ = some (.slice (some ⟨b, off, none⟩) cs.length cap) := by obtain ⟨t, ht⟩ := HQ2; rw [ht]; exact y1
              have hbr : Below V.heap.size V wr := by obtain ⟨t, ht⟩ := HQ2; rw [ht]; exact below_drewN hb _
              have ownr : Own wr V.heap.size a2 n2 cap2 (coll (startsAt cs) (fun c => (rowN cs cs.length c : Int)) k) := by obtain ⟨t, ht⟩ := HQ2; rw [ht]; exact own
              have hbrs := hbr.size
              clear hd
              by_cases he : nth cs d = -1
              · have hb3 : (nth cs d != -1) = false := by simp [he]
                have HS := hid (HN.out.stop he)
                clear he
                go_wp2_with fail
                go_quiet (fail)
                have ownq : ∀ t, Own (wr.drewN t) V.heap.size a2 n2 cap2 (coll (startsAt cs) (fun c => (rowN cs cs.length c : Int)) k) := fun _ => ownr
                have hbq := fun t => below_drewN hbr t
                have hbqs := fun t => (hbq t).size
                go_wp2_with (at_builtin; refine wpList_append_int _ rfl _ _ rfl V.heap.size _ _ _ _ _ rfl rfl (ownq _) (by omega) (hbqs _) ?_; intro a6 cap6 w6 own6 hb6)
                go_roundw
                case rel => exact ⟨k + 1, n2 + 1, a6, cap6, by go_num, rfl, by omega, by omega, by rw [HT.out, ← HS.out]; exact own6, (hbq _).trans hb6⟩
                case measure => simp [intOf]; omega
              · have hb3 : (nth cs d != -1) = true := by simp [he]
                have HS := hid (HN.out.next HQ.out he)
                have HD2 := hid (Rn_cell (cs := cs) (c := d) (m := m) (a := k) HD.out.symm)
                clear he
                go_wp2_with fail
                go_quiet (fail)
                go_wp2_with fail
                go_roundw
                case rel => exact ⟨m + 1, by go_num, hid (by rw [← HD2.out]; exact HS.out.1), HQ2.more _⟩
                case measure =>
                  have h7 : ((m : Int) + 1).toNat = m + 1 := by omega
                  simp only [intOf, Int.toNat_natCast, h7]
                  rw [← HD2.out, HD.out]
                  exact HS.out.2
          · have hb2 : (nth cs p != -1) = true := by simp [he2]
            have HT := hid (coll_no (f := fun c => (rowN cs cs.length c : Int)) (startsAt_no2 (by rw [HP.out]; exact he2)))
            clear he2
            go_wp2_with fail
            go_quiet (fail)
            go_wp2_with fail
            go_roundw
            case rel => exact ⟨k + 1, n2, a2, cap2, by go_num, rfl, by omega, by omega, by rw [HT.out]; exact own, below_drewN hb _⟩
            case measure => simp [intOf]; omega
      · obtain rfl : k = cs.length := by omega
        go_wp2_with fail
        go_ret2
        exact postInts HR.out (own.mono (by omega)) (hbV.trans (hb.mono (by omega)))
  · have HG := hid (Bool.eq_false_iff.2 hg)
    have HR := hid (clusOf_no (Bool.eq_false_iff.2 hg))
    clear hg
    go_enter Try.func18, Try.ntmps18
    go_wp2_with (go_at_call 37; refine (prGood_any _ _ _ _ _ hH).mono ?_; rintro e w' ⟨rfl, st⟩; rw [HG.out])
    go_ret2
    exact postInts_no HR.out (hbW.trans (st.mono hbW.size))
end Go.Proofs.Ytbmghpgnakbnjab
