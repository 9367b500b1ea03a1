/- CountInsertions: the program's recursion. -/
import Derived.Test.YtadcmghjhgjeeabSpecCk
import Derived.Test.YtadcmghjhgjeeabImplFj
namespace Go.Proofs.Ytadcmghjhgjeeab
open Go.RowKit

set_option maxRecDepth 100000 in
set_option maxHeartbeats 4000000 in
theorem countIns_end (cs : List Int) (f : Nat) (w : World) (ht : Tb cs) :
    Calls Try.prog 61 #[.agg (ivals (ringL cs)), .agg (ivals (ringL cs))] w fun e w' => e = .returned (.int .i64 (cntGo cs f cs : Nat)) ∧ Below w.heap.size w w' := by
  have hlo := ht.lo
  have h12 := ht.hi
  have hr : Rg cs := ⟨by omega, h12⟩
  have R := (ringAt_new w hr.all).alloc (.cells (ivals (ringL cs)) 69)
  have P := ringAt_new (w.alloc (.cells (ivals (ringL cs)) 69)) hr.all
  have hb := ((Below.refl w.heap.size w).alloc (Nat.le_refl _) (.cells (ivals (ringL cs)) 69)).alloc (by simp) (.cells (ivals (ringL cs)) 69)
  have e1 : (w.alloc (.cells (ivals (ringL cs)) 69)).heap.size = w.heap.size + 1 := by simp
  rw [e1] at P
  clear e1
  obtain ⟨W, hW⟩ : ∃ W, (w.alloc (.cells (ivals (ringL cs)) 69)).alloc (.cells (ivals (ringL cs)) 69) = W := ⟨_, rfl⟩
  rw [hW] at R P hb
  have HC := hid (cnt_nil (f := f) (rdy_none (cs := cs)))
  have l1 : (ringL cs).length = 13 := hr.all
  have HN1 : Hid (decide (ringL cs = ringL cs) = true) := hid (decide_eq_true rfl)
  go_enter Try.func61, Try.ntmps61
  go_wp2_with (first | (refine wpList_load_ring rfl _ rfl _ _ rfl P ?_) | (refine wpList_load_ring rfl _ rfl _ _ rfl R ?_) | (refine wpList_eql_ring rfl _ _ _ rfl rfl rfl l1 l1 ?_; rw [HN1.out]))
  go_ret
  exact ⟨by rw [HC.out]; rfl, hb⟩

set_option maxRecDepth 100000 in
set_option maxHeartbeats 4000000 in
theorem countIns_any (cs : List Int) (ht : Tb cs) : ∀ f, f ≤ 12 → ∀ (part : List Int) (w : World), Sub cs part → missN cs part ≤ f →
    Calls Try.prog 61 #[.agg (ivals (ringL cs)), .agg (ivals (ringL part))] w fun e w' => e = .returned (.int .i64 (cntGo cs f part : Nat)) ∧ Below w.heap.size w w' := by
  intro f
  induction f with
  | zero =>
    intro _ part w hs hmi
    obtain rfl := (rdy_nil ht hs).1 (miss_zero ht hs hmi)
    exact countIns_end _ 0 w ht
  | succ f ih =>
    intro hf part w hs hmi
    by_cases hp : part = cs
    · subst hp
      exact countIns_end _ (f + 1) w ht
    have hlo := ht.lo
    have h12 := ht.hi
    have hlen := hs.len
    have hr : Rg cs := ⟨by omega, h12⟩
    have hrp : Rg part := ⟨by omega, by omega⟩
    have R := (ringAt_new w hr.all).alloc (.cells (ivals (ringL part)) 69)
    have P := ringAt_new (w.alloc (.cells (ivals (ringL cs)) 69)) hrp.all
    have hb := ((Below.refl w.heap.size w).alloc (Nat.le_refl _) (.cells (ivals (ringL cs)) 69)).alloc (by simp) (.cells (ivals (ringL part)) 69)
    have hsz : ((w.alloc (.cells (ivals (ringL cs)) 69)).alloc (.cells (ivals (ringL part)) 69)).heap.size = w.heap.size + 2 := by simp
    have e1 : (w.alloc (.cells (ivals (ringL cs)) 69)).heap.size = w.heap.size + 1 := by simp
    rw [e1] at P
    clear e1
    obtain ⟨W, hW⟩ : ∃ W, (w.alloc (.cells (ivals (ringL cs)) 69)).alloc (.cells (ivals (ringL part)) 69) = W := ⟨_, rfl⟩
    rw [hW] at R P hb hsz
    obtain ⟨qf, hq⟩ := hs.free ht
    have HQ : Hid (freeAt part qf) := hid hq
    have he := rdy_some ht hs hp
    have IH := hid (ih (by omega))
    have HC := hid (cnt_all (f := f) he)
    obtain ⟨V, hV⟩ : ∃ V : Nat, (rdyL cs part).length = V := ⟨_, rfl⟩
    have hpos : 0 < V := by rw [← hV]; exact List.length_pos_iff.2 he
    have hV12 : V ≤ 12 := by rw [← hV]; exact ready_len h12 part
    have HV := hid hV
    have HS := hid hs
    have HTB := hid ht
    have HSM := hid (fun k (hk : k ≤ (rdyL cs part).length) => til_small (f := f) h12 (by omega) part hk)
    have l1 : (ringL cs).length = 13 := hr.all
    have l2 : (ringL part).length = 13 := hrp.all
    have hv1 := ring_val (m := (cs.length : Int)) hr.of.len
    have hv2 := ring_val (m := (part.length : Int)) hrp.of.len
    have HV1 := hid hv1
    have HV2 := hid hv2
    have HN1 : Hid (decide (ringL part = ringL cs) = false) := hid (decide_eq_false (by rw [ring_same hlen]; exact hp))
    clear he hV ih hq hp hlen hv1 hv2
    go_enter Try.func61, Try.ntmps61
    go_wp2_with (first | (refine wpList_load_ring rfl _ rfl _ _ rfl P ?_) | (refine wpList_load_ring rfl _ rfl _ _ rfl R ?_) | (refine wpList_eql_ring rfl _ _ _ rfl rfl rfl l2 l1 ?_; rw [HN1.out]) | (go_at_call 90; refine (nextKeys_any cs part _ HTB.out HS.out).mono ?_; rintro e w' ⟨a1, q, cap1, rfl, own, st⟩; obtain rfl : q = V := (own.len.symm.trans HV.out)))
    obtain ⟨wk, rfl⟩ : ∃ wk : World, wk = w' := ⟨_, rfl⟩
    have s1 := st.size
    have HK := hid own.has
    have Rk := R.below st R.lt
    have Pk := P.below st P.lt
    have hbk := hb.trans (st.mono (by omega))
    have hwk : w.heap.size + 2 ≤ wk.heap.size := by omega
    clear hW R P hb own st
    go_loopw [5, 15] (fun x i wr => ∃ k : Nat, i = .int .i64 k ∧ x = .int .i64 (cntTil cs f part k : Nat) ∧ k ≤ q ∧ Below wk.heap.size wk wr) (fun _ i _ => q - (intOf i).toNat)
    case atStart => exact ⟨0, rfl, by rw [til_zero]; rfl, by omega, Below.refl _ _⟩
    case round =>
      obtain ⟨k, rfl, rfl, hk, hb⟩ := hrel
      have hbs := hb.size
      have hK := HK.out.below hb (Nat.le_refl _)
      have R := Rk.below hb (by omega)
      have P := Pk.below hb (by omega)
      by_cases hlt : k < q
      · obtain ⟨b0, off, rfl, hbb, hcc⟩ := hK.2.2.2.2 (by omega)
        have hck := hcc k hlt
        have hkl : k < (rdyL cs part).length := by rw [HV.out]; exact hlt
        have HT := hid (til_succ (f := f) hkl)
        have x1 := HSM.out k (by omega)
        have hm : nth (rdyL cs part) k ∈ rdyL cs part := nth_mem hkl
        obtain ⟨key, hkey⟩ : ∃ key, nth (rdyL cs part) k = key := ⟨_, rfl⟩
        rw [hkey] at hm HT hck
        obtain ⟨r1, r2, r3, r4⟩ := rdy_cell HTB.out HS.out hm
        have h0 := key_pos HTB.out r1 r2
        have hsub := HS.out.put r1
        have hmis := miss_put HS.out r1 r2 r4
        have x2 := cnt_small h12 (f := f) (by omega) (part.set (findL cs key) key)
        have HRC := hid r3
        obtain ⟨c, hc⟩ : ∃ c, findL cs key = c := ⟨_, rfl⟩
        rw [hc] at HT hsub hmis x2 HRC
        have hmf : missN cs (part.set c key) ≤ f := by omega
        have HMF := hid hmf
        have HSUB := hid hsub
        obtain ⟨x, hx⟩ : ∃ x, cntTil cs f part k = x := ⟨_, rfl⟩
        obtain ⟨y, hy⟩ : ∃ y, cntGo cs f (part.set c key) = y := ⟨_, rfl⟩
        have HY := hid hy
        rw [hx] at x1 HT ⊢
        rw [hy] at x2 HT
        have y1 : (x : Int) ≤ 106993205379072 := by omega
        have y2 : (y : Int) ≤ 106993205379072 := by omega
        have y3 : (0 : Int) ≤ (x : Int) := by omega
        have y4 : (0 : Int) ≤ (y : Int) := by omega
        clear hcc hkey hkl hm r1 r2 r3 r4 hc hsub hmis hmf hx hy x1 x2
        go_upto_region 7 with fail
        have hD : Below wr.heap.size wr wr.drew := (Below.refl _ _).drew
        have qD := hD.size
        have RD := R.below hD R.lt
        have PD := P.below hD P.lt
        have hbD := hb.drew
        obtain ⟨d0, d1, d2, d3, d4, d5, d6, d7, d8, d9, d10, d11, d12⟩ := ring_out RD
        obtain ⟨e0, e1, e2, e3, e4, e5, e6, e7, e8, e9, e10, e11, e12⟩ := ring_out PD
        have hv1 := HV1.out
        have hv2 := HV2.out
        first | (go_region_with (first | (go_at_call 91; refine (with_any part key qf _ hrp h0 HQ.out).mono ?_; rw [HRC.out]; rintro e w5 ⟨rfl, hb5⟩; have R5 := RD.below hb5 RD.lt; obtain ⟨g0, g1, g2, g3, g4, g5, g6, g7, g8, g9, g10, g11, g12⟩ := ring_out R5) | (go_at_call 61; refine (IH.out _ _ HSUB.out HMF.out).mono ?_; rw [HY.out]; rintro e w6 ⟨rfl, hb6⟩))) | fail
        all_goals
          go_wp2_with fail
          go_roundw
          case rel => exact ⟨k + 1, by go_num, by rw [HT.out]; go_num, by omega, (hbD.trans (hb5.mono (by omega))).trans (hb6.mono (by have := hb5.size; omega))⟩
          case measure => simp [intOf]; omega
      · obtain rfl : k = q := by omega
        go_wp2_with fail
        go_ret
        exact ⟨by rw [HC.out, HV.out]; rfl, hbk.trans (hb.mono (by omega))⟩
end Go.Proofs.Ytadcmghjhgjeeab
