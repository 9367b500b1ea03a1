/- FirstInsertion: the program's keys that may be put in next. -/
import Derived.Test.YtadcmghjhgjeeabImplRh
import Derived.Test.YtadcmghjhgjeeabImplFi
import Derived.Test.YtadcmghjhgjeeabReq
import Derived.Test.YtadcmghjhgjeeabSpecFj
namespace Go.Proofs.Ytadcmghjhgjeeab
open Go.RowKit

/-- The keys that may be put in next, of the first k. -/
def nextL (cs part : List Int) (k : Nat) : List Int := ((keysL cs).take k).filter (rdyP cs part)
theorem next_zero (cs part : List Int) : nextL cs part 0 = [] := by simp [nextL]
theorem next_all {cs part : List Int} (ht : Tb cs) (hs : Sub cs part) {k : Nat} (hk : (keysL cs).length ≤ k) : nextL cs part k = rdyL cs part := by
  unfold nextL rdyL
  rw [List.take_of_length_le hk]
  exact List.filter_congr fun x hx => rdyP_iff ht hs (mem_keys.1 hx).2 (mem_keys.1 hx).1
theorem next_yes {cs part : List Int} {k : Nat} (hk : k < (keysL cs).length) (h : rdyP cs part (nth (keysL cs) k) = true) : nextL cs part (k + 1) = nextL cs part k ++ [nth (keysL cs) k] := by
  unfold nextL
  rw [take_succ_nth hk, List.filter_append]
  simp [h]
theorem next_no {cs part : List Int} {k : Nat} (hk : k < (keysL cs).length) (h : rdyP cs part (nth (keysL cs) k) = false) : nextL cs part (k + 1) = nextL cs part k := by
  unfold nextL
  rw [take_succ_nth hk, List.filter_append]
  simp [h]
theorem keys_len {cs : List Int} (h : cs.length ≤ 12) : (keysL cs).length ≤ 12 := by
  have h2 : (keysL cs).length = usedN cs := by
    unfold keysL
    rw [length_insSort, ← length_usedL]
    exact length_collE _ _ _ _
  have h3 : usedN cs ≤ cs.length := by unfold usedN; exact List.countP_le_length
  omega
theorem key_pos {cs : List Int} (ht : Tb cs) {x : Int} (h : x ∈ cs) (hx : x ≠ -1) : 0 ≤ x := by
  obtain ⟨f1, f2, -⟩ := findL_spec h
  have := ht.bd _ f1
  omega

set_option maxRecDepth 100000 in
set_option maxHeartbeats 4000000 in
theorem nextKeys_any (cs part : List Int) (w : World) (ht : Tb cs) (hs : Sub cs part) :
    Calls Try.prog 90 #[.agg (ivals (ringL cs)), .agg (ivals (ringL part))] w fun e w' => ∃ a' m cap', e = .returned (.slice a' m cap') ∧ Own w' w.heap.size a' m cap' (rdyL cs part) ∧ Below w.heap.size w w' := by
  have hlo := ht.lo
  have h12 := ht.hi
  have hlen := hs.len
  have hr : Rg cs := ⟨by omega, h12⟩
  have hrp : Rg part := ⟨by omega, by omega⟩
  have R := (ringAt_new w hr.all).alloc (.cells (ivals (ringL part)) 69)
  have P := ringAt_new (w.alloc (.cells (ivals (ringL cs)) 69)) hrp.all
  have hb := ((Below.refl w.heap.size w).alloc (Nat.le_refl _) (.cells (ivals (ringL cs)) 69)).alloc (by simp) (.cells (ivals (ringL part)) 69)
  have hsz : ((w.alloc (.cells (ivals (ringL cs)) 69)).alloc (.cells (ivals (ringL part)) 69)).heap.size = w.heap.size + 2 := by simp
  have e1 : (w.alloc (.cells (ivals (ringL cs)) 69)).heap.size = w.heap.size + 1 := by simp
  rw [e1] at P
  clear e1
  obtain ⟨W, hW⟩ : ∃ W, (w.alloc (.cells (ivals (ringL cs)) 69)).alloc (.cells (ivals (ringL part)) 69) = W := ⟨_, rfl⟩
  rw [hW] at R P hb hsz
  obtain ⟨q, hq⟩ := hs.free ht
  have HQ : Hid (freeAt part q) := hid hq
  have HTB := hid ht
  have HSB := hid hs
  have HLEN := hid hlen
  clear hq hlen
  go_enter Try.func90, Try.ntmps90
  go_wp2_with (first | (refine wpList_load_ring rfl _ rfl _ _ rfl R ?_) | (go_at_call 108; refine (keys_any cs _ hr).mono ?_; rintro e w' ⟨a1, m, cap1, rfl, own, st⟩))
  have s1 := st.size
  have hm : (keysL cs).length = m := own.len
  have hm12 : m ≤ 12 := by rw [← hm]; exact keys_len h12
  have HM := hid hm
  have HK := hid own.has
  obtain ⟨wk, rfl⟩ : ∃ wk : World, wk = w' := ⟨_, rfl⟩
  have R1 := R.below st R.lt
  have P1 := P.below st P.lt
  have hb1 := hb.trans (st.mono (by omega))
  have hk2 : w.heap.size + 2 ≤ wk.heap.size := by omega
  clear hm R P hb st hW own
  go_loopw [5, 12] (fun o i wr => ∃ (k n : Nat) (a : Option Addr) (cap : Nat), i = .int .i64 k ∧ o = .slice a n cap ∧ k ≤ m ∧ n ≤ k ∧ Own wr wk.heap.size a n cap (nextL cs part k) ∧ Below wk.heap.size wk wr) (fun _ i _ => m - (intOf i).toNat)
  case atStart => exact ⟨0, 0, none, 0, rfl, rfl, by omega, by omega, by rw [next_zero]; exact Own.nil _ _, Below.refl _ _⟩
  case round =>
    obtain ⟨k, n, a, cap, rfl, rfl, hk, hnk, own, hb⟩ := hrel
    have hbs := hb.size
    have hK := HK.out.below hb (Nat.le_refl _)
    have R2 := R1.below hb (by omega)
    have P2 := P1.below hb (by omega)
    by_cases hlt : k < m
    · obtain ⟨b0, off, rfl, hbb, hcc⟩ := hK.2.2.2.2 (by omega)
      have hck := hcc k hlt
      have hkl : k < (keysL cs).length := by rw [HM.out]; exact hlt
      obtain ⟨m1, m2⟩ := mem_keys.1 (nth_mem hkl)
      have h0 := key_pos ht m1 m2
      obtain ⟨c, hc⟩ : ∃ c, srch part (nth (keysL cs) k) = c := ⟨_, rfl⟩
      have hcl : c < cs.length := by rw [← hc, ← HLEN.out]; exact srch_lt ⟨q, HQ.out⟩
      have HC := hid hc
      have hc0 : (0 : Int) ≤ (c : Int) := by omega
      have hc12 : (c : Int) < 12 := by omega
      have HP : Hid (rdyP cs part (nth (keysL cs) k) = (decide (nth cs c = nth (keysL cs) k) && decide (nth part c = -1))) := hid (by unfold rdyP; rw [hc])
      clear hcc hc m1 m2
      have hclp : c < part.length := by rw [HLEN.out]; exact hcl
      have h12p : part.length ≤ 12 := by rw [HLEN.out]; exact h12
      by_cases e1 : nth cs c = nth (keysL cs) k
      · have b1 : (nth cs c == nth (keysL cs) k) = true := by simp [e1]
        by_cases e2 : nth part c = -1
        · have b2 : (nth part c == -1) = true := by simp [e2]
          have HN := hid (next_yes hkl (by rw [HP.out, e1, e2]; simp))
          clear e1 e2 hkl
          go_wp2_with (first | (refine wpList_load_ring rfl _ rfl _ _ rfl P2 ?_) | (go_at_call 89; refine (search_any part (nth (keysL cs) k) q _ hrp h0 HQ.out).mono ?_; rintro e w' ⟨rfl, st⟩; rw [HC.out]; have R3 := R2.below st R2.lt; have P3 := P2.below st P2.lt; have c1 := ring_cell R3 hcl h12; have c2 := R3.frozen (1 + c); have c3 := ring_cell P3 hclp h12p; have c4 := P3.frozen (1 + c); have own3 := own.below st (Nat.le_refl _); have hb3 := hb.trans (st.mono hbs); have hbs3 := hb3.size) | (at_builtin; refine wpList_append_int _ rfl _ _ rfl wk.heap.size _ _ _ _ _ rfl rfl own3 (by omega) hbs3 ?_; intro a2 cap2 w2 own2 hb2))
          go_roundw
          case rel => exact ⟨k + 1, n + 1, a2, cap2, by go_num, rfl, by omega, by omega, by rw [HN.out]; exact own2, hb3.trans hb2⟩
          case measure => simp [intOf]; omega
        · have b2 : (nth part c == -1) = false := by simp [e2]
          have HN := hid (next_no hkl (by rw [HP.out]; simp [e2]))
          clear e1 e2 hkl
          go_wp2_with (first | (refine wpList_load_ring rfl _ rfl _ _ rfl P2 ?_) | (go_at_call 89; refine (search_any part (nth (keysL cs) k) q _ hrp h0 HQ.out).mono ?_; rintro e w' ⟨rfl, st⟩; rw [HC.out]; have R3 := R2.below st R2.lt; have P3 := P2.below st P2.lt; have c1 := ring_cell R3 hcl h12; have c2 := R3.frozen (1 + c); have c3 := ring_cell P3 hclp h12p; have c4 := P3.frozen (1 + c); have own3 := own.below st (Nat.le_refl _); have hb3 := hb.trans (st.mono hbs); have hbs3 := hb3.size))
          go_roundw
          case rel => exact ⟨k + 1, n, a, cap, by go_num, rfl, by omega, by omega, by rw [HN.out]; exact own3, hb3⟩
          case measure => simp [intOf]; omega
      · have b1 : (nth cs c == nth (keysL cs) k) = false := by simp [e1]
        have HN := hid (next_no hkl (by rw [HP.out]; simp [e1]))
        clear e1 hkl
        go_wp2_with (first | (refine wpList_load_ring rfl _ rfl _ _ rfl P2 ?_) | (go_at_call 89; refine (search_any part (nth (keysL cs) k) q _ hrp h0 HQ.out).mono ?_; rintro e w' ⟨rfl, st⟩; rw [HC.out]; have R3 := R2.below st R2.lt; have P3 := P2.below st P2.lt; have c1 := ring_cell R3 hcl h12; have c2 := R3.frozen (1 + c); have c3 := ring_cell P3 hclp h12p; have c4 := P3.frozen (1 + c); have own3 := own.below st (Nat.le_refl _); have hb3 := hb.trans (st.mono hbs); have hbs3 := hb3.size))
        go_roundw
        case rel => exact ⟨k + 1, n, a, cap, by go_num, rfl, by omega, by omega, by rw [HN.out]; exact own3, hb3⟩
        case measure => simp [intOf]; omega
    · obtain rfl : k = m := by omega
      have HA := hid (next_all ht hs (k := k) (Nat.le_of_eq HM.out))
      go_wp2_with fail
      go_ret
      exact ⟨_, _, _, rfl, by rw [← HA.out]; exact own.mono (by omega), hb1.trans (hb.mono (by omega))⟩
theorem Own.rowOther {w : World} {B k : Nat} {a : Option Addr} {n cap : Nat} {xs : List Int} (h : Own w B a n cap xs) (hk : k < B) (cs : Array Value) : Own (w.setRow k cs) B a n cap xs := by
  obtain ⟨⟨h1, h2⟩, h3⟩ := h
  refine ⟨⟨h1, ?_⟩, h3⟩
  rcases h2 with h2 | ⟨g, cap', cur, hv, hg, hh, r⟩
  · exact .inl h2
  · exact .inr ⟨g, cap', cur, hv, hg, by rw [setRow_other w k g cs (by omega)]; exact hh, r⟩
theorem ring_same {xs ys : List Int} (hl : xs.length = ys.length) : ringL xs = ringL ys ↔ xs = ys := by
  constructor
  · intro h
    have h2 : pad xs = pad ys := congrArg List.tail h
    unfold pad at h2
    rw [hl] at h2
    exact List.append_cancel_right h2
  · rintro rfl
    rfl

set_option maxRecDepth 100000 in
set_option maxHeartbeats 4000000 in
theorem firstIns_any (cs : List Int) (w : World) (ht : Tb cs) :
    Calls Try.prog 55 #[.agg (ivals (ringL cs))] w fun e w' => ∃ a' m cap', e = .returned (.slice a' m cap') ∧ Own w' w.heap.size a' m cap' (firL cs) ∧ Below w.heap.size w w' := by
  have hlo := ht.lo
  have h12 := ht.hi
  have hr : Rg cs := ⟨by omega, h12⟩
  have R := ringAt_new w hr.all
  have hb := (Below.refl w.heap.size w).alloc (Nat.le_refl _) (.cells (ivals (ringL cs)) 69)
  have hsz : (w.alloc (.cells (ivals (ringL cs)) 69)).heap.size = w.heap.size + 1 := by simp
  obtain ⟨W, hW⟩ : ∃ W, w.alloc (.cells (ivals (ringL cs)) 69) = W := ⟨_, rfl⟩
  rw [hW] at R hb hsz
  have hin : inB (cs.length : Int) 2 12 = true := inB_iff.2 (by omega)
  have HNR := hid (newOf_emptyL hin)
  rw [Int.toNat_natCast] at HNR
  have hrg := rg_empty (m := cs.length) (by omega) (by omega)
  have HV := hid hrg.all
  have HTB := hid ht
  have FA := firAt_start ht
  obtain ⟨d0, d1, d2, d3, d4, d5, d6, d7, d8, d9, d10, d11, d12⟩ := ring_out R
  clear hin
  go_enter Try.func55, Try.ntmps55
  go_wp2_with fail
  refine (newRing_any _ _).mono ?_
  rintro e w1 ⟨rfl, st⟩
  rw [HNR.out]
  have s1 := st.size
  obtain ⟨V, hV, RV, hbV, hsV⟩ := ring_stored w1 HV.out
  have Zn := ringAt_zero w1
  have R1 := (R.below st R.lt).below hbV (by omega)
  have hb1 := (hb.trans (st.mono (by omega))).trans (hbV.mono (by omega))
  clear st hbV hb hW R
  go_wp2_with (refine wpList_store_ring rfl _ _ rfl _ _ _ rfl rfl Zn HV.out ?_)
  have hbV := hb1
  have hVs : w1.heap.size < V.heap.size := by omega
  have hVw : w.heap.size < w1.heap.size := by omega
  clear hV Zn
  go_loopg [3, 6] cs.length (fun f o _ wr => ∃ (part os : List Int) (k : Nat) (ao : Option Addr) (co : Nat), o = .slice ao k co ∧ Own wr V.heap.size ao k co os ∧ RingAt wr w.heap.size (ringL cs) ∧ RingAt wr w1.heap.size (ringL part) ∧ FirAt cs part os f ∧ Below w.heap.size w wr ∧ V.heap.size ≤ wr.heap.size)
  case atStart => exact ⟨_, [], 0, none, 0, rfl, Own.nil _ _, R1, RV, FA, hb1, Nat.le_refl _⟩
  case round =>
    clear R1 RV FA hb1 hbV
    obtain ⟨part, os, k, ao, co, rfl, own, R, P, F, hb, hsv⟩ := hrel
    have hlen := F.sub.len
    have hrp : Rg part := ⟨by omega, by omega⟩
    have hk12 : k ≤ 12 := by have := F.cnt; have := own.len; omega
    have l1 : (ringL cs).length = 13 := hr.all
    have l2 : (ringL part).length = 13 := hrp.all
    by_cases hp : part = cs
    · have HN1 : Hid ((!decide (ringL part = ringL cs)) = false) := hid (by rw [decide_eq_true (show ringL part = ringL cs by rw [hp])]; rfl)
      have HE := hid (F.end ((rdy_nil HTB.out F.sub).2 hp))
      clear hp
      go_wp2_with (first | (refine wpList_load_ring rfl _ rfl _ _ rfl P ?_) | (refine wpList_load_ring rfl _ rfl _ _ rfl R ?_) | (refine wpList_neq_ring rfl _ _ _ rfl rfl rfl l2 l1 ?_; rw [HN1.out]))
      go_ret
      exact ⟨_, _, _, rfl, by rw [HE.out]; exact own.mono (by omega), hb⟩
    · have HN1 : Hid ((!decide (ringL part = ringL cs)) = true) := hid (by rw [decide_eq_false (show ¬ ringL part = ringL cs by rw [ring_same hlen]; exact hp)]; rfl)
      have hne : rdyL cs part ≠ [] := rdy_some HTB.out F.sub hp
      have hpos : 0 < (rdyL cs part).length := List.length_pos_iff.2 hne
      obtain ⟨rest, he⟩ := head_of hpos
      obtain ⟨key, hkey⟩ : ∃ key, nth (rdyL cs part) 0 = key := ⟨_, rfl⟩
      rw [hkey] at he
      have hm : key ∈ rdyL cs part := by rw [he]; simp
      obtain ⟨r1, r2, r3, r4⟩ := rdy_cell HTB.out F.sub hm
      have h0 := key_pos HTB.out r1 r2
      obtain ⟨f0, FN⟩ := F.next HTB.out he
      obtain ⟨q, hq⟩ := F.sub.free HTB.out
      have HQ : Hid (freeAt part q) := hid hq
      have HC := hid r3
      have hset : (part.set (findL cs key) key).length = part.length := by simp
      have HL : Hid ((ringL (part.set (findL cs key) key)).length = 13) := hid (Rg.mk (by omega) (by omega)).all
      have KD := hid (And.intro hkey hpos)
      have HS := hid F.sub
      clear hp hne hkey he hm r1 r2 r3 r4 hset hq hpos F
      go_upto_region 6 with (first | (refine wpList_load_ring rfl _ rfl _ _ rfl P ?_) | (refine wpList_load_ring rfl _ rfl _ _ rfl R ?_) | (refine wpList_neq_ring rfl _ _ _ rfl rfl rfl l2 l1 ?_; rw [HN1.out]) | (go_at_call 90; refine (nextKeys_any cs part _ HTB.out HS.out).mono ?_; rintro e w' ⟨a2, m2, cap2, rfl, own2, hb2⟩; obtain rfl : m2 = (rdyL cs part).length := own2.len.symm; have hp0 : (0 : Int) < (((rdyL cs part).length : Nat) : Int) := (by have := KD.out.2; omega); obtain ⟨g2, rfl, -, -, -, -⟩ := own2.opened KD.out.2; obtain ⟨c1, c2⟩ := own_cell0 own2 KD.out.2; rw [KD.out.1] at c1; have P2 := P.below hb2 P.lt; have R2 := R.below hb2 R.lt; have hbn := hb.trans (hb2.mono hb.size); have own' := own.below hb2 (Nat.le_refl _); have hs2 := hb2.size) | (refine wpList_load_ring rfl _ rfl _ _ rfl P2 ?_) | (go_at_call 91; refine (with_any part key q _ hrp h0 HQ.out).mono ?_; rintro e w' ⟨rfl, st⟩; rw [HC.out]; have P3 := P2.below st P2.lt; have R3 := R2.below st R2.lt; have hb3 := hbn.trans (st.mono hbn.size); have own3 := own'.below st (Nat.le_refl _); have hs3 := st.size) | (refine wpList_store_ring rfl _ _ rfl _ _ _ rfl rfl P3 HL.out ?_))
      have PV := P3.row HL.out
      have RV := R3.rowOther (show w.heap.size ≠ w1.heap.size by omega) (ivals (ringL (part.set (findL cs key) key)))
      have hbV := below_row hb3 (show w.heap.size ≤ w1.heap.size by omega) (ivals (ringL (part.set (findL cs key) key)))
      have ownV := own3.rowOther hVs (ivals (ringL (part.set (findL cs key) key)))
      have hsV4 : V.heap.size ≤ (w'.setRow w1.heap.size (ivals (ringL (part.set (findL cs key) key)))).heap.size := by simp; omega
      generalize w'.setRow w1.heap.size (ivals (ringL (part.set (findL cs key) key))) = X at *
      clear P3 R3 hb3 own3 own' own P R P2 R2 hb hbn st
      go_wp2_with (at_builtin; refine wpList_append_int _ rfl _ _ rfl V.heap.size _ _ _ _ _ rfl rfl ownV (by omega) hsV4 ?_; intro a5 cap5 w5 own5 hb5)
      have hs5 := hb5.size
      go_roundg (gk - 1)
      case measure => omega
      case rel => exact ⟨_, _, _, _, _, rfl, own5, RV.below hb5 (by omega), PV.below hb5 (by omega), FN, hbV.trans (hb5.mono (by omega)), by omega⟩
end Go.Proofs.Ytadcmghjhgjeeab
