/- FirstInsertion: the model's words, by contract. -/
import Derived.Test.YtadcmghjhgjeeabSpecPt
import Derived.Test.YtadcmghjhgjeeabImplEm
import Derived.Deep.LoopGhost
namespace Go.Proofs.Ytadcmghjhgjeeab
open Go.RowKit

theorem full_succ {cs : List Int} {key : Int} {d : Nat} : full cs key (d + 1) = (full cs key d && !decide (nth cs ((ownN cs.length key + d) % cs.length) = -1)) := by simp [full, List.range_succ]
/-- The cell that is looked at on the way. -/
theorem way_idx {n o c k j : Nat} (ho : o < n) (hc : c < n) (hk : (o + c) % n = k) (hj : j < c) : ((k : Int) - ((c - j : Nat) : Int) + (n : Int)).tmod (n : Int) = (((o + j) % n : Nat) : Int) ∧ 0 ≤ (k : Int) - ((c - j : Nat) : Int) + (n : Int) ∧ (k : Int) - ((c - j : Nat) : Int) + (n : Int) ≤ 2 * n := by
  have hk2 := mod_two (x := o + c) (n := n) (by omega)
  have hx2 := mod_two (x := o + j) (n := n) (by omega)
  have h0 : 0 ≤ (k : Int) - ((c - j : Nat) : Int) + (n : Int) := by
    split at hk2 <;> omega
  refine ⟨?_, h0, by split at hk2 <;> omega⟩
  rw [Int.tmod_eq_emod_of_nonneg h0]
  have e : (k : Int) - ((c - j : Nat) : Int) + (n : Int) = ((k + n - (c - j) : Nat) : Int) := by
    split at hk2 <;> omega
  rw [e, ← Int.natCast_emod]
  congr 1
  split at hk2
  · rw [show k + n - (c - j) = (o + j) + n by omega, Nat.add_mod_right]
  · rw [show k + n - (c - j) = o + j by omega]
theorem rdyC_no1 {cs part : List Int} {k : Nat} (h : nth cs k = -1) : rdyC cs part k = false := by simp [rdyC, isUsed, h]
theorem rdyC_no2 {cs part : List Int} {k : Nat} (h : nth part k ≠ -1) : rdyC cs part k = false := by simp [rdyC, h]
theorem rdyC_is {cs part : List Int} {k : Nat} (h : nth cs k ≠ -1) (h' : nth part k = -1) : rdyC cs part k = full part (nth cs k) (costN cs.length (nth cs k) k) := by simp [rdyC, isUsed, h, h']

set_option maxRecDepth 100000 in
set_option maxHeartbeats 4000000 in
theorem prReady_any (a b : Option Addr) (n cap m capb : Nat) (cs part : List Int) (w : World) (h : Has w a n cap cs) (h' : Has w b m capb part) (ht : Tb cs) (hs : Sub cs part) :
    Calls Try.prog 85 #[.agg #[.slice a n cap], .slice b m capb] w fun e w' => ∃ a' q cap', e = .returned (.slice a' q cap') ∧ Own w' w.heap.size a' q cap' (rdyL cs part) ∧ Below w.heap.size w w' := by
  obtain rfl := h.len
  obtain rfl : m = cs.length := h'.len.symm.trans hs.len
  have hlen := hs.len
  obtain ⟨W, hW, C, hbW, hsW⟩ := boxed w (.slice a cs.length cap) 35
  have hH := h.below hbW (Nat.le_refl _)
  have hP := h'.below hbW (Nat.le_refl _)
  obtain ⟨y1, y2⟩ := id C
  have h12 := ht.hi
  have hlo := ht.lo
  have HB := hid ht.bd
  have HLEN := hid hlen
  have HTB := hid ht
  clear hlen
  go_enter Try.func85, Try.ntmps85
  go_wp2_with fail
  clear hW y1 y2
  go_loopw [6, 16] (fun o i wr => ∃ (k q : Nat) (a' : Option Addr) (cap' : Nat), i = .int .i64 (k : Int) ∧ o = .slice a' q cap' ∧ k ≤ cs.length ∧ q ≤ k ∧ Own wr W.heap.size a' q cap' (insSort (coll (rdyC cs part) (fun c => nth cs c) k)) ∧ Below W.heap.size W wr) (fun _ i _ => cs.length - (intOf i).toNat)
  case atStart => exact ⟨0, 0, none, 0, rfl, rfl, by omega, by omega, Own.nil _ _, Below.refl _ _⟩
  case round =>
    obtain ⟨k, q, a', cap', rfl, rfl, hk, hqk, own, hb⟩ := hrel
    have hbs := hb.size
    replace hH := hH.below hb (Nat.le_refl _)
    replace hP := hP.below hb (Nat.le_refl _)
    have C := C.below hb (by omega)
    by_cases hlt : k < cs.length
    · obtain ⟨b0, off, rfl, hbb, hcc⟩ := hH.2.2.2.2 (by omega)
      have hck := hcc k hlt
      obtain ⟨b1, off1, rfl, hbb1, hcp⟩ := hP.2.2.2.2 (by omega)
      have hpk := hcp k hlt
      have HCP := hid hcp
      clear hcc hcp
      have hm12 : q ≤ 12 := by omega
      obtain ⟨y1, y2⟩ := id C
      by_cases he : nth cs k = -1
      · have hb1 : (nth cs k == -1) = true := by simp [he]
        have HC : Hid (insSort (coll (rdyC cs part) (fun c => nth cs c) (k + 1)) = insSort (coll (rdyC cs part) (fun c => nth cs c) k)) := hid (by rw [coll_no (rdyC_no1 he)])
        clear he
        go_wp2_with fail
        go_roundw
        case rel => exact ⟨k + 1, q, a', cap', by go_num, rfl, by omega, by omega, by rw [HC.out]; exact own, hb⟩
        case measure => simp [intOf]; omega
      · have hb1 : (nth cs k == -1) = false := by simp [he]
        by_cases hp : nth part k = -1
        · have hb2 : (nth part k != -1) = false := by simp [hp]
          have hk0 : 0 ≤ nth cs k := by have := HB.out k hlt; omega
          have hn : 0 < cs.length := by omega
          have ho := own_lt (n := cs.length) (key := nth cs k) hn
          have hc := way_lt (n := cs.length) (a := ownN cs.length (nth cs k)) (b := k) hn
          have hoc := way_at ho hlt
          have HRC := hid (rdyC_is he hp)
          have HE := hid he
          obtain ⟨c, hcv⟩ : ∃ c, costN cs.length (nth cs k) k = c := ⟨_, rfl⟩
          have HCV := hid hcv
          have hc' : c < cs.length := by rw [← hcv]; exact hc
          have hoc' : (ownN cs.length (nth cs k) + c) % cs.length = k := by rw [← hcv]; exact hoc
          have HOC := hid hoc'
          have HO := hid ho
          clear he hp hc hoc hoc' ho hcv
          go_wp2_with (go_at_call 84; refine (prCost_any (nth cs k) k cs.length _ hk0 (by omega) (by omega) (by omega)).mono ?_; rintro e w' ⟨rfl, rfl⟩; rw [HCV.out])
          go_loop [9, 10] (fun r x => ∃ j : Nat, j ≤ c ∧ x = .int .i64 ((c - j : Nat) : Int) ∧ r = .bool (full part (nth cs k) j)) (fun _ x => (intOf x).toNat)
          case atStart => exact ⟨0, by omega, by simp, rfl⟩
          case round =>
            obtain ⟨j, hj, rfl, rfl⟩ := hrel
            by_cases hjc : j < c
            · obtain ⟨i1, i2, i3⟩ := way_idx HO.out hc' HOC.out hjc
              have hx : (ownN cs.length (nth cs k) + j) % cs.length < cs.length := Nat.mod_lt _ (by omega)
              have HS := hid (full_succ (cs := part) (key := nth cs k) (d := j))
              rw [HLEN.out] at HS
              obtain ⟨x, hxv⟩ : ∃ x, (ownN cs.length (nth cs k) + j) % cs.length = x := ⟨_, rfl⟩
              rw [hxv] at i1 hx HS
              have hpx := HCP.out x hx
              have hxp : (x : Int) < (cs.length : Int) := by omega
              have hxz : (0 : Int) ≤ (x : Int) := by omega
              have hne0 : ¬ ((cs.length : Int) = 0) := by omega
              have hcj : (0 : Int) < ((c - j : Nat) : Int) := by omega
              have hcj1 : ((c - j : Nat) : Int) - 1 = ((c - (j + 1) : Nat) : Int) := by omega
              have HX := hid hxv
              clear hxv
              obtain ⟨r, hr⟩ : ∃ r, full part (nth cs k) j = r := ⟨_, rfl⟩
              obtain ⟨cj, hcjv⟩ : ∃ cj, c - j = cj := ⟨_, rfl⟩
              rw [hcjv] at hcj hcj1 i1 i2 i3
              have HR := hid hr
              rw [hr, hcjv]
              have HCJ := hid hcjv
              clear hr hcjv
              cases r with
              | false =>
                have HN : Hid (full part (nth cs k) (j + 1) = false) := hid (by rw [HS.out, HR.out]; rfl)
                go_wp2_with fail
                go_round
                case rel => exact ⟨j + 1, by omega, by go_num, by rw [HN.out]⟩
                case measure => simp [intOf]; omega
              | true =>
                by_cases hx1 : nth part x = -1
                · have hbx : (nth part x != -1) = false := by simp [hx1]
                  have HN : Hid (full part (nth cs k) (j + 1) = false) := hid (by rw [HS.out, HR.out, hx1]; rfl)
                  clear hx1
                  go_wp2_with fail
                  go_round
                  case rel => exact ⟨j + 1, by omega, by go_num, by rw [HN.out]⟩
                  case measure => simp [intOf]; omega
                · have hbx : (nth part x != -1) = true := by simp [hx1]
                  have HN : Hid (full part (nth cs k) (j + 1) = true) := hid (by rw [HS.out, HR.out, decide_eq_false hx1]; rfl)
                  clear hx1
                  go_wp2_with fail
                  go_round
                  case rel => exact ⟨j + 1, by omega, by go_num, by rw [HN.out]⟩
                  case measure => simp [intOf]; omega
            · obtain rfl : j = c := by omega
              have hz : ((j - j : Nat) : Int) = 0 := by omega
              rw [hz]
              clear hz
              rw [HCV.out] at HRC
              by_cases hr : full part (nth cs k) j = true
              · have HC : Hid (putL (insSort (coll (rdyC cs part) (fun c => nth cs c) k)) (nth cs k) = insSort (coll (rdyC cs part) (fun c => nth cs c) (k + 1))) := hid (put_next (f := fun c => nth cs c) (by rw [HRC.out]; exact hr) fun c hc hpc e => by
                  have := HTB.out.one c k (by omega) hlt e (by rw [e]; exact HE.out)
                  omega)
                rw [hr]
                clear hr
                go_wp2_with (go_at_call 106; refine (l1Put_any _ _ _ _ _ _ _ own (by omega) hbs).mono ?_; rintro e w' ⟨a2, m2, cap2, rfl, own2, hb2⟩)
                go_roundw
                case rel => exact ⟨k + 1, m2, a2, cap2, by go_num, rfl, by omega, (by have h5 := own2.len; rw [HC.out, length_insSort] at h5; have := length_coll (rdyC cs part) (fun c => nth cs c) (k + 1); omega), by rw [← HC.out]; exact own2, hb.trans (hb2.mono hbs)⟩
                case measure => simp [intOf]; omega
              · have hr' := Bool.eq_false_iff.2 hr
                have HC : Hid (insSort (coll (rdyC cs part) (fun c => nth cs c) (k + 1)) = insSort (coll (rdyC cs part) (fun c => nth cs c) k)) := hid (by rw [coll_no (by rw [HRC.out]; exact hr')])
                rw [hr']
                clear hr hr'
                go_wp2_with fail
                go_roundw
                case rel => exact ⟨k + 1, q, a', cap', by go_num, rfl, by omega, by omega, by rw [HC.out]; exact own, hb⟩
                case measure => simp [intOf]; omega
        · have hb2 : (nth part k != -1) = true := by simp [hp]
          have HC : Hid (insSort (coll (rdyC cs part) (fun c => nth cs c) (k + 1)) = insSort (coll (rdyC cs part) (fun c => nth cs c) k)) := hid (by rw [coll_no (rdyC_no2 hp)])
          clear he hp
          go_wp2_with fail
          go_roundw
          case rel => exact ⟨k + 1, q, a', cap', by go_num, rfl, by omega, by omega, by rw [HC.out]; exact own, hb⟩
          case measure => simp [intOf]; omega
    · obtain rfl : k = cs.length := by omega
      have HR := hid (rdy_coll (part := part) HTB.out)
      go_wp2_with fail
      go_ret
      exact ⟨_, _, _, rfl, by rw [← HR.out]; exact own.mono (by omega), hbW.trans (hb.mono (by omega))⟩
end Go.Proofs.Ytadcmghjhgjeeab
