/- Keys put in: the model's lists of keys and tables of keys. -/
import Derived.Test.YtbmghpgnakbnjaaImplEm
import Derived.Test.YtbmghpgnakbnjaaTbl
namespace Go.Proofs.Ytbmghpgnakbnjaa
open Go.RowKit

def tabOf (n : Int) (keys : List Int) : List Int × Bool := if keysB n keys then (tabL n.toNat keys, true) else ([], false)
theorem keys_no1 {n : Int} {keys : List Int} (h : inB n 2 12 = false) : keysB n keys = false := by simp [keysB, h]
theorem keys_no2 {n : Int} {keys : List Int} (h : ¬ (keys.length : Int) < n) : keysB n keys = false := by simp [keysB, h]
theorem keys_no3 {n : Int} {keys : List Int} (h : allB keys 0 999 = false) : keysB n keys = false := by simp [keysB, h]
theorem keys_no4 {n : Int} {keys : List Int} {i : Nat} (hi : i < keys.length) (h : hasB (keys.take i) (nth keys i) = true) : keysB n keys = false := by
  have : diffB keys = false := by
    unfold diffB
    rw [List.all_eq_false]
    exact ⟨i, by simpa using hi, by simp [h]⟩
  simp [keysB, this]
theorem keys_yes {n : Int} {keys : List Int} (h1 : inB n 2 12 = true) (h2 : (keys.length : Int) < n) (h3 : allB keys 0 999 = true) (h4 : ∀ i, i < keys.length → hasB (keys.take i) (nth keys i) = false) : keysB n keys = true := by
  have : diffB keys = true := by
    unfold diffB
    simp only [List.all_eq_true, List.mem_range, Bool.not_eq_true']
    exact h4
  simp [keysB, h1, h2, h3, this]

set_option maxRecDepth 100000 in
set_option maxHeartbeats 2000000 in
theorem prKeys_any (p : Int) (a : Option Addr) (n cap : Nat) (ks : List Int) (w : World) (h : Has w a n cap ks) :
    Calls Try.prog 57 #[.int .i64 p, .slice a n cap] w fun e w' => e = .returned (.bool (keysB p ks)) ∧ w = w' := by
  obtain rfl := h.len
  have hle := h.le
  have hcap := h.2.1
  by_cases h1 : inB p 2 12 = true
  · have H1 := hid h1
    clear h1
    by_cases h2 : (ks.length : Int) < p
    · by_cases h3 : allB ks 0 999 = true
      · have H3 := hid h3
        clear h3
        go_enter Try.func57, Try.ntmps57
        go_wp2_with (first | (go_at_call 39; refine (prSize_any _ _).mono ?_; rintro e w' ⟨rfl, rfl⟩; rw [H1.out]) | (go_at_call 63; refine (l1All_any _ _ _ _ _ _ _ h).mono ?_; rintro e w' ⟨rfl, rfl⟩; rw [H3.out]))
        go_loopw [23] (fun i wr => ∃ k : Nat, i = .int .i64 k ∧ k ≤ ks.length ∧ Hid (∀ j, j < k → hasB (ks.take j) (nth ks j) = false) ∧ w = wr) (fun i _ => ks.length - (intOf i).toNat)
        case atStart => exact ⟨0, rfl, by omega, hid (fun j hj => by omega), rfl⟩
        case round =>
          obtain ⟨k, rfl, hk, HA, rfl⟩ := hrel
          by_cases hlt : k < ks.length
          · obtain ⟨b, off, rfl, hbb, hcc⟩ := h.2.2.2.2 (by omega)
            have hck := hcc k hlt
            clear hcc
            have hT := h.take (k := k) (by omega)
            have hki : (k : Int) ≤ (cap : Int) := by omega
            by_cases hh : hasB (ks.take k) (nth ks k) = true
            · have HN : Hid (keysB p ks = false) := hid (keys_no4 hlt hh)
              have HH := hid hh
              clear hh
              go_wp2_with (go_at_call 44; refine (l1Has_any _ _ _ _ _ _ hT).mono ?_; rintro e w' ⟨rfl, rfl⟩; rw [HH.out])
              go_ret
              exact ⟨ret_bool (by rw [HN.out]), rfl⟩
            · have HH := hid (Bool.eq_false_iff.2 hh)
              clear hh
              go_wp2_with (go_at_call 44; refine (l1Has_any _ _ _ _ _ _ hT).mono ?_; rintro e w' ⟨rfl, rfl⟩; rw [HH.out])
              go_roundw
              case rel => exact ⟨k + 1, by go_num, by omega, hid (fun j hj => by rcases Nat.lt_succ_iff_lt_or_eq.1 hj with h1 | rfl; exact HA.out j h1; exact HH.out), trivial⟩
              case measure => simp [intOf]; omega
          · obtain rfl : k = ks.length := by omega
            have HY : Hid (keysB p ks = true) := hid (keys_yes H1.out h2 H3.out HA.out)
            go_wp2_with fail
            go_ret
            exact ⟨ret_bool (by rw [HY.out]), rfl⟩
      · have H3 := hid (Bool.eq_false_iff.2 h3)
        have HN : Hid (keysB p ks = false) := hid (keys_no3 H3.out)
        clear h3
        go_enter Try.func57, Try.ntmps57
        go_wp2_with (first | (go_at_call 39; refine (prSize_any _ _).mono ?_; rintro e w' ⟨rfl, rfl⟩; rw [H1.out]) | (go_at_call 63; refine (l1All_any _ _ _ _ _ _ _ h).mono ?_; rintro e w' ⟨rfl, rfl⟩; rw [H3.out]))
        go_ret
        exact ⟨ret_bool (by rw [HN.out]), rfl⟩
    · have HN : Hid (keysB p ks = false) := hid (keys_no2 h2)
      go_enter Try.func57, Try.ntmps57
      go_wp2_with (go_at_call 39; refine (prSize_any _ _).mono ?_; rintro e w' ⟨rfl, rfl⟩; rw [H1.out])
      go_ret
      exact ⟨ret_bool (by rw [HN.out]), rfl⟩
  · have H1 := hid (Bool.eq_false_iff.2 h1)
    have HN : Hid (keysB p ks = false) := hid (keys_no1 H1.out)
    clear h1
    go_enter Try.func57, Try.ntmps57
    go_wp2_with (go_at_call 39; refine (prSize_any _ _).mono ?_; rintro e w' ⟨rfl, rfl⟩; rw [H1.out])
    go_ret
    exact ⟨ret_bool (by rw [HN.out]), rfl⟩

/-- Where an insertion stops. -/
def freeB (cs : List Int) (c : Nat) : Bool := decide (nth cs c = -1)
set_option maxRecDepth 100000 in
set_option maxHeartbeats 2000000 in
theorem prInsert_any (B : Nat) (a : Option Addr) (n cap : Nat) (cs : List Int) (key : Int) (q : Nat) (w : World) (h : Own w B a n cap cs) (h0 : 0 ≤ key) (hq : freeAt cs q) (hn : n ≤ 12) :
    Calls Try.prog 47 #[.slice a n cap, .int .i64 key] w fun e w' => e = .returned (.int .i64 (slot cs key : Nat)) ∧ Own w' B a n cap (insL cs key) ∧ Marked w w' a := by
  obtain rfl := h.len
  have hq1 := hq.1
  obtain ⟨g, rfl, hg1, hg2, hcc, hff⟩ := h.opened (by omega)
  have HCC := hid hcc
  have HFF := hid hff
  clear hcc hff
  have HQ : Hid (freeB cs q = true) := hid (by simp [freeB, hq.2])
  have HS : Hid (slot cs key = goR (freeB cs) cs.length cs.length (ownN cs.length key)) := hid rfl
  have hz : ¬ ((cs.length : Int) = 0) := by omega
  have HO := hid (own_emod (n := cs.length) h0)
  have hot : key.tmod (cs.length : Int) = key % (cs.length : Int) := Int.tmod_eq_emod_of_nonneg h0
  go_enter Try.func47, Try.ntmps47
  go_wp2_with fail
  rw [HO.out]
  go_loopw [5] (fun i wr => ∃ c : Nat, i = .int .i64 c ∧ Hid (Way (freeB cs) cs.length q c (slot cs key)) ∧ w = wr) (fun i _ => wayN cs.length (intOf i).toNat q)
  case atStart => exact ⟨_, rfl, hid (by rw [HS.out]; exact Way.start (own_lt (by omega))), rfl⟩
  case round =>
    obtain ⟨c, rfl, HW, rfl⟩ := hrel
    have hc := HW.out.lt
    have hck := HCC.out c hc
    have hfk := HFF.out c
    by_cases h2 : nth cs c = -1
    · have hst := HW.out.stop (stop := freeB cs) (by simp [freeB, h2])
      have own2 := (h.set c key).1
      have gr2 := (h.set c key).2
      have HI : Hid (cs.set c key = insL cs key) := hid (by rw [hst]; rfl)
      have HE := hid hst
      have hb2 : (nth cs c != -1) = false := by simp [h2]
      clear h2 hst
      go_wp2_with fail
      go_ret
      exact ⟨ret_int (by rw [← HE.out]), by rw [← HI.out]; exact own2, ⟨some g, gr2, fun g' hg' => ⟨_, rfl, by simpa using hg'⟩⟩⟩
    · have hb2 : (nth cs c != -1) = true := by simp [h2]
      have HE := hid (HW.out.next hq1 HQ.out (by simp [freeB, h2]))
      have hbt : ((c : Int) + 1).tmod (cs.length : Int) = (((c + 1) % cs.length : Nat) : Int) := beh_tmod
      have HBE : Hid (((c : Int) + 1) % (cs.length : Int) = (((c + 1) % cs.length : Nat) : Int)) := hid (by rw [← Int.tmod_eq_emod_of_nonneg (by omega), hbt])
      clear h2
      go_wp2_with fail
      go_roundw
      case rel => exact ⟨_, by first | rfl | (rw [HBE.out]), hid HE.out.1, trivial⟩
      case measure => simp only [intOf, Int.toNat_natCast]; exact HE.out.2

set_option maxRecDepth 100000 in
set_option maxHeartbeats 2000000 in
theorem prOf_any (a : Option Addr) (m cap p : Nat) (ks : List Int) (w : World) (h : Has w a m cap ks) (hk : keysB p ks = true) :
    Calls Try.prog 58 #[.int .i64 (p : Int), .slice a m cap] w fun e w' => ∃ a' cap', e = .returned (.agg #[.slice a' p cap']) ∧ Own w' w.heap.size a' p cap' (tabL p ks) ∧ Below w.heap.size w w' := by
  obtain rfl := h.len
  have hk2 := keysB_iff.1 hk
  have HK := hid hk
  have hlt := hk2.2.1
  have hp := hk2.1
  have HB := hid hk2.2.2.1
  clear hk hk2
  obtain ⟨W, hW, C, hbW, hsW⟩ := boxed w (.slice none 0 0) 27
  have hH := h.below hbW (Nat.le_refl _)
  have hle := h.le
  go_enter Try.func58, Try.ntmps58
  go_wp2_with fail
  refine (prEmpty_any p _ (by omega)).mono ?_
  rintro e w1 ⟨a1, cap1, rfl, own, st⟩
  have s1 := st.size
  have D := cellAt_new w1 (.slice none 0 0) 27
  obtain ⟨V, hV, DV, hbV, hsV⟩ : ∃ V, (w1.alloc (.cells #[.slice none 0 0] 27)).setCell ⟨w1.heap.size, 0, none⟩ (.slice a1 p cap1) = V ∧ CellAt V w1.heap.size (.slice a1 p cap1) ∧ Below w1.heap.size w1 V ∧ V.heap.size = w1.heap.size + 1 :=
    ⟨_, rfl, D.set, ((Below.refl _ w1).alloc (Nat.le_refl _) _).setCell (Nat.le_refl _) _, by simp⟩
  have C2 := (C.below st (by omega)).below hbV (by omega)
  have hH2 := (hH.below st (Nat.le_refl _)).below hbV (Nat.le_refl _)
  have own2 := (own.below hbV (Nat.le_refl _)).mono (B' := w.heap.size + 1) (by omega)
  have hb2 := (hbW.trans (st.mono (by omega))).trans (hbV.mono (by omega))
  have hlA := own.lt
  obtain ⟨y1, y2⟩ := id D
  clear st hbV hbW hW C own hH
  go_wp2_with fail
  clear y1 y2 D hV
  go_loopw [12] (fun i wr => ∃ k : Nat, i = .int .i64 k ∧ k ≤ ks.length ∧ Own wr (w.heap.size + 1) a1 p cap1 (tabL p (ks.take k)) ∧ Has wr a ks.length cap ks ∧ CellAt wr w1.heap.size (.slice a1 p cap1) ∧ CellAt wr w.heap.size (.slice none 0 0) ∧ Below w.heap.size w wr) (fun i _ => ks.length - (intOf i).toNat)
  case atStart => exact ⟨0, rfl, by omega, own2, hH2, DV, C2, hb2⟩
  case round =>
    clear own2 hH2 DV C2 hb2
    obtain ⟨k, rfl, hk, own, hH, D, C, hb⟩ := hrel
    have hbs := hb.size
    have hDl := D.lt
    obtain ⟨y1, y2⟩ := id D
    by_cases hlt2 : k < ks.length
    · obtain ⟨b, off, rfl, hbb, hcc⟩ := hH.2.2.2.2 (by omega)
      have hck := hcc k hlt2
      clear hcc
      have h0 : 0 ≤ nth ks k := (HB.out _ (nth_mem hlt2)).1
      obtain ⟨q, hq⟩ := (pt_tab (n := p) HK.out k hk).free (by rw [List.length_take]; omega)
      have HQ := hid hq
      have HT := hid (tabL_succ (n := p) hlt2)
      clear hq
      go_wp2_with (go_at_call 47; refine (prInsert_any (w.heap.size + 1) _ _ _ _ _ q _ own h0 HQ.out (by omega)).mono ?_; rintro e w' ⟨rfl, own2, hm⟩; have st := hm.below own.ge (by omega))
      go_roundw
      case rel => exact ⟨k + 1, by go_num, by omega, by rw [HT.out]; exact own2, h.beyond (hb.trans (st.mono (by omega))), D.unmarked hm (fun p hp => by have := hlA p hp; omega), C.below st (by omega), hb.trans (st.mono (by omega))⟩
      case measure => simp [intOf]; omega
    · obtain rfl : k = ks.length := by omega
      rw [List.take_length] at own
      obtain ⟨x1, x2⟩ := id C
      go_wp2_with fail
      refine bodyPost_ret (v := .agg #[.slice a1 p cap1]) (results_tab1 rfl _ _ _ _ rfl (C.set (z := .slice a1 p cap1))) rfl ⟨_, _, rfl, (own.cellSet (by omega) _).mono (by omega), hb.setCell (Nat.le_refl _) _⟩
end Go.Proofs.Ytbmghpgnakbnjaa
