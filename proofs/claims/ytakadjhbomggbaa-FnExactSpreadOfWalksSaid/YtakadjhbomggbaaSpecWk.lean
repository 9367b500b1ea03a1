/- Chapter 4: heights and walks, the model's and the program's functions that tell them, by their contracts. -/
import Derived.Test.YtakadjhbomggbaaSpecA
import Derived.Test.YtakadjhbomggbaaOutc
import Derived.Test.YtakadjhbomggbaaWlk
import Derived.Test.YtakadjhbomggbaaMathH
namespace Go.Proofs.Ytakadjhbomggbaa
open Go.RowKit

set_option maxHeartbeats 400000 in
theorem waHeights_any (a : Option Addr) (n cap : Nat) (hs : List Int) (w : World) (h : Has w a n cap hs) :
    Calls Try.prog 74 #[.slice a n cap] w fun e w' => e = .returned (.bool (hgtB hs)) ∧ w = w' := by
  have hl := h.len
  have hle := h.le
  by_cases h8 : n ≤ 8
  · have HE := hid (hgtB_len hl h8)
    clear hl
    go_enter Try.func74, Try.ntmps74
    go_wp2_with fail
    go_loop [3, 11] (fun p i => ∃ (k : Nat) (L : Int), k ≤ n ∧ i = .int .i64 k ∧ p = .int .i64 L ∧ Hid (L + 1 = mostAt hs k) ∧ -1 ≤ L ∧ L ≤ 8 ∧ Hid (hgtTo hs k = true)) (fun _ i => n - (intOf i).toNat)
    case atStart => exact ⟨0, -1, Nat.zero_le _, rfl, rfl, hid rfl, by omega, by omega, hid rfl⟩
    case round =>
      obtain ⟨k, L, hk, rfl, rfl, HL, hL1, hL2, HT⟩ := hrel
      by_cases hlt : k < n
      · obtain ⟨b, off, rfl, hb, hc⟩ := h.2.2.2.2 (by omega)
        have hck := hc k hlt
        clear hc
        by_cases ht : inB (nth hs k) 0 (L + 1) = true
        · have HB := hid ht
          have HT2 : Hid (hgtTo hs (k + 1) = true) := hid (by rw [hgtTo_succ, HT.out, ← HL.out, ht]; rfl)
          have hq := (hgt_bounds HT2.out) k (by omega)
          clear ht
          go_wp2_with (go_at_call 78; refine (l1In_any _ _ _ _).mono ?_; rintro e w' ⟨rfl, rfl⟩; rw [HB.out])
          go_round
          case rel => exact ⟨k + 1, _, by omega, by go_num, rfl, hid rfl, by omega, by omega, HT2⟩
          case measure => simp [intOf]; omega
        · have HB := hid (Bool.eq_false_iff.2 ht)
          have HN : Hid (hgtTo hs n = false) := hid (hgtTo_no hlt (by rw [← HL.out]; exact HB.out))
          clear ht
          go_wp2_with (go_at_call 78; refine (l1In_any _ _ _ _).mono ?_; rintro e w' ⟨rfl, rfl⟩; rw [HB.out])
          go_ret
          exact ⟨ret_bool (by rw [HE.out, HN.out]), rfl⟩
      · obtain rfl : k = n := by omega
        go_wp2_with fail
        go_ret
        exact ⟨ret_bool (by rw [HE.out, HT.out]), rfl⟩
  · have HE := hid (hgtB_big hl h8)
    go_enter Try.func74, Try.ntmps74
    go_wp2_with fail
    go_ret
    exact ⟨ret_bool HE.out.symm, rfl⟩

set_option maxHeartbeats 400000 in
theorem areHeights_any (a : Option Addr) (n cap : Nat) (hs : List Int) (w : World) (h : Has w a n cap hs) :
    Calls Try.prog 64 #[.slice a n cap] w fun e w' => e = .returned (.bool (hgtB hs)) ∧ w = w' := by
  have hl := h.len
  have hle := h.le
  by_cases h8 : n ≤ 8
  · have HE := hid (hgtB_len hl h8)
    clear hl
    go_enter Try.func64, Try.ntmps64
    go_wp2_with fail
    go_loop [3, 11] (fun p i => ∃ (k : Nat) (L : Int), k ≤ n ∧ i = .int .i64 k ∧ p = .int .i64 L ∧ Hid (L = mostAt hs k) ∧ 0 ≤ L ∧ L ≤ 9 ∧ Hid (hgtTo hs k = true)) (fun _ i => n - (intOf i).toNat)
    case atStart => exact ⟨0, 0, Nat.zero_le _, rfl, rfl, hid rfl, by omega, by omega, hid rfl⟩
    case round =>
      obtain ⟨k, L, hk, rfl, rfl, HL, hL1, hL2, HT⟩ := hrel
      by_cases hlt : k < n
      · obtain ⟨b, off, rfl, hb, hc⟩ := h.2.2.2.2 (by omega)
        have hck := hc k hlt
        clear hc
        by_cases h1 : nth hs k < 0
        · have HN : Hid (hgtTo hs n = false) := hid (hgtTo_no hlt (by rw [inB_not]; omega))
          go_wp2_with fail
          go_ret
          exact ⟨ret_bool (by rw [HE.out, HN.out]), rfl⟩
        · by_cases h2 : L < nth hs k
          · have HN : Hid (hgtTo hs n = false) := hid (hgtTo_no hlt (by rw [inB_not, ← HL.out]; omega))
            go_wp2_with fail
            go_ret
            exact ⟨ret_bool (by rw [HE.out, HN.out]), rfl⟩
          · have HT2 : Hid (hgtTo hs (k + 1) = true) := hid (by rw [hgtTo_succ, HT.out, ← HL.out, inB_iff.2 ⟨by omega, by omega⟩]; rfl)
            have hq := (hgt_bounds HT2.out) k (by omega)
            go_wp2_with fail
            go_round
            case rel => exact ⟨k + 1, _, by omega, by go_num, rfl, hid rfl, by omega, by omega, HT2⟩
            case measure => simp [intOf]; omega
      · obtain rfl : k = n := by omega
        go_wp2_with fail
        go_ret
        exact ⟨ret_bool (by rw [HE.out, HT.out]), rfl⟩
  · have HE := hid (hgtB_big hl h8)
    go_enter Try.func64, Try.ntmps64
    go_wp2_with fail
    go_ret
    exact ⟨ret_bool HE.out.symm, rfl⟩

set_option maxHeartbeats 400000 in
theorem isRaised_any (a : Option Addr) (n cap : Nat) (hs : List Int) (k : Nat) (w : World) (h : Has w a n cap hs) (hk : k < n) (hb : ∀ i, i < n → 0 ≤ nth hs i ∧ nth hs i ≤ 100) :
    Calls Try.prog 100 #[.slice a n cap, .int .i64 k] w fun e w' => e = .returned (.bool (raisedB hs k)) ∧ Quiet w w' := by
  obtain ⟨b, off, rfl, hbb, hc⟩ := h.2.2.2.2 (by omega)
  have hle := h.le
  match k, hk with
  | 0, hk =>
    go_enter Try.func100, Try.ntmps100
    go_wp2_with fail
    go_quiet (fail)
    go_wp2_with fail
    go_ret
    exact ⟨ret_bool rfl, ⟨_, rfl⟩⟩
  | k + 1, hk =>
    have hc1 := hc (k + 1) hk
    have hc0 := hc k (by omega)
    have hb0 := hb k (by omega)
    have he : ((k + 1 : Nat) : Int) - 1 = (k : Int) := by omega
    have hp : (0 : Int) < ((k + 1 : Nat) : Int) := by omega
    by_cases hr : nth hs (k + 1) = nth hs k + 1
    · have HR : Hid (raisedB hs (k + 1) = true) := hid (by simp [raisedB, hr])
      have hbe : (nth hs (k + 1) == nth hs k + 1) = true := by simp [hr]
      clear hr hc hb
      go_enter Try.func100, Try.ntmps100
      go_wp2_with fail
      go_quiet (fail)
      go_wp2_with fail
      go_ret
      exact ⟨ret_bool HR.out.symm, ⟨_, rfl⟩⟩
    · have HR : Hid (raisedB hs (k + 1) = false) := hid (by simp [raisedB, hr])
      have hbe : (nth hs (k + 1) == nth hs k + 1) = false := by simp [hr]
      clear hr hc hb
      go_enter Try.func100, Try.ntmps100
      go_wp2_with fail
      go_quiet (fail)
      go_wp2_with fail
      go_ret
      exact ⟨ret_bool HR.out.symm, ⟨_, rfl⟩⟩
/-! ### Walks -/
theorem walk_no1 {hs ls : List Int} (h : hgtB hs = false) : walkB hs ls = false := by simp [walkB, h]
theorem walk_no2 {hs ls : List Int} {n m : Nat} (hl : hs.length = n) (hl' : ls.length = m) (h : n ≠ m) : walkB hs ls = false := by
  subst hl hl'
  simp [walkB, h]
theorem walk_no3 {hs ls : List Int} (h : outB ls = false) : walkB hs ls = false := by simp [walkB, h]
theorem walk_no4 {hs ls : List Int} {n : Nat} (hl : ls.length = n) (h : riseTo hs ls n = false) : walkB hs ls = false := by subst hl; simp [walkB, h]
theorem walk_yes {hs ls : List Int} {n : Nat} (hl : hs.length = n) (hl' : ls.length = n) (h : hgtB hs = true) (ho : outB ls = true) (hr : riseTo hs ls n = true) : walkB hs ls = true := by
  subst hl'
  rw [walkB_iff]
  exact ⟨h, hl, ho, hr⟩
theorem out_no1 {ls : List Int} {n : Nat} (hl : ls.length = n) (h : allB ls 0 ((n : Int) - 1) = false) : outB ls = false := by subst hl; simp [outB, carsB, h]
theorem out_no2 {ls : List Int} {n : Nat} (hl : ls.length = n) (h : distB ls n = false) : outB ls = false := by subst hl; simp [outB, h]
theorem out_yes {ls : List Int} {n : Nat} (hl : ls.length = n) (h8 : n ≤ 8) (h : allB ls 0 ((n : Int) - 1) = true) (hd : distB ls n = true) : outB ls = true := by subst hl; simp [outB, carsB, h, hd, h8]
theorem rise_first (hs ls : List Int) : riseOk hs ls 0 = true := by simp [riseOk, raisedB]
theorem rise_flat {hs ls : List Int} {k : Nat} (h : ¬ nth hs (k + 1) = nth hs k + 1) : riseOk hs ls (k + 1) = true := by simp [riseOk, raisedB, h]
theorem rise_up {hs ls : List Int} {k : Nat} (h : ¬ nth ls (k + 1) < nth ls k) : riseOk hs ls (k + 1) = true := by simp [riseOk]; right; omega
theorem rise_down {hs ls : List Int} {k : Nat} (h : nth hs (k + 1) = nth hs k + 1) (h' : nth ls (k + 1) < nth ls k) : riseOk hs ls (k + 1) = false := by simp [riseOk, raisedB, h, h']

set_option maxHeartbeats 2000000 in
theorem waGood_any (a b : Option Addr) (n cap m cap' : Nat) (hs ls : List Int) (w : World) (h : Has w a n cap hs) (h' : Has w b m cap' ls) :
    Calls Try.prog 61 #[.agg #[.slice a n cap, .slice b m cap']] w (PostBool w (walkB hs ls)) := by
  have HL := hid h.len
  have HL' := hid h'.len
  have hle := h.le
  have hle' := h'.le
  by_cases hg : hgtB hs = true
  · have HG := hid hg
    have h8 := (hgt_of hg h.len).1
    have HBD := hid (hgt_of hg h.len).2
    clear hg
    by_cases hnm : n = m
    · subst hnm
      by_cases ha : allB ls 0 ((n : Int) - 1) = true
      · have HA := hid ha
        clear ha
        go_enter Try.func61, Try.ntmps61
        go_wp2_with fail
        generalize hW : w.alloc (.cells #[.slice a n cap, .slice b n cap'] 27) = W
        have hbW : Below w.heap.size w W := by rw [← hW]; exact (Below.refl _ w).alloc (Nat.le_refl _) _
        have B1 : BoxAt W w.heap.size (.slice a n cap) (.slice b n cap') := by rw [← hW]; exact boxAt_new _ _ _ _
        have hW1 := h.below hbW (Nat.le_refl _)
        have hW2 := h'.below hbW (Nat.le_refl _)
        clear hW h h'
        refine (waHeights_any _ _ _ _ _ hW1).mono ?_
        rintro e w' ⟨rfl, rfl⟩
        rw [HG.out]
        obtain ⟨_, _, _, _⟩ := id B1
        go_wp2_with fail
        refine (l1All_any _ _ _ _ _ _ _ hW2).mono ?_
        rintro e w' ⟨rfl, rfl⟩
        rw [HA.out]
        go_wp2_with fail
        go_loopw [31] (fun i wr => ∃ k : Nat, k ≤ n ∧ i = .int .i64 k ∧ Hid (distB ls k = true) ∧ Hid (riseTo hs ls k = true) ∧ Quiet W wr) (fun i _ => n - (intOf i).toNat)
        case atStart => exact ⟨0, Nat.zero_le _, rfl, hid rfl, hid rfl, ⟨0, rfl⟩⟩
        case round =>
          obtain ⟨k, hk, rfl, HD, HR, HQ⟩ := hrel
          have hbq : Below w.heap.size w wr := by obtain ⟨q, hq⟩ := HQ; rw [hq]; exact below_drewN hbW _
          by_cases hlt : k < n
          · have hq1 : Has wr a n cap hs := by obtain ⟨q, hq⟩ := HQ; rw [hq]; exact hW1
            have hq2 : Has wr b n cap' ls := by obtain ⟨q, hq⟩ := HQ; rw [hq]; exact hW2
            have ht := hq2.take (k := k) (by omega)
            obtain ⟨b1, off1, rfl, hbb1, hc1⟩ := hq1.2.2.2.2 (by omega)
            obtain ⟨b2, off2, rfl, hbb2, hc2⟩ := hq2.2.2.2.2 (by omega)
            have hcap' := hW2.2.1
            have hck : wr.cell? ⟨b2, off2 + k, none⟩ = some (.int .i64 (nth ls k)) := hc2 k hlt
            have e0 : wr.cell? ⟨w.heap.size, 0, none⟩ = some (.slice (some ⟨b1, off1, none⟩) n cap) := by obtain ⟨q, hq⟩ := HQ; rw [hq]; exact B1.c0
            have e1 : wr.cell? ⟨w.heap.size, 1, none⟩ = some (.slice (some ⟨b2, off2, none⟩) n cap') := by obtain ⟨q, hq⟩ := HQ; rw [hq]; exact B1.c1
            have cq : ∀ j, Calls Try.prog 101 #[.slice (some ⟨b2, off2, none⟩) k cap', .int .i64 (nth ls k)] (wr.drewN j) fun e w'' => e = .returned (.bool (hasB (ls.take k) (nth ls k))) ∧ w'' = wr.drewN j := fun j =>
              (l1Has_any _ _ _ _ _ (wr.drewN j) ht).mono fun e w'' ⟨he, hw⟩ => ⟨he, hw.symm⟩
            by_cases hh : hasB (ls.take k) (nth ls k) = true
            · rw [hh] at cq
              have CQ := hid cq
              have HN := hid (walk_no3 (hs := hs) (out_no2 HL'.out (distB_no (n := n) hlt hh)))
              clear cq hh hc1 hc2
              go_wp2_with fail
              go_quiet ((go_at_call 101; exact Calls.quiet_of_same (CQ.out _)))
              go_wp2_with fail
              go_ret
              exact postBool HN.out.symm (below_drewN hbq _)
            · have hh' := Bool.eq_false_iff.2 hh
              rw [hh'] at cq
              have CQ := hid cq
              have HD2 : Hid (distB ls (k + 1) = true) := hid (by rw [distB_succ, HD.out, hh']; rfl)
              clear cq hh hh'
              by_cases hk0 : k = 0
              · have HR2 : Hid (riseTo hs ls (k + 1) = true) := hid (by rw [riseTo_succ, HR.out, hk0, rise_first]; rfl)
                have hp0 : decide (0 < k) = false := by simp; omega
                clear hc1 hc2 hk0
                go_wp2_with fail
                go_quiet ((go_at_call 101; exact Calls.quiet_of_same (CQ.out _)))
                go_wp2_with fail
                go_roundw
                case rel => exact ⟨k + 1, by omega, by go_num, HD2, HR2, Quiet.more HQ _⟩
                case measure => simp [intOf]; omega
              · obtain ⟨k, rfl⟩ : ∃ j, k = j + 1 := ⟨k - 1, by omega⟩
                clear hk0
                have c1 : wr.cell? ⟨b1, off1 + (k + 1), none⟩ = some (.int .i64 (nth hs (k + 1))) := hc1 (k + 1) hlt
                have c2 : wr.cell? ⟨b1, off1 + k, none⟩ = some (.int .i64 (nth hs k)) := hc1 k (by omega)
                have c3 : wr.cell? ⟨b2, off2 + k, none⟩ = some (.int .i64 (nth ls k)) := hc2 k (by omega)
                have hb0 := HBD.out k (by omega)
                have he : ((k + 1 : Nat) : Int) - 1 = (k : Int) := by omega
                have hp : (0 : Int) < ((k + 1 : Nat) : Int) := by omega
                clear hc1 hc2
                by_cases hr : nth hs (k + 1) = nth hs k + 1
                · have hbe : (nth hs (k + 1) == nth hs k + 1) = true := by simp [hr]
                  by_cases hd : nth ls (k + 1) < nth ls k
                  · have HN := hid (walk_no4 (hs := hs) HL'.out (riseTo_no (n := n) hlt (rise_down hr hd)))
                    clear hr
                    go_wp2_with fail
                    go_quiet ((go_at_call 101; exact Calls.quiet_of_same (CQ.out _)))
                    go_wp2_with fail
                    go_ret
                    exact postBool HN.out.symm (below_drewN hbq _)
                  · have HR2 : Hid (riseTo hs ls (k + 1 + 1) = true) := hid (by rw [riseTo_succ, HR.out, rise_up hd]; rfl)
                    clear hr
                    go_wp2_with fail
                    go_quiet ((go_at_call 101; exact Calls.quiet_of_same (CQ.out _)))
                    go_wp2_with fail
                    go_roundw
                    case rel => exact ⟨k + 1 + 1, by omega, by go_num, HD2, HR2, Quiet.more HQ _⟩
                    case measure => simp [intOf]; omega
                · have hbe : (nth hs (k + 1) == nth hs k + 1) = false := by simp [hr]
                  have HR2 : Hid (riseTo hs ls (k + 1 + 1) = true) := hid (by rw [riseTo_succ, HR.out, rise_flat hr]; rfl)
                  clear hr
                  go_wp2_with fail
                  go_quiet ((go_at_call 101; exact Calls.quiet_of_same (CQ.out _)))
                  go_wp2_with fail
                  go_roundw
                  case rel => exact ⟨k + 1 + 1, by omega, by go_num, HD2, HR2, Quiet.more HQ _⟩
                  case measure => simp [intOf]; omega
          · obtain rfl : k = n := by omega
            have HY : Hid (walkB hs ls = true) := hid (walk_yes HL.out HL'.out HG.out (out_yes HL'.out h8 HA.out HD.out) HR.out)
            go_wp2_with fail
            go_ret
            exact postBool HY.out.symm hbq
      · have HA := hid (Bool.eq_false_iff.2 ha)
        have HN := hid (walk_no3 (hs := hs) (out_no1 h'.len (Bool.eq_false_iff.2 ha)))
        clear ha
        go_enter Try.func61, Try.ntmps61
        go_wp2_with fail
        generalize hW : w.alloc (.cells #[.slice a n cap, .slice b n cap'] 27) = W
        have hbW : Below w.heap.size w W := by rw [← hW]; exact (Below.refl _ w).alloc (Nat.le_refl _) _
        have B1 : BoxAt W w.heap.size (.slice a n cap) (.slice b n cap') := by rw [← hW]; exact boxAt_new _ _ _ _
        clear hW
        refine (waHeights_any _ _ _ _ _ (h.below hbW (Nat.le_refl _))).mono ?_
        rintro e w' ⟨rfl, rfl⟩
        rw [HG.out]
        obtain ⟨_, _, _, _⟩ := id B1
        go_wp2_with fail
        refine (l1All_any _ _ _ _ _ _ _ (h'.below hbW (Nat.le_refl _))).mono ?_
        rintro e w' ⟨rfl, rfl⟩
        rw [HA.out]
        go_wp2_with fail
        go_ret
        exact postBool HN.out.symm hbW
    · have HN := hid (walk_no2 (hs := hs) (ls := ls) HL.out HL'.out hnm)
      have hbe : ((m : Int) != (n : Int)) = true := by simp; omega
      go_enter Try.func61, Try.ntmps61
      go_wp2_with fail
      generalize hW : w.alloc (.cells #[.slice a n cap, .slice b m cap'] 27) = W
      have hbW : Below w.heap.size w W := by rw [← hW]; exact (Below.refl _ w).alloc (Nat.le_refl _) _
      have B1 : BoxAt W w.heap.size (.slice a n cap) (.slice b m cap') := by rw [← hW]; exact boxAt_new _ _ _ _
      clear hW
      refine (waHeights_any _ _ _ _ _ (h.below hbW (Nat.le_refl _))).mono ?_
      rintro e w' ⟨rfl, rfl⟩
      rw [HG.out]
      obtain ⟨_, _, _, _⟩ := id B1
      go_wp2_with fail
      go_ret
      exact postBool HN.out.symm hbW
  · have HG := hid (Bool.eq_false_iff.2 hg)
    have HN := hid (walk_no1 (ls := ls) (Bool.eq_false_iff.2 hg))
    clear hg
    go_enter Try.func61, Try.ntmps61
    go_wp2_with fail
    have hbW : Below w.heap.size w (w.alloc (.cells #[.slice a n cap, .slice b m cap'] 27)) := (Below.refl _ w).alloc (Nat.le_refl _) _
    refine (waHeights_any _ _ _ _ _ (h.below hbW (Nat.le_refl _))).mono ?_
    rintro e w' ⟨rfl, rfl⟩
    rw [HG.out]
    go_wp2_with fail
    go_ret
    exact postBool HN.out.symm hbW
end Go.Proofs.Ytakadjhbomggbaa
