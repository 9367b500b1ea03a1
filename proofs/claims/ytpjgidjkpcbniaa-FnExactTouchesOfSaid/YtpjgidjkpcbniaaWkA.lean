/- Chapter 4: areas, touches and parking functions of walks, by their contracts. -/
import Derived.Test.YtpjgidjkpcbniaaImplWk
import Derived.Test.YtpjgidjkpcbniaaSpecC
namespace Go.Proofs.Ytpjgidjkpcbniaa
open Go.RowKit

theorem hgt_small {hs : List Int} {n : Nat} (hl : hs.length = n) (h8 : n ≤ 8) (hb : ∀ i, i < n → 0 ≤ nth hs i ∧ nth hs i ≤ (i : Int)) : Small hs := fun i hi => by
  have := hb i (by omega)
  omega
set_option maxHeartbeats 400000 in
theorem area_any (a : Option Addr) (n cap : Nat) (ys : List Int) (w : World) (h : Has w a n cap ys) (hs : Small ys) :
    Calls Try.prog 58 #[.slice a n cap] w fun e w' => e = .returned (.int .i64 (total ys)) ∧ w = w' := by
  obtain ⟨h0, h1, h2, h3, h4⟩ := h
  go_enter Try.func58, Try.ntmps58
  go_wp2_with fail
  go_loop [3, 8] (fun c i => ∃ k : Nat, k ≤ n ∧ i = .int .i64 k ∧ c = .int .i64 (total (ys.take k))) (fun _ i => n - (intOf i).toNat)
  case atStart => exact ⟨0, Nat.zero_le _, rfl, rfl⟩
  case round =>
    obtain ⟨k, hk, rfl, rfl⟩ := hrel
    by_cases hlt : k < n
    · obtain ⟨b, off, rfl, hb, hc⟩ := h4 (by omega)
      have hck := hc k hlt
      have ht := total_bounds hs k (by omega)
      obtain ⟨hv0, hv1⟩ := hs k (by omega)
      have HS := hid (total_succ (xs := ys) (k := k) (by omega))
      clear hc h4 hs
      go_wp2_with fail
      go_round
      case rel => exact ⟨k + 1, by omega, by go_num, by rw [HS.out]⟩
      case measure => simp [intOf]; omega
    · obtain rfl : k = n := by omega
      go_wp2_with fail
      go_ret
      exact ⟨ret_int (by rw [List.take_of_length_le (by omega)]), rfl⟩

set_option maxHeartbeats 1000000 in
theorem specArea_any (a b : Option Addr) (n cap m cap' : Nat) (hs ls : List Int) (w : World) (h : Has w a n cap hs) (h' : Has w b m cap' ls) :
    Calls Try.prog 29 #[.agg #[.slice a n cap, .slice b m cap']] w (PostInt w (areaOf hs ls)) := by
  have HL := hid h.len
  have HL' := hid h'.len
  have hle := h.le
  have hle' := h'.le
  go_enter Try.func29, Try.ntmps29
  go_wp2_with fail
  generalize hW : w.alloc (.cells #[.slice a n cap, .slice b m cap'] 30) = W
  have hbW : Below w.heap.size w W := by rw [← hW]; exact (Below.refl _ w).alloc (Nat.le_refl _) _
  have B1 : BoxAt W w.heap.size (.slice a n cap) (.slice b m cap') := by rw [← hW]; exact boxAt_new _ _ _ _
  clear hW
  refine (waGood_any _ _ _ _ _ _ _ _ _ (h.below hbW (Nat.le_refl _)) (h'.below hbW (Nat.le_refl _))).mono ?_
  rintro e w1 ⟨rfl, st⟩
  replace B1 := B1.below st (boxAt_lt B1)
  have hb1 := hbW.trans (st.mono hbW.size)
  clear st hbW
  have g1 := h.below hb1 (Nat.le_refl _)
  have g2 := h'.below hb1 (Nat.le_refl _)
  obtain ⟨x1, x2, x3, x4⟩ := id B1
  by_cases hw : walkB hs ls = true
  · rw [hw]
    have HR : Hid (areaOf hs ls = (total hs, true)) := hid (by simp only [areaOf]; rw [if_pos hw])
    have hnm : n = m := by have := (walkB_iff.1 hw).2.1; rw [HL.out, HL'.out] at this; exact this
    subst hnm
    have HW := hid (walkB_iff.1 hw)
    obtain ⟨h8, hbd⟩ := hgt_of HW.out.1 HL.out
    clear hw h h'
    go_wp2_with fail
    refine (paSum_any _ _ _ _ _ g1 (hgt_small HL.out h8 hbd)).mono ?_
    rintro e w' ⟨rfl, rfl⟩
    go_wp2_with fail
    go_ret2
    exact postInt HR.out hb1
  · rw [Bool.eq_false_iff.2 hw]
    have HR : Hid (areaOf hs ls = (0, false)) := hid (by simp only [areaOf]; rw [if_neg hw])
    go_wp2_with fail
    go_ret2
    exact postInt HR.out hb1

set_option maxHeartbeats 1000000 in
theorem implArea_any (a b : Option Addr) (n cap m cap' : Nat) (hs ls : List Int) (w : World) (h : Has w a n cap hs) (h' : Has w b m cap' ls) :
    Calls Try.prog 30 #[.agg #[.slice a n cap, .slice b m cap']] w (PostInt w (areaOf hs ls)) := by
  have HL := hid h.len
  have HL' := hid h'.len
  have hle := h.le
  have hle' := h'.le
  go_enter Try.func30, Try.ntmps30
  go_wp2_with fail
  generalize hW : w.alloc (.cells #[.slice a n cap, .slice b m cap'] 30) = W
  have hbW : Below w.heap.size w W := by rw [← hW]; exact (Below.refl _ w).alloc (Nat.le_refl _) _
  have B1 : BoxAt W w.heap.size (.slice a n cap) (.slice b m cap') := by rw [← hW]; exact boxAt_new _ _ _ _
  clear hW
  refine (rowsOf_any _ _ _ _ _ _ _ _ _ (h.below hbW (Nat.le_refl _)) (h'.below hbW (Nat.le_refl _))).mono ?_
  rintro e w1 ⟨⟨hw, rfl⟩ | ⟨hw, rfl⟩, st⟩
  · have hb1 := hbW.trans (st.mono hbW.size)
    clear st hbW B1
    have HR : Hid (areaOf hs ls = (total hs, true)) := hid (by simp only [areaOf]; rw [if_pos hw])
    have hnm : n = m := by have := (walkB_iff.1 hw).2.1; rw [HL.out, HL'.out] at this; exact this
    subst hnm
    have HW := hid (walkB_iff.1 hw)
    obtain ⟨h8, hbd⟩ := hgt_of HW.out.1 HL.out
    have C1 := boxAt_new w1 (.slice a n cap) (.slice b n cap') 54
    have hb2 := hb1.alloc hb1.size (.cells #[.slice a n cap, .slice b n cap'] 54)
    have g1 := h.below hb2 (Nat.le_refl _)
    have g2 := h'.below hb2 (Nat.le_refl _)
    have hsz : (w1.alloc (.cells #[.slice a n cap, .slice b n cap'] 54)).heap.size = w1.heap.size + 1 := by simp
    have hs1 := hb1.size
    clear hw h h'
    go_wp2_with fail
    refine (area_any _ _ _ _ _ g1 (hgt_small HL.out h8 hbd)).mono ?_
    rintro e w' ⟨rfl, rfl⟩
    go_wp2_with fail
    go_ret2
    exact postInt HR.out hb2
  · have hb1 := hbW.trans (st.mono hbW.size)
    clear st hbW B1
    have HR : Hid (areaOf hs ls = (0, false)) := hid (by simp only [areaOf]; rw [if_neg (by rw [hw]; decide)])
    go_wp2_with fail
    go_ret2
    exact postInt HR.out (hb1.alloc hb1.size _)

set_option maxHeartbeats 1000000 in
theorem specTouches_any (a b : Option Addr) (n cap m cap' : Nat) (hs ls : List Int) (w : World) (h : Has w a n cap hs) (h' : Has w b m cap' ls) :
    Calls Try.prog 31 #[.agg #[.slice a n cap, .slice b m cap']] w (PostInts w (touchesOf hs ls)) := by
  have HL := hid h.len
  have HL' := hid h'.len
  have hle := h.le
  have hle' := h'.le
  go_enter Try.func31, Try.ntmps31
  go_wp2_with fail
  generalize hW : w.alloc (.cells #[.slice a n cap, .slice b m cap'] 30) = W
  have hbW : Below w.heap.size w W := by rw [← hW]; exact (Below.refl _ w).alloc (Nat.le_refl _) _
  have B1 : BoxAt W w.heap.size (.slice a n cap) (.slice b m cap') := by rw [← hW]; exact boxAt_new _ _ _ _
  clear hW
  refine (waGood_any _ _ _ _ _ _ _ _ _ (h.below hbW (Nat.le_refl _)) (h'.below hbW (Nat.le_refl _))).mono ?_
  rintro e w1 ⟨rfl, st⟩
  replace B1 := B1.below st (boxAt_lt B1)
  have hb1 := hbW.trans (st.mono hbW.size)
  clear st hbW
  have g1 := h.below hb1 (Nat.le_refl _)
  have g2 := h'.below hb1 (Nat.le_refl _)
  obtain ⟨x1, x2, x3, x4⟩ := id B1
  by_cases hw : walkB hs ls = true
  · rw [hw]
    have HR : Hid (touchesOf hs ls = (idxs (touchAt hs) hs.length, true)) := hid (by simp only [touchesOf]; rw [if_pos hw])
    have hnm : n = m := by have := (walkB_iff.1 hw).2.1; rw [HL.out, HL'.out] at this; exact this
    subst hnm
    have HW := hid (walkB_iff.1 hw)
    obtain ⟨h8, hbd⟩ := hgt_of HW.out.1 HL.out
    clear hw h'
    have G1 := hid h
    clear g1 g2
    go_wp2_with fail
    go_loopw [4, 13] (fun o i wr => ∃ (k q : Nat) (a' : Option Addr) (cq : Nat), k ≤ n ∧ q ≤ k ∧ i = .int .i64 k ∧ o = .slice a' q cq ∧ Own wr w.heap.size a' q cq (idxs (touchAt hs) k) ∧ Below w.heap.size w wr) (fun _ i _ => n - (intOf i).toNat)
    case atStart => exact ⟨0, 0, none, 0, Nat.zero_le _, Nat.zero_le _, rfl, rfl, Own.nil _ _, hb1⟩
    case round =>
      obtain ⟨k, q, a', cq, hk, hq, rfl, rfl, hown, hb⟩ := hrel
      by_cases hlt : k < n
      · obtain ⟨b1, off1, rfl, hbb1, hc1⟩ := G1.out.2.2.2.2 (by omega)
        have hck : wr.cell? ⟨b1, off1 + k, none⟩ = some (.int .i64 (nth hs k)) := by rw [hb.cell (p := ⟨b1, off1 + k, none⟩) hbb1]; exact hc1 k hlt
        have hi := idxs_succ (touchAt hs) k
        clear hc1
        by_cases hk0 : k = 0
        · have HI : Hid (idxs (touchAt hs) (k + 1) = idxs (touchAt hs) k) := hid (by rw [hi]; simp [touchAt, hk0])
          have hp0 : ¬ 0 < k := by omega
          have hp1 : ¬ ((0 : Int) < (k : Int)) := by omega
          clear hi hk0
          go_wp2_with fail
          go_roundw
          case rel => exact ⟨k + 1, q, a', cq, by omega, by omega, by go_num, rfl, by rw [HI.out]; exact hown, hb⟩
          case measure => simp [intOf]; omega
        · have hp1 : (0 : Int) < (k : Int) := by omega
          by_cases hz : nth hs k = 0
          · have HI : Hid (idxs (touchAt hs) (k + 1) = idxs (touchAt hs) k ++ [(k : Int)]) := hid (by rw [hi]; simp [touchAt, hz]; omega)
            have hbe : (nth hs k == 0) = true := by simp [hz]
            clear hi hz
            go_wp2_with (at_builtin; refine wpList_append_int _ rfl _ _ rfl w.heap.size _ _ _ _ _ rfl rfl hown (by omega) hb.size ?_; intro a2 cap2 w2 hown2 hb2)
            go_roundw
            case rel => exact ⟨k + 1, q + 1, a2, cap2, by omega, by omega, by go_num, rfl, by rw [HI.out]; exact hown2, hb.trans hb2⟩
            case measure => simp [intOf]; omega
          · have HI : Hid (idxs (touchAt hs) (k + 1) = idxs (touchAt hs) k) := hid (by rw [hi]; simp [touchAt, hz])
            have hbe : (nth hs k == 0) = false := by simp [hz]
            clear hi hz
            go_wp2_with fail
            go_roundw
            case rel => exact ⟨k + 1, q, a', cq, by omega, by omega, by go_num, rfl, by rw [HI.out]; exact hown, hb⟩
            case measure => simp [intOf]; omega
      · obtain rfl : k = n := by omega
        go_wp2_with fail
        go_ret2
        exact postInts (HR.out.trans (by rw [HL.out])) hown hb
  · rw [Bool.eq_false_iff.2 hw]
    have HR : Hid (touchesOf hs ls = ([], false)) := hid (by simp only [touchesOf]; rw [if_neg hw])
    go_wp2_with fail
    go_ret2
    exact postInts_no HR.out hb1

set_option maxHeartbeats 1000000 in
theorem implTouches_any (a b : Option Addr) (n cap m cap' : Nat) (hs ls : List Int) (w : World) (h : Has w a n cap hs) (h' : Has w b m cap' ls) :
    Calls Try.prog 32 #[.agg #[.slice a n cap, .slice b m cap']] w (PostInts w (touchesOf hs ls)) := by
  have HL := hid h.len
  have HL' := hid h'.len
  have hle := h.le
  have hle' := h'.le
  go_enter Try.func32, Try.ntmps32
  go_wp2_with fail
  generalize hW : w.alloc (.cells #[.slice a n cap, .slice b m cap'] 30) = W
  have hbW : Below w.heap.size w W := by rw [← hW]; exact (Below.refl _ w).alloc (Nat.le_refl _) _
  have B1 : BoxAt W w.heap.size (.slice a n cap) (.slice b m cap') := by rw [← hW]; exact boxAt_new _ _ _ _
  clear hW
  refine (rowsOf_any _ _ _ _ _ _ _ _ _ (h.below hbW (Nat.le_refl _)) (h'.below hbW (Nat.le_refl _))).mono ?_
  rintro e w1 ⟨⟨hw, rfl⟩ | ⟨hw, rfl⟩, st⟩
  · have hb1 := hbW.trans (st.mono hbW.size)
    clear st hbW B1
    have HR : Hid (touchesOf hs ls = (idxs (touchAt hs) hs.length, true)) := hid (by simp only [touchesOf]; rw [if_pos hw])
    have hnm : n = m := by have := (walkB_iff.1 hw).2.1; rw [HL.out, HL'.out] at this; exact this
    subst hnm
    have HW := hid (walkB_iff.1 hw)
    obtain ⟨h8, hbd⟩ := hgt_of HW.out.1 HL.out
    have C1 := boxAt_new w1 (.slice a n cap) (.slice b n cap') 54
    have hb2 := hb1.alloc hb1.size (.cells #[.slice a n cap, .slice b n cap'] 54)
    have g1 := h.below hb2 (Nat.le_refl _)
    have g2 := h'.below hb2 (Nat.le_refl _)
    have hsz : (w1.alloc (.cells #[.slice a n cap, .slice b n cap'] 54)).heap.size = w1.heap.size + 1 := by simp
    have hs1 := hb1.size
    clear hw h'
    have G1 := hid h
    clear g1 g2
    go_wp2_with fail
    go_loopw [6, 19] (fun o i wr => ∃ (k q : Nat) (a' : Option Addr) (cq : Nat), k ≤ n ∧ q ≤ k ∧ i = .int .i64 k ∧ o = .slice a' q cq ∧ Own wr w.heap.size a' q cq (idxs (touchAt hs) k) ∧ Below w.heap.size w wr) (fun _ i _ => n - (intOf i).toNat)
    case atStart => exact ⟨0, 0, none, 0, Nat.zero_le _, Nat.zero_le _, rfl, rfl, Own.nil _ _, hb2⟩
    case round =>
      obtain ⟨k, q, a', cq, hk, hq, rfl, rfl, hown, hb⟩ := hrel
      by_cases hlt : k < n
      · obtain ⟨b1, off1, rfl, hbb1, hc1⟩ := G1.out.2.2.2.2 (by omega)
        have hck : wr.cell? ⟨b1, off1 + k, none⟩ = some (.int .i64 (nth hs k)) := by rw [hb.cell (p := ⟨b1, off1 + k, none⟩) hbb1]; exact hc1 k hlt
        have hi := idxs_succ (touchAt hs) k
        clear hc1
        by_cases hk0 : k = 0
        · have HI : Hid (idxs (touchAt hs) (k + 1) = idxs (touchAt hs) k) := hid (by rw [hi]; simp [touchAt, hk0])
          have hp0 : ¬ 0 < k := by omega
          have hp1 : ¬ ((0 : Int) < (k : Int)) := by omega
          clear hi hk0
          go_wp2_with fail
          go_roundw
          case rel => exact ⟨k + 1, q, a', cq, by omega, by omega, by go_num, rfl, by rw [HI.out]; exact hown, hb⟩
          case measure => simp [intOf]; omega
        · have hp1 : (0 : Int) < (k : Int) := by omega
          by_cases hz : nth hs k = 0
          · have HI : Hid (idxs (touchAt hs) (k + 1) = idxs (touchAt hs) k ++ [(k : Int)]) := hid (by rw [hi]; simp [touchAt, hz]; omega)
            have hbe : (nth hs k == 0) = true := by simp [hz]
            clear hi hz
            go_wp2_with (at_builtin; refine wpList_append_int _ rfl _ _ rfl w.heap.size _ _ _ _ _ rfl rfl hown (by omega) hb.size ?_; intro a2 cap2 w2 hown2 hb2)
            go_roundw
            case rel => exact ⟨k + 1, q + 1, a2, cap2, by omega, by omega, by go_num, rfl, by rw [HI.out]; exact hown2, hb.trans hb2⟩
            case measure => simp [intOf]; omega
          · have HI : Hid (idxs (touchAt hs) (k + 1) = idxs (touchAt hs) k) := hid (by rw [hi]; simp [touchAt, hz])
            have hbe : (nth hs k == 0) = false := by simp [hz]
            clear hi hz
            go_wp2_with fail
            go_roundw
            case rel => exact ⟨k + 1, q, a', cq, by omega, by omega, by go_num, rfl, by rw [HI.out]; exact hown, hb⟩
            case measure => simp [intOf]; omega
      · obtain rfl : k = n := by omega
        go_wp2_with fail
        go_ret2
        exact postInts (HR.out.trans (by rw [HL.out])) hown hb
  · have hb1 := hbW.trans (st.mono hbW.size)
    clear st hbW B1
    have HR : Hid (touchesOf hs ls = ([], false)) := hid (by simp only [touchesOf]; rw [if_neg (by rw [hw]; decide)])
    go_wp2_with fail
    go_ret2
    exact postInts_no HR.out (hb1.alloc hb1.size _)
end Go.Proofs.Ytpjgidjkpcbniaa
