/- Chapter 4: lists of pairs, functions of heights, by their contracts. -/
import Derived.Test.YtakadjhbomggbaaWkP
import Derived.Test.YtakadjhbomggbaaWkB
import Derived.Test.YtakadjhbomggbaaSpecC
import Derived.Test.YtakadjhbomggbaaImplC
namespace Go.Proofs.Ytakadjhbomggbaa
open Go.RowKit


set_option maxHeartbeats 1000000 in
theorem specPairsW_any (a b : Option Addr) (n cap m cap' : Nat) (hs ls : List Int) (w : World) (h : Has w a n cap hs) (h' : Has w b m cap' ls) :
    Calls Try.prog 27 #[.agg #[.slice a n cap, .slice b m cap']] w (PostRows w (pairsOfW hs ls)) := by
  have HL := hid h.len
  have HL' := hid h'.len
  have hle := h.le
  have hle' := h'.le
  go_enter Try.func27, Try.ntmps27
  go_wp2_with fail
  generalize hW : w.alloc (.cells #[.slice a n cap, .slice b m cap'] 27) = W
  have hbW : Below w.heap.size w W := by rw [← hW]; exact (Below.refl _ w).alloc (Nat.le_refl _) _
  have B1 : BoxAt W w.heap.size (.slice a n cap) (.slice b m cap') := by rw [← hW]; exact boxAt_new _ _ _ _
  clear hW
  refine (waGood_any _ _ _ _ _ _ _ _ _ (h.below hbW (Nat.le_refl _)) (h'.below hbW (Nat.le_refl _))).mono ?_
  rintro e w1 ⟨rfl, st⟩
  replace B1 := B1.below st (boxAt_lt B1)
  have hb1 := hbW.trans (st.mono hbW.size)
  clear st hbW
  have g1 := h.below hb1 (Nat.le_refl _)
  have g2 := h'.below hb1 (Nat.le_refl _)
  obtain ⟨x1, x2, x3, x4⟩ := id B1
  by_cases hw : walkB hs ls = true
  · rw [hw]
    have HR : Hid (pairsOfW hs ls = (pairsL hs ls, true)) := hid (by simp only [pairsOfW]; rw [if_pos hw])
    have hnm : n = m := by have := (walkB_iff.1 hw).2.1; rw [HL.out, HL'.out] at this; exact this
    subst hnm
    have HW := hid (walkB_iff.1 hw)
    obtain ⟨h8, hbd⟩ := hgt_of HW.out.1 HL.out
    clear hw h h'
    go_wp2_with fail
    refine (waPairs_any _ _ _ _ _ _ _ _ g1 g2 h8 hbd).mono ?_
    rintro e w2 ⟨a3, q3, c3, rs3, rfl, hown3, hn3, hb3⟩
    have HN := hid hn3
    clear hn3
    go_wp2_with fail
    go_ret2
    exact postRows HR.out (hown3.mono hb1.size) HN.out (hb1.trans (hb3.mono hb1.size))
  · rw [Bool.eq_false_iff.2 hw]
    have HR : Hid (pairsOfW hs ls = ([], false)) := hid (by simp only [pairsOfW]; rw [if_neg hw])
    go_wp2_with fail
    go_ret2
    exact postRows_no HR.out hb1

set_option maxHeartbeats 1000000 in
theorem implPairsW_any (a b : Option Addr) (n cap m cap' : Nat) (hs ls : List Int) (w : World) (h : Has w a n cap hs) (h' : Has w b m cap' ls) :
    Calls Try.prog 26 #[.agg #[.slice a n cap, .slice b m cap']] w (PostRows w (pairsOfW hs ls)) := by
  have HL := hid h.len
  have HL' := hid h'.len
  have hle := h.le
  have hle' := h'.le
  go_enter Try.func26, Try.ntmps26
  go_wp2_with fail
  generalize hW : w.alloc (.cells #[.slice a n cap, .slice b m cap'] 27) = W
  have hbW : Below w.heap.size w W := by rw [← hW]; exact (Below.refl _ w).alloc (Nat.le_refl _) _
  have B1 : BoxAt W w.heap.size (.slice a n cap) (.slice b m cap') := by rw [← hW]; exact boxAt_new _ _ _ _
  clear hW
  refine (rowsOf_any _ _ _ _ _ _ _ _ _ (h.below hbW (Nat.le_refl _)) (h'.below hbW (Nat.le_refl _))).mono ?_
  rintro e w1 ⟨⟨hw, rfl⟩ | ⟨hw, rfl⟩, st⟩
  · have hb1 := hbW.trans (st.mono hbW.size)
    clear st hbW B1
    have HR : Hid (pairsOfW hs ls = (pairsL hs ls, true)) := hid (by simp only [pairsOfW]; rw [if_pos hw])
    have hnm : n = m := by have := (walkB_iff.1 hw).2.1; rw [HL.out, HL'.out] at this; exact this
    subst hnm
    have HW := hid (walkB_iff.1 hw)
    obtain ⟨h8, hbd⟩ := hgt_of HW.out.1 HL.out
    have C1 := boxAt_new w1 (.slice a n cap) (.slice b n cap') 64
    have hb2 := hb1.alloc hb1.size (.cells #[.slice a n cap, .slice b n cap'] 64)
    have g1 := h.below hb2 (Nat.le_refl _)
    have g2 := h'.below hb2 (Nat.le_refl _)
    have hsz : (w1.alloc (.cells #[.slice a n cap, .slice b n cap'] 64)).heap.size = w1.heap.size + 1 := by simp
    have hs1 := hb1.size
    clear hw h h'
    obtain ⟨x1, x2, x3, x4⟩ := id C1
    go_wp2_with fail
    refine (pairs_any _ _ _ _ _ _ _ _ g1 g2 h8 hbd).mono ?_
    rintro e w2 ⟨a3, q3, c3, rs3, rfl, hown3, hn3, hb3⟩
    have HN := hid hn3
    clear hn3
    go_wp2_with fail
    go_ret2
    exact postRows HR.out (hown3.mono hb2.size) HN.out (hb2.trans (hb3.mono hb2.size))
  · have hb1 := hbW.trans (st.mono hbW.size)
    clear st hbW B1
    have HR : Hid (pairsOfW hs ls = ([], false)) := hid (by simp only [pairsOfW]; rw [if_neg (by rw [hw]; decide)])
    go_wp2_with fail
    go_ret2
    exact postRows_no HR.out (hb1.alloc hb1.size _)

set_option maxHeartbeats 1000000 in
theorem implPairCount_any (a b : Option Addr) (n cap m cap' : Nat) (hs ls : List Int) (w : World) (h : Has w a n cap hs) (h' : Has w b m cap' ls) :
    Calls Try.prog 28 #[.agg #[.slice a n cap, .slice b m cap']] w (PostInt w (pairCountOf hs ls)) := by
  have hbW : Below w.heap.size w (w.alloc (.cells #[.slice a n cap, .slice b m cap'] 27)) := (Below.refl _ w).alloc (Nat.le_refl _) _
  obtain ⟨⟨L, ok⟩, hr⟩ : ∃ r, pairsOfW hs ls = r := ⟨_, rfl⟩
  have HP : Hid (pairCountOf hs ls = ((L.length : Int), ok)) := hid (by
    unfold pairsOfW at hr
    unfold pairCountOf
    by_cases hw : walkB hs ls = true
    · rw [if_pos hw] at hr ⊢
      simp only [Prod.mk.injEq] at hr
      rw [hr.1, hr.2]
    · rw [if_neg hw] at hr ⊢
      simp only [Prod.mk.injEq] at hr
      rw [← hr.1, ← hr.2]
      rfl)
  have HR := hid hr
  clear hr
  go_enter Try.func28, Try.ntmps28
  go_wp2_with fail
  refine (implPairsW_any _ _ _ _ _ _ _ _ _ (h.below hbW (Nat.le_refl _)) (h'.below hbW (Nat.le_refl _))).mono ?_
  rw [HR.out]
  rintro e w2 ⟨a3, q3, c3, rs3, rfl, hown3, hn3, hb3⟩
  have hl : (L.length : Int) = (q3 : Int) := by
    have e1 : numsOf rs3 = L := hn3
    rw [← e1]; unfold numsOf; rw [List.length_map, hown3.len]
  have HQ : Hid (pairCountOf hs ls = ((q3 : Int), ok)) := hid (by rw [HP.out, hl])
  have hbf := hbW.trans (hb3.mono hbW.size)
  clear hl hn3 hown3
  go_wp2_with fail
  go_ret2
  exact postInt HQ.out hbf

theorem implAreHeights_any (a : Option Addr) (n cap : Nat) (hs : List Int) (w : World) (h : Has w a n cap hs) :
    Calls Try.prog 22 #[.slice a n cap] w (PostBool w (hgtB hs)) := by
  go_enter Try.func22, Try.ntmps22
  go_wp2_with fail
  refine (areHeights_any _ _ _ _ _ h).mono ?_
  rintro e w' ⟨rfl, rfl⟩
  go_wp2_with fail
  go_ret
  exact postBool rfl (Below.refl _ _)

theorem run_up {hs : List Int} {k : Nat} (h : nth hs (k + 1) = nth hs k + 1) : runAt hs (k + 1 + 1) = runAt hs (k + 1) + 1 := by simp [runAt, raisedB, h]
theorem run_flat {hs : List Int} {k : Nat} (h : ¬ nth hs (k + 1) = nth hs k + 1) : runAt hs (k + 1 + 1) = 1 := by simp [runAt, raisedB, h]
theorem run_one (hs : List Int) : runAt hs 1 = 1 := by simp [runAt, raisedB]
theorem cl_step (hs : List Int) (k : Nat) {r : Int} (h : runAt hs (k + 1) = r) : clTo hs (k + 1) = clTo hs k * ((k : Int) + 1) / r := by simp only [clTo]; rw [h]

theorem bnext_loop {hs : List Int} {n k i : Nat} (hl : hs.length = n) (hk : k ≤ i) (hi : i < n) : below (((startsL hs).drop k).take (i + 1 - k)) ((k : Int) + 1) = below (((startsL hs).drop k).take (i - k)) ((k : Int) + 1) + if (i : Int) - nth hs i ≤ (k : Int) then 1 else 0 := by
  subst hl
  have hlen : (startsL hs).length = hs.length := by unfold startsL; rw [length_startsTo]
  rw [show i + 1 - k = (i - k) + 1 by omega, below_succ (by rw [List.length_drop, hlen]; omega)]
  have e : nth ((startsL hs).drop k) (i - k) = (i : Int) - nth hs i := by
    have : nth ((startsL hs).drop k) (i - k) = nth (startsL hs) (k + (i - k)) := by simp [nth]
    rw [this, show k + (i - k) = i by omega]
    exact nth_startsTo hi
  rw [e]
  by_cases h : (i : Int) - nth hs i ≤ (k : Int)
  · rw [if_pos h, if_pos (by omega)]
  · rw [if_neg h, if_neg (by omega)]
theorem bnext_full {hs : List Int} {n k : Nat} (hl : hs.length = n) : k + below (((startsL hs).drop k).take (n - k)) ((k : Int) + 1) = bnext hs k := by
  subst hl
  unfold bnext
  rw [List.take_of_length_le]
  rw [List.length_drop]
  unfold startsL
  rw [length_startsTo]
  exact Nat.le_refl _
theorem bnext_facts {hs : List Int} {n k : Nat} (hg : hgtB hs = true) (hl : hs.length = n) (hk : k < n) : k < bnext hs k ∧ bnext hs k ≤ n := by
  subst hl
  exact ⟨bnext_gt hg hk, bnext_le (by omega)⟩
theorem bnc_step {hs : List Int} {n f k : Nat} (hl : hs.length = n) (hk : k < n) : bncF hs (f + 1) k = (n - bnext hs k) + bncF hs f (bnext hs k) := by subst hl; exact bncF_step hk
theorem bnc_end {hs : List Int} {n f k : Nat} (hl : hs.length = n) (hk : ¬ k < n) : bncF hs f k = 0 := by subst hl; exact bncF_end hk
theorem bounce_le {hs : List Int} {n : Nat} (hl : hs.length = n) (h8 : n ≤ 8) : bncF hs n 0 ≤ 64 := by
  have := bncF_le (hs := hs) (by omega) n 0
  omega

set_option maxHeartbeats 1000000 in
theorem implBounce_any (a : Option Addr) (n cap : Nat) (hs : List Int) (w : World) (h : Has w a n cap hs) :
    Calls Try.prog 40 #[.slice a n cap] w (PostInt w (bounceOf hs)) := by
  have HL := hid h.len
  have hle := h.le
  by_cases hg : hgtB hs = true
  · have HR : Hid (bounceOf hs = ((bncF hs hs.length 0 : Int), true)) := hid (by simp only [bounceOf]; rw [if_pos hg])
    have HG := hid hg
    obtain ⟨h8, hbd⟩ := hgt_of hg h.len
    have HBD := hid hbd
    clear hg hbd
    go_enter Try.func40, Try.ntmps40
    go_wp2_with fail
    refine (implAreHeights_any _ _ _ _ _ h).mono ?_
    rintro e w1 ⟨rfl, st1⟩
    rw [HG.out]
    go_wp2_with fail
    refine (starts_any _ _ _ _ _ (h.below st1 (Nat.le_refl _)) h8 HBD.out).mono ?_
    rintro e w2 ⟨a2, c2, rfl, hown2, st2⟩
    have hbw := st1.trans (st2.mono st1.size)
    have HB8 := hid (bounce_le HL.out h8)
    have hcap := hown2.has.2.1
    clear st1 st2
    go_wp2_with fail
    go_loop [5, 6] (fun s kv => ∃ (k f S : Nat), k ≤ n ∧ n ≤ k + f ∧ kv = .int .i64 k ∧ s = .int .i64 (S : Int) ∧ Hid (S + bncF hs f k = bncF hs n 0)) (fun _ kv => n - (intOf kv).toNat)
    case atStart => exact ⟨0, n, 0, Nat.zero_le _, by omega, rfl, rfl, hid (by omega)⟩
    case round =>
      obtain ⟨k, f, S, hk, hf, rfl, rfl, HS⟩ := hrel
      by_cases hlt : k < n
      · obtain ⟨f, rfl⟩ : ∃ g, f = g + 1 := ⟨f - 1, by omega⟩
        have hbn := bnext_facts HG.out HL.out hlt
        have hst := bnc_step (f := f) HL.out hlt
        obtain ⟨g, rfl, hg1, hg2, hg3, hg4⟩ := hown2.opened (by omega)
        have hd := hown2.has.drop (k := k) (by omega)
        rw [Nat.zero_add] at hd
        have hS : S ≤ 64 := by have := HS.out; have := HB8.out; omega
        have HE : Hid (((k : Int) + (below ((startsTo hs n).drop k) ((k : Int) + 1) : Int)) = ((bnext hs k : Nat) : Int)) := hid (by unfold bnext startsL; rw [HL.out]; omega)
        have HB2 : Hid (((S : Int) + ((n : Int) - ((bnext hs k : Nat) : Int))) = ((S + (n - bnext hs k) : Nat) : Int)) := hid (by omega)
        have HS2 : Hid ((S + (n - bnext hs k)) + bncF hs f (bnext hs k) = bncF hs n 0) := hid (by have := HS.out; rw [hst] at this; omega)
        have hkb : (below ((startsTo hs n).drop k) ((k : Int) + 1) : Int) ≤ 8 ∧ 0 ≤ (below ((startsTo hs n).drop k) ((k : Int) + 1) : Int) := by have := HE.out; omega
        clear hst hg3 hg4
        generalize hZ : bnext hs k = z at *
        clear hZ
        go_wp2_with fail
        refine (countBelow_any _ _ _ _ ((k : Int) + 1) _ hd).mono ?_
        rintro e w' ⟨rfl, rfl⟩
        go_wp2_with fail
        go_round
        case rel => exact ⟨z, f, S + (n - z), by omega, by omega, by rw [← HE.out], by rw [← HB2.out, ← HE.out], HS2⟩
        case measure => simp [intOf]; have := HE.out; omega
      · have hz := bnc_end (f := f) HL.out hlt
        have HF : Hid (bounceOf hs = ((S : Int), true)) := hid (by rw [HR.out]; have := HS.out; rw [hz] at this; rw [HL.out, ← this]; rfl)
        go_wp2_with fail
        go_ret2
        exact postInt HF.out hbw
  · have HR : Hid (bounceOf hs = (0, false)) := hid (by simp only [bounceOf]; rw [if_neg hg])
    have HG := hid (Bool.eq_false_iff.2 hg)
    clear hg
    go_enter Try.func40, Try.ntmps40
    go_wp2_with fail
    refine (implAreHeights_any _ _ _ _ _ h).mono ?_
    rintro e w1 ⟨rfl, st1⟩
    rw [HG.out]
    go_wp2_with fail
    go_ret2
    exact postInt HR.out st1

set_option maxHeartbeats 1000000 in
theorem specBounce_any (a : Option Addr) (n cap : Nat) (hs : List Int) (w : World) (h : Has w a n cap hs) :
    Calls Try.prog 41 #[.slice a n cap] w (PostInt w (bounceOf hs)) := by
  have HL := hid h.len
  have hle := h.le
  by_cases hg : hgtB hs = true
  · have HR : Hid (bounceOf hs = ((bncF hs hs.length 0 : Int), true)) := hid (by simp only [bounceOf]; rw [if_pos hg])
    have HG := hid hg
    obtain ⟨h8, hbd⟩ := hgt_of hg h.len
    have HBD := hid hbd
    clear hg hbd
    go_enter Try.func41, Try.ntmps41
    go_wp2_with fail
    refine (waHeights_any _ _ _ _ _ h).mono ?_
    rintro e w' ⟨rfl, rfl⟩
    rw [HG.out]
    have HB8 := hid (bounce_le HL.out h8)
    go_wp2_with fail
    go_loop [5, 6] (fun s kv => ∃ (k f S : Nat), k ≤ n ∧ n ≤ k + f ∧ kv = .int .i64 k ∧ s = .int .i64 (S : Int) ∧ Hid (S + bncF hs f k = bncF hs n 0)) (fun _ kv => n - (intOf kv).toNat)
    case atStart => exact ⟨0, n, 0, Nat.zero_le _, by omega, rfl, rfl, hid (by omega)⟩
    case round =>
      obtain ⟨k, f, S, hk, hf, rfl, rfl, HS⟩ := hrel
      by_cases hlt : k < n
      · obtain ⟨f, rfl⟩ : ∃ g, f = g + 1 := ⟨f - 1, by omega⟩
        have hbn := bnext_facts HG.out HL.out hlt
        have HBN := hid hbn
        have hst := bnc_step (f := f) HL.out hlt
        have hS : S ≤ 64 := by have := HS.out; have := HB8.out; omega
        have HS2 : Hid ((S + (n - bnext hs k)) + bncF hs f (bnext hs k) = bncF hs n 0) := hid (by have := HS.out; rw [hst] at this; omega)
        have HFULL := hid (bnext_full (k := k) HL.out)
        clear hst hbn
        go_wp2_with fail
        go_loop [7, 8] (fun x iv => ∃ (i X : Nat), k ≤ i ∧ i ≤ n ∧ iv = .int .i64 i ∧ x = .int .i64 (X : Int) ∧ Hid (X = k + below (((startsL hs).drop k).take (i - k)) ((k : Int) + 1)) ∧ X ≤ i) (fun _ iv => n - (intOf iv).toNat)
        case atStart => exact ⟨k, k, Nat.le_refl _, by omega, rfl, rfl, hid (by rw [Nat.sub_self]; rfl), Nat.le_refl _⟩
        case round =>
          obtain ⟨i, X, hki, hin, rfl, rfl, HX, hXi⟩ := hrel
          by_cases hlt2 : i < n
          · obtain ⟨b1, off1, rfl, hbb1, hc1⟩ := h.2.2.2.2 (by omega)
            have hck := hc1 i hlt2
            have hbi := HBD.out i hlt2
            have hnx := bnext_loop HL.out hki hlt2
            clear hc1
            by_cases hc : (i : Int) - nth hs i ≤ (k : Int)
            · have HX2 : Hid (X + 1 = k + below (((startsL hs).drop k).take (i + 1 - k)) ((k : Int) + 1)) := hid (by rw [hnx, if_pos hc]; have := HX.out; omega)
              clear hnx
              go_wp2_with fail
              go_round
              case rel => exact ⟨i + 1, X + 1, by omega, by omega, by go_num, by go_num, HX2, by omega⟩
              case measure => simp [intOf]; omega
            · have HX2 : Hid (X = k + below (((startsL hs).drop k).take (i + 1 - k)) ((k : Int) + 1)) := hid (by rw [hnx, if_neg hc]; have := HX.out; omega)
              clear hnx
              go_wp2_with fail
              go_round
              case rel => exact ⟨i + 1, X, by omega, by omega, by go_num, rfl, HX2, by omega⟩
              case measure => simp [intOf]; omega
          · obtain rfl : i = n := by omega
            have HE : Hid (X = bnext hs k) := hid (by rw [HX.out]; exact HFULL.out)
            have hxb : k < X := by have := HBN.out.1; have := HE.out; omega
            have HS3 : Hid ((S + (i - X)) + bncF hs f X = bncF hs i 0) := hid (by rw [HE.out]; exact HS2.out)
            have HB2 : Hid (((S : Int) + ((i : Int) - (X : Int))) = ((S + (i - X) : Nat) : Int)) := hid (by omega)
            go_wp2_with fail
            go_round
            case rel => exact ⟨X, f, S + (i - X), by omega, by omega, rfl, by rw [← HB2.out], HS3⟩
            case measure => simp [intOf]; omega
      · have hz := bnc_end (f := f) HL.out hlt
        have HF : Hid (bounceOf hs = ((S : Int), true)) := hid (by rw [HR.out]; have := HS.out; rw [hz] at this; rw [HL.out, ← this]; rfl)
        go_wp2_with fail
        go_ret2
        exact postInt HF.out (Below.refl _ _)
  · have HR : Hid (bounceOf hs = (0, false)) := hid (by simp only [bounceOf]; rw [if_neg hg])
    have HG := hid (Bool.eq_false_iff.2 hg)
    clear hg
    go_enter Try.func41, Try.ntmps41
    go_wp2_with fail
    refine (waHeights_any _ _ _ _ _ h).mono ?_
    rintro e w' ⟨rfl, rfl⟩
    rw [HG.out]
    go_wp2_with fail
    go_ret2
    exact postInt HR.out (Below.refl _ _)
end Go.Proofs.Ytakadjhbomggbaa
