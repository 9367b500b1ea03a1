/- Chapter 4: pairs of walks, by their contracts. -/
import Derived.Test.YtakadjhbomggbaaImplWk
import Derived.Test.YtakadjhbomggbaaLit2
namespace Go.Proofs.Ytakadjhbomggbaa
open Go.RowKit

theorem pair_yes1 {hs ls : List Int} {i j : Nat} (h1 : nth hs i = nth hs j) (h2 : nth ls i < nth ls j) : pairB hs ls i j = true := by simp [pairB, h1, h2]
theorem pair_no1 {hs ls : List Int} {i j : Nat} (h1 : nth hs i = nth hs j) (h2 : ¬ nth ls i < nth ls j) : pairB hs ls i j = false := by
  simp only [pairB, h1, decide_true, Bool.true_and, decide_eq_false h2, Bool.false_or, Bool.and_eq_false_iff, decide_eq_false_iff_not]
  left; omega
theorem pair_yes2 {hs ls : List Int} {i j : Nat} (h1 : nth hs i = nth hs j + 1) (h2 : nth ls j < nth ls i) : pairB hs ls i j = true := by simp [pairB, h1, h2]
theorem pair_no2 {hs ls : List Int} {i j : Nat} (h1 : nth hs i = nth hs j + 1) (h2 : ¬ nth ls j < nth ls i) : pairB hs ls i j = false := by
  have : ¬ nth hs i = nth hs j := by omega
  simp [pairB, this, h2]
theorem pair_no3 {hs ls : List Int} {i j : Nat} (h1 : ¬ nth hs i = nth hs j) (h2 : ¬ nth hs i = nth hs j + 1) : pairB hs ls i j = false := by simp [pairB, h1, h2]
theorem prow_yes {hs ls : List Int} {i c : Nat} (h : pairB hs ls i (i + 1 + c) = true) : pairRow hs ls i (c + 1) = pairRow hs ls i c ++ [[(i : Int), ((i + 1 + c : Nat) : Int)]] := by rw [pairRow_succ, if_pos h]
theorem prow_no {hs ls : List Int} {i c : Nat} (h : pairB hs ls i (i + 1 + c) = false) : pairRow hs ls i (c + 1) = pairRow hs ls i c := by rw [pairRow_succ, if_neg (by rw [h]; decide), List.append_nil]

set_option maxHeartbeats 1000000 in
theorem arePair_any (a b : Option Addr) (n cap cap' : Nat) (hs ls : List Int) (i j : Nat) (w : World) (h : Has w a n cap hs) (h' : Has w b n cap' ls) (hi : i < n) (hj : j < n) (h8 : n ≤ 8) (hbd : ∀ i, i < n → 0 ≤ nth hs i ∧ nth hs i ≤ (i : Int)) :
    Calls Try.prog 103 #[.agg #[.slice a n cap, .slice b n cap'], .int .i64 i, .int .i64 j] w fun e w' => e = .returned (.bool (pairB hs ls i j)) ∧ Below w.heap.size w w' := by
  have hbW : Below w.heap.size w (w.alloc (.cells #[.slice a n cap, .slice b n cap'] 64)) := (Below.refl _ w).alloc (Nat.le_refl _) _
  have g1 := h.below hbW (Nat.le_refl _)
  have g2 := h'.below hbW (Nat.le_refl _)
  have B1 := boxAt_new w (.slice a n cap) (.slice b n cap') 64
  have q1 := hbd i hi
  have q2 := hbd j hj
  obtain ⟨b1, off1, rfl, hbb1, hc1⟩ := g1.2.2.2.2 (by omega)
  obtain ⟨b2, off2, rfl, hbb2, hc2⟩ := g2.2.2.2.2 (by omega)
  have c1 := hc1 i hi
  have c2 := hc1 j hj
  have c3 := hc2 i hi
  have c4 := hc2 j hj
  obtain ⟨x1, x2, x3, x4⟩ := id B1
  have z1 : (0 : Int) ≤ (i : Int) := by omega
  have z2 : (0 : Int) ≤ (j : Int) := by omega
  have z3 : (i : Int) < (n : Int) := by omega
  have z4 : (j : Int) < (n : Int) := by omega
  clear hc1 hc2 g1 g2 hbd h h' B1
  generalize hW : w.alloc (.cells #[.slice (some ⟨b1, off1, none⟩) n cap, .slice (some ⟨b2, off2, none⟩) n cap'] 64) = W at *
  by_cases e0 : nth hs i = nth hs j
  · have d0 : nth hs i - nth hs j = 0 := by omega
    by_cases l1 : nth ls i < nth ls j
    · have HR := hid (pair_yes1 e0 l1)
      clear e0
      have hsub : (nth hs i - nth hs j) = 0 := d0
      go_enter Try.func103, Try.ntmps103
      go_wp2_with fail
      go_quiet (fail)
      go_wp2_with fail
      go_quiet (fail)
      go_wp2_with fail
      go_ret
      exact ⟨ret_bool HR.out.symm, below_drewN (below_drewN hbW _) _⟩
    · have HR := hid (pair_no1 e0 l1)
      have HD := hid (decide_eq_false l1)
      clear e0
      have hsub : (nth hs i - nth hs j) = 0 := d0
      go_enter Try.func103, Try.ntmps103
      go_wp2_with fail
      go_quiet (fail)
      go_wp2_with fail
      go_quiet (fail)
      go_wp2_with fail
      go_ret
      exact ⟨ret_bool (HD.out.trans HR.out.symm), below_drewN (below_drewN hbW _) _⟩
  · by_cases e1 : nth hs i = nth hs j + 1
    · have d0 : nth hs i - nth hs j = 1 := by omega
      by_cases l1 : nth ls j < nth ls i
      · have HR := hid (pair_yes2 e1 l1)
        clear e0 e1
        have hsub : (nth hs i - nth hs j) = 1 := d0
        go_enter Try.func103, Try.ntmps103
        go_wp2_with fail
        go_quiet (fail)
        go_wp2_with fail
        go_quiet (fail)
        go_wp2_with fail
        go_ret
        exact ⟨ret_bool HR.out.symm, below_drewN (below_drewN hbW _) _⟩
      · have HR := hid (pair_no2 e1 l1)
        have HD := hid (decide_eq_false l1)
        clear e0 e1
        have hsub : (nth hs i - nth hs j) = 1 := d0
        go_enter Try.func103, Try.ntmps103
        go_wp2_with fail
        go_quiet (fail)
        go_wp2_with fail
        go_quiet (fail)
        go_wp2_with fail
        go_ret
        exact ⟨ret_bool (HD.out.trans HR.out.symm), below_drewN (below_drewN hbW _) _⟩
    · have HR := hid (pair_no3 (ls := ls) e0 e1)
      have d0 : ¬ nth hs i - nth hs j = 0 := by omega
      have d1 : ¬ nth hs i - nth hs j = 1 := by omega
      have hbe0 : (nth hs i - nth hs j == 0) = false := by simp; omega
      have hbe1 : (nth hs i - nth hs j == 1) = false := by simp; omega
      clear e0 e1
      go_enter Try.func103, Try.ntmps103
      go_wp2_with fail
      go_quiet (fail)
      go_wp2_with fail
      go_ret
      exact ⟨ret_bool HR.out.symm, below_drewN hbW _⟩

set_option maxHeartbeats 4000000 in
theorem pairs_any (a b : Option Addr) (n cap cap' : Nat) (hs ls : List Int) (w : World) (h : Has w a n cap hs) (h' : Has w b n cap' ls) (h8 : n ≤ 8) (hbd : ∀ i, i < n → 0 ≤ nth hs i ∧ nth hs i ≤ (i : Int)) :
    Calls Try.prog 66 #[.agg #[.slice a n cap, .slice b n cap']] w (RowsRet w (pairsL hs ls)) := by
  have HL' := hid h'.len
  have HBD := hid hbd
  have hbW : Below w.heap.size w (w.alloc (.cells #[.slice a n cap, .slice b n cap'] 64)) := (Below.refl _ w).alloc (Nat.le_refl _) _
  have B1 := boxAt_new w (.slice a n cap) (.slice b n cap') 64
  have G1 := hid h
  have G2 := hid h'
  clear hbd h h'
  go_enter Try.func66, Try.ntmps66
  go_wp2_with fail
  generalize w.alloc (.cells #[.slice a n cap, .slice b n cap'] 64) = W at *
  go_loopw [3, 9] (fun o i wr => ∃ (k q : Nat) (a' : Option Addr) (cq : Nat) (rs : List Rw), k ≤ n ∧ q ≤ 8 * k ∧ i = .int .i64 k ∧ o = .slice a' q cq ∧ OwnR wr (w.heap.size + 1) a' q cq rs ∧ Hid (numsOf rs = pairsTo hs ls k) ∧ BoxAt wr w.heap.size (.slice a n cap) (.slice b n cap') ∧ Below w.heap.size w wr) (fun _ i _ => n - (intOf i).toNat)
  case atStart => exact ⟨0, 0, none, 0, [], Nat.zero_le _, Nat.zero_le _, rfl, rfl, OwnR.nil _ _, hid rfl, B1, hbW⟩
  case round =>
    obtain ⟨wo, rfl⟩ : ∃ wo : World, wo = wr := ⟨_, rfl⟩
    obtain ⟨k, q, a', cq, rs, hk, hq, rfl, rfl, hown, HN, BX, hb⟩ := hrel
    clear B1 hbW
    by_cases hlt : k < n
    · obtain ⟨x1, x2, x3, x4⟩ := id BX
      go_wp2_with fail
      clear x1 x2 x3 x4
      go_loopw [3, 5] (fun o jv wr => ∃ (j c q : Nat) (a' : Option Addr) (cq : Nat) (rs : List Rw), j ≤ n ∧ Hid (j = k + 1 + c) ∧ q ≤ 8 * k + c ∧ jv = .int .i64 (j : Int) ∧ o = .slice a' q cq ∧ OwnR wr (w.heap.size + 1) a' q cq rs ∧ Hid (numsOf rs = pairsTo hs ls k ++ pairRow hs ls k c) ∧ BoxAt wr w.heap.size (.slice a n cap) (.slice b n cap') ∧ Below w.heap.size w wr) (fun _ jv _ => n - (intOf jv).toNat)
      case atStart => exact ⟨k + 1, 0, q, a', cq, rs, by omega, hid rfl, by omega, by go_num, rfl, hown, hid (by rw [HN.out]; simp [pairRow]), BX, hb⟩
      case round =>
        obtain ⟨j, c, q1, a1, cq1, rs1, hkc, HJ, hq1, rfl, rfl, hown1, HN1, BX1, hb1⟩ := hrel
        have hjc : c ≤ 8 := by have := HJ.out; omega
        clear hown BX hb HN
        by_cases hlc : j < n
        · obtain ⟨x1, x2, x3, x4⟩ := id BX1
          go_wp2_with fail
          refine (arePair_any _ _ _ _ _ _ _ k j _ (G1.out.below hb1 (Nat.le_refl _)) (G2.out.below hb1 (Nat.le_refl _)) hlt hlc h8 HBD.out).mono ?_
          rintro e w2 ⟨rfl, st⟩
          have hown2 := hown1.below st (Nat.le_refl _)
          have BX2 := BX1.below st (boxAt_lt BX1)
          have hb2 := hb1.trans (st.mono hb1.size)
          clear st hown1 BX1 x1 x2 x3 x4
          by_cases hp : pairB hs ls k j = true
          · rw [hp]
            have HP : Hid (pairRow hs ls k (c + 1) = pairRow hs ls k c ++ [[(k : Int), (j : Int)]]) := hid (by have e := HJ.out; subst e; exact prow_yes hp)
            clear hp
            go_wp2_with (at_builtin; refine wpList_append_lit2 w2 rfl _ _ rfl (w.heap.size + 1) _ _ _ _ _ _ rfl rfl hown2 (by omega) (boxAt_lt BX2) ?_; intro a3 cap3 w3 rs3 hn3 hown3 hb3)
            have BX3 := BX2.below hb3 (by omega)
            go_roundw
            case rel => exact ⟨j + 1, c + 1, q1 + 1, a3, cap3, rs3, by omega, hid (by have := HJ.out; omega), by omega, by go_num, rfl, hown3, hid (by rw [hn3, HN1.out, HP.out, List.append_assoc]), BX3, hb2.trans (hb3.mono (Nat.le_succ _))⟩
            case measure => simp [intOf]; omega
          · rw [Bool.eq_false_iff.2 hp]
            have HP : Hid (pairRow hs ls k (c + 1) = pairRow hs ls k c) := hid (by have e := HJ.out; subst e; exact prow_no (Bool.eq_false_iff.2 hp))
            clear hp
            go_wp2_with fail
            go_roundw
            case rel => exact ⟨j + 1, c + 1, q1, a1, cq1, rs1, by omega, hid (by have := HJ.out; omega), by omega, by go_num, rfl, hown2, hid (by rw [HN1.out, HP.out]), BX2, hb2⟩
            case measure => simp [intOf]; omega
        · have hjn : j = n := by omega
          have hcn : Hid (c = n - (k + 1)) := hid (by have := HJ.out; omega)
          have HS : Hid (numsOf rs1 = pairsTo hs ls (k + 1)) := hid (by rw [HN1.out, pairsTo_succ, hcn.out, HL'.out])
          obtain ⟨x1, x2, x3, x4⟩ := id BX1
          go_wp2_with fail
          go_roundw
          case rel => exact ⟨k + 1, q1, a1, cq1, rs1, by omega, by have := hcn.out; omega, by go_num, rfl, hown1, HS, BX1, hb1⟩
          case measure => simp [intOf]; omega
    · obtain rfl : k = n := by omega
      have HS : Hid (numsOf rs = pairsL hs ls) := hid (by rw [HN.out]; unfold pairsL; rw [HL'.out])
      go_wp2_with fail
      go_ret
      exact ⟨a', q, cq, rs, rfl, hown.mono (Nat.le_succ _), HS.out, hb⟩

set_option maxHeartbeats 4000000 in
theorem waPairs_any (a b : Option Addr) (n cap cap' : Nat) (hs ls : List Int) (w : World) (h : Has w a n cap hs) (h' : Has w b n cap' ls) (h8 : n ≤ 8) (hbd : ∀ i, i < n → 0 ≤ nth hs i ∧ nth hs i ≤ (i : Int)) :
    Calls Try.prog 67 #[.agg #[.slice a n cap, .slice b n cap']] w (RowsRet w (pairsL hs ls)) := by
  have HL' := hid h'.len
  have HBD := hid hbd
  have hbW : Below w.heap.size w (w.alloc (.cells #[.slice a n cap, .slice b n cap'] 27)) := (Below.refl _ w).alloc (Nat.le_refl _) _
  have B1 := boxAt_new w (.slice a n cap) (.slice b n cap') 27
  have G1 := hid h
  have G2 := hid h'
  clear hbd h h'
  go_enter Try.func67, Try.ntmps67
  go_wp2_with fail
  generalize w.alloc (.cells #[.slice a n cap, .slice b n cap'] 27) = W at *
  go_loopw [3, 10] (fun o i wr => ∃ (k q : Nat) (a' : Option Addr) (cq : Nat) (rs : List Rw), k ≤ n ∧ q ≤ 8 * k ∧ i = .int .i64 k ∧ o = .slice a' q cq ∧ OwnR wr (w.heap.size + 1) a' q cq rs ∧ Hid (numsOf rs = pairsTo hs ls k) ∧ BoxAt wr w.heap.size (.slice a n cap) (.slice b n cap') ∧ Below w.heap.size w wr) (fun _ i _ => n - (intOf i).toNat)
  case atStart => exact ⟨0, 0, none, 0, [], Nat.zero_le _, Nat.zero_le _, rfl, rfl, OwnR.nil _ _, hid rfl, B1, hbW⟩
  case round =>
    obtain ⟨wo, rfl⟩ : ∃ wo : World, wo = wr := ⟨_, rfl⟩
    obtain ⟨k, q, a', cq, rs, hk, hq, rfl, rfl, hown, HN, BX, hb⟩ := hrel
    clear B1 hbW
    by_cases hlt : k < n
    · obtain ⟨x1, x2, x3, x4⟩ := id BX
      go_wp2_with fail
      clear x1 x2 x3 x4
      go_loopw [3, 5] (fun o jv wr => ∃ (j c q : Nat) (a' : Option Addr) (cq : Nat) (rs : List Rw), j ≤ n ∧ Hid (j = k + 1 + c) ∧ q ≤ 8 * k + c ∧ jv = .int .i64 (j : Int) ∧ o = .slice a' q cq ∧ OwnR wr (w.heap.size + 1) a' q cq rs ∧ Hid (numsOf rs = pairsTo hs ls k ++ pairRow hs ls k c) ∧ BoxAt wr w.heap.size (.slice a n cap) (.slice b n cap') ∧ Below w.heap.size w wr) (fun _ jv _ => n - (intOf jv).toNat)
      case atStart => exact ⟨k + 1, 0, q, a', cq, rs, by omega, hid rfl, by omega, by go_num, rfl, hown, hid (by rw [HN.out]; simp [pairRow]), BX, hb⟩
      case round =>
        obtain ⟨j, c, q1, a1, cq1, rs1, hkc, HJ, hq1, rfl, rfl, hown1, HN1, BX1, hb1⟩ := hrel
        have hjc : c ≤ 8 := by have := HJ.out; omega
        clear hown BX hb HN
        by_cases hlc : j < n
        · obtain ⟨x1, x2, x3, x4⟩ := id BX1
          have g1 := G1.out.below hb1 (Nat.le_refl _)
          have g2 := G2.out.below hb1 (Nat.le_refl _)
          obtain ⟨b1, off1, rfl, hbb1, hc1⟩ := g1.2.2.2.2 (by omega)
          obtain ⟨b2, off2, rfl, hbb2, hc2⟩ := g2.2.2.2.2 (by omega)
          have c1 := hc1 k hlt
          have c2 := hc1 j hlc
          have c3 := hc2 k hlt
          have c4 := hc2 j hlc
          have q1' := HBD.out k hlt
          have q2' := HBD.out j hlc
          have z1 : (0 : Int) ≤ (k : Int) := by omega
          have z2 : (0 : Int) ≤ (j : Int) := by omega
          have z3 : (k : Int) < (n : Int) := by omega
          have z4 : (j : Int) < (n : Int) := by omega
          have HOW : Hid (∀ q, OwnR (wr.drewN q) (w.heap.size + 1) a1 q1 cq1 rs1) := hid (fun q => hown1)
          have HBX : Hid (∀ q, BoxAt (wr.drewN q) w.heap.size (.slice (some ⟨b1, off1, none⟩) n cap) (.slice (some ⟨b2, off2, none⟩) n cap')) := hid (fun q => ⟨BX1.c0, BX1.c1, BX1.f0, BX1.f1⟩)
          have HBB : Hid (∀ q, Below w.heap.size w (wr.drewN q)) := hid (fun q => below_drewN hb1 q)
          clear hc1 hc2 g1 g2 hown1 BX1 hb1
          by_cases e0 : nth hs k = nth hs j
          · have b0 : (nth hs k == nth hs j) = true := by simp [e0]
            by_cases l1 : nth ls k < nth ls j
            · have d1 : decide (nth ls k < nth ls j) = true := by simp [l1]
              have HP : Hid (pairRow hs ls k (c + 1) = pairRow hs ls k c ++ [[(k : Int), (j : Int)]]) := hid (by have e := HJ.out; subst e; exact prow_yes (pair_yes1 e0 l1))
              clear e0
              go_wp2_with fail
              go_quiet (fail)
              go_wp2_with fail
              go_quiet (fail)
              try simp only [World.drewN_drewN]
              go_wp2_with (at_builtin; refine wpList_append_lit2 _ rfl _ _ rfl (w.heap.size + 1) _ _ _ _ _ _ rfl rfl (HOW.out _) (by omega) (boxAt_lt (HBX.out _)) ?_; intro a3 cap3 w3 rs3 hn3 hown3 hb3)
              have BX3 := (HBX.out _).below hb3 (by omega)
              go_roundw
              case rel => exact ⟨j + 1, c + 1, q1 + 1, a3, cap3, rs3, by omega, hid (by have := HJ.out; omega), by omega, by go_num, rfl, hown3, hid (by rw [hn3, HN1.out, HP.out, List.append_assoc]), BX3, (HBB.out _).trans (hb3.mono (Nat.le_succ _))⟩
              case measure => simp [intOf]; omega
            · have d1 : decide (nth ls k < nth ls j) = false := by simp; omega
              have b1' : (nth hs k == nth hs j + 1) = false := by simp; omega
              have HP : Hid (pairRow hs ls k (c + 1) = pairRow hs ls k c) := hid (by have e := HJ.out; subst e; exact prow_no (pair_no1 e0 l1))
              clear e0
              go_wp2_with fail
              go_quiet (fail)
              go_wp2_with fail
              go_quiet (fail)
              try simp only [World.drewN_drewN]
              go_wp2_with fail
              go_roundw
              case rel => exact ⟨j + 1, c + 1, q1, a1, cq1, rs1, by omega, hid (by have := HJ.out; omega), by omega, by go_num, rfl, (HOW.out _), hid (by rw [HN1.out, HP.out]), (HBX.out _), (HBB.out _)⟩
              case measure => simp [intOf]; omega
          · have b0 : (nth hs k == nth hs j) = false := by simp [e0]
            by_cases e1 : nth hs k = nth hs j + 1
            · have b1' : (nth hs k == nth hs j + 1) = true := by simp [e1]
              by_cases l1 : nth ls j < nth ls k
              · have d1 : decide (nth ls j < nth ls k) = true := by simp [l1]
                have HP : Hid (pairRow hs ls k (c + 1) = pairRow hs ls k c ++ [[(k : Int), (j : Int)]]) := hid (by have e := HJ.out; subst e; exact prow_yes (pair_yes2 e1 l1))
                clear e0 e1
                go_wp2_with fail
                go_quiet (fail)
                go_wp2_with fail
                go_quiet (fail)
                try simp only [World.drewN_drewN]
                go_wp2_with (at_builtin; refine wpList_append_lit2 _ rfl _ _ rfl (w.heap.size + 1) _ _ _ _ _ _ rfl rfl (HOW.out _) (by omega) (boxAt_lt (HBX.out _)) ?_; intro a3 cap3 w3 rs3 hn3 hown3 hb3)
                have BX3 := (HBX.out _).below hb3 (by omega)
                go_roundw
                case rel => exact ⟨j + 1, c + 1, q1 + 1, a3, cap3, rs3, by omega, hid (by have := HJ.out; omega), by omega, by go_num, rfl, hown3, hid (by rw [hn3, HN1.out, HP.out, List.append_assoc]), BX3, (HBB.out _).trans (hb3.mono (Nat.le_succ _))⟩
                case measure => simp [intOf]; omega
              · have d1 : decide (nth ls j < nth ls k) = false := by simp; omega
                have HP : Hid (pairRow hs ls k (c + 1) = pairRow hs ls k c) := hid (by have e := HJ.out; subst e; exact prow_no (pair_no2 e1 l1))
                clear e0 e1
                go_wp2_with fail
                go_quiet (fail)
                go_wp2_with fail
                go_quiet (fail)
                try simp only [World.drewN_drewN]
                go_wp2_with fail
                go_roundw
                case rel => exact ⟨j + 1, c + 1, q1, a1, cq1, rs1, by omega, hid (by have := HJ.out; omega), by omega, by go_num, rfl, (HOW.out _), hid (by rw [HN1.out, HP.out]), (HBX.out _), (HBB.out _)⟩
                case measure => simp [intOf]; omega
            · have b1' : (nth hs k == nth hs j + 1) = false := by simp [e1]
              have HP : Hid (pairRow hs ls k (c + 1) = pairRow hs ls k c) := hid (by have e := HJ.out; subst e; exact prow_no (pair_no3 e0 e1))
              clear e0 e1
              go_wp2_with fail
              go_quiet (fail)
              go_wp2_with fail
              go_quiet (fail)
              try simp only [World.drewN_drewN]
              go_wp2_with fail
              go_roundw
              case rel => exact ⟨j + 1, c + 1, q1, a1, cq1, rs1, by omega, hid (by have := HJ.out; omega), by omega, by go_num, rfl, (HOW.out _), hid (by rw [HN1.out, HP.out]), (HBX.out _), (HBB.out _)⟩
              case measure => simp [intOf]; omega
        · have hjn : j = n := by omega
          have hcn : Hid (c = n - (k + 1)) := hid (by have := HJ.out; omega)
          have HS : Hid (numsOf rs1 = pairsTo hs ls (k + 1)) := hid (by rw [HN1.out, pairsTo_succ, hcn.out, HL'.out])
          obtain ⟨x1, x2, x3, x4⟩ := id BX1
          go_wp2_with fail
          go_roundw
          case rel => exact ⟨k + 1, q1, a1, cq1, rs1, by omega, by have := hcn.out; omega, by go_num, rfl, hown1, HS, BX1, hb1⟩
          case measure => simp [intOf]; omega
    · obtain rfl : k = n := by omega
      have HS : Hid (numsOf rs = pairsL hs ls) := hid (by rw [HN.out]; unfold pairsL; rw [HL'.out])
      go_wp2_with fail
      go_ret
      exact ⟨a', q, cq, rs, rfl, hown.mono (Nat.le_succ _), HS.out, hb⟩
end Go.Proofs.Ytakadjhbomggbaa
