/- Regions told: the program's IsRegion, by contract. -/
import Derived.Test.YtakadjhbomggbabOutc
import Derived.Test.YtakadjhbomggbabSpecRi
namespace Go.Proofs.Ytakadjhbomggbab
open Go.RowKit

set_option maxRecDepth 100000 in
set_option maxHeartbeats 2000000 in
theorem implIsRegion_any (a b : Option Addr) (n cap m capb : Nat) (os fs : List Int) (w : World) (h : Has w a n cap os) (h' : Has w b m capb fs) :
    Calls Try.prog 36 #[.agg #[.slice a n cap, .slice b m capb]] w (PostBool w (regB os fs)) := by
  have HL := hid h.len
  have HL' := hid h'.len
  have BX := boxAt_new w (.slice a n cap) (.slice b m capb) 24
  have hbW : Below w.heap.size w (w.alloc (.cells #[.slice a n cap, .slice b m capb] 24)) := (Below.refl _ _).alloc (Nat.le_refl _) _
  have hsW : (w.alloc (.cells #[.slice a n cap, .slice b m capb] 24)).heap.size = w.heap.size + 1 := by simp
  have h1 := h.below hbW (Nat.le_refl _)
  have h2 := h'.below hbW (Nat.le_refl _)
  obtain ⟨y1, y2, y3, y4⟩ := id BX
  by_cases ho : outB os = true
  · have HO := hid ho
    have h8 : n ≤ 8 := by have := out_le ho; have := HL.out; omega
    clear ho
    by_cases hnm : m = n
    · subst hnm
      have hbe : ((m : Int) != (m : Int)) = false := by simp
      go_enter Try.func36, Try.ntmps36
      go_wp2_with (go_at_call 66; refine (isOutcome_any _ _ _ _ _ h1).mono ?_; rintro e W1 ⟨rfl, hbo⟩; rw [HO.out]; have BX1 := BX.below hbo (by rw [hsW]; exact Nat.lt_succ_self _); obtain ⟨x1, x2, x3, x4⟩ := id BX1)
      have hb1 := hbW.trans (hbo.mono (by rw [hsW]; exact Nat.le_succ _))
      have g1 := h1.below hbo (Nat.le_refl _)
      have g2 := h2.below hbo (Nat.le_refl _)
      clear y1 y2 y3 y4 x1 x2 x3 x4 hsW BX hbo h1 h2
      go_loopw [3, 22] (fun ll ii wr => ∃ k : Nat, k ≤ m ∧ ii = .int .i64 (k : Int) ∧ ll = .int .i64 (lastF fs k) ∧ Hid (farTo os fs k = true) ∧ Quiet W1 wr) (fun _ ii _ => m - (intOf ii).toNat)
      case atStart => exact ⟨0, by omega, rfl, rfl, hid rfl, ⟨0, rfl⟩⟩
      case round =>
        obtain ⟨k, hk, rfl, rfl, HF, HQ⟩ := hrel
        obtain ⟨l0, l1⟩ := lastF_bounds HF.out
        have hbq : Below w.heap.size w wr := by obtain ⟨q, hq⟩ := HQ; rw [hq]; exact below_drewN hb1 _
        by_cases hlt : k < m
        · obtain ⟨b1, off1, rfl, hbb1, hc1⟩ := g1.2.2.2.2 (by omega)
          obtain ⟨b2, off2, rfl, hbb2, hc2⟩ := g2.2.2.2.2 (by omega)
          have hok : wr.cell? ⟨b1, off1 + k, none⟩ = some (.int .i64 (nth os k)) := by obtain ⟨q, hq⟩ := HQ; rw [hq]; exact hc1 k hlt
          have hfk : wr.cell? ⟨b2, off2 + k, none⟩ = some (.int .i64 (nth fs k)) := by obtain ⟨q, hq⟩ := HQ; rw [hq]; exact hc2 k hlt
          have CX : BoxAt wr w.heap.size (.slice (some ⟨b1, off1, none⟩) m cap) (.slice (some ⟨b2, off2, none⟩) m capb) := by obtain ⟨q, hq⟩ := HQ; rw [hq]; exact ⟨BX1.c0, BX1.c1, BX1.f0, BX1.f1⟩
          obtain ⟨z1, z2, z3, z4⟩ := id CX
          have HI := hid (stepB_iff (os := os) (fs := fs) (k := k))
          have hlf : Hid (lastF fs (k + 1) = nth fs k) := hid (lastF_succ fs k)
          generalize hl : lastF fs k = l at *
          generalize hf : nth fs k = f at *
          generalize hx : nth os k = x at *
          have HG := hid (And.intro hl (And.intro hf hx))
          clear hl hf hx
          have hkk : (k : Int) < (m : Int) := by omega
          have hkz : (0 : Int) ≤ (k : Int) := by omega
          by_cases c1 : l ≤ f
          · by_cases c2 : f ≤ (k : Int)
            · by_cases c3 : l < f
              · obtain ⟨t, ht⟩ : ∃ t : Nat, f = (t : Int) + 1 := ⟨(f - 1).toNat, by omega⟩
                subst ht
                have htm : t < m := by omega
                have hyc : wr.cell? ⟨b1, off1 + t, none⟩ = some (.int .i64 (nth os t)) := by obtain ⟨q, hq⟩ := HQ; rw [hq]; exact hc1 t htm
                have e1 : ((t : Int) + 1 - 1).toNat = t := by omega
                have e2 : (t : Int) + 1 - 1 = (t : Int) := by omega
                rw [e1] at HI
                generalize hy : nth os t = y at *
                have HY := hid hy
                have w1 : IntKind.i64.wrap ((t : Int) + 1 - 1) = (t : Int) := by rw [e2]; exact IntWalk.i64_in _ (by omega)
                have htm2 : (t : Int) < (m : Int) := by omega
                have htz : (0 : Int) ≤ (t : Int) := by omega
                clear hy e1 hc1 hc2
                by_cases c4 : x < y
                · have HN : Hid (regB os fs = false) := hid (reg_no3 HL'.out hlt (Bool.eq_false_iff.2 fun e => (HI.out.1 e).2.2 ⟨c3, c4⟩))
                  go_wp2_with fail
                  go_quiet (fail)
                  go_wp2_with fail
                  go_ret
                  exact postBool HN.out.symm (below_drewN hbq _)
                · have HT : Hid (farTo os fs (k + 1) = true) := hid (farTo_yes HF.out (HI.out.2 ⟨c1, c2, fun e => c4 e.2⟩))
                  go_wp2_with fail
                  go_quiet (fail)
                  go_wp2_with fail
                  go_roundw
                  case rel => exact ⟨k + 1, by omega, by go_num, by rw [hlf.out], HT, Quiet.more HQ _⟩
                  case measure => simp [intOf]; omega
              · have HT : Hid (farTo os fs (k + 1) = true) := hid (farTo_yes HF.out (HI.out.2 ⟨c1, c2, fun e => c3 e.1⟩))
                have hd3 : decide (l < f) = false := decide_eq_false c3
                clear hc1 hc2
                go_wp2_with fail
                go_quiet (fail)
                go_wp2_with fail
                go_roundw
                case rel => exact ⟨k + 1, by omega, by go_num, by rw [hlf.out], HT, Quiet.more HQ _⟩
                case measure => simp [intOf]; omega
            · have HN : Hid (regB os fs = false) := hid (reg_no3 HL'.out hlt (Bool.eq_false_iff.2 fun e => c2 (HI.out.1 e).2.1))
              clear hc1 hc2
              go_wp2_with fail
              go_ret
              exact postBool HN.out.symm hbq
          · have HN : Hid (regB os fs = false) := hid (reg_no3 HL'.out hlt (Bool.eq_false_iff.2 fun e => c1 (HI.out.1 e).1))
            clear hc1 hc2
            go_wp2_with fail
            go_ret
            exact postBool HN.out.symm hbq
        · obtain rfl : k = m := by omega
          have HY : Hid (regB os fs = true) := hid (reg_yes HL.out HL'.out HO.out HF.out)
          go_wp2_with fail
          go_ret
          exact postBool HY.out.symm hbq
    · have hbe : ((m : Int) != (n : Int)) = true := by simp; omega
      have HN := hid (reg_no2 (os := os) (fs := fs) HL.out HL'.out hnm)
      go_enter Try.func36, Try.ntmps36
      go_wp2_with (go_at_call 66; refine (isOutcome_any _ _ _ _ _ h1).mono ?_; rintro e W1 ⟨rfl, hbo⟩; rw [HO.out]; have BX1 := BX.below hbo (by rw [hsW]; exact Nat.lt_succ_self _); obtain ⟨x1, x2, x3, x4⟩ := id BX1)
      go_ret
      exact postBool HN.out.symm (hbW.trans (hbo.mono (by rw [hsW]; exact Nat.le_succ _)))
  · have HO := hid (Bool.eq_false_iff.2 ho)
    have HN := hid (reg_no1 (fs := fs) HO.out)
    clear ho
    go_enter Try.func36, Try.ntmps36
    go_wp2_with (go_at_call 66; refine (isOutcome_any _ _ _ _ _ h1).mono ?_; rintro e W1 ⟨rfl, hbo⟩; rw [HO.out]; have BX1 := BX.below hbo (by rw [hsW]; exact Nat.lt_succ_self _); obtain ⟨x1, x2, x3, x4⟩ := id BX1)
    go_ret
    exact postBool HN.out.symm (hbW.trans (hbo.mono (by rw [hsW]; exact Nat.le_succ _)))
end Go.Proofs.Ytakadjhbomggbab
