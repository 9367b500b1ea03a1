/- The point of a Region: the program's numbers, by contract. -/
import Derived.Test.YtnddplldkgphnabImplRi
import Derived.Test.YtnddplldkgphnabMathPq
import Derived.Test.YtnddplldkgphnabImplBr
namespace Go.Proofs.Ytnddplldkgphnab
open Go.RowKit

theorem own_drew' {w : World} {B : Nat} {a : Option Addr} {n cap : Nat} {xs : List Int} (h : Own w B a n cap xs) : Own w.drew B a n cap xs := h
set_option maxRecDepth 100000 in
set_option maxHeartbeats 4000000 in
theorem greatest_any (a : Option Addr) (n cap : Nat) (os fs : List Int) (w : World) (h : Has w a n cap fs) (hr : regB os fs = true) (h8 : n ≤ 8) :
    Calls Try.prog 44 #[.slice a n cap] w fun e w' => ∃ a' c', e = .returned (.slice a' n c') ∧ Own w' w.heap.size a' n c' (negL (solL fs)) ∧ Below w.heap.size w w' := by
  have hL := h.len
  have HM := hid (fun k p b => prgY_mid (os := os) (fs := fs) (n := n) (k := k) (p := p) (b := b) hL h8 hr)
  have HF := hid (far_le hL hr)
  have HE := hid (prgY_end hL h8 hr)
  have HPH := hid (prg_holds hL h8 hr)
  have HX := hid (fun (y : List Int) (M : Mid fs y n) (r : Nat × Nat × Int) (hr1 : r.1 < n) (hb : nth (solL fs) r.2.1 + r.2.2 ≤ nth (solL fs) r.1) => M.rlx hL h8 hr1 hb)
  have HL := hid hL
  clear hr hL
  go_enter Try.func44, Try.ntmps44
  go_wp2_with (at_make; refine wpList_make_ints _ rfl _ _ rfl n rfl rfl (by omega) ?_; intro a1 c1 w1 own1 hb1)
  rw [show (List.replicate n (0 : Int)) = negL (prgY fs n 0 0 0) by rw [prgY_zero]; simp [negL]] at own1
  go_loopw [11] (fun i wr => ∃ k : Nat, k ≤ n ∧ i = .int .i64 (k : Int) ∧ Own wr w.heap.size a1 n c1 (negL (prgY fs n k 0 0)) ∧ Below w.heap.size w wr) (fun i _ => n - (intOf i).toNat)
  case atStart => exact ⟨0, by omega, rfl, own1, hb1⟩
  case round =>
    obtain ⟨k, hk, rfl, o1, hb⟩ := hrel
    clear own1 hb1
    by_cases hlt : k < n
    · go_wp2_with fail
      go_loopw [15] (fun i wr => ∃ p : Nat, p ≤ n ∧ i = .int .i64 (p : Int) ∧ Own wr w.heap.size a1 n c1 (negL (prgY fs n k p 0)) ∧ Below w.heap.size w wr) (fun i _ => n - (intOf i).toNat)
      case atStart => exact ⟨0, by omega, rfl, o1, hb⟩
      case round =>
        obtain ⟨p, hp, rfl, o2, hb2⟩ := hrel
        clear o1 hb
        by_cases hpn : p < n
        · have HFP := hid (HF.out p hpn)
          go_wp2_with fail
          go_loopw [19] (fun i wr => ∃ b : Nat, b ≤ p ∧ i = .int .i64 (b : Int) ∧ Own wr w.heap.size a1 n c1 (negL (prgY fs n k p b)) ∧ Below w.heap.size w wr) (fun i _ => p - (intOf i).toNat)
          case atStart => exact ⟨0, by omega, rfl, o2, hb2⟩
          case round =>
            obtain ⟨b, hbp, rfl, o3, hb3⟩ := hrel
            clear o2 hb2
            by_cases hblt : b < p
            · have M := HM.out k p b hp hbp (.inr hpn)
              have hML := hid M.len
              have hlp := M.lo p
              have hhp := M.hi p
              have hlb := M.lo b
              have hhb := M.hi b
              have HMM := hid M
              clear M
              obtain ⟨b1, off1, rfl, hbb1, hc1⟩ := h.2.2.2.2 (by omega)
              have hfc : wr.cell? ⟨b1, off1 + p, none⟩ = some (.int .i64 (nth fs p)) := by rw [hb3.cell (p := ⟨b1, off1 + p, none⟩) hbb1]; exact hc1 p hpn
              have e1 := HFP.out.2.1
              have e2 := HFP.out.1
              rw [e1] at hfc
              obtain ⟨f, hf⟩ : ∃ f, farAt fs p = f := ⟨_, rfl⟩
              rw [hf] at hfc e1 e2
              obtain ⟨g, rfl, hg1, hg2, hg3, hg4⟩ := o3.opened (by omega)
              have hcp := hg3 p hpn
              have hcb := hg3 b (by omega)
              have hfp := hg4 p
              have hfb := hg4 b
              rw [nth_negL] at hcp hcb
              have hpn2 : (p : Int) < (n : Int) := by omega
              have hbn2 : (b : Int) < (n : Int) := by omega
              have hp0 : (0 : Int) ≤ (p : Int) := by omega
              have hb0 : (0 : Int) ≤ (b : Int) := by omega
              have hne : p ≠ b := by omega
              clear hc1 hg3 hg4
              by_cases hbf : b < f
              · have HN := hid (prgY_far (fs := fs) (n := n) (k := k) (p := p) (b := b) (by rw [hf]; exact hbf))
                have HS := hid (fun v hv => neg_rlx (y := prgY fs n k p b) (i := p) (j := b) (c := 101) (v := v) (by rw [hML.out]; exact hpn) hv)
                obtain ⟨yp, hyp⟩ : ∃ yp, nth (prgY fs n k p b) p = yp := ⟨_, rfl⟩
                obtain ⟨yb, hyb⟩ : ∃ yb, nth (prgY fs n k p b) b = yb := ⟨_, rfl⟩
                rw [hyp, hyb] at HS
                rw [hyp] at hcp hlp hhp
                rw [hyb] at hcb hlb hhb
                clear hyp hyb HMM
                have v1 : IntKind.i64.wrap (-yb - 100) = -yb - 100 := IntWalk.i64_in _ (by omega)
                have v2 : IntKind.i64.wrap (-yb - 100 - 1) = -yb - 100 - 1 := IntWalk.i64_in _ (by omega)
                go_wp2_with fail
                go_still_tail 14, (by kernel_rfl)
                change wpList _ _ _ _ _ wr.drew
                go_wp2_with fail
                go_roundw
                case rel =>
                  obtain ⟨s1, s2⟩ := o3.set p (if -yb - 100 - 1 < -yp then -yb - 100 - 1 else -yp)
                  rw [HS.out _ (by split <;> split <;> omega), ← HN.out] at s1
                  exact ⟨b + 1, by omega, by go_num, s1, (hb3.setCell hg1 _).drew⟩
                case measure => simp [intOf]; omega
              · have hbf' : ¬ b < farAt fs p := by rw [hf]; exact hbf
                have HN := hid (prgY_near (fs := fs) (n := n) (k := k) (p := p) (b := b) hbf')
                have M1 := HX.out _ HMM.out (p, b, 1) hpn (HPH.out _ (mem_prgR hblt (by unfold prgS; rw [if_neg hbf']; simp) hpn))
                have HS := hid (fun v hv => neg_rlx (y := prgY fs n k p b) (i := p) (j := b) (c := 1) (v := v) (by rw [hML.out]; exact hpn) hv)
                have HS2 := hid (fun v hv => neg_rlx (y := rlx (prgY fs n k p b) (p, b, 1)) (i := b) (j := p) (c := -99) (v := v) (by rw [M1.len]; omega) hv)
                have m1 := M1.lo p
                have m2 := M1.hi p
                have m3 := M1.lo b
                have m4 := M1.hi b
                obtain ⟨yp, hyp⟩ : ∃ yp, nth (prgY fs n k p b) p = yp := ⟨_, rfl⟩
                obtain ⟨yb, hyb⟩ : ∃ yb, nth (prgY fs n k p b) b = yb := ⟨_, rfl⟩
                rw [hyp, hyb] at HS
                rw [hyp] at hcp hlp hhp
                rw [hyb] at hcb hlb hhb
                obtain ⟨zp, hzp⟩ : ∃ zp, nth (rlx (prgY fs n k p b) (p, b, 1)) p = zp := ⟨_, rfl⟩
                obtain ⟨zb, hzb⟩ : ∃ zb, nth (rlx (prgY fs n k p b) (p, b, 1)) b = zb := ⟨_, rfl⟩
                rw [hzp, hzb] at HS2
                rw [hzp] at m1 m2
                rw [hzb] at m3 m4
                have v1 : IntKind.i64.wrap (-yb - 1) = -yb - 1 := IntWalk.i64_in _ (by omega)
                have v2 : IntKind.i64.wrap (-zp + 100) = -zp + 100 := IntWalk.i64_in _ (by omega)
                have v3 : IntKind.i64.wrap (-zp + 100 - 1) = -zp + 100 - 1 := IntWalk.i64_in _ (by omega)
                by_cases hmin : -yb - 1 < -yp
                · obtain ⟨s1, s2⟩ := o3.set p (-yb - 1)
                  rw [HS.out _ (by rw [if_pos hmin])] at s1
                  obtain ⟨g', hgg, -, -, hq3, hq4⟩ := s1.opened (by omega)
                  cases hgg
                  have hdp : (wr.setCell ⟨g, p, none⟩ (.int .i64 (-yb - 1))).drew.cell? ⟨g, p, none⟩ = some (.int .i64 (-zp)) := by have := hq3 p hpn; rw [nth_negL, hzp] at this; exact this
                  have hdb : (wr.setCell ⟨g, p, none⟩ (.int .i64 (-yb - 1))).drew.cell? ⟨g, b, none⟩ = some (.int .i64 (-zb)) := by have := hq3 b (by omega); rw [nth_negL, hzb] at this; exact this
                  have hdfb : (wr.setCell ⟨g, p, none⟩ (.int .i64 (-yb - 1))).drew.frozen? ⟨g, b, none⟩ = false := hq4 b
                  have hb4 := ((hb3.setCell (p := ⟨g, p, none⟩) hg1 (.int .i64 (-yb - 1)))).drew
                  have s1' : Own (wr.setCell ⟨g, p, none⟩ (.int .i64 (-yb - 1))).drew w.heap.size (some ⟨g, 0, none⟩) n c1 (negL (rlx (prgY fs n k p b) (p, b, 1))) := s1
                  clear hyp hyb hzp hzb HMM M1 hq3 hq4 s1 s2
                  go_wp2_with fail
                  go_still_tail 13, (by kernel_rfl)
                  change wpList _ _ _ _ _ wr.drew
                  go_wp2_with fail
                  generalize hV : (wr.setCell ⟨g, p, none⟩ (.int .i64 (-yb - 1))).drew = V at *
                  clear hV hcp hcb hfp hfb
                  go_still_tail 14, (by kernel_rfl)
                  change wpList _ _ _ _ _ V.drew
                  go_wp2_with fail
                  all_goals
                    go_roundw
                    case rel =>
                      obtain ⟨s3, s4⟩ := s1'.set b (if -zp + 100 - 1 < -zb then -zp + 100 - 1 else -zb)
                      rw [HS2.out _ (by split <;> split <;> omega), ← HN.out] at s3
                      first
                        | exact ⟨b + 1, by omega, by go_num, s3, (hb4.setCell hg1 _).drew⟩
                        | (rw [if_pos (by omega)] at s3; exact ⟨b + 1, by omega, by go_num, s3, (hb4.setCell hg1 _).drew⟩)
                        | (rw [if_neg (by omega)] at s3; exact ⟨b + 1, by omega, by go_num, s3, (hb4.setCell hg1 _).drew⟩)
                    case measure => simp [intOf]; omega
                · obtain ⟨s1, s2⟩ := o3.set p (-yp)
                  rw [HS.out _ (by rw [if_neg hmin])] at s1
                  obtain ⟨g', hgg, -, -, hq3, hq4⟩ := s1.opened (by omega)
                  cases hgg
                  have hdp : (wr.setCell ⟨g, p, none⟩ (.int .i64 (-yp))).drew.cell? ⟨g, p, none⟩ = some (.int .i64 (-zp)) := by have := hq3 p hpn; rw [nth_negL, hzp] at this; exact this
                  have hdb : (wr.setCell ⟨g, p, none⟩ (.int .i64 (-yp))).drew.cell? ⟨g, b, none⟩ = some (.int .i64 (-zb)) := by have := hq3 b (by omega); rw [nth_negL, hzb] at this; exact this
                  have hdfb : (wr.setCell ⟨g, p, none⟩ (.int .i64 (-yp))).drew.frozen? ⟨g, b, none⟩ = false := hq4 b
                  have hb4 := ((hb3.setCell (p := ⟨g, p, none⟩) hg1 (.int .i64 (-yp)))).drew
                  have s1' : Own (wr.setCell ⟨g, p, none⟩ (.int .i64 (-yp))).drew w.heap.size (some ⟨g, 0, none⟩) n c1 (negL (rlx (prgY fs n k p b) (p, b, 1))) := s1
                  clear hyp hyb hzp hzb HMM M1 hq3 hq4 s1 s2
                  go_wp2_with fail
                  go_still_tail 13, (by kernel_rfl)
                  change wpList _ _ _ _ _ wr.drew
                  go_wp2_with fail
                  generalize hV : (wr.setCell ⟨g, p, none⟩ (.int .i64 (-yp))).drew = V at *
                  clear hV hcp hcb hfp hfb
                  go_still_tail 14, (by kernel_rfl)
                  change wpList _ _ _ _ _ V.drew
                  go_wp2_with fail
                  all_goals
                    go_roundw
                    case rel =>
                      obtain ⟨s3, s4⟩ := s1'.set b (if -zp + 100 - 1 < -zb then -zp + 100 - 1 else -zb)
                      rw [HS2.out _ (by split <;> split <;> omega), ← HN.out] at s3
                      first
                        | exact ⟨b + 1, by omega, by go_num, s3, (hb4.setCell hg1 _).drew⟩
                        | (rw [if_pos (by omega)] at s3; exact ⟨b + 1, by omega, by go_num, s3, (hb4.setCell hg1 _).drew⟩)
                        | (rw [if_neg (by omega)] at s3; exact ⟨b + 1, by omega, by go_num, s3, (hb4.setCell hg1 _).drew⟩)
                    case measure => simp [intOf]; omega
            · obtain rfl : b = p := by omega
              rw [prgY_place] at o3
              go_wp2_with fail
              go_roundw
              case rel => exact ⟨b + 1, by omega, by go_num, o3, hb3⟩
              case measure => simp [intOf]; omega
        · obtain rfl : p = n := by omega
          rw [prgY_round] at o2
          go_wp2_with fail
          go_roundw
          case rel => exact ⟨k + 1, by omega, by go_num, o2, hb2⟩
          case measure => simp [intOf]; omega
    · obtain rfl : k = n := by omega
      rw [HE.out] at o1
      go_wp2_with fail
      go_ret
      exact ⟨_, _, rfl, o1, hb⟩
end Go.Proofs.Ytnddplldkgphnab
