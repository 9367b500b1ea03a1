/- The program's functions of chapter 5, by their contracts: the least number of places behind, the count of long parking functions, defects, places needed, stretched lists. -/
import Derived.Test.YtnddplldkgphnacImplLt
import Derived.Test.YtnddplldkgphnacSpecLd
import Derived.Test.YtnddplldkgphnacImplDe
namespace Go.Proofs.Ytnddplldkgphnac
open Go.RowKit

theorem driveBackOf_no {xs : List Int} {p : Int} {k : Nat} (hm : hasB (backs p k xs) (-1) = true) : driveBackOf xs p k = ([], false) := by simp [driveBackOf, hm]
theorem driveBackOf_yes {xs : List Int} {p : Int} {k : Nat} (h : backB xs p k = true) (hm : hasB (backs p k xs) (-1) = false) : driveBackOf xs p k = (backs p k xs, true) := by simp [driveBackOf, h, hm]

set_option maxHeartbeats 800000 in
theorem leastBack_any (a : Option Addr) (n cap : Nat) (xs : List Int) (p : Int) (w : World) (h : Has w a n cap xs) :
    Calls Try.prog 34 #[.slice a n cap, .int .i64 p] w (PostInt w (leastBackOf xs p)) := by
  have HG : Hid (good xs p = true → leastBackOf xs p = leastFrom xs p 9 0) := hid (fun hg => by simp [leastBackOf, hg])
  have HG2 : Hid (good xs p = false → leastBackOf xs p = (0, false)) := hid (fun hg => by simp [leastBackOf, hg])
  go_enter Try.func34, Try.ntmps34
  go_wp2_with fail
  go_loopw [9] (fun i wr => ∃ k f : Nat, i = .int .i64 k ∧ k + f ≤ 9 ∧ 9 ≤ k + f ∧ Hid (good xs p = true → leastBackOf xs p = leastFrom xs p f k) ∧ Below w.heap.size w wr) (fun i _ => 9 - (intOf i).toNat)
  case atStart => exact ⟨0, 9, rfl, by omega, by omega, hid HG.out, Below.refl _ _⟩
  case round =>
    obtain ⟨k, f, rfl, hf1, hf2, HL, hb⟩ := hrel
    cases f with
    | zero =>
      have HR : Hid (leastBackOf xs p = (0, false)) := hid (by
        cases hg : good xs p with
        | true => rw [HL.out hg]; rfl
        | false => exact HG2.out hg)
      go_wp2_with fail
      go_ret2
      exact postInt HR.out hb
    | succ f =>
      have hk8 : k ≤ 8 := by omega
      have hbs := hb.size
      by_cases hg : good xs p = true
      · have hB : backB xs p k = true := backB_parts.2 ⟨hg, inB_iff.2 (by omega)⟩
        by_cases hm : hasB (backs p k xs) (-1) = true
        · have HD := hid (driveBackOf_no (p := p) hm)
          have HS := hid (leastFrom_step (f := f) hm)
          clear hm hB hg
          go_wp2_with fail
          refine (driveBack_any _ _ _ _ p k _ (h.below hb (Nat.le_refl _))).mono ?_
          rw [HD.out]
          rintro e w1 ⟨a1, n1, cap1, rfl, hown1, hb1⟩
          go_wp2_with fail
          go_roundw
          case rel => exact ⟨k + 1, f, by go_num, by omega, by omega, hid (fun g => by rw [HL.out g, HS.out]), hb.trans (hb1.mono hbs)⟩
          case measure => simp [intOf]; omega
        · have hm' : hasB (backs p k xs) (-1) = false := by simpa using hm
          have HD := hid (driveBackOf_yes hB hm')
          have HR : Hid (leastBackOf xs p = ((k : Int), true)) := hid (by rw [HL.out hg, leastFrom_hit hm'])
          clear hm hm' hB hg
          go_wp2_with fail
          refine (driveBack_any _ _ _ _ p k _ (h.below hb (Nat.le_refl _))).mono ?_
          rw [HD.out]
          rintro e w1 ⟨a1, n1, cap1, rfl, hown1, hb1⟩
          go_wp2_with fail
          go_ret2
          exact postInt HR.out (hb.trans (hb1.mono hbs))
      · have hg' : good xs p = false := by simpa using hg
        have HD : Hid (driveBackOf xs p k = ([], false)) := hid (by simp [driveBackOf, backB, hg'])
        have HF := hid hg'
        clear hg hg'
        go_wp2_with fail
        refine (driveBack_any _ _ _ _ p k _ (h.below hb (Nat.le_refl _))).mono ?_
        rw [HD.out]
        rintro e w1 ⟨a1, n1, cap1, rfl, hown1, hb1⟩
        go_wp2_with fail
        go_roundw
        case rel => exact ⟨k + 1, f, by go_num, by omega, by omega, hid (fun g => by rw [HF.out] at g; simp at g), hb.trans (hb1.mono hbs)⟩
        case measure => simp [intOf]; omega

set_option maxHeartbeats 800000 in
theorem countLong_any (b : Option Addr) (m capl : Nat) (ls : List Int) (w : World) (h' : Has w b m capl ls) :
    Calls Try.prog 27 #[.slice b m capl] w (PostInt w (countLongOf ls)) := by
  by_cases hl : lenB ls = true
  · have HR : Hid (countLongOf ls = (prodLong ls ls.length, true)) := hid (by simp [countLongOf, hl])
    obtain ⟨-, t1, t2, hl1, hl8, hlb⟩ := lenB_sum hl
    have HM := hid h'.len
    have HL := hid hl
    have HY := hid (lens_yes hl)
    rw [h'.len] at hl1 hl8 hlb
    have HLB := hid hlb
    clear hl hlb
    go_enter Try.func27, Try.ntmps27
    go_wp2_with (go_at_call 55; refine (totalLength_any _ _ _ _ _ h').mono ?_; rintro e w' ⟨rfl, rfl⟩; rw [HY.out])
    go_loop [6, 7, 8] (fun c t i => ∃ (k : Nat) (v s : Int), k + 1 ≤ m ∧ i = .int .i64 ((k + 1 : Nat) : Int) ∧ c = .int .i64 v ∧ t = .int .i64 s ∧ Hid (v = prodLong ls (k + 1)) ∧ Hid (s = total (ls.take k))) (fun _ _ i => m - (intOf i).toNat)
    case atStart => exact ⟨0, 1, 0, hl1, rfl, rfl, rfl, hid (prodLong_one ls).symm, hid rfl⟩
    case round =>
      obtain ⟨k, v, s, hk, rfl, rfl, rfl, HV, HT⟩ := hrel
      by_cases hlt : k + 1 < m
      · obtain ⟨b1, b2⟩ := prodLong_le HL.out (i := k + 1) (by rw [HM.out]; omega)
        rw [← HV.out] at b1 b2
        obtain ⟨f0, f1, f2, f3⟩ := factor_bounds HL.out (i := k + 1) (by rw [HM.out]; omega)
        obtain ⟨e0, e1, -, -⟩ := factor_bounds HL.out (i := k) (by rw [HM.out]; omega)
        have HP := hid (prodLong_succ ls (i := k + 1) (by omega))
        have HTS := hid (total_succ (xs := ls) (k := k) (by rw [HM.out]; omega))
        rw [HM.out] at f2 f3
        rw [HTS.out, ← HT.out] at f0 f1 f2 f3
        rw [← HT.out] at e0 e1
        obtain ⟨m1, m2⟩ := mul_bounds b1 b2 f2 f3
        obtain ⟨l0, l1⟩ := HLB.out k (by omega)
        obtain ⟨b0, off, rfl, hbb, hc⟩ := h'.2.2.2.2 (by omega)
        have hck := hc k (by omega)
        have HMM := hid HM.out
        have hk1 : ((k + 1 : Nat) : Int) = (k : Int) + 1 := by omega
        rw [hk1] at f2 f3 m1 m2
        clear hc hk1
        go_wp2_with fail
        go_round
        case rel => exact ⟨k + 1, v * (s + nth ls k + m - ((k : Int) + 1) + 1), s + nth ls k, by omega, by go_num, by go_num, by go_num, hid (by rw [HP.out, HV.out, HMM.out, HTS.out, HT.out]; congr 1), hid (by rw [HTS.out, HT.out])⟩
        case measure => simp [intOf]; omega
      · have hkm : k + 1 = m := by omega
        have HKM := hid hkm
        clear hkm
        go_wp2_with fail
        go_ret2
        exact postInt (by rw [HR.out, HV.out, HM.out, HKM.out]) (Below.refl _ _)
  · have HR : Hid (countLongOf ls = (0, false)) := hid (by simp [countLongOf, hl])
    have HY := hid (lens_no hl)
    clear hl
    go_enter Try.func27, Try.ntmps27
    go_wp2_with (go_at_call 55; refine (totalLength_any _ _ _ _ _ h').mono ?_; rintro e w' ⟨rfl, rfl⟩; rw [HY.out])
    go_ret2
    exact postInt HR.out (Below.refl _ _)

theorem needTo_bounds {ys : List Int} (h : ∀ y ∈ ys, y < 12) : 1 ≤ needTo ys ∧ needTo ys ≤ 12 := by
  obtain ⟨n1, n2, n3⟩ := needTo_max ys
  rcases n3 with e | ⟨y, hy, e⟩
  · omega
  · have := h y hy; omega

end Go.Proofs.Ytnddplldkgphnac
