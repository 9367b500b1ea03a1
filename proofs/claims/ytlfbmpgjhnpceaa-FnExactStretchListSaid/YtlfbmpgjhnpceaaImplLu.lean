/- The program's functions of chapter 5, by their contracts: the least number of places behind, the count of long parking functions, defects, places needed, stretched lists. -/
import Derived.Test.YtlfbmpgjhnpceaaImplLt
import Derived.Test.YtlfbmpgjhnpceaaSpecLd
namespace Go.Proofs.Ytlfbmpgjhnpceaa
open Go.RowKit

theorem driveBackOf_no {xs : List Int} {p : Int} {k : Nat} (hm : hasB (backs p k xs) (-1) = true) : driveBackOf xs p k = ([], false) := by simp [driveBackOf, hm]
theorem driveBackOf_yes {xs : List Int} {p : Int} {k : Nat} (h : backB xs p k = true) (hm : hasB (backs p k xs) (-1) = false) : driveBackOf xs p k = (backs p k xs, true) := by simp [driveBackOf, h, hm]

set_option maxHeartbeats 800000 in
theorem leastBack_any (a : Option Addr) (n cap : Nat) (xs : List Int) (p : Int) (w : World) (h : Has w a n cap xs) :
    Calls Try.prog 26 #[.slice a n cap, .int .i64 p] w (PostInt w (leastBackOf xs p)) := by
  have HG : Hid (good xs p = true → leastBackOf xs p = leastFrom xs p 9 0) := hid (fun hg => by simp [leastBackOf, hg])
  have HG2 : Hid (good xs p = false → leastBackOf xs p = (0, false)) := hid (fun hg => by simp [leastBackOf, hg])
  go_enter Try.func26, Try.ntmps26
  go_wp2_with fail
  go_loopw [9] (fun i wr => ∃ k f : Nat, i = .int .i64 k ∧ k + f ≤ 9 ∧ 9 ≤ k + f ∧ Hid (good xs p = true → leastBackOf xs p = leastFrom xs p f k) ∧ Below w.heap.size w wr) (fun i _ => 9 - (intOf i).toNat)
  case atStart => exact ⟨0, 9, rfl, by omega, by omega, hid HG.out, Below.refl _ _⟩
  case round =>
    obtain ⟨k, f, rfl, hf1, hf2, HL, hb⟩ := hrel
    cases f with
    | zero =>
      have HR : Hid (leastBackOf xs p = (0, false)) := hid (by
        cases hg : good xs p with
        | true => rw [HL.out hg]; rfl
        | false => exact HG2.out hg)
      go_wp2_with fail
      go_ret2
      exact postInt HR.out hb
    | succ f =>
      have hk8 : k ≤ 8 := by omega
      have hbs := hb.size
      by_cases hg : good xs p = true
      · have hB : backB xs p k = true := backB_parts.2 ⟨hg, inB_iff.2 (by omega)⟩
        by_cases hm : hasB (backs p k xs) (-1) = true
        · have HD := hid (driveBackOf_no (p := p) hm)
          have HS := hid (leastFrom_step (f := f) hm)
          clear hm hB hg
          go_wp2_with fail
          refine (driveBack_any _ _ _ _ p k _ (h.below hb (Nat.le_refl _))).mono ?_
          rw [HD.out]
          rintro e w1 ⟨a1, n1, cap1, rfl, hown1, hb1⟩
          go_wp2_with fail
          go_roundw
          case rel => exact ⟨k + 1, f, by go_num, by omega, by omega, hid (fun g => by rw [HL.out g, HS.out]), hb.trans (hb1.mono hbs)⟩
          case measure => simp [intOf]; omega
        · have hm' : hasB (backs p k xs) (-1) = false := by simpa using hm
          have HD := hid (driveBackOf_yes hB hm')
          have HR : Hid (leastBackOf xs p = ((k : Int), true)) := hid (by rw [HL.out hg, leastFrom_hit hm'])
          clear hm hm' hB hg
          go_wp2_with fail
          refine (driveBack_any _ _ _ _ p k _ (h.below hb (Nat.le_refl _))).mono ?_
          rw [HD.out]
          rintro e w1 ⟨a1, n1, cap1, rfl, hown1, hb1⟩
          go_wp2_with fail
          go_ret2
          exact postInt HR.out (hb.trans (hb1.mono hbs))
      · have hg' : good xs p = false := by simpa using hg
        have HD : Hid (driveBackOf xs p k = ([], false)) := hid (by simp [driveBackOf, backB, hg'])
        have HF := hid hg'
        clear hg hg'
        go_wp2_with fail
        refine (driveBack_any _ _ _ _ p k _ (h.below hb (Nat.le_refl _))).mono ?_
        rw [HD.out]
        rintro e w1 ⟨a1, n1, cap1, rfl, hown1, hb1⟩
        go_wp2_with fail
        go_roundw
        case rel => exact ⟨k + 1, f, by go_num, by omega, by omega, hid (fun g => by rw [HF.out] at g; simp at g), hb.trans (hb1.mono hbs)⟩
        case measure => simp [intOf]; omega

set_option maxHeartbeats 800000 in
theorem countLong_any (b : Option Addr) (m capl : Nat) (ls : List Int) (w : World) (h' : Has w b m capl ls) :
    Calls Try.prog 34 #[.slice b m capl] w (PostInt w (countLongOf ls)) := by
  by_cases hl : lenB ls = true
  · have HR : Hid (countLongOf ls = (prodLong ls ls.length, true)) := hid (by simp [countLongOf, hl])
    obtain ⟨-, t1, t2, hl1, hl8, hlb⟩ := lenB_sum hl
    have HM := hid h'.len
    have HL := hid hl
    have HY := hid (lens_yes hl)
    rw [h'.len] at hl1 hl8 hlb
    have HLB := hid hlb
    clear hl hlb
    go_enter Try.func34, Try.ntmps34
    go_wp2_with (go_at_call 53; refine (totalLength_any _ _ _ _ _ h').mono ?_; rintro e w' ⟨rfl, rfl⟩; rw [HY.out])
    go_loop [6, 7, 8] (fun c t i => ∃ (k : Nat) (v s : Int), k + 1 ≤ m ∧ i = .int .i64 ((k + 1 : Nat) : Int) ∧ c = .int .i64 v ∧ t = .int .i64 s ∧ Hid (v = prodLong ls (k + 1)) ∧ Hid (s = total (ls.take k))) (fun _ _ i => m - (intOf i).toNat)
    case atStart => exact ⟨0, 1, 0, hl1, rfl, rfl, rfl, hid (prodLong_one ls).symm, hid rfl⟩
    case round =>
      obtain ⟨k, v, s, hk, rfl, rfl, rfl, HV, HT⟩ := hrel
      by_cases hlt : k + 1 < m
      · obtain ⟨b1, b2⟩ := prodLong_le HL.out (i := k + 1) (by rw [HM.out]; omega)
        rw [← HV.out] at b1 b2
        obtain ⟨f0, f1, f2, f3⟩ := factor_bounds HL.out (i := k + 1) (by rw [HM.out]; omega)
        obtain ⟨e0, e1, -, -⟩ := factor_bounds HL.out (i := k) (by rw [HM.out]; omega)
        have HP := hid (prodLong_succ ls (i := k + 1) (by omega))
        have HTS := hid (total_succ (xs := ls) (k := k) (by rw [HM.out]; omega))
        rw [HM.out] at f2 f3
        rw [HTS.out, ← HT.out] at f0 f1 f2 f3
        rw [← HT.out] at e0 e1
        obtain ⟨m1, m2⟩ := mul_bounds b1 b2 f2 f3
        obtain ⟨l0, l1⟩ := HLB.out k (by omega)
        obtain ⟨b0, off, rfl, hbb, hc⟩ := h'.2.2.2.2 (by omega)
        have hck := hc k (by omega)
        have HMM := hid HM.out
        have hk1 : ((k + 1 : Nat) : Int) = (k : Int) + 1 := by omega
        rw [hk1] at f2 f3 m1 m2
        clear hc hk1
        go_wp2_with fail
        go_round
        case rel => exact ⟨k + 1, v * (s + nth ls k + m - ((k : Int) + 1) + 1), s + nth ls k, by omega, by go_num, by go_num, by go_num, hid (by rw [HP.out, HV.out, HMM.out, HTS.out, HT.out]; congr 1), hid (by rw [HTS.out, HT.out])⟩
        case measure => simp [intOf]; omega
      · have hkm : k + 1 = m := by omega
        have HKM := hid hkm
        clear hkm
        go_wp2_with fail
        go_ret2
        exact postInt (by rw [HR.out, HV.out, HM.out, HKM.out]) (Below.refl _ _)
  · have HR : Hid (countLongOf ls = (0, false)) := hid (by simp [countLongOf, hl])
    have HY := hid (lens_no hl)
    clear hl
    go_enter Try.func34, Try.ntmps34
    go_wp2_with (go_at_call 53; refine (totalLength_any _ _ _ _ _ h').mono ?_; rintro e w' ⟨rfl, rfl⟩; rw [HY.out])
    go_ret2
    exact postInt HR.out (Below.refl _ _)

set_option maxHeartbeats 400000 in
theorem surplus_any (a : Option Addr) (n cap : Nat) (xs : List Int) (p j : Int) (w : World) (h : Has w a n cap xs) (h8 : n ≤ 8) (hp0 : 0 ≤ p) (hp : p ≤ 100) (hj : 0 ≤ j) (hj2 : j ≤ 100) :
    Calls Try.prog 59 #[.slice a n cap, .int .i64 p, .int .i64 j] w fun e w' => e = .returned (.int .i64 (surplus xs p j)) ∧ w = w' := by
  have hbl := below_le xs j
  rw [h.len] at hbl
  have HR : Hid (surplus xs p j = (n : Int) - below xs j - (p - j)) := hid (by unfold surplus; rw [h.len])
  go_enter Try.func59, Try.ntmps59
  go_wp2_with (go_at_call 73; refine (countBelow_any _ _ _ _ _ _ h).mono ?_; rintro e w' ⟨rfl, rfl⟩)
  go_ret
  exact ⟨ret_int HR.out.symm, rfl⟩

theorem defTo_bounds {xs : List Int} {p : Int} (h8 : xs.length ≤ 8) (hp : 0 ≤ p) (hp2 : p ≤ 12) : ∀ q : Nat, (q : Int) ≤ p → 0 ≤ defTo xs p q ∧ defTo xs p q ≤ 8
  | 0, _ => by simp [defTo]
  | q + 1, hq => by
    have ih := defTo_bounds h8 hp hp2 q (by omega)
    have := below_le xs q
    rw [defTo]
    unfold surplus
    omega

set_option maxHeartbeats 400000 in
theorem defect_any (a : Option Addr) (n cap : Nat) (xs : List Int) (p : Int) (w : World) (h : Has w a n cap xs) :
    Calls Try.prog 36 #[.slice a n cap, .int .i64 p] w (PostInt w (defectOf xs p)) := by
  by_cases hg : good xs p = true
  · obtain ⟨g1, g2, g3, g4⟩ := good_nth hg h.len
    obtain ⟨P, rfl⟩ : ∃ P : Nat, p = (P : Int) := ⟨p.toNat, by omega⟩
    have HN := hid h.len
    have HR : Hid (defectOf xs P = (defTo xs P P, true)) := hid (by
      rw [defectOf, if_pos hg, fails_defect (by omega) (good_iff.1 hg).2.2])
    have HB := hid (fun (q : Nat) (hq : (q : Int) ≤ P) => defTo_bounds (xs := xs) (p := (P : Int)) (by rw [HN.out]; exact g1) (by omega) g3 q hq)
    have HSB := hid (fun (q : Nat) => below_le xs q)
    have HG := hid hg
    clear hg g4
    go_enter Try.func36, Try.ntmps36
    go_wp2_with (go_at_call 58; refine (areFavourites_any _ _ _ _ _ _ h).mono ?_; rintro e w' ⟨rfl, rfl⟩; rw [HG.out])
    go_loop [6, 13] (fun c i => ∃ (k : Nat) (v : Int), k ≤ P ∧ i = .int .i64 k ∧ c = .int .i64 v ∧ Hid (v = defTo xs P k)) (fun _ i => P - (intOf i).toNat)
    case atStart => exact ⟨0, 0, Nat.zero_le _, rfl, rfl, hid rfl⟩
    case round =>
      obtain ⟨k, v, hk, rfl, rfl, HV⟩ := hrel
      by_cases hlt : k < P
      · obtain ⟨v0, v1⟩ := HB.out k (by omega)
        rw [← HV.out] at v0 v1
        have hs0 : -100 ≤ surplus xs P k ∧ surplus xs P k ≤ 100 := by
          have := HSB.out k
          have h3 := HN.out
          unfold surplus
          omega
        obtain ⟨s0, s1⟩ := hs0
        have HD : Hid (defTo xs P (k + 1) = max v (surplus xs P k)) := hid (by rw [defTo, HV.out])
        by_cases hc : surplus xs P k ≤ v
        · have HM : Hid (max v (surplus xs P k) = v) := hid (Int.max_eq_left hc)
          have hc2 : ¬ v < surplus xs P k := by omega
          go_wp2_with (go_at_call 59; refine (surplus_any _ _ _ _ _ _ _ h g1 (by omega) (by omega) (by omega) (by omega)).mono ?_; rintro e w' ⟨rfl, rfl⟩)
          go_round
          case rel => exact ⟨k + 1, v, by omega, by go_num, rfl, hid (by rw [HD.out, HM.out])⟩
          case measure => simp [intOf]; omega
        · have HM : Hid (max v (surplus xs P k) = surplus xs P k) := hid (Int.max_eq_right (by omega))
          have hc2 : v < surplus xs P k := by omega
          go_wp2_with (go_at_call 59; refine (surplus_any _ _ _ _ _ _ _ h g1 (by omega) (by omega) (by omega) (by omega)).mono ?_; rintro e w' ⟨rfl, rfl⟩)
          go_round
          case rel => exact ⟨k + 1, surplus xs P k, by omega, by go_num, rfl, hid (by rw [HD.out, HM.out])⟩
          case measure => simp [intOf]; omega
      · obtain rfl : k = P := by omega
        go_wp2_with fail
        go_ret2
        exact postInt (by rw [HR.out, HV.out]) (Below.refl _ _)
  · have HR : Hid (defectOf xs p = (0, false)) := hid (by simp [defectOf, hg])
    have HG := hid hg
    clear hg
    go_enter Try.func36, Try.ntmps36
    go_wp2_with (go_at_call 58; refine (areFavourites_any _ _ _ _ _ _ h).mono ?_; rintro e w' ⟨rfl, rfl⟩; rw [Bool.eq_false_iff.2 HG.out])
    go_ret2
    exact postInt HR.out (Below.refl _ _)

theorem needTo_bounds {ys : List Int} (h : ∀ y ∈ ys, y < 12) : 1 ≤ needTo ys ∧ needTo ys ≤ 12 := by
  obtain ⟨n1, n2, n3⟩ := needTo_max ys
  rcases n3 with e | ⟨y, hy, e⟩
  · omega
  · have := h y hy; omega

set_option maxHeartbeats 400000 in
theorem needed_any (a : Option Addr) (n cap : Nat) (xs : List Int) (w : World) (h : Has w a n cap xs) :
    Calls Try.prog 38 #[.slice a n cap] w (PostInt w (neededOf xs)) := by
  by_cases hg : good xs 12 = true ∧ allPark 12 xs = true
  · have HS : Hid (driveCars xs 12 = (drive 12 xs, true)) := hid (by simp [driveCars, hg])
    have HR : Hid (neededOf xs = (needTo (drive 12 xs), true)) := hid (by simp [neededOf, hg])
    have hb := (good_iff.1 hg.1).2.2
    have hlt : ∀ y ∈ drive 12 xs, -1 ≤ y ∧ y < 12 := fun y hy => drive_lt (p := 12) (by omega) hb xs.length (Nat.le_refl _) y (by rw [List.take_of_length_le (Nat.le_refl _)]; exact hy)
    have HLT := hid hlt
    clear hg hb hlt
    go_enter Try.func38, Try.ntmps38
    go_wp2_with fail
    refine (driveCars_any _ _ _ _ _ _ h).mono ?_
    rw [HS.out]
    rintro e w1 ⟨a1, n1, cap1, rfl, hown1, hb1⟩
    have HL := hid hown1.len
    have hh := hown1.has
    obtain ⟨ys, hys⟩ : ∃ ys, drive 12 xs = ys := ⟨_, rfl⟩
    have HYS := hid hys
    have HLY := hid (hys ▸ HLT.out : ∀ y ∈ ys, -1 ≤ y ∧ y < 12)
    simp only [hys] at hh
    have HL2 : Hid (ys.length = n1) := hid (by rw [← HL.out, hys])
    have hn1 := hh.2.2.2.1
    clear hys hown1
    go_wp2_with fail
    go_loop [6, 18] (fun c i => ∃ (k : Nat) (v : Int), k ≤ n1 ∧ i = .int .i64 k ∧ c = .int .i64 v ∧ 1 ≤ v ∧ v ≤ 12 ∧ Hid (v = needTo (ys.take k))) (fun _ i => n1 - (intOf i).toNat)
    case atStart => exact ⟨0, 1, Nat.zero_le _, rfl, rfl, by omega, by omega, hid rfl⟩
    case round =>
      obtain ⟨k, v, hk, rfl, rfl, v0, v1, HV⟩ := hrel
      by_cases hlt : k < n1
      · obtain ⟨b0, off, rfl, hbb, hc⟩ := hh.2.2.2.2 (by omega)
        have hck := hc k hlt
        obtain ⟨y0, y1⟩ := HLY.out _ (nth_mem (xs := ys) (i := k) (by rw [HL2.out]; exact hlt))
        have HD : Hid (needTo (ys.take (k + 1)) = max v (nth ys k + 1)) := hid (by rw [needTo_succ (by rw [HL2.out]; exact hlt), HV.out])
        clear hc
        by_cases hc : nth ys k + 1 ≤ v
        · have HM : Hid (max v (nth ys k + 1) = v) := hid (Int.max_eq_left hc)
          have hc2 : ¬ v < nth ys k + 1 := by omega
          go_wp2_with fail
          go_round
          case rel => exact ⟨k + 1, v, by omega, by go_num, rfl, v0, v1, hid (by rw [HD.out, HM.out])⟩
          case measure => simp [intOf]; omega
        · have HM : Hid (max v (nth ys k + 1) = nth ys k + 1) := hid (Int.max_eq_right (by omega))
          have hc2 : v < nth ys k + 1 := by omega
          go_wp2_with fail
          go_round
          case rel => exact ⟨k + 1, nth ys k + 1, by omega, by go_num, by go_num, by omega, by omega, hid (by rw [HD.out, HM.out])⟩
          case measure => simp [intOf]; omega
      · obtain rfl : k = n1 := by omega
        go_wp2_with fail
        go_ret2
        exact postInt (by rw [HR.out, HV.out, List.take_of_length_le (by rw [HL2.out]; exact Nat.le_refl _), HYS.out]) hb1
  · have HS : Hid (driveCars xs 12 = ([], false)) := hid (by simp only [driveCars, Bool.and_eq_true, if_neg hg])
    have HR : Hid (neededOf xs = (0, false)) := hid (by simp only [neededOf, Bool.and_eq_true, if_neg hg])
    clear hg
    go_enter Try.func38, Try.ntmps38
    go_wp2_with fail
    refine (driveCars_any _ _ _ _ _ _ h).mono ?_
    rw [HS.out]
    rintro e w1 ⟨a1, n1, cap1, rfl, hown1, hb1⟩
    go_wp2_with fail
    go_ret2
    exact postInt HR.out hb1
end Go.Proofs.Ytlfbmpgjhnpceaa
