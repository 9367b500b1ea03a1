/- The program's defect, by contract. -/
import Derived.Test.YtlfbmpgjhnpceabImplC
import Derived.Test.YtlfbmpgjhnpceabMathLo
namespace Go.Proofs.Ytlfbmpgjhnpceab
open Go.RowKit

set_option maxHeartbeats 400000 in
theorem surplus_any (a : Option Addr) (n cap : Nat) (xs : List Int) (p j : Int) (w : World) (h : Has w a n cap xs) (h8 : n ≤ 8) (hp0 : 0 ≤ p) (hp : p ≤ 100) (hj : 0 ≤ j) (hj2 : j ≤ 100) :
    Calls Try.prog 92 #[.slice a n cap, .int .i64 p, .int .i64 j] w fun e w' => e = .returned (.int .i64 (surplus xs p j)) ∧ w = w' := by
  have hbl := below_le xs j
  rw [h.len] at hbl
  have HR : Hid (surplus xs p j = (n : Int) - below xs j - (p - j)) := hid (by unfold surplus; rw [h.len])
  go_enter Try.func92, Try.ntmps92
  go_wp2_with (go_at_call 151; refine (countBelow_any _ _ _ _ _ _ h).mono ?_; rintro e w' ⟨rfl, rfl⟩)
  go_ret
  exact ⟨ret_int HR.out.symm, rfl⟩

theorem defTo_bounds {xs : List Int} {p : Int} (h8 : xs.length ≤ 8) (hp : 0 ≤ p) (hp2 : p ≤ 12) : ∀ q : Nat, (q : Int) ≤ p → 0 ≤ defTo xs p q ∧ defTo xs p q ≤ 8
  | 0, _ => by simp [defTo]
  | q + 1, hq => by
    have ih := defTo_bounds h8 hp hp2 q (by omega)
    have := below_le xs q
    rw [defTo]
    unfold surplus
    omega

set_option maxHeartbeats 400000 in
theorem defect_any (a : Option Addr) (n cap : Nat) (xs : List Int) (p : Int) (w : World) (h : Has w a n cap xs) :
    Calls Try.prog 48 #[.slice a n cap, .int .i64 p] w (PostInt w (defectOf xs p)) := by
  by_cases hg : good xs p = true
  · obtain ⟨g1, g2, g3, g4⟩ := good_nth hg h.len
    obtain ⟨P, rfl⟩ : ∃ P : Nat, p = (P : Int) := ⟨p.toNat, by omega⟩
    have HN := hid h.len
    have HR : Hid (defectOf xs P = (defTo xs P P, true)) := hid (by
      rw [defectOf, if_pos hg, fails_defect (by omega) (good_iff.1 hg).2.2])
    have HB := hid (fun (q : Nat) (hq : (q : Int) ≤ P) => defTo_bounds (xs := xs) (p := (P : Int)) (by rw [HN.out]; exact g1) (by omega) g3 q hq)
    have HSB := hid (fun (q : Nat) => below_le xs q)
    have HG := hid hg
    clear hg g4
    go_enter Try.func48, Try.ntmps48
    go_wp2_with (go_at_call 68; refine (areFavourites_any _ _ _ _ _ _ h).mono ?_; rintro e w' ⟨rfl, rfl⟩; rw [HG.out])
    go_loop [6, 13] (fun c i => ∃ (k : Nat) (v : Int), k ≤ P ∧ i = .int .i64 k ∧ c = .int .i64 v ∧ Hid (v = defTo xs P k)) (fun _ i => P - (intOf i).toNat)
    case atStart => exact ⟨0, 0, Nat.zero_le _, rfl, rfl, hid rfl⟩
    case round =>
      obtain ⟨k, v, hk, rfl, rfl, HV⟩ := hrel
      by_cases hlt : k < P
      · obtain ⟨v0, v1⟩ := HB.out k (by omega)
        rw [← HV.out] at v0 v1
        have hs0 : -100 ≤ surplus xs P k ∧ surplus xs P k ≤ 100 := by
          have := HSB.out k
          have h3 := HN.out
          unfold surplus
          omega
        obtain ⟨s0, s1⟩ := hs0
        have HD : Hid (defTo xs P (k + 1) = max v (surplus xs P k)) := hid (by rw [defTo, HV.out])
        by_cases hc : surplus xs P k ≤ v
        · have HM : Hid (max v (surplus xs P k) = v) := hid (Int.max_eq_left hc)
          have hc2 : ¬ v < surplus xs P k := by omega
          go_wp2_with (go_at_call 92; refine (surplus_any _ _ _ _ _ _ _ h g1 (by omega) (by omega) (by omega) (by omega)).mono ?_; rintro e w' ⟨rfl, rfl⟩)
          go_round
          case rel => exact ⟨k + 1, v, by omega, by go_num, rfl, hid (by rw [HD.out, HM.out])⟩
          case measure => simp [intOf]; omega
        · have HM : Hid (max v (surplus xs P k) = surplus xs P k) := hid (Int.max_eq_right (by omega))
          have hc2 : v < surplus xs P k := by omega
          go_wp2_with (go_at_call 92; refine (surplus_any _ _ _ _ _ _ _ h g1 (by omega) (by omega) (by omega) (by omega)).mono ?_; rintro e w' ⟨rfl, rfl⟩)
          go_round
          case rel => exact ⟨k + 1, surplus xs P k, by omega, by go_num, rfl, hid (by rw [HD.out, HM.out])⟩
          case measure => simp [intOf]; omega
      · obtain rfl : k = P := by omega
        go_wp2_with fail
        go_ret2
        exact postInt (by rw [HR.out, HV.out]) (Below.refl _ _)
  · have HR : Hid (defectOf xs p = (0, false)) := hid (by simp [defectOf, hg])
    have HG := hid hg
    clear hg
    go_enter Try.func48, Try.ntmps48
    go_wp2_with (go_at_call 68; refine (areFavourites_any _ _ _ _ _ _ h).mono ?_; rintro e w' ⟨rfl, rfl⟩; rw [Bool.eq_false_iff.2 HG.out])
    go_ret2
    exact postInt HR.out (Below.refl _ _)

end Go.Proofs.Ytlfbmpgjhnpceab
