/- The model's functions of chapter 2, by their contracts: counts, ranks. -/
import Derived.Test.YtkkhlkaieohklabGreatSpecS
import Derived.Test.YtkkhlkaieohklabGreatMathW
import Derived.StillTailTactics
namespace Go.Proofs.YtkkhlkaieohklabGreat
open Go.RowKit

theorem cnCars_any (n : Int) (w : World) :
    Calls Tryz.prog 39 #[.int .i64 n] w fun e w' => e = .returned (.bool (inB n 0 8)) ∧ w = w' := by
  go_enter Tryz.func39, Tryz.ntmps39
  go_wp2_with (go_at_call 24; refine (l1In_any _ _ _ _).mono ?_; rintro e w' ⟨rfl, rfl⟩)
  go_ret
  exact ⟨rfl, rfl⟩

set_option maxHeartbeats 400000 in
theorem cnPower_any (b k : Nat) (w : World) (hb : b ≤ 13) (hk : k ≤ 8) :
    Calls Tryz.prog 41 #[.int .i64 (b : Int), .int .i64 (k : Int)] w fun e w' => e = .returned (.int .i64 ((b ^ k : Nat) : Int)) ∧ w = w' := by
  go_enter Tryz.func41, Tryz.ntmps41
  go_wp2_with fail
  go_loop [1, 5] (fun i o => ∃ j : Nat, j ≤ k ∧ i = .int .i64 ((k - j : Nat) : Int) ∧ o = .int .i64 ((b ^ j : Nat) : Int)) (fun i _ => (intOf i).toNat)
  case atStart => exact ⟨0, Nat.zero_le _, by simp, by simp⟩
  case round =>
    obtain ⟨j, hj, rfl, rfl⟩ := hrel
    have hp := pow_small b (by omega) j (by omega)
    by_cases hlt : j < k
    · have hq := pow_small b (by omega) (j + 1) (by omega)
      have HP : Hid (((b ^ (j + 1) : Nat) : Int) = ((b ^ j : Nat) : Int) * (b : Int)) := hid (by rw [Nat.pow_succ, Int.natCast_mul])
      obtain ⟨q, hqe⟩ : ∃ q, b ^ (j + 1) = q := ⟨_, rfl⟩
      have HQ := hid hqe
      rw [hqe] at hq HP
      clear hqe
      have hq1 : ((b ^ j : Nat) : Int) * (b : Int) ≤ 815730721 := by rw [← HP.out]; exact Int.ofNat_le.2 hq
      have hq0 : 0 ≤ ((b ^ j : Nat) : Int) * (b : Int) := by rw [← HP.out]; exact Int.natCast_nonneg _
      obtain ⟨d, hd⟩ : ∃ d, k - j = d + 1 := ⟨k - j - 1, by omega⟩
      have hd2 : k - (j + 1) = d := by omega
      have hd8 : d ≤ 8 := by omega
      have HD2 := hid hd2
      rw [hd]
      clear hq hd hd2
      generalize b ^ j = p at *
      go_wp2_with fail
      go_round
      case rel => exact ⟨j + 1, by omega, by rw [HD2.out], by rw [HQ.out, HP.out]⟩
      case measure => simp [intOf]
    · obtain rfl : j = k := by omega
      rw [Nat.sub_self]
      go_wp2_with fail
      go_ret
      exact ⟨rfl, rfl⟩

theorem cnPower_at (b k r : Nat) (B K : Int) (w : World) (hB : B = (b : Int)) (hK : K = (k : Int)) (hb : b ≤ 13) (hk : k ≤ 8) (hr : Hid (b ^ k = r)) :
    Calls Tryz.prog 41 #[.int .i64 B, .int .i64 K] w fun e w' => e = .returned (.int .i64 (r : Int)) ∧ w = w' := by
  subst hB hK
  have := hr.out
  subst this
  exact cnPower_any b k w hb hk

theorem street_small : ∀ c, c < 9 → ∀ p, p < 13 → 1 ≤ c → c ≤ p → (p + 1 - c) * (p + 1) ^ (c - 1) ≤ 815730721 := by decide +kernel

set_option maxHeartbeats 800000 in
theorem specStreet_any (c p : Int) (w : World) : Calls Tryz.prog 20 #[.int .i64 c, .int .i64 p] w (PostInt w (streetOf c p)) := by
  by_cases hg : inB c 0 8 = true
  · by_cases hp : inB p 1 12 = true
    · obtain ⟨q, rfl⟩ : ∃ q : Nat, p = (q : Int) := ⟨p.toNat, by have := inB_iff.1 hp; omega⟩
      have hq : 1 ≤ q ∧ q ≤ 12 := by have := inB_iff.1 hp; omega
      have hc := inB_iff.1 hg
      by_cases h0 : c = 0
      · subst h0
        have HR : Hid (streetOf 0 q = (1, true)) := hid (by simp [streetOf, hg, hp, streetCnt])
        have HG := hid hg
        have HP := hid hp
        clear hg hp
        go_enter Tryz.func20, Tryz.ntmps20
        go_wp2_with (first | (go_at_call 39; refine (cnCars_any _ _).mono ?_; rintro e w' ⟨rfl, rfl⟩; rw [HG.out]) | (go_at_call 40; refine (paStreet_any _ _).mono ?_; rintro e w' ⟨rfl, rfl⟩; rw [HP.out]))
        go_ret2
        exact postInt HR.out (Below.refl _ _)
      · obtain ⟨k, rfl⟩ : ∃ k : Nat, c = (k : Int) + 1 := ⟨(c - 1).toNat, by omega⟩
        have hk : k ≤ 7 := by omega
        have HR : Hid (streetOf ((k : Int) + 1) q = ((streetCnt (k + 1) q : Int), true)) := hid (by
          rw [show (k : Int) + 1 = ((k + 1 : Nat) : Int) by omega] at hg ⊢
          simp only [streetOf, hg, hp, Int.toNat_natCast]
          rfl)
        have HG := hid hg
        have HP := hid hp
        have hbe : ((k : Int) + 1 == 0) = false := by simp; omega
        clear hg hp h0 hc
        by_cases hlt : q < k + 1
        · have HS : Hid (streetCnt (k + 1) q = 0) := hid (by simp [streetCnt, hlt])
          have hlt' : (q : Int) < (k : Int) + 1 := by omega
          go_enter Tryz.func20, Tryz.ntmps20
          go_wp2_with (first | (go_at_call 39; refine (cnCars_any _ _).mono ?_; rintro e w' ⟨rfl, rfl⟩; rw [HG.out]) | (go_at_call 40; refine (paStreet_any _ _).mono ?_; rintro e w' ⟨rfl, rfl⟩; rw [HP.out]))
          go_ret2
          exact postInt (by rw [HR.out, HS.out]; rfl) (Below.refl _ _)
        · have hs := street_small (k + 1) (by omega) q (by omega) (by omega) (by omega)
          have hpw := pow_small (q + 1) (by omega) k (by omega)
          have hS : streetCnt (k + 1) q = (q + 1 - (k + 1)) * (q + 1) ^ k := by simp [streetCnt, hlt]
          rw [show k + 1 - 1 = k from rfl] at hs
          obtain ⟨r, hre⟩ : ∃ r, (q + 1) ^ k = r := ⟨_, rfl⟩
          have HE := hid hre
          rw [hre] at hs hpw hS
          have hi : (((q + 1 - (k + 1)) * r : Nat) : Int) = ((q : Int) + 1 - ((k : Int) + 1)) * (r : Int) := by
            rw [Int.natCast_mul]
            congr 1
            omega
          have HS : Hid ((streetCnt (k + 1) q : Int) = ((q : Int) + 1 - ((k : Int) + 1)) * (r : Int)) := hid (by rw [hS, hi])
          have hi1 : ((q : Int) + 1 - ((k : Int) + 1)) * (r : Int) ≤ 815730721 := by rw [← hi]; exact Int.ofNat_le.2 hs
          have hi0 : 0 ≤ ((q : Int) + 1 - ((k : Int) + 1)) * (r : Int) := by rw [← hi]; exact Int.natCast_nonneg _
          clear hre hS
          have hnl : ¬ (q : Int) < (k : Int) + 1 := by omega
          clear hi hs
          go_enter Tryz.func20, Tryz.ntmps20
          go_wp2_with (first | (go_at_call 39; refine (cnCars_any _ _).mono ?_; rintro e w' ⟨rfl, rfl⟩; rw [HG.out]) | (go_at_call 40; refine (paStreet_any _ _).mono ?_; rintro e w' ⟨rfl, rfl⟩; rw [HP.out]) | (go_at_call 41; refine (cnPower_at (q + 1) k r _ _ _ (by omega) (by omega) (by omega) (by omega) HE).mono ?_; rintro e w' ⟨rfl, rfl⟩))
          go_ret2
          exact postInt (by rw [HR.out, HS.out]) (Below.refl _ _)
    · have HR : Hid (streetOf c p = (0, false)) := hid (by simp [streetOf, hp])
      have HG := hid hg
      have HP := hid hp
      clear hg hp
      go_enter Tryz.func20, Tryz.ntmps20
      go_wp2_with (first | (go_at_call 39; refine (cnCars_any _ _).mono ?_; rintro e w' ⟨rfl, rfl⟩; rw [HG.out]) | (go_at_call 40; refine (paStreet_any _ _).mono ?_; rintro e w' ⟨rfl, rfl⟩; rw [Bool.eq_false_iff.2 HP.out]))
      go_ret2
      exact postInt HR.out (Below.refl _ _)
  · have HR : Hid (streetOf c p = (0, false)) := hid (by simp [streetOf, hg])
    have HG := hid hg
    clear hg
    go_enter Tryz.func20, Tryz.ntmps20
    go_wp2_with (go_at_call 39; refine (cnCars_any _ _).mono ?_; rintro e w' ⟨rfl, rfl⟩; rw [Bool.eq_false_iff.2 HG.out])
    go_ret2
    exact postInt HR.out (Below.refl _ _)

theorem chs_times : ∀ n, n < 17 → ∀ i, i < n → chs n i * (n - i) ≤ 205920 := by decide +kernel

set_option maxHeartbeats 800000 in
theorem cnChoose_any (n k : Nat) (w : World) (hn : n ≤ 16) (hk : k ≤ n) :
    Calls Tryz.prog 44 #[.int .i64 (n : Int), .int .i64 (k : Int)] w fun e w' => e = .returned (.int .i64 (chs n k : Int)) ∧ w' = w := by
  go_enter Tryz.func44, Tryz.ntmps44
  go_wp2_with fail
  go_loop [5, 6] (fun o i => ∃ j : Nat, j ≤ k ∧ i = .int .i64 (j : Int) ∧ o = .int .i64 (chs n j : Int)) (fun _ i => k - (intOf i).toNat)
  case atStart => exact ⟨0, Nat.zero_le _, rfl, by simp [chs_zero]⟩
  case round =>
    obtain ⟨j, hj, rfl, rfl⟩ := hrel
    by_cases hlt : j < k
    · have h1 := chs_next n (by omega) j (by omega)
      have h2 := chs_times n (by omega) j (by omega)
      have h3 := chs_small n (by omega) j (by omega)
      have hi : ((chs n j * (n - j) : Nat) : Int) = (chs n j : Int) * ((n : Int) - (j : Int)) := by rw [Int.natCast_mul]; congr 1; omega
      have hi1 : (chs n j : Int) * ((n : Int) - (j : Int)) ≤ 205920 := by rw [← hi]; omega
      have hi0 : 0 ≤ (chs n j : Int) * ((n : Int) - (j : Int)) := by rw [← hi]; omega
      have HQ : Hid ((chs n j : Int) * ((n : Int) - (j : Int)) / ((j : Int) + 1) = (chs n (j + 1) : Int)) := hid (by
        rw [← hi, h1, show (j : Int) + 1 = ((j + 1 : Nat) : Int) by omega, ← Int.natCast_ediv, Nat.mul_div_cancel _ (by omega)])
      clear h1 h2 hi
      generalize chs n j = c at *
      go_wp2_with fail
      go_round
      case rel => exact ⟨j + 1, by omega, by go_num, congrArg (Value.int .i64) HQ.out⟩
      case measure => simp [intOf]; omega
    · obtain rfl : j = k := by omega
      go_wp2_with fail
      go_ret
      exact ⟨rfl, rfl⟩

theorem cnChoose_at (n k : Nat) (N K : Int) (w : World) (hN : N = (n : Int)) (hK : K = (k : Int)) (hn : n ≤ 16) (hk : k ≤ n) :
    Calls Tryz.prog 44 #[.int .i64 N, .int .i64 K] w fun e w' => e = .returned (.int .i64 (chs n k : Int)) ∧ w' = w := by
  subst hN hK
  exact cnChoose_any n k w hn hk

end Go.Proofs.YtkkhlkaieohklabGreat
