/- The program's functions of chapter 1, by their contracts: lists below others. -/
import Derived.Test.YtkkhlkaieohklabImplC
import Derived.Test.YtkkhlkaieohklabSpecD
namespace Go.Proofs.Ytkkhlkaieohklab
open Go.RowKit

set_option maxHeartbeats 800000 in
theorem isBelowFn_any (a b : Option Addr) (n m cap cap' : Nat) (xs ys : List Int) (w : World) (h : Has w a n cap xs) (h' : Has w b m cap' ys) :
    Calls Try.prog 31 #[.slice a n cap, .slice b m cap'] w (PostBools w (isBelowOf xs ys)) := by
  have hlx := h.len
  have hly := h'.len
  by_cases hx : isPark xs = true
  · have HX := hid hx
    clear hx
    by_cases hy : isPark ys = true
    · have HR := hid (isBelow_yes (xs := xs) (ys := ys) (by rw [HX.out, hy]; rfl))
      have HY := hid hy
      rw [hlx, hly] at HR
      clear hy
      go_enter Try.func31, Try.ntmps31
      go_wp2_with fail
      refine (isParkingFunction_any _ _ _ _ _ h).mono ?_
      rintro e w1 ⟨rfl, hb1⟩
      rw [HX.out]
      go_wp2_with fail
      refine (isParkingFunction_any _ _ _ _ _ (h'.below hb1 (Nat.le_refl _))).mono ?_
      rintro e w2 ⟨rfl, hb2⟩
      rw [HY.out]
      have hbb := hb1.trans (hb2.mono hb1.size)
      obtain ⟨h0, h1, h2, h3, h4⟩ := h.below hbb (Nat.le_refl _)
      obtain ⟨k0, k1, k2, k3, k4⟩ := h'.below hbb (Nat.le_refl _)
      clear h0 k0
      by_cases hnm : n = m
      · have hbe : ((n : Int) != (m : Int)) = false := by simp [hnm]
        subst hnm
        go_wp2_with fail
        go_loopw [22] (fun i wr => ∃ k : Nat, k ≤ n ∧ i = .int .i64 k ∧ leB xs ys k = true ∧ Quiet w2 wr) (fun i _ => n - (intOf i).toNat)
        case atStart => exact ⟨0, Nat.zero_le _, rfl, rfl, Quiet.rfl' _⟩
        case round =>
          obtain ⟨k, hk, rfl, hle, q, rfl⟩ := hrel
          have HLE := hid hle
          clear hle
          by_cases hlt : k < n
          · obtain ⟨b1, off1, rfl, hbb1, hc1⟩ := h4 (by omega)
            obtain ⟨b2, off2, rfl, hbb2, hc2⟩ := k4 (by omega)
            have hck := hc1 k hlt
            have hdk := hc2 k hlt
            have hkk : (k : Int) < (n : Int) := by omega
            have hkz : (0 : Int) ≤ (k : Int) := by omega
            clear hc1 hc2 h4 k4
            by_cases ht : nth xs k ≤ nth ys k
            · have HT := hid ht
              have htd : decide (nth ys k < nth xs k) = false := by simp; omega
              go_wp2_with fail
              go_quiet (fail)
              go_wp2_with fail
              go_roundw
              case rel => exact ⟨k + 1, by omega, by go_num, by rw [leB_succ, HLE.out]; simp [HT.out], ⟨_, rfl⟩⟩
              case measure => simp [intOf]; omega
            · have HN := hid (leB_no (n := n) hlt ht)
              have htd : decide (nth ys k < nth xs k) = true := by simp; omega
              go_wp2_with fail
              go_quiet (fail)
              go_wp2_with fail
              go_ret2
              exact postBools (by rw [HR.out, HN.out]; simp) (below_drewN (below_drewN hbb _) _)
          · obtain rfl : k = n := by omega
            go_wp2_with fail
            go_ret2
            exact postBools (by rw [HR.out, HLE.out]; simp) (below_drewN hbb _)
      · have hbe : ((n : Int) != (m : Int)) = true := by simp; omega
        go_wp2_with fail
        go_ret2
        exact postBools (by rw [HR.out]; simp [hnm]) hbb
    · have HR := hid (isBelow_no (xs := xs) (ys := ys) (by simp [hy]))
      have HY := hid hy
      clear hy
      go_enter Try.func31, Try.ntmps31
      go_wp2_with fail
      refine (isParkingFunction_any _ _ _ _ _ h).mono ?_
      rintro e w1 ⟨rfl, hb1⟩
      rw [HX.out]
      go_wp2_with fail
      refine (isParkingFunction_any _ _ _ _ _ (h'.below hb1 (Nat.le_refl _))).mono ?_
      rintro e w2 ⟨rfl, hb2⟩
      rw [Bool.eq_false_iff.2 HY.out]
      go_wp2_with fail
      go_ret2
      exact postBools HR.out (hb1.trans (hb2.mono hb1.size))
  · have HR := hid (isBelow_no (xs := xs) (ys := ys) (by simp [hx]))
    have HX := hid hx
    clear hx
    go_enter Try.func31, Try.ntmps31
    go_wp2_with fail
    refine (isParkingFunction_any _ _ _ _ _ h).mono ?_
    rintro e w1 ⟨rfl, hb1⟩
    rw [Bool.eq_false_iff.2 HX.out]
    go_wp2_with fail
    go_ret2
    exact postBools HR.out hb1

end Go.Proofs.Ytkkhlkaieohklab
