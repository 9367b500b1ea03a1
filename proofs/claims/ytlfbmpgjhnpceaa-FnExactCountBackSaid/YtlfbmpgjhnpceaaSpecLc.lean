/- The model's count of lists whose cars look back, by its contract. -/
import Derived.Test.YtlfbmpgjhnpceaaSpecLa
import Derived.Test.YtlfbmpgjhnpceaaSpecLd
namespace Go.Proofs.Ytlfbmpgjhnpceaa
open Go.RowKit

set_option maxHeartbeats 2000000 in
theorem specCountBack_any (n k0 : Int) (w : World) : Calls Try.prog 41 #[.int .i64 n, .int .i64 k0] w (PostInt w (countBackOf n k0)) := by
  by_cases hn : inB n 1 5 = true
  · by_cases hk : inB k0 0 8 = true
    · obtain ⟨p, rfl⟩ : ∃ p : Nat, n = (p : Int) := ⟨n.toNat, by have := inB_iff.1 hn; omega⟩
      obtain ⟨m, rfl⟩ : ∃ m : Nat, k0 = (m : Int) := ⟨k0.toNat, by have := inB_iff.1 hk; omega⟩
      have hp1 : 1 ≤ p ∧ p ≤ 5 := by have := inB_iff.1 hn; omega
      have hm8 : m ≤ 8 := by have := inB_iff.1 hk; omega
      obtain ⟨hp1, hp5⟩ := hp1
      have HN := hid hn
      have HK := hid hk
      have HR : Hid (countBackOf p m = ((cntTo (backOk p m) (allTried p) (p ^ p) : Int), true)) := hid (by simp [countBackOf, hn, hk])
      have HLL := hid (length_allTried hp1)
      clear hn hk
      go_enter Try.func41, Try.ntmps41
      go_wp2_with (first | (go_at_call 64; refine (l1In_any _ _ _ _).mono ?_; rintro e w' ⟨rfl, rfl⟩; rw [HN.out]) | (go_at_call 46; refine (loBacks_any _ _).mono ?_; rintro e w' ⟨rfl, rfl⟩; rw [HK.out]))
      refine (loAll_any p hp1 hp5 p 0 none 0 [] _ (by omega) (Has.nilAt none (by unfold maxLen; omega))).mono ?_
      rintro e w2 ⟨a2, q, cap2, rs, rfl, hown2, hn2, hb2⟩
      obtain ⟨hq, hrow⟩ := rows_tried hp1 hp5 hn2 hown2.len
      have HROW := hid hrow
      have HQ := hid hq
      have hq5 : q ≤ 3125 := by
        rw [hq]
        exact Nat.le_trans (Nat.pow_le_pow_left hp5 p) (Nat.pow_le_pow_right (by omega) hp5)
      have HRR := hid hown2.has
      clear hn2 hq hrow hown2
      go_wp2_with fail
      go_loopw [6, 20] (fun t i wr => ∃ (k c : Nat), k ≤ q ∧ i = .int .i64 (k : Int) ∧ t = .int .i64 (c : Int) ∧ Hid (c = cntTo (backOk p m) (allTried p) k) ∧ Below w2.heap.size w2 wr) (fun _ i _ => q - (intOf i).toNat)
      case atStart => exact ⟨0, 0, Nat.zero_le _, rfl, rfl, hid rfl, Below.refl _ _⟩
      case round =>
        obtain ⟨k, c, hk, rfl, rfl, HC, hb⟩ := hrel
        by_cases hkq : k < q
        · obtain ⟨p1, p2, p3⟩ := HROW.out k hkq
          obtain ⟨r0, r1, r2, r3, r4, r5⟩ := HRR.out
          obtain ⟨b, off, rfl, hbb, hc⟩ := r4 (by omega)
          have hck : wr.cell? ⟨b, off + k, none⟩ = some (nthR rs k).v := by rw [hb.cell (p := ⟨b, off + k, none⟩) hbb]; exact hc k hkq
          have hrow := (r5 k hkq).below hb (Nat.le_refl _)
          have HS := hid (cntTo_succ (f := backOk p m) (L := allTried p) (k := k) (by rw [HLL.out, ← HQ.out]; exact hkq))
          have hcl : c ≤ k := by rw [HC.out]; exact cntTo_le _ _ _
          rw [p2] at hrow
          unfold Rw.v at hck
          rw [p2] at hck
          rw [← p1] at HS
          obtain ⟨g1, g2, g3, g4⟩ := good_nth p3 p2
          generalize (nthR rs k).xs = xs at *
          generalize (nthR rs k).a = ax at *
          generalize (nthR rs k).c = cx at *
          have HL := hid (loBack_any ax p cx p m xs wr hrow g1 (by omega) hm8 g4)
          clear hc r0 r1 r2 r3 r4 r5 p1 p2 p3 g4
          by_cases hm : hasB (backs p m xs) (-1) = true
          · have HM := hid hm
            have HC2 : Hid (cntTo (backOk p m) (allTried p) (k + 1) = c) := hid (by rw [HS.out, HC.out]; simp [backOk, hm])
            clear hm
            go_wp2_with fail
            refine HL.out.mono ?_
            rintro e w5 ⟨a5, cap5, rfl, hown5, hb5⟩
            go_wp2_with (go_at_call 48; refine (l1Has_any _ _ _ _ _ _ hown5.has).mono ?_; rintro e w' ⟨rfl, rfl⟩; rw [HM.out])
            go_roundw
            case rel => exact ⟨k + 1, c, by omega, by go_num, rfl, hid HC2.out.symm, hb.trans (hb5.mono hb.size)⟩
            case measure => simp [intOf]; omega
          · have hm' : hasB (backs p m xs) (-1) = false := by simpa using hm
            have HM := hid hm'
            have HC2 : Hid (cntTo (backOk p m) (allTried p) (k + 1) = c + 1) := hid (by rw [HS.out, HC.out]; simp [backOk, hm'])
            clear hm hm'
            go_wp2_with fail
            refine HL.out.mono ?_
            rintro e w5 ⟨a5, cap5, rfl, hown5, hb5⟩
            go_wp2_with (go_at_call 48; refine (l1Has_any _ _ _ _ _ _ hown5.has).mono ?_; rintro e w' ⟨rfl, rfl⟩; rw [HM.out])
            go_roundw
            case rel => exact ⟨k + 1, c + 1, by omega, by go_num, by go_num, hid HC2.out.symm, hb.trans (hb5.mono hb.size)⟩
            case measure => simp [intOf]; omega
        · obtain rfl : k = q := by omega
          go_wp2_with fail
          go_ret2
          exact postInt (by rw [HR.out, HC.out, HQ.out]) (hb2.trans (hb.mono hb2.size))
    · have HR : Hid (countBackOf n k0 = (0, false)) := hid (by simp [countBackOf, hk])
      have HN := hid hn
      have HK := hid hk
      clear hn hk
      go_enter Try.func41, Try.ntmps41
      go_wp2_with (first | (go_at_call 64; refine (l1In_any _ _ _ _).mono ?_; rintro e w' ⟨rfl, rfl⟩; rw [HN.out]) | (go_at_call 46; refine (loBacks_any _ _).mono ?_; rintro e w' ⟨rfl, rfl⟩; rw [Bool.eq_false_iff.2 HK.out]))
      go_ret2
      exact postInt HR.out (Below.refl _ _)
  · have HR : Hid (countBackOf n k0 = (0, false)) := hid (by simp [countBackOf, hn])
    have HN := hid hn
    clear hn
    go_enter Try.func41, Try.ntmps41
    go_wp2_with (go_at_call 64; refine (l1In_any _ _ _ _).mono ?_; rintro e w' ⟨rfl, rfl⟩; rw [Bool.eq_false_iff.2 HN.out])
    go_ret2
    exact postInt HR.out (Below.refl _ _)
end Go.Proofs.Ytlfbmpgjhnpceaa
