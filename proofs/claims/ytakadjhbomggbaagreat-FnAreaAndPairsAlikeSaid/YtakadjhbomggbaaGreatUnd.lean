/- Whether a list is under bounds: the program's function, by its contract. -/
import Derived.Test.YtakadjhbomggbaaGreatSrt
import Derived.Test.YtakadjhbomggbaaGreatMathSm
namespace Go.Proofs.YtakadjhbomggbaaGreat
open Go.RowKit

set_option maxHeartbeats 800000 in
theorem isUnder_any (a b : Option Addr) (n cap m capb : Nat) (xs bs : List Int) (w : World) (h : Has w a n cap xs) (h' : Has w b m capb bs) (hnm : n ≤ m) :
    Calls Tryz.prog 75 #[.slice a n cap, .slice b m capb] w fun e w' => e = .returned (.bool (undTo (insSort xs) bs n)) ∧ Below w.heap.size w w' := by
  go_enter Tryz.func75, Tryz.ntmps75
  go_wp2_with fail
  refine (clone_any _ _ _ _ _ h).mono ?_
  rintro e w1 ⟨a1, cap1, rfl, hown1, hb1⟩
  go_wp2_with fail
  refine (sort_any _ _ _ _ _ _ hown1).mono ?_
  rintro e w2 ⟨rfl, hown2, hm2⟩
  have hb2 := hb1.trans (hm2.below hown1.ge hb1.size)
  have h2 := h'.below hb2 (Nat.le_refl _)
  obtain ⟨k0, k1, k2, k3, k4⟩ := hown2.has
  obtain ⟨-, j1, j2, -, j4⟩ := h2
  clear k0 hm2 hown1 hown2 hb1
  go_wp2_with fail
  go_loop [14] (fun i => ∃ k : Nat, k ≤ n ∧ i = .int .i64 k ∧ Hid (undTo (insSort xs) bs k = true)) (fun i => n - (intOf i).toNat)
  case atStart => exact ⟨0, Nat.zero_le _, rfl, hid rfl⟩
  case round =>
    obtain ⟨k, hk, rfl, HF⟩ := hrel
    by_cases hlt : k < n
    · obtain ⟨b1, off1, rfl, hbb1, hc1⟩ := k4 (by omega)
      obtain ⟨b2, off2, rfl, hbb2, hc2⟩ := j4 (by omega)
      have hck1 := hc1 k hlt
      have hck2 := hc2 k (by omega)
      have hkm : (k : Int) < (m : Int) := by omega
      have hkz : (0 : Int) ≤ (k : Int) := by omega
      clear hc1 hc2 k4 j4
      by_cases hz : nth (insSort xs) k < 0
      · have HU2 : Hid (undTo (insSort xs) bs n = false) := hid (undTo_no hlt fun hh => by omega)
        go_wp2_with fail
        go_ret
        exact ⟨ret_bool HU2.out.symm, hb2⟩
      · by_cases ht : nth (insSort xs) k ≤ nth bs k
        · have HU2 : Hid (undTo (insSort xs) bs (k + 1) = true) := hid (by rw [undTo_succ, HF.out]; simp [ht]; omega)
          go_wp2_with fail
          go_round
          case rel => exact ⟨k + 1, by omega, by go_num, HU2⟩
          case measure => simp [intOf]; omega
        · have HU2 : Hid (undTo (insSort xs) bs n = false) := hid (undTo_no hlt fun hh => ht hh.2)
          go_wp2_with fail
          go_ret
          exact ⟨ret_bool HU2.out.symm, hb2⟩
    · obtain rfl : k = n := by omega
      go_wp2_with fail
      go_ret
      exact ⟨ret_bool HF.out.symm, hb2⟩

end Go.Proofs.YtakadjhbomggbaaGreat
