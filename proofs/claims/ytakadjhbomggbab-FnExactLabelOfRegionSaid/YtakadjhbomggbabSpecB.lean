/- The model's functions of chapter 1, by their contracts: driving. -/
import Derived.Test.YtakadjhbomggbabSpecA
namespace Go.Proofs.Ytakadjhbomggbab
open Go.RowKit

set_option maxHeartbeats 1000000 in
theorem paDrive_any (a : Option Addr) (n cap : Nat) (xs : List Int) (p : Int) (w : World) (h : Has w a n cap xs) (h8 : n ≤ 8) (hp : p ≤ 12) (hge : ∀ i, i < n → 0 ≤ nth xs i ∧ nth xs i ≤ p - 1) :
    Calls Try.prog 107 #[.slice a n cap, .int .i64 p] w fun e w' => ∃ a' cap', e = .returned (.slice a' n cap') ∧ Own w' w.heap.size a' n cap' (drive p xs) ∧ Below w.heap.size w w' := by
  obtain ⟨h0, h1, h2, h3, h4⟩ := h
  go_enter Try.func107, Try.ntmps107
  go_wp2_with fail
  go_loopw [5, 10] (fun o i wr => ∃ (k : Nat) (a' : Option Addr) (cap' : Nat), k ≤ n ∧ i = .int .i64 k ∧ o = .slice a' k cap' ∧ Own wr w.heap.size a' k cap' (drive p (xs.take k)) ∧ Below w.heap.size w wr) (fun _ i _ => n - (intOf i).toNat)
  case atStart => exact ⟨0, none, 0, Nat.zero_le _, rfl, rfl, Own.nil _ _, Below.refl _ _⟩
  case round =>
    obtain ⟨k, a', cap', hk, rfl, rfl, hown, hb⟩ := hrel
    by_cases hlt : k < n
    · obtain ⟨b, off, rfl, hbb, hc⟩ := h4 (by omega)
      have hck : wr.cell? ⟨b, off + k, none⟩ = some (.int .i64 (nth xs k)) := by rw [hb.cell (p := ⟨b, off + k, none⟩) hbb]; exact hc k hlt
      obtain ⟨hx0, hx1⟩ := hge k hlt
      have HS := hid (drive_succ (p := p) (xs := xs) (k := k) (by omega))
      clear hc h4 hge
      go_wp2_with fail
      go_loop [7] (fun x => ∃ y : Int, x = .int .i64 y ∧ 0 ≤ y ∧ y ≤ p ∧ Runs (drive p (xs.take k)) p (nth xs k) y) (fun x => (p - intOf x).toNat)
      case atStart => exact ⟨_, rfl, hx0, by omega, Runs.refl _ _ _⟩
      case round =>
        obtain ⟨y, rfl, hy0, hyp, hrun⟩ := hrel
        by_cases hy : y < p
        · by_cases hm : hasB (drive p (xs.take k)) y = true
          · have HM := hid hm
            clear hm
            go_wp2_with fail
            refine (l1Has_any _ _ _ _ _ _ hown.has).mono ?_
            rintro e w' ⟨rfl, rfl⟩
            rw [HM.out]
            go_wp2_with fail
            go_round
            case rel => exact ⟨y + 1, rfl, by omega, by omega, hrun.step hy (hasB_iff.1 HM.out)⟩
            case measure => simp [intOf]; omega
          · have HM := hid hm
            clear hm
            have HP := hid (place_of hrun (fun e => HM.out (hasB_iff.2 e.2)) hyp)
            go_wp2_with fail
            refine (l1Has_any _ _ _ _ _ _ hown.has).mono ?_
            rintro e w' ⟨rfl, rfl⟩
            rw [Bool.eq_false_iff.2 HM.out]
            go_wp2_with (at_builtin; refine wpList_append_int _ rfl _ _ rfl w.heap.size _ _ _ _ _ rfl rfl hown (by omega) hb.size ?_; intro a2 cap2 w2 hown2 hb2)
            go_roundw
            case rel => exact ⟨k + 1, a2, cap2, by omega, by go_num, rfl, by rw [HS.out, HP.out, if_neg (by omega)]; exact hown2, hb.trans hb2⟩
            case measure => simp [intOf]; omega
        · obtain rfl : y = p := by omega
          have HP := hid (place_of hrun (fun e => hy e.1) hyp)
          go_wp2_with (at_builtin; refine wpList_append_int _ rfl _ _ rfl w.heap.size _ _ _ _ _ rfl rfl hown (by omega) hb.size ?_; intro a2 cap2 w2 hown2 hb2)
          go_roundw
          case rel => exact ⟨k + 1, a2, cap2, by omega, by go_num, rfl, by rw [HS.out, HP.out, if_pos (by omega)]; exact hown2, hb.trans hb2⟩
          case measure => simp [intOf]; omega
    · obtain rfl : k = n := by omega
      go_wp2_with fail
      go_ret
      exact ⟨_, _, rfl, by rw [List.take_of_length_le (by omega)] at hown; exact hown, hb⟩
theorem good_nth {xs : List Int} {p : Int} {n : Nat} (h : good xs p = true) (hn : xs.length = n) : n ≤ 8 ∧ 1 ≤ p ∧ p ≤ 12 ∧ ∀ i, i < n → 0 ≤ nth xs i ∧ nth xs i ≤ p - 1 := by
  obtain ⟨h1, h2, h3⟩ := good_iff.1 h
  exact ⟨by omega, h1.1, h1.2, fun i hi => h3 _ (nth_mem (by omega))⟩

set_option maxHeartbeats 400000 in
theorem paAll_any (a : Option Addr) (n cap : Nat) (xs : List Int) (p : Int) (w : World) (h : Has w a n cap xs) (h8 : n ≤ 8) (hp : p ≤ 12) (hge : ∀ i, i < n → 0 ≤ nth xs i ∧ nth xs i ≤ p - 1) :
    Calls Try.prog 95 #[.slice a n cap, .int .i64 p] w (PostBool w (allPark p xs)) := by
  go_enter Try.func95, Try.ntmps95
  go_wp2_with fail
  refine (paDrive_any _ _ _ _ _ _ h h8 hp hge).mono ?_
  rintro e w1 ⟨a1, cap1, rfl, hown1, hb1⟩
  go_wp2_with (go_at_call 85; refine (l1Has_any _ _ _ _ _ _ hown1.has).mono ?_; rintro e w' ⟨rfl, rfl⟩)
  go_ret
  exact postBool rfl hb1

theorem park_nth {xs : List Int} {n : Nat} (h : allB xs 0 ((n : Int) - 1) = true) (hn : xs.length = n) : ∀ i, i < n → 0 ≤ nth xs i ∧ nth xs i ≤ (n : Int) - 1 :=
  fun i hi => allB_nth h (by omega)

set_option maxHeartbeats 400000 in
theorem paParking_any (a : Option Addr) (n cap : Nat) (xs : List Int) (w : World) (h : Has w a n cap xs) :
    Calls Try.prog 61 #[.slice a n cap] w (PostBool w (isPark xs)) := by
  have hlen := h.len
  by_cases h8 : n ≤ 8
  · by_cases ha : allB xs 0 ((n : Int) - 1) = true
    · have HR : Hid (isPark xs = allPark n xs) := hid (by simp [isPark, hlen, h8, ha])
      have g4 := park_nth ha hlen
      have HA := hid ha
      clear ha
      go_enter Try.func61, Try.ntmps61
      go_wp2_with (first | (go_at_call 73; refine (l1All_any _ _ _ _ _ _ _ h).mono ?_; rintro e w' ⟨rfl, rfl⟩; rw [HA.out]) | (go_at_call 95; refine (paAll_any _ _ _ _ _ _ h h8 (by omega) g4).mono ?_; rintro e w1 ⟨rfl, hb1⟩))
      go_ret
      exact postBool HR.out.symm hb1
    · have HR : Hid (isPark xs = false) := hid (by simp [isPark, hlen, ha])
      have HA := hid ha
      clear ha
      go_enter Try.func61, Try.ntmps61
      go_wp2_with (go_at_call 73; refine (l1All_any _ _ _ _ _ _ _ h).mono ?_; rintro e w' ⟨rfl, rfl⟩; rw [Bool.eq_false_iff.2 HA.out])
      go_ret
      exact postBool HR.out.symm (Below.refl _ _)
  · have HR : Hid (isPark xs = false) := hid (by simp [isPark, hlen, h8])
    go_enter Try.func61, Try.ntmps61
    go_wp2_with fail
    go_ret
    exact postBool HR.out.symm (Below.refl _ _)

end Go.Proofs.Ytakadjhbomggbab
