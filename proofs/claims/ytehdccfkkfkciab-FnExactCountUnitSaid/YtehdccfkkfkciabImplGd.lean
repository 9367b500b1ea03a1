/- Chapter 9: the greatest distance: the program's function, by its contract. -/
import Derived.Test.YtehdccfkkfkciabMathUa
import Derived.Test.YtehdccfkkfkciabImplC
namespace Go.Proofs.Ytehdccfkkfkciab
open Go.RowKit

def greatOf (xs : List Int) (p : Int) : Int × Bool := if good xs p && allPark p xs then (greatL (dists p xs), true) else (0, false)
theorem great_bounds {ys : List Int} (h : ∀ i, i < ys.length → 0 ≤ nth ys i ∧ nth ys i ≤ 12) : ∀ k, k ≤ ys.length → 0 ≤ greatL (ys.take k) ∧ greatL (ys.take k) ≤ 12
  | 0, _ => by simp [greatL]
  | k + 1, hk => by
    have := great_bounds h k (by omega)
    have := h k (by omega)
    rw [great_succ (by omega)]
    omega
set_option maxHeartbeats 800000 in
theorem greatest_any (a : Option Addr) (n cap : Nat) (xs : List Int) (p : Int) (w : World) (h : Has w a n cap xs) :
    Calls Try.prog 63 #[.slice a n cap, .int .i64 p] w (PostInt w (greatOf xs p)) := by
  by_cases hg : (good xs p && allPark p xs) = true
  · have HR : Hid (greatOf xs p = (greatL (dists p xs), true)) := hid (by simp only [greatOf, if_pos hg])
    have HD := hid (dists_yes hg)
    clear hg
    go_enter Try.func63, Try.ntmps63
    go_wp2_with fail
    refine (distancesOf_any _ _ _ _ _ _ h).mono ?_
    rw [HD.out]
    rintro e w1 ⟨a1, m, cap1, rfl, hown, hb⟩
    have HS := hid (fun k (hk : k < m) => great_succ (ys := dists p xs) (k := k) (by rw [hown.len]; exact hk))
    have HT := hid (List.take_of_length_le (l := dists p xs) (i := m) (by rw [hown.len]; exact Nat.le_refl _))
    obtain ⟨_, h1, h2, h3, h4⟩ := hown.has
    clear hown HD
    generalize dists p xs = ys at *
    go_wp2_with fail
    go_loop [8, 21] (fun g i => ∃ (k : Nat) (v : Int), k ≤ m ∧ i = .int .i64 (k : Int) ∧ g = .int .i64 v ∧ Hid (v = greatL (ys.take k))) (fun _ i => m - (intOf i).toNat)
    case atStart => exact ⟨0, 0, Nat.zero_le _, rfl, rfl, hid rfl⟩
    case round =>
      obtain ⟨k, v, hk, rfl, rfl, HV⟩ := hrel
      by_cases hlt : k < m
      · obtain ⟨b, off, rfl, hbb, hc⟩ := h4 (by omega)
        have hck := hc k hlt
        have HS' := hid (HS.out k hlt)
        clear hc
        go_wp2_with fail
        go_round
        case rel => exact ⟨k + 1, _, by omega, by go_num, rfl, hid (by rw [HS'.out, HV.out]; split <;> omega)⟩
        case measure => simp [intOf]; omega
      · obtain rfl : k = m := by omega
        go_wp2_with fail
        go_ret2
        exact postInt (by rw [HR.out, HV.out, HT.out]) hb
  · have HR : Hid (greatOf xs p = (0, false)) := hid (by simp only [greatOf, if_neg hg])
    have HD := hid (dists_no hg)
    clear hg
    go_enter Try.func63, Try.ntmps63
    go_wp2_with fail
    refine (distancesOf_any _ _ _ _ _ _ h).mono ?_
    rw [HD.out]
    rintro e w1 ⟨a1, m, cap1, rfl, hown, hb⟩
    go_wp2_with fail
    go_ret2
    exact postInt HR.out hb
end Go.Proofs.Ytehdccfkkfkciab
