/- In how many orders a list can stand: the model's function, by its contract. -/
import Derived.Test.YtkkhlkaieohklaaSpecR
import Derived.Test.YtkkhlkaieohklaaMathR
namespace Go.Proofs.Ytkkhlkaieohklaa
open Go.RowKit

theorem ordersOf_yes {xs : List Int} {n : Nat} (h : isPark xs = true) (hn : xs.length = n) : ordersOf xs = ((ordersN xs n : Int), true) := by simp [ordersOf, h, hn]
theorem ordersOf_no {xs : List Int} (h : ¬ isPark xs = true) : ordersOf xs = (0, false) := by simp [ordersOf, h]
theorem ordersN_none (m : Nat) : ordersN [] m = 1 := by
  unfold ordersN
  have := occs_more (s := []) (m := 0) m (fun v _ _ => by simp [occ])
  rw [Nat.zero_add] at this
  rw [this]
  rfl
theorem count_take {xs : List Int} {k : Nat} (h : k < xs.length) (x : Int) : (xs.take (k + 1)).count x = (xs.take k).count x + if nth xs k = x then 1 else 0 := by
  rw [take_succ_nth h, List.count_append, List.count_singleton]
  simp only [beq_iff_eq]

set_option maxRecDepth 100000 in
set_option maxHeartbeats 2000000 in
theorem specOrders_any (a : Option Addr) (n cap : Nat) (xs : List Int) (w : World) (h : Has w a n cap xs) :
    Calls Try.prog 29 #[.slice a n cap] w (PostInt w (ordersOf xs)) := by
  by_cases hg : isPark xs = true
  · have HR := hid (ordersOf_yes hg h.len)
    obtain ⟨h8, hx, hx2⟩ := parks_nth hg h.len
    have hb := (isPark_bounds hg).2
    have HLEN := hid h.len
    have hbm : ∀ y ∈ xs, 0 ≤ y ∧ y < (n : Int) := fun y hy => by have := hb y hy; rw [HLEN.out] at this; omega
    have HX := hid hx
    have HBM := hid hbm
    have HST := hid (fun (k x : Nat) (hk : k < n) (hkx : nth xs k = (x : Int)) => orders_step (m := n) (k := k) (x := x) (by rw [HLEN.out]; omega) hbm (by rw [HLEN.out]; exact hk) hkx)
    have HLE := hid (fun k => orders_le (s := xs.take k) (m := n) (by rw [List.length_take, HLEN.out]; omega) (fun y hy => hbm y (List.mem_of_mem_take hy)))
    have HG := hid hg
    have hcap := h.2.1
    have hmx : cap ≤ maxLen := h.2.2.1
    clear hg hx hx2 hb hbm
    go_enter Try.func29, Try.ntmps29
    go_wp2_with (go_at_call 62; refine (paParking_any _ _ _ _ _ h).mono ?_; rintro e w0 ⟨rfl, hb0⟩; rw [HG.out])
    go_loop [4, 15] (fun r i => ∃ k : Nat, k ≤ n ∧ i = .int .i64 (k : Int) ∧ r = .int .i64 (ordersN (xs.take k) n : Int)) (fun _ i => n - (intOf i).toNat)
    case atStart => exact ⟨0, Nat.zero_le _, rfl, by rw [List.take_zero, ordersN_none]; rfl⟩
    case round =>
      obtain ⟨k, hk, rfl, rfl⟩ := hrel
      have hle := HLE.out k
      by_cases hlt : k < n
      · have h' := h.below hb0 (Nat.le_refl _)
        obtain ⟨b, off, rfl, hbb, hc⟩ := h'.2.2.2.2 (by omega)
        have hck := hc k hlt
        obtain ⟨x0, x1, x2⟩ := HX.out k hlt
        obtain ⟨x, hxx⟩ : ∃ x : Nat, nth xs k = (x : Int) := ⟨(nth xs k).toNat, by omega⟩
        have HS := hid (HST.out k x hlt hxx)
        have HC := hid hc
        rw [hxx] at hck x0 x1 x2
        clear hc hxx h'
        go_wp2_with fail
        go_loop [7, 24] (fun s j => ∃ i : Nat, i ≤ k ∧ j = .int .i64 (i : Int) ∧ s = .int .i64 (((xs.take i).count (x : Int) : Int) + 1)) (fun _ j => k - (intOf j).toNat)
        case atStart => exact ⟨0, Nat.zero_le _, rfl, by simp⟩
        case round =>
          obtain ⟨i, hi, rfl, rfl⟩ := hrel
          have hcl : (xs.take i).count (x : Int) ≤ i := Nat.le_trans List.count_le_length (by rw [List.length_take]; omega)
          by_cases hik : i < k
          · have hck2 := HC.out i (by omega)
            have HCT := hid (count_take (xs := xs) (k := i) (by rw [HLEN.out]; omega) (x : Int))
            by_cases he : nth xs i = (x : Int)
            · have hbe : ((x : Int) == nth xs i) = true := by simp [he]
              have HE := hid he
              clear he
              generalize (xs.take i).count (x : Int) = d at *
              go_wp2_with fail
              go_round
              case rel => exact ⟨i + 1, by omega, by go_num, by rw [HCT.out, if_pos HE.out]; go_num⟩
              case measure => simp [intOf]; omega
            · have hbe : ((x : Int) == nth xs i) = false := by simp; exact fun e => he e.symm
              have HE := hid he
              clear he
              generalize (xs.take i).count (x : Int) = d at *
              go_wp2_with fail
              go_round
              case rel => exact ⟨i + 1, by omega, by go_num, by rw [HCT.out, if_neg HE.out, Nat.add_zero]⟩
              case measure => simp [intOf]; omega
          · obtain rfl : k = i := by omega
            generalize hd : (xs.take k).count (x : Int) = d at *
            have hm1 : (ordersN (xs.take k) n : Int) * ((k : Int) + 1) ≤ 322560 ∧ 0 ≤ (ordersN (xs.take k) n : Int) * ((k : Int) + 1) := by
              have := Nat.mul_le_mul hle (show k + 1 ≤ 8 by omega)
              rw [show (k : Int) + 1 = ((k + 1 : Nat) : Int) by omega, ← Int.natCast_mul]
              omega
            obtain ⟨m1, m0⟩ := hm1
            have HQ : Hid ((ordersN (xs.take k) n : Int) * ((k : Int) + 1) / ((d : Int) + 1) = (ordersN (xs.take (k + 1)) n : Int)) := hid (by
              rw [HS.out, Int.natCast_ediv, Int.natCast_mul]
              rfl)
            have hdz : ¬ (d : Int) + 1 = 0 := by omega
            have hdd : (0 : Int) < (d : Int) + 1 := by omega
            clear hd
            go_wp2_with fail
            go_round
            case rel => exact ⟨k + 1, by omega, by go_num, congrArg (Value.int .i64) HQ.out⟩
            case measure => simp [intOf]; omega
      · obtain rfl : n = k := by omega
        have HE : Hid (ordersN (xs.take n) n = ordersN xs n) := hid (by rw [List.take_of_length_le (by rw [HLEN.out]; omega)])
        go_wp2_with fail
        go_ret2
        exact postInt (by rw [HR.out, HE.out]) hb0
  · have HR := hid (ordersOf_no hg)
    have HG := hid hg
    clear hg
    go_enter Try.func29, Try.ntmps29
    go_wp2_with (go_at_call 62; refine (paParking_any _ _ _ _ _ h).mono ?_; rintro e w0 ⟨rfl, hb0⟩; rw [Bool.eq_false_iff.2 HG.out])
    go_ret2
    exact postInt HR.out hb0
end Go.Proofs.Ytkkhlkaieohklaa
