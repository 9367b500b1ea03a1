/- The program's ranks and counts by first favourites, by their contracts. -/
import Derived.Test.YtabhhmnilidppabImplW
import Derived.Test.YtabhhmnilidppabSpecAt
namespace Go.Proofs.Ytabhhmnilidppab
open Go.RowKit

theorem nexts_sum (p : List Int) (n j : Nat) : (rkAtP p n (j + 1) : Int) = (rkAtP p n j : Int) + (N (p ++ [(j : Int)]) n : Int) := by
  rw [rkAtP_succ]
  omega
theorem rkAtP_le {p : List Int} {n : Nat} (hn : n ≤ 8) : ∀ j, j ≤ 8 → rkAtP p n j ≤ j * 16777216
  | 0, _ => by simp [rkAtP, sumTo]
  | j + 1, h => by
    have := rkAtP_le (p := p) (n := n) hn j (by omega)
    have := N_le (p := p ++ [(j : Int)]) hn
    rw [rkAtP_succ]
    omega

set_option maxHeartbeats 2000000 in
theorem rank_any (a : Option Addr) (n cap : Nat) (xs : List Int) (w : World) (h : Has w a n cap xs) :
    Calls Try.prog 33 #[.slice a n cap] w (PostInt w (rankOf xs)) := by
  by_cases hg : isPark xs = true
  · have HR : Hid (rankOf xs = ((rkTo xs n n : Int), true)) := hid (by rw [rankOf_yes hg, h.len])
    obtain ⟨h8, hx, hx2⟩ := parks_nth hg h.len
    have HLE := hid (rkTo_le h8 hx2)
    have HLEN := hid h.len
    have HX := hid hx
    have HX2 := hid hx2
    have HG := hid hg
    have hcap := h.2.1
    have hmx : cap ≤ maxLen := h.2.2.1
    clear hg hx hx2
    go_enter Try.func33, Try.ntmps33
    go_wp2_with (go_at_call 80; refine (isParkingFunction_any _ _ _ _ _ h).mono ?_; rintro e w0 ⟨rfl, hb0⟩; rw [HG.out])
    go_loopw [4, 15] (fun r i wr => ∃ k : Nat, k ≤ n ∧ i = .int .i64 (k : Int) ∧ r = .int .i64 (rkTo xs n k : Int) ∧ Below w.heap.size w wr) (fun _ i _ => n - (intOf i).toNat)
    case atStart => exact ⟨0, Nat.zero_le _, rfl, rfl, hb0⟩
    case round =>
      obtain ⟨k, hk, rfl, rfl, hb⟩ := hrel
      obtain ⟨wo, hwo⟩ : ∃ wo : World, wo = wr := ⟨_, rfl⟩
      subst hwo
      have hr := HLE.out k (by rw [HLEN.out]; omega)
      clear hb0
      by_cases hlt : k < n
      · obtain ⟨b, off, rfl, hbb, hc⟩ := h.2.2.2.2 (by omega)
        have hck : wo.cell? ⟨b, off + k, none⟩ = some (.int .i64 (nth xs k)) := by rw [hb.cell (p := ⟨b, off + k, none⟩) hbb]; exact hc k hlt
        obtain ⟨x0, x1, x2⟩ := HX.out k hlt
        obtain ⟨x, hxx⟩ : ∃ x : Nat, nth xs k = (x : Int) := ⟨(nth xs k).toNat, by omega⟩
        have HS := hid (rkTo_succ (n := n) (fun y hy => (HX2.out y hy).1) (by rw [HLEN.out]; omega) hxx)
        rw [hxx] at hck x0 x1 x2
        have ht := (h.take (k := k) (by omega)).below hb (Nat.le_refl _)
        have hsz := hb.size
        clear hc hxx
        go_wp2_with fail
        refine (countNext_any _ _ _ _ _ _ ht h8 hlt).mono ?_
        rintro e w3 ⟨a3, cap3, rfl, hown3, hb3⟩
        have hcap3 := hown3.has.2.1
        have hmx3 : cap3 ≤ maxLen := hown3.has.2.2.1
        have hbw := hb.trans (hb3.mono hsz)
        obtain ⟨g3, rfl, -, -, hc3, -⟩ := hown3.opened (by omega)
        have HC3 := hid hc3
        clear hc3 hown3 hb3 hb ht
        go_wp2_with fail
        go_loop [4, 30] (fun r y => ∃ j : Nat, j ≤ x ∧ y = .int .i64 (j : Int) ∧ r = .int .i64 ((rkTo xs n k : Int) + (rkAt xs n k j : Int))) (fun _ y => x - (intOf y).toNat)
        case atStart => exact ⟨0, Nat.zero_le _, rfl, by simp [rkAt, sumTo]⟩
        case round =>
          obtain ⟨j, hj, rfl, rfl⟩ := hrel
          have ha := rkAt_le (xs := xs) (n := n) (k := k) h8 j (by omega)
          by_cases hjx : j < x
          · have ha2 := rkAt_le (xs := xs) (n := n) (k := k) h8 (j + 1) (by omega)
            have HA := hid (rkAt_succ xs n k j)
            rw [HA.out] at ha2
            have hck3 := HC3.out j (by omega)
            rw [nth_nexts (by omega)] at hck3
            go_wp2_with fail
            go_round
            case rel => exact ⟨j + 1, by omega, by go_num, by rw [HA.out]; go_num⟩
            case measure => simp [intOf]; omega
          · obtain rfl : x = j := by omega
            go_wp2_with fail
            go_roundw
            case rel => exact ⟨k + 1, by omega, by go_num, by rw [HS.out]; go_num, hbw⟩
            case measure => simp [intOf]; omega
      · obtain rfl : n = k := by omega
        go_wp2_with fail
        go_ret2
        exact postInt HR.out hb
  · have HR := hid (rankOf_no hg)
    have HG := hid hg
    clear hg
    go_enter Try.func33, Try.ntmps33
    go_wp2_with (go_at_call 80; refine (isParkingFunction_any _ _ _ _ _ h).mono ?_; rintro e w0 ⟨rfl, hb0⟩; rw [Bool.eq_false_iff.2 HG.out])
    go_ret2
    exact postInt HR.out hb0

theorem firsts_nexts (n : Nat) : firsts n n = nexts [] n n := rfl

set_option maxHeartbeats 400000 in
theorem countByFirst_any (n : Int) (w : World) : Calls Try.prog 41 #[.int .i64 n] w (PostInts w (firstOf n)) := by
  by_cases h1 : 1 ≤ n
  · by_cases h2 : n ≤ 8
    · obtain ⟨m, rfl⟩ : ∃ m : Nat, n = (m : Int) := ⟨n.toNat, by omega⟩
      have HA := hid (firstOf_yes (inB_iff.2 ⟨h1, h2⟩))
      go_enter Try.func41, Try.ntmps41
      go_wp2_with fail
      refine (countNext_any none 0 0 [] m _ (Has.nilAt none (by unfold maxLen; omega)) (by omega) (by omega)).mono ?_
      rintro e w3 ⟨a3, cap3, rfl, hown3, hb3⟩
      go_wp2_with fail
      go_ret2
      exact postInts HA.out hown3 hb3
    · have HA := hid (firstOf_no (n := n) (by rw [Bool.not_eq_true, inB_not]; omega))
      go_enter Try.func41, Try.ntmps41
      go_wp2_with fail
      go_ret2
      exact postInts_no HA.out (Below.refl _ _)
  · have HA := hid (firstOf_no (n := n) (by rw [Bool.not_eq_true, inB_not]; omega))
    go_enter Try.func41, Try.ntmps41
    go_wp2_with fail
    go_ret2
    exact postInts_no HA.out (Below.refl _ _)

theorem atLeft_row {n R k r : Nat} {p : List Int} (h : AtLeft n R p k r) (hk : k < n) (hp : p.length = k) : r < rkAtP p n n := by
  have h2 := h.1
  rw [N_split (by omega)] at h2
  exact h2

set_option maxRecDepth 100000 in
set_option maxHeartbeats 2000000 in
theorem parkingAt_any (n r : Int) (w : World) : Calls Try.prog 28 #[.int .i64 n, .int .i64 r] w (PostInts w (atOf n r)) := by
  by_cases hg : inB n 0 8 = true
  · obtain ⟨m, rfl⟩ : ∃ m : Nat, n = (m : Int) := ⟨n.toNat, by have := inB_iff.1 hg; omega⟩
    have hm : m ≤ 8 := by have := inB_iff.1 hg; omega
    obtain ⟨c1, c2⟩ := cnt_le hm
    have HST := hid (streetCnt_self m (by omega))
    by_cases h0 : 0 ≤ r
    · by_cases hlt : r < (cnt m : Int)
      · obtain ⟨R, rfl⟩ : ∃ R : Nat, r = (R : Int) := ⟨r.toNat, by omega⟩
        have hR : R < cnt m := by omega
        have HA := hid (atOf_yes hm hR)
        have HA0 := hid (atLeft_first hm hR)
        have HG := hid hg
        have hnl : ¬ (cnt m : Int) ≤ (R : Int) := by omega
        clear hg
        go_enter Try.func28, Try.ntmps28
        go_wp2_with (first | (go_at_call 90; refine (isCarNumber_any _ _).mono ?_; rintro e w' ⟨rfl, rfl⟩; rw [HG.out]) | (go_at_call 91; refine (streetN_any _ _ _ hm (by omega)).mono ?_; rintro e w' ⟨rfl, rfl⟩; rw [HST.out]) | (at_make; refine wpList_make_room _ rfl _ _ rfl m rfl rfl (by omega) ?_; intro a1 cap1 w1 hown1 hb1))
        go_loopw [1, 6, 26] (fun s1 s6 s26 wr => ∃ (k r : Nat) (a' : Option Addr) (cap' : Nat) (p : List Int), k ≤ m ∧ r ≤ 4782969 ∧ s26 = .int .i64 (k : Int) ∧ s1 = .int .i64 (r : Int) ∧ s6 = .slice a' k cap' ∧ Own wr w.heap.size a' k cap' p ∧ Hid (AtLeft m R p k r) ∧ Below w.heap.size w wr) (fun _ _ i _ => m - (intOf i).toNat)
        case atStart => exact ⟨0, R, a1, cap1, [], Nat.zero_le _, by omega, rfl, rfl, rfl, hown1, HA0, hb1⟩
        case round =>
          clear hown1 hb1 HA0
          obtain ⟨k, r, a', cap', p, hk, hr, rfl, rfl, rfl, hown, HA1, hb⟩ := hrel
          obtain ⟨wo, hwo⟩ : ∃ wo : World, wo = wr := ⟨_, rfl⟩
          subst hwo
          have hsz := hb.size
          by_cases hlt : k < m
          · have HL := hid hown.len
            go_wp2_with fail
            refine (countNext_any _ _ _ _ _ _ hown.has hm hlt).mono ?_
            rintro e w3 ⟨a3, cap3, rfl, hown3, hb3⟩
            have hown2 := hown.below hb3 (Nat.le_refl _)
            have hbw := hb.trans (hb3.mono hsz)
            obtain ⟨g3, rfl, -, -, hc3, -⟩ := hown3.opened (by omega)
            have HC3 := hid hc3
            clear hc3 hown3 hb3 hb hown
            go_wp2_with fail
            go_loop [1, 8] (fun s1 s8 => ∃ (y ρ : Nat), ρ ≤ 4782969 ∧ y ≤ m ∧ s1 = .int .i64 (ρ : Int) ∧ s8 = .int .i64 (y : Int) ∧ Hid (r = rkAtP p m y + ρ)) (fun _ y => m + 1 - (intOf y).toNat)
            case atStart => exact ⟨0, r, hr, Nat.zero_le _, rfl, rfl, hid (by simp [rkAtP, sumTo])⟩
            case round =>
              obtain ⟨y, ρ, hρ, hy, rfl, rfl, HY⟩ := hrel
              have hyn := atLeft_room HA1.out hlt HL.out HY.out
              have hN := N_le (p := p ++ [(y : Int)]) hm
              have hck3 := HC3.out y (by omega)
              rw [nth_nexts (by omega)] at hck3
              by_cases hge : N (p ++ [(y : Int)]) m ≤ ρ
              · have HY2 : Hid (r = rkAtP p m (y + 1) + (ρ - N (p ++ [(y : Int)]) m)) := hid (by rw [rkAtP_succ]; have := HY.out; omega)
                have hge' : (N (p ++ [(y : Int)]) m : Int) ≤ (ρ : Int) := by omega
                have HD : Hid (((ρ - N (p ++ [(y : Int)]) m : Nat) : Int) = (ρ : Int) - (N (p ++ [(y : Int)]) m : Int)) := hid (by omega)
                clear hge
                go_wp2_with fail
                go_round
                case rel => exact ⟨y + 1, ρ - N (p ++ [(y : Int)]) m, by omega, by omega, by rw [HD.out], by go_num, HY2⟩
                case measure => simp [intOf]; omega
              · have HA2 := hid (atLeft_step HA1.out hlt HL.out HY.out (by omega))
                have hlt' : ¬ (N (p ++ [(y : Int)]) m : Int) ≤ (ρ : Int) := by omega
                clear hge
                go_wp2_with (at_builtin; refine wpList_append_int _ rfl _ _ rfl w.heap.size _ _ _ _ _ rfl rfl hown2 (by omega) hbw.size ?_; intro a4 cap4 w4 hown4 hb4)
                go_roundw
                case rel => exact ⟨k + 1, ρ, a4, cap4, _, by omega, hρ, by go_num, rfl, rfl, hown4, HA2, hbw.trans hb4⟩
                case measure => simp [intOf]; omega
          · obtain rfl : m = k := by omega
            have HE : Hid (toI (atL m m [] R) = p) := hid (by rw [HA1.out.2, Nat.sub_self]; simp [atL, toI])
            go_wp2_with fail
            go_ret2
            exact postInts (by rw [HA.out, HE.out]) hown hb
      · have HA := hid (atOf_no2 (n := m) (r := r) (by rw [Bool.not_eq_true, inB_not]; omega))
        have HG := hid hg
        have hnl : (cnt m : Int) ≤ r := by omega
        clear hg
        go_enter Try.func28, Try.ntmps28
        go_wp2_with (first | (go_at_call 90; refine (isCarNumber_any _ _).mono ?_; rintro e w' ⟨rfl, rfl⟩; rw [HG.out]) | (go_at_call 91; refine (streetN_any _ _ _ hm (by omega)).mono ?_; rintro e w' ⟨rfl, rfl⟩; rw [HST.out]))
        go_ret2
        exact postInts_no HA.out (Below.refl _ _)
    · have HA := hid (atOf_no2 (n := m) (r := r) (by rw [Bool.not_eq_true, inB_not]; omega))
      have HG := hid hg
      clear hg
      go_enter Try.func28, Try.ntmps28
      go_wp2_with (first | (go_at_call 90; refine (isCarNumber_any _ _).mono ?_; rintro e w' ⟨rfl, rfl⟩; rw [HG.out]))
      go_ret2
      exact postInts_no HA.out (Below.refl _ _)
  · have HA := hid (atOf_no1 (r := r) hg)
    have HG := hid hg
    clear hg
    go_enter Try.func28, Try.ntmps28
    go_wp2_with (go_at_call 90; refine (isCarNumber_any _ _).mono ?_; rintro e w' ⟨rfl, rfl⟩; rw [Bool.eq_false_iff.2 HG.out])
    go_ret2
    exact postInts_no HA.out (Below.refl _ _)
end Go.Proofs.Ytabhhmnilidppab
