/- The program's functions of chapter 1, by their contracts: driving, deciding, counting. -/
import Derived.Test.YtakadjhbomggbaaImplB
import Derived.Test.YtakadjhbomggbaaSpecC
namespace Go.Proofs.Ytakadjhbomggbaa
open Go.RowKit

theorem good_parked {xs : List Int} {p : Int} (h : good xs p = true) : driveCars xs p = parked xs p := by simp [driveCars, parked, h]

set_option maxHeartbeats 400000 in
theorem driveCars_any (a : Option Addr) (n cap : Nat) (xs : List Int) (p : Int) (w : World) (h : Has w a n cap xs) :
    Calls Try.prog 102 #[.slice a n cap, .int .i64 p] w (PostInts w (driveCars xs p)) := by
  by_cases hg : good xs p = true
  · obtain ⟨g1, g2, g3, g4⟩ := good_nth hg h.len
    obtain ⟨q, rfl⟩ : ∃ q : Nat, p = (q : Int) := ⟨p.toNat, by omega⟩
    rw [good_parked hg]
    have HG := hid hg
    clear hg
    go_enter Try.func102, Try.ntmps102
    go_wp2_with (first | (go_at_call 119; refine (areFavourites_any _ _ _ _ _ _ h).mono ?_; rintro e w' ⟨rfl, rfl⟩; rw [HG.out]) | (go_at_call 94; refine (newStreet_any q (by omega) _).mono ?_; rintro e w1 ⟨bt, bp, g, rfl, hst, hb1⟩))
    refine (park_any _ _ _ _ _ _ _ _ _ _ h hb1 hst g1 (by omega) g4).mono ?_
    rintro e w2 ⟨a2, n2, cap2, rfl, hown2, hb2⟩
    go_wp2_with fail
    go_ret2
    exact ⟨_, _, _, rfl, hown2, hb2⟩
  · have HR : Hid (driveCars xs p = ([], false)) := hid (by simp [driveCars, hg])
    have HG := hid hg
    clear hg
    go_enter Try.func102, Try.ntmps102
    go_wp2_with (go_at_call 119; refine (areFavourites_any _ _ _ _ _ _ h).mono ?_; rintro e w' ⟨rfl, rfl⟩; rw [Bool.eq_false_iff.2 HG.out])
    go_ret2
    exact postInts_no HR.out (Below.refl _ _)

theorem parked_ok (xs : List Int) (p : Int) : (parked xs p).2 = allPark p xs := by
  unfold parked
  split <;> simp_all

theorem isPark_cars (xs : List Int) : isPark xs = (carsB xs xs.length && allPark xs.length xs) := by simp [isPark, carsB, Bool.and_assoc]

set_option maxHeartbeats 400000 in
theorem isParkingFunction_any (a : Option Addr) (n cap : Nat) (xs : List Int) (w : World) (h : Has w a n cap xs) :
    Calls Try.prog 53 #[.slice a n cap] w (PostBool w (isPark xs)) := by
  have hlen := h.len
  by_cases hg : carsB xs n = true
  · have HR : Hid (isPark xs = (parked xs n).2) := hid (by rw [isPark_cars, hlen, hg, parked_ok]; rfl)
    have g1 : n ≤ 8 := by have := (carsB_iff.1 hg).1; omega
    have g4 : ∀ i, i < n → 0 ≤ nth xs i ∧ nth xs i ≤ (n : Int) - 1 := fun i hi => (carsB_iff.1 hg).2 _ (nth_mem (by omega))
    have HG := hid hg
    clear hg hlen
    go_enter Try.func53, Try.ntmps53
    go_wp2_with (first | (go_at_call 92; refine (areCarsBelow_any _ _ _ _ _ _ h).mono ?_; rintro e w' ⟨rfl, rfl⟩; rw [HG.out]) | (go_at_call 94; refine (newStreet_any n (by omega) _).mono ?_; rintro e w1 ⟨bt, bp, g, rfl, hst, hb1⟩))
    refine (park_any _ _ _ _ _ _ _ _ _ _ h hb1 hst g1 (by omega) g4).mono ?_
    rintro e w2 ⟨a2, n2, cap2, rfl, hown2, hb2⟩
    go_wp2_with fail
    go_ret
    exact postBool HR.out.symm hb2
  · have HR : Hid (isPark xs = false) := hid (by rw [isPark_cars, hlen, Bool.eq_false_iff.2 hg]; rfl)
    have HG := hid hg
    clear hg
    go_enter Try.func53, Try.ntmps53
    go_wp2_with (go_at_call 92; refine (areCarsBelow_any _ _ _ _ _ _ h).mono ?_; rintro e w' ⟨rfl, rfl⟩; rw [Bool.eq_false_iff.2 HG.out])
    go_ret
    exact postBool HR.out.symm (Below.refl _ _)

set_option maxHeartbeats 400000 in
theorem isParking_any (a : Option Addr) (n cap : Nat) (xs : List Int) (w : World) (h : Has w a n cap xs) :
    Calls Try.prog 57 #[.slice a n cap] w (PostBools w (isParking xs)) := by
  by_cases hg : carsB xs 100 = true
  · have HR : Hid (isParking xs = (isPark xs, true)) := hid (by simp [isParking, asked_cars, hg])
    have HG := hid hg
    clear hg
    go_enter Try.func57, Try.ntmps57
    go_wp2_with (first | (go_at_call 92; refine (areCarsBelow_any _ _ _ _ _ _ h).mono ?_; rintro e w' ⟨rfl, rfl⟩; rw [HG.out]) | (go_at_call 53; refine (isParkingFunction_any _ _ _ _ _ h).mono ?_; rintro e w1 ⟨rfl, hb1⟩))
    go_ret2
    exact postBools HR.out hb1
  · have HR : Hid (isParking xs = (false, false)) := hid (by simp [isParking, asked_cars, hg])
    have HG := hid hg
    clear hg
    go_enter Try.func57, Try.ntmps57
    go_wp2_with (go_at_call 92; refine (areCarsBelow_any _ _ _ _ _ _ h).mono ?_; rintro e w' ⟨rfl, rfl⟩; rw [Bool.eq_false_iff.2 HG.out])
    go_ret2
    exact postBools HR.out (Below.refl _ _)

set_option maxHeartbeats 400000 in
theorem countBelow_any (a : Option Addr) (n cap : Nat) (xs : List Int) (p : Int) (w : World) (h : Has w a n cap xs) :
    Calls Try.prog 63 #[.slice a n cap, .int .i64 p] w fun e w' => e = .returned (.int .i64 (below xs p)) ∧ w = w' := by
  obtain ⟨h0, h1, h2, h3, h4⟩ := h
  go_enter Try.func63, Try.ntmps63
  go_wp2_with fail
  go_loop [5, 10] (fun c i => ∃ k : Nat, k ≤ n ∧ i = .int .i64 k ∧ c = .int .i64 (below (xs.take k) p)) (fun _ i => n - (intOf i).toNat)
  case atStart => exact ⟨0, Nat.zero_le _, rfl, rfl⟩
  case round =>
    obtain ⟨k, hk, rfl, rfl⟩ := hrel
    by_cases hlt : k < n
    · obtain ⟨b, off, rfl, hb, hc⟩ := h4 (by omega)
      have hck := hc k hlt
      clear hc h4
      have hle := below_le (xs.take k) p
      have hsn := below_succ (k := k) (xs := xs) (by omega) p
      simp only [List.length_take] at hle
      have HS := hid hsn
      clear hsn
      have hle2 : below (xs.take k) p ≤ n := by omega
      clear hle
      by_cases hp : nth xs k < p
      · go_wp2_with fail
        go_round
        case rel => exact ⟨k + 1, by omega, by go_num, by rw [HS.out, if_pos hp]; go_num⟩
        case measure => simp [intOf]; omega
      · go_wp2_with fail
        go_round
        case rel => exact ⟨k + 1, by omega, by go_num, by rw [HS.out, if_neg (by omega)]; go_num⟩
        case measure => simp [intOf]; omega
    · obtain rfl : k = n := by omega
      go_wp2_with fail
      go_ret
      exact ⟨ret_int (by rw [List.take_of_length_le (by omega)]), rfl⟩

theorem drive_yes {xs : List Int} {p : Int} (h : (good xs p && allPark p xs) = true) : driveCars xs p = (drive p xs, true) := by simp only [driveCars, if_pos h]
theorem drive_no {xs : List Int} {p : Int} (h : ¬ (good xs p && allPark p xs) = true) : driveCars xs p = ([], false) := by simp only [driveCars, if_neg h]

/-- The places, of the first k cars already the distances. -/
def Halfway (p : Int) (xs ys : List Int) (k : Nat) : Prop := ∀ i, i < xs.length → nth ys i = if i < k then nth (dists p xs) i else nth (drive p xs) i

set_option maxHeartbeats 800000 in
theorem distancesOf_any (a : Option Addr) (n cap : Nat) (xs : List Int) (p : Int) (w : World) (h : Has w a n cap xs) :
    Calls Try.prog 65 #[.slice a n cap, .int .i64 p] w (PostInts w (distsOf xs p)) := by
  by_cases hg : (good xs p && allPark p xs) = true
  · have HR := hid (dists_yes hg)
    have HD := hid (drive_yes hg)
    obtain ⟨g1, g2, g3, g4⟩ := good_nth (by simp at hg; exact hg.1) h.len
    have HL := hid h.len
    clear hg
    go_enter Try.func65, Try.ntmps65
    go_wp2_with fail
    refine (driveCars_any _ _ _ _ _ _ h).mono ?_
    rw [HD.out]
    rintro e w1 ⟨a1, n1, cap1, rfl, hown1, hb1⟩
    obtain rfl : n1 = n := by rw [← hown1.len, length_drive, HL.out]
    go_wp2_with fail
    obtain ⟨h0, h1, h2, h3, h4⟩ := h.below hb1 (Nat.le_refl _)
    go_loopw [20] (fun i wr => ∃ (k : Nat) (ys : List Int), k ≤ n1 ∧ i = .int .i64 k ∧ Own wr w.heap.size a1 n1 cap1 ys ∧ Halfway p xs ys k ∧ Below w.heap.size w wr) (fun i _ => n1 - (intOf i).toNat)
    case atStart => exact ⟨0, _, Nat.zero_le _, rfl, hown1, fun i hi => by simp, hb1⟩
    case round =>
      obtain ⟨k, ys, hk, rfl, hown, hhw, hb⟩ := hrel
      by_cases hlt : k < n1
      · obtain ⟨b, off, rfl, hbb, hc⟩ := h.2.2.2.2 (by omega)
        obtain ⟨g, rfl, hg1, hg2, hg3, hg4⟩ := hown.opened (by omega)
        have hck : wr.cell? ⟨b, off + k, none⟩ = some (.int .i64 (nth xs k)) := by rw [hb.cell (p := ⟨b, off + k, none⟩) hbb]; exact hc k hlt
        have hdk := hg3 k hlt
        rw [hhw k (by rw [HL.out]; omega), if_neg (by omega)] at hdk
        have hgf := hg4 k
        obtain ⟨hx0, hx1⟩ := g4 k hlt
        obtain ⟨hd0, hd1⟩ := drive_nth_bounds HL.out g4 g3 hlt
        have HH := hid hhw
        have HND := hid (nth_dists (p := p) (xs := xs) (k := k) (by rw [HL.out]; omega))
        clear hc hg3 hg4 hhw h4 g4 hown1 hb1 h0
        go_wp2_with fail
        go_roundw
        case rel =>
          obtain ⟨s1, s2⟩ := hown.set k (nth (drive p xs) k - nth xs k)
          refine ⟨k + 1, _, by omega, by go_num, s1, ?_, hb.setCell hg1 _⟩
          intro i hi
          rw [nth_set (by rw [hown.len]; omega)]
          by_cases e : k = i
          · subst e; rw [if_pos rfl, if_pos (by omega), HND.out]
          · rw [if_neg e, HH.out i hi]
            by_cases e2 : i < k
            · rw [if_pos e2, if_pos (by omega)]
            · rw [if_neg e2, if_neg (by omega)]
        case measure => simp [intOf]; omega
      · obtain rfl : k = n1 := by omega
        go_wp2_with fail
        go_ret2
        refine postInts HR.out ?_ hb
        rw [show dists p xs = ys from ext_nth (by rw [length_dists, hown.len, HL.out]) (fun i hi => by rw [length_dists] at hi; rw [hhw i hi, if_pos (by rw [HL.out] at hi; exact hi)])]
        exact hown
  · have HR := hid (dists_no hg)
    have HD := hid (drive_no hg)
    clear hg
    go_enter Try.func65, Try.ntmps65
    go_wp2_with fail
    refine (driveCars_any _ _ _ _ _ _ h).mono ?_
    rw [HD.out]
    rintro e w1 ⟨a1, n1, cap1, rfl, hown1, hb1⟩
    go_wp2_with fail
    go_ret2
    exact postInts_no HR.out hb1

set_option maxHeartbeats 800000 in
theorem totalDistance_any (a : Option Addr) (n cap : Nat) (xs : List Int) (p : Int) (w : World) (h : Has w a n cap xs) :
    Calls Try.prog 23 #[.slice a n cap, .int .i64 p] w (PostInt w (totalOf xs p)) := by
  by_cases hg : (good xs p && allPark p xs) = true
  · have HR : Hid (totalOf xs p = (total (dists p xs), true)) := hid (by simp only [totalOf, if_pos hg])
    have HD := hid (dists_yes hg)
    have hs : Small (dists p xs) := small_dists (by simp at hg; exact hg.1)
    clear hg
    go_enter Try.func23, Try.ntmps23
    go_wp2_with fail
    refine (distancesOf_any _ _ _ _ _ _ h).mono ?_
    rw [HD.out]
    rintro e w1 ⟨a1, n1, cap1, rfl, hown1, hb1⟩
    obtain ⟨h0, h1, h2, h3, h4⟩ := hown1.has
    replace h0 : (dists p xs).length = n1 := h0
    have HL := hid h0
    have hs' : ∀ i, i < n1 → -1000 ≤ nth (dists p xs) i ∧ nth (dists p xs) i ≤ 1000 := fun i hi => hs i (by omega)
    have ht : ∀ k, k ≤ n1 → -1000 * (k : Int) ≤ total ((dists p xs).take k) ∧ total ((dists p xs).take k) ≤ 1000 * (k : Int) := fun k hk => total_bounds hs k (by omega)
    clear h0 hs
    go_wp2_with fail
    go_loop [8, 21] (fun c i => ∃ k : Nat, k ≤ n1 ∧ i = .int .i64 k ∧ c = .int .i64 (total ((dists p xs).take k))) (fun _ i => n1 - (intOf i).toNat)
    case atStart => exact ⟨0, Nat.zero_le _, rfl, rfl⟩
    case round =>
      obtain ⟨k, hk, rfl, rfl⟩ := hrel
      by_cases hlt : k < n1
      · obtain ⟨b, off, rfl, hb, hc⟩ := h4 (by omega)
        have hck := hc k hlt
        obtain ⟨ht0, ht1⟩ := ht k hk
        obtain ⟨hv0, hv1⟩ := hs' k hlt
        have HS := hid (total_succ (xs := dists p xs) (k := k) (by rw [HL.out]; omega))
        clear hc h4 hs' ht
        go_wp2_with fail
        go_round
        case rel => exact ⟨k + 1, by omega, by go_num, by rw [HS.out]⟩
        case measure => simp [intOf]; omega
      · obtain rfl : k = n1 := by omega
        go_wp2_with fail
        go_ret2
        exact postInt (by rw [HR.out, List.take_of_length_le (by rw [HL.out]; omega)]) hb1
  · have HR : Hid (totalOf xs p = (0, false)) := hid (by simp only [totalOf, if_neg hg])
    have HD := hid (dists_no hg)
    clear hg
    go_enter Try.func23, Try.ntmps23
    go_wp2_with fail
    refine (distancesOf_any _ _ _ _ _ _ h).mono ?_
    rw [HD.out]
    rintro e w1 ⟨a1, n1, cap1, rfl, hown1, hb1⟩
    go_wp2_with fail
    go_ret2
    exact postInt HR.out hb1

end Go.Proofs.Ytakadjhbomggbaa
