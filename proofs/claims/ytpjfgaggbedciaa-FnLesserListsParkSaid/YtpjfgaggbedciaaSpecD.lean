/- The model's functions of chapter 1, by their contracts: lists below others, mixtures, cuts, joins. -/
import Derived.Test.YtpjfgaggbedciaaSpecC
namespace Go.Proofs.Ytpjfgaggbedciaa
open Go.RowKit

theorem isBelow_yes {xs ys : List Int} (h : (isPark xs && isPark ys) = true) : isBelowOf xs ys = (decide (xs.length = ys.length) && leB xs ys xs.length, true) := by simp only [isBelowOf, if_pos h]
theorem isBelow_no {xs ys : List Int} (h : ¬ (isPark xs && isPark ys) = true) : isBelowOf xs ys = (false, false) := by simp only [isBelowOf, if_neg h]

set_option maxHeartbeats 800000 in
theorem specIsBelow_any (a b : Option Addr) (n m cap cap' : Nat) (xs ys : List Int) (w : World) (h : Has w a n cap xs) (h' : Has w b m cap' ys) :
    Calls Try.prog 8 #[.slice a n cap, .slice b m cap'] w (PostBools w (isBelowOf xs ys)) := by
  have hlx := h.len
  have hly := h'.len
  by_cases hx : isPark xs = true
  · have HX := hid hx
    clear hx
    by_cases hy : isPark ys = true
    · have HR := hid (isBelow_yes (xs := xs) (ys := ys) (by rw [HX.out, hy]; rfl))
      have HY := hid hy
      rw [hlx, hly] at HR
      clear hy
      go_enter Try.func8, Try.ntmps8
      go_wp2_with fail
      refine (paParking_any _ _ _ _ _ h).mono ?_
      rintro e w1 ⟨rfl, hb1⟩
      rw [HX.out]
      go_wp2_with fail
      refine (paParking_any _ _ _ _ _ (h'.below hb1 (Nat.le_refl _))).mono ?_
      rintro e w2 ⟨rfl, hb2⟩
      rw [HY.out]
      have hbb := hb1.trans (hb2.mono hb1.size)
      obtain ⟨h0, h1, h2, h3, h4⟩ := h.below hbb (Nat.le_refl _)
      obtain ⟨k0, k1, k2, k3, k4⟩ := h'.below hbb (Nat.le_refl _)
      clear h0 k0
      by_cases hnm : n = m
      · have hbe : ((n : Int) != (m : Int)) = false := by simp [hnm]
        subst hnm
        go_wp2_with fail
        go_loop [23] (fun i => ∃ k : Nat, k ≤ n ∧ i = .int .i64 k ∧ leB xs ys k = true) (fun i => n - (intOf i).toNat)
        case atStart => exact ⟨0, Nat.zero_le _, rfl, rfl⟩
        case round =>
          obtain ⟨k, hk, rfl, hle⟩ := hrel
          have HLE := hid hle
          clear hle
          by_cases hlt : k < n
          · obtain ⟨b1, off1, rfl, hbb1, hc1⟩ := h4 (by omega)
            obtain ⟨b2, off2, rfl, hbb2, hc2⟩ := k4 (by omega)
            have hck := hc1 k hlt
            have hdk := hc2 k hlt
            clear hc1 hc2 h4 k4
            by_cases ht : nth xs k ≤ nth ys k
            · have HT := hid ht
              go_wp2_with fail
              go_round
              case rel => exact ⟨k + 1, by omega, by go_num, by rw [leB_succ, HLE.out]; simp [HT.out]⟩
              case measure => simp [intOf]; omega
            · have HN := hid (leB_no (n := n) hlt ht)
              go_wp2_with fail
              go_ret2
              exact postBools (by rw [HR.out, HN.out]; simp) hbb
          · obtain rfl : k = n := by omega
            go_wp2_with fail
            go_ret2
            exact postBools (by rw [HR.out, HLE.out]; simp) hbb
      · have hbe : ((n : Int) != (m : Int)) = true := by simp; omega
        go_wp2_with fail
        go_ret2
        exact postBools (by rw [HR.out]; simp [hnm]) hbb
    · have HR := hid (isBelow_no (xs := xs) (ys := ys) (by simp [hy]))
      have HY := hid hy
      clear hy
      go_enter Try.func8, Try.ntmps8
      go_wp2_with fail
      refine (paParking_any _ _ _ _ _ h).mono ?_
      rintro e w1 ⟨rfl, hb1⟩
      rw [HX.out]
      go_wp2_with fail
      refine (paParking_any _ _ _ _ _ (h'.below hb1 (Nat.le_refl _))).mono ?_
      rintro e w2 ⟨rfl, hb2⟩
      rw [Bool.eq_false_iff.2 HY.out]
      go_wp2_with fail
      go_ret2
      exact postBools HR.out (hb1.trans (hb2.mono hb1.size))
  · have HR := hid (isBelow_no (xs := xs) (ys := ys) (by simp [hx]))
    have HX := hid hx
    clear hx
    go_enter Try.func8, Try.ntmps8
    go_wp2_with fail
    refine (paParking_any _ _ _ _ _ h).mono ?_
    rintro e w1 ⟨rfl, hb1⟩
    rw [Bool.eq_false_iff.2 HX.out]
    go_wp2_with fail
    go_ret2
    exact postBools HR.out hb1

theorem l1Least_any (x y : Int) (w : World) : Calls Try.prog 31 #[.int .i64 x, .int .i64 y] w fun e w' => e = .returned (.int .i64 (min x y)) ∧ w = w' := by
  by_cases hxy : x < y
  · go_enter Try.func31, Try.ntmps31
    go_wp2_with fail
    go_ret
    exact ⟨ret_int (by omega), rfl⟩
  · go_enter Try.func31, Try.ntmps31
    go_wp2_with fail
    go_ret
    exact ⟨ret_int (by omega), rfl⟩
theorem l1Most_any (x y : Int) (w : World) : Calls Try.prog 28 #[.int .i64 x, .int .i64 y] w fun e w' => e = .returned (.int .i64 (max x y)) ∧ w = w' := by
  by_cases hxy : y < x
  · go_enter Try.func28, Try.ntmps28
    go_wp2_with fail
    go_ret
    exact ⟨ret_int (by omega), rfl⟩
  · go_enter Try.func28, Try.ntmps28
    go_wp2_with fail
    go_ret
    exact ⟨ret_int (by omega), rfl⟩

theorem length_mix {xs ys : List Int} {low : Bool} (h : xs.length = ys.length) : (mixWith xs ys low).length = xs.length := by simp [mixWith, h]
theorem mix_succ {xs ys : List Int} {low : Bool} {k : Nat} (hx : k < xs.length) (hy : k < ys.length) : (mixWith xs ys low).take (k + 1) = (mixWith xs ys low).take k ++ [if low then min (nth xs k) (nth ys k) else max (nth xs k) (nth ys k)] := by
  have hl : k < (mixWith xs ys low).length := by simp [mixWith]; omega
  rw [take_succ_nth hl]
  congr 2
  simp [nth, mixWith, List.getElem?_zipWith, hx, hy]

theorem park_le {xs : List Int} (h : isPark xs = true) : xs.length ≤ 8 := (isPark_iff.1 h).1

set_option maxHeartbeats 1600000 in
theorem specMixOf_any (a b : Option Addr) (n m cap cap' : Nat) (xs ys : List Int) (low : Bool) (w : World) (h : Has w a n cap xs) (h' : Has w b m cap' ys) :
    Calls Try.prog 11 #[.slice a n cap, .slice b m cap', .bool low] w (PostInts w (mixOf xs ys low)) := by
  have hlx := h.len
  have hly := h'.len
  by_cases hx : isPark xs = true
  · have HX := hid hx
    by_cases hy : isPark ys = true
    · have HY := hid hy
      by_cases hnm : n = m
      · have hbe : ((n : Int) != (m : Int)) = false := by simp [hnm]
        subst hnm
        have h8 : n ≤ 8 := by have := park_le hx; omega
        have HR : Hid (mixOf xs ys low = if isPark (mixWith xs ys low) then (mixWith xs ys low, true) else ([], false)) := hid (by simp [mixOf, hx, hy, hlx, hly])
        clear hx hy
        go_enter Try.func11, Try.ntmps11
        go_wp2_with fail
        refine (paParking_any _ _ _ _ _ h).mono ?_
        rintro e w1 ⟨rfl, hb1⟩
        rw [HX.out]
        go_wp2_with fail
        refine (paParking_any _ _ _ _ _ (h'.below hb1 (Nat.le_refl _))).mono ?_
        rintro e w2 ⟨rfl, hb2⟩
        rw [HY.out]
        have hbb := hb1.trans (hb2.mono hb1.size)
        obtain ⟨h0, h1, h2, h3, h4⟩ := h.below hbb (Nat.le_refl _)
        obtain ⟨k0, k1, k2, k3, k4⟩ := h'.below hbb (Nat.le_refl _)
        have hsz := hbb.size
        have hlm := length_mix (low := low) (h0.trans k0.symm)
        have HLX := hid h0
        have HLY := hid k0
        have HLM := hid hlm
        clear h0 k0 hlx hly hlm hb1 hb2
        go_wp2_with fail
        go_loopw [8, 28] (fun o i wr => ∃ (k : Nat) (a' : Option Addr) (cap' : Nat), k ≤ n ∧ i = .int .i64 k ∧ o = .slice a' k cap' ∧ Own wr w2.heap.size a' k cap' ((mixWith xs ys low).take k) ∧ Below w2.heap.size w2 wr) (fun _ i _ => n - (intOf i).toNat)
        case atStart => exact ⟨0, none, 0, Nat.zero_le _, rfl, rfl, Own.nil _ _, Below.refl _ _⟩
        case round =>
          obtain ⟨k, a', cap', hk, rfl, rfl, hown, hb⟩ := hrel
          by_cases hlt : k < n
          · obtain ⟨b1, off1, rfl, hbb1, hc1⟩ := h4 (by omega)
            obtain ⟨b2, off2, rfl, hbb2, hc2⟩ := k4 (by omega)
            have hck : wr.cell? ⟨b1, off1 + k, none⟩ = some (.int .i64 (nth xs k)) := by rw [hb.cell (p := ⟨b1, off1 + k, none⟩) hbb1]; exact hc1 k hlt
            have hdk : wr.cell? ⟨b2, off2 + k, none⟩ = some (.int .i64 (nth ys k)) := by rw [hb.cell (p := ⟨b2, off2 + k, none⟩) hbb2]; exact hc2 k hlt
            have HS := hid (mix_succ (xs := xs) (ys := ys) (low := low) (k := k) (by rw [HLX.out]; omega) (by rw [HLY.out]; omega))
            clear hc1 hc2 h4 k4
            cases low
            · go_wp2_with (first | (go_at_call 28; refine (l1Most_any _ _ _).mono ?_; rintro e w' ⟨rfl, rfl⟩) | (at_builtin; refine wpList_append_int _ rfl _ _ rfl w2.heap.size _ _ _ _ _ rfl rfl hown (by omega) hb.size ?_; intro a3 cap3 w3 hown3 hb3))
              go_roundw
              case rel => exact ⟨k + 1, a3, cap3, by omega, by go_num, rfl, by rw [HS.out]; exact hown3, hb.trans hb3⟩
              case measure => simp [intOf]; omega
            · go_wp2_with (first | (go_at_call 31; refine (l1Least_any _ _ _).mono ?_; rintro e w' ⟨rfl, rfl⟩) | (at_builtin; refine wpList_append_int _ rfl _ _ rfl w2.heap.size _ _ _ _ _ rfl rfl hown (by omega) hb.size ?_; intro a3 cap3 w3 hown3 hb3))
              go_roundw
              case rel => exact ⟨k + 1, a3, cap3, by omega, by go_num, rfl, by rw [HS.out]; exact hown3, hb.trans hb3⟩
              case measure => simp [intOf]; omega
          · obtain rfl : k = n := by omega
            rw [List.take_of_length_le (by rw [HLM.out, HLX.out]; omega)] at hown
            by_cases hq : isPark (mixWith xs ys low) = true
            · have HQ := hid hq
              rw [if_pos hq] at HR
              clear hq
              go_wp2_with (go_at_call 30; refine (paParking_any _ _ _ _ _ hown.has).mono ?_; rintro e w4 ⟨rfl, hb4⟩; rw [HQ.out])
              go_ret2
              exact postInts HR.out ((hown.below hb4 (Nat.le_refl _)).mono hsz) ((hbb.trans (hb.mono hsz)).trans (hb4.mono (Nat.le_trans hsz hb.size)))
            · have HQ := hid hq
              rw [if_neg hq] at HR
              clear hq
              go_wp2_with (go_at_call 30; refine (paParking_any _ _ _ _ _ hown.has).mono ?_; rintro e w4 ⟨rfl, hb4⟩; rw [Bool.eq_false_iff.2 HQ.out])
              go_ret2
              exact postInts_no HR.out ((hbb.trans (hb.mono hsz)).trans (hb4.mono (Nat.le_trans hsz hb.size)))
      · have hbe : ((n : Int) != (m : Int)) = true := by simp; omega
        have HR : Hid (mixOf xs ys low = ([], false)) := hid (by simp [mixOf, hlx, hly, hnm])
        clear hx hy
        go_enter Try.func11, Try.ntmps11
        go_wp2_with fail
        refine (paParking_any _ _ _ _ _ h).mono ?_
        rintro e w1 ⟨rfl, hb1⟩
        rw [HX.out]
        go_wp2_with fail
        refine (paParking_any _ _ _ _ _ (h'.below hb1 (Nat.le_refl _))).mono ?_
        rintro e w2 ⟨rfl, hb2⟩
        rw [HY.out]
        go_wp2_with fail
        go_ret2
        exact postInts_no HR.out (hb1.trans (hb2.mono hb1.size))
    · have HR : Hid (mixOf xs ys low = ([], false)) := hid (by simp [mixOf, hy])
      have HY := hid hy
      clear hy hx
      go_enter Try.func11, Try.ntmps11
      go_wp2_with fail
      refine (paParking_any _ _ _ _ _ h).mono ?_
      rintro e w1 ⟨rfl, hb1⟩
      rw [HX.out]
      go_wp2_with fail
      refine (paParking_any _ _ _ _ _ (h'.below hb1 (Nat.le_refl _))).mono ?_
      rintro e w2 ⟨rfl, hb2⟩
      rw [Bool.eq_false_iff.2 HY.out]
      go_wp2_with fail
      go_ret2
      exact postInts_no HR.out (hb1.trans (hb2.mono hb1.size))
  · have HR : Hid (mixOf xs ys low = ([], false)) := hid (by simp [mixOf, hx])
    have HX := hid hx
    clear hx
    go_enter Try.func11, Try.ntmps11
    go_wp2_with fail
    refine (paParking_any _ _ _ _ _ h).mono ?_
    rintro e w1 ⟨rfl, hb1⟩
    rw [Bool.eq_false_iff.2 HX.out]
    go_wp2_with fail
    go_ret2
    exact postInts_no HR.out hb1
end Go.Proofs.Ytpjfgaggbedciaa
