/- The program's functions of chapter 1, by their contracts: mixtures. -/
import Derived.Test.YtpjfgaggbedciaaImplD
import Derived.StillTailTactics
namespace Go.Proofs.Ytpjfgaggbedciaa
open Go.RowKit

/-- The first k numbers of a mixture are laid. -/
def Mixed (zs ys : List Int) (k : Nat) : Prop := ∀ i, i < k → nth ys i = nth zs i

theorem mix_nth {xs ys : List Int} {low : Bool} {k : Nat} (hx : k < xs.length) (hy : k < ys.length) : nth (mixWith xs ys low) k = if low then min (nth xs k) (nth ys k) else max (nth xs k) (nth ys k) := by
  simp [nth, mixWith, List.getElem?_zipWith, hx, hy]

set_option maxRecDepth 100000 in
set_option maxHeartbeats 1600000 in
theorem mixOf_any (a b : Option Addr) (n m cap cap' : Nat) (xs ys : List Int) (low : Bool) (w : World) (h : Has w a n cap xs) (h' : Has w b m cap' ys) :
    Calls Try.prog 10 #[.slice a n cap, .slice b m cap', .bool low] w (PostInts w (mixOf xs ys low)) := by
  have hlx := h.len
  have hly := h'.len
  by_cases hx : isPark xs = true
  · have HX := hid hx
    by_cases hy : isPark ys = true
    · have HY := hid hy
      by_cases hnm : n = m
      · have hbe : ((n : Int) != (m : Int)) = false := by simp [hnm]
        subst hnm
        have h8 : n ≤ 8 := by have := park_le hx; omega
        have HR : Hid (mixOf xs ys low = if isPark (mixWith xs ys low) then (mixWith xs ys low, true) else ([], false)) := hid (by simp [mixOf, hx, hy, hlx, hly])
        clear hx hy
        go_enter Try.func10, Try.ntmps10
        go_wp2_with fail
        refine (isParkingFunction_any _ _ _ _ _ h).mono ?_
        rintro e w1 ⟨rfl, hb1⟩
        rw [HX.out]
        go_wp2_with fail
        refine (isParkingFunction_any _ _ _ _ _ (h'.below hb1 (Nat.le_refl _))).mono ?_
        rintro e w2 ⟨rfl, hb2⟩
        rw [HY.out]
        have hbb := hb1.trans (hb2.mono hb1.size)
        have hsz := hbb.size
        have hx2 := h.below hbb (Nat.le_refl _)
        have hy2 := h'.below hbb (Nat.le_refl _)
        go_wp2_with (at_make; refine wpList_make_ints _ rfl _ _ rfl _ rfl rfl (by omega) ?_; intro a3 cap3 w3 hown3 hb3)
        obtain ⟨h0, h1, h2, h3, h4⟩ := hx2
        obtain ⟨k0, k1, k2, k3, k4⟩ := hy2
        have HLX := hid h0
        have HLY := hid k0
        have HLM := hid (length_mix (low := low) (h0.trans k0.symm))
        clear h0 k0 hlx hly hb1 hb2
        go_loopw [30] (fun i wr => ∃ (k : Nat) (zs : List Int), k ≤ n ∧ i = .int .i64 k ∧ Own wr w2.heap.size a3 n cap3 zs ∧ Mixed (mixWith xs ys low) zs k ∧ Below w2.heap.size w2 wr) (fun i _ => n - (intOf i).toNat)
        case atStart => exact ⟨0, _, Nat.zero_le _, rfl, hown3, fun i hi => by omega, hb3⟩
        case round =>
          obtain ⟨k, zs, hk, rfl, hown, hmx, hb⟩ := hrel
          by_cases hlt : k < n
          · obtain ⟨b1, off1, rfl, hbb1, hc1⟩ := h4 (by omega)
            obtain ⟨b2, off2, rfl, hbb2, hc2⟩ := k4 (by omega)
            obtain ⟨g, rfl, hg1, hg2, hg3, hg4⟩ := hown.opened (by omega)
            have hck : wr.cell? ⟨b1, off1 + k, none⟩ = some (.int .i64 (nth xs k)) := by rw [hb.cell (p := ⟨b1, off1 + k, none⟩) hbb1]; exact hc1 k hlt
            have hdk : wr.cell? ⟨b2, off2 + k, none⟩ = some (.int .i64 (nth ys k)) := by rw [hb.cell (p := ⟨b2, off2 + k, none⟩) hbb2]; exact hc2 k hlt
            have hgk := hg3 k hlt
            have hgf := hg4 k
            have HS := hid (mix_nth (xs := xs) (ys := ys) (low := low) (k := k) (by rw [HLX.out]; omega) (by rw [HLY.out]; omega))
            have HM := hid hmx
            have hkk : (k : Int) < (n : Int) := by omega
            have hkz : (0 : Int) ≤ (k : Int) := by omega
            clear hc1 hc2 h4 k4 hown3 hb3 hg3 hg4 hmx
            cases low
            · go_wp2_with fail
              go_still_tail 12, (by kernel_rfl)
              change wpList _ _ _ _ _ wr.drew
              go_wp2_with fail
              go_roundw
              case rel =>
                obtain ⟨s1, s2⟩ := hown.set k (if nth xs k < nth ys k then nth ys k else nth xs k)
                refine ⟨k + 1, _, by omega, by go_num, s1, ?_, (hb.setCell hg1 _).drew⟩
                intro i hi
                rw [nth_set (by rw [hown.len]; omega)]
                split
                · subst_vars; rw [HS.out]; simp; split <;> omega
                · exact HM.out i (by omega)
              case measure => simp [intOf]; omega
            · go_wp2_with fail
              go_still_tail 12, (by kernel_rfl)
              change wpList _ _ _ _ _ wr.drew
              go_wp2_with fail
              go_roundw
              case rel =>
                obtain ⟨s1, s2⟩ := hown.set k (if nth ys k < nth xs k then nth ys k else nth xs k)
                refine ⟨k + 1, _, by omega, by go_num, s1, ?_, (hb.setCell hg1 _).drew⟩
                intro i hi
                rw [nth_set (by rw [hown.len]; omega)]
                split
                · subst_vars; rw [HS.out]; simp; split <;> omega
                · exact HM.out i (by omega)
              case measure => simp [intOf]; omega
          · obtain rfl : k = n := by omega
            have HZ : Hid (mixWith xs ys low = zs) := hid (ext_nth (by rw [HLM.out, hown.len, HLX.out]) (fun i hi => (hmx i (by rw [HLM.out, HLX.out] at hi; omega)).symm))
            rw [← HZ.out] at hown
            by_cases hq : isPark (mixWith xs ys low) = true
            · have HQ := hid hq
              rw [if_pos hq] at HR
              clear hq
              go_wp2_with (go_at_call 29; refine (isParkingFunction_any _ _ _ _ _ hown.has).mono ?_; rintro e w4 ⟨rfl, hb4⟩; rw [HQ.out])
              go_ret2
              exact postInts HR.out ((hown.below hb4 (Nat.le_refl _)).mono hsz) ((hbb.trans (hb.mono hsz)).trans (hb4.mono (Nat.le_trans hsz hb.size)))
            · have HQ := hid hq
              rw [if_neg hq] at HR
              clear hq
              go_wp2_with (go_at_call 29; refine (isParkingFunction_any _ _ _ _ _ hown.has).mono ?_; rintro e w4 ⟨rfl, hb4⟩; rw [Bool.eq_false_iff.2 HQ.out])
              go_ret2
              exact postInts_no HR.out ((hbb.trans (hb.mono hsz)).trans (hb4.mono (Nat.le_trans hsz hb.size)))
      · have hbe : ((n : Int) != (m : Int)) = true := by simp; omega
        have HR : Hid (mixOf xs ys low = ([], false)) := hid (by simp [mixOf, hlx, hly, hnm])
        clear hx hy
        go_enter Try.func10, Try.ntmps10
        go_wp2_with fail
        refine (isParkingFunction_any _ _ _ _ _ h).mono ?_
        rintro e w1 ⟨rfl, hb1⟩
        rw [HX.out]
        go_wp2_with fail
        refine (isParkingFunction_any _ _ _ _ _ (h'.below hb1 (Nat.le_refl _))).mono ?_
        rintro e w2 ⟨rfl, hb2⟩
        rw [HY.out]
        go_wp2_with fail
        go_ret2
        exact postInts_no HR.out (hb1.trans (hb2.mono hb1.size))
    · have HR : Hid (mixOf xs ys low = ([], false)) := hid (by simp [mixOf, hy])
      have HY := hid hy
      clear hy hx
      go_enter Try.func10, Try.ntmps10
      go_wp2_with fail
      refine (isParkingFunction_any _ _ _ _ _ h).mono ?_
      rintro e w1 ⟨rfl, hb1⟩
      rw [HX.out]
      go_wp2_with fail
      refine (isParkingFunction_any _ _ _ _ _ (h'.below hb1 (Nat.le_refl _))).mono ?_
      rintro e w2 ⟨rfl, hb2⟩
      rw [Bool.eq_false_iff.2 HY.out]
      go_wp2_with fail
      go_ret2
      exact postInts_no HR.out (hb1.trans (hb2.mono hb1.size))
  · have HR : Hid (mixOf xs ys low = ([], false)) := hid (by simp [mixOf, hx])
    have HX := hid hx
    clear hx
    go_enter Try.func10, Try.ntmps10
    go_wp2_with fail
    refine (isParkingFunction_any _ _ _ _ _ h).mono ?_
    rintro e w1 ⟨rfl, hb1⟩
    rw [Bool.eq_false_iff.2 HX.out]
    go_wp2_with fail
    go_ret2
    exact postInts_no HR.out hb1
end Go.Proofs.Ytpjfgaggbedciaa
