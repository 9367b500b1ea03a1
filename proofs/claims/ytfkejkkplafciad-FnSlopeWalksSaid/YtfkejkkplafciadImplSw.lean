/- The program's slope walks, by their contracts: whether a list does not fall, turned walks, levels. -/
import Derived.Test.YtfkejkkplafciadImplSl
import Derived.Test.YtfkejkkplafciadSpecSw
import Derived.Test.YtfkejkkplafciadCb
namespace Go.Proofs.Ytfkejkkplafciad
open Go.RowKit

theorem isNaN_any (x : Int) (w : World) : Calls Try.prog 126 #[.int .i64 x] w fun e w' => e = .returned (.bool false) ∧ w' = w := by
  have hb : (x != x) = false := by simp
  go_enter Try.func126, Try.ntmps126
  go_wp2_with fail
  go_ret
  exact ⟨rfl, rfl⟩
theorem cmpLess_any (x y : Int) (w : World) : Calls Try.prog 120 #[.int .i64 x, .int .i64 y] w fun e w' => e = .returned (.bool (decide (x < y))) ∧ w' = w := by
  go_enter Try.func120, Try.ntmps120
  go_wp2_with (go_at_call 126; refine (isNaN_any _ _).mono ?_; rintro e w' ⟨rfl, rfl⟩)
  go_ret
  exact ⟨rfl, rfl⟩
/-- Behind k nothing falls. -/
def upTo (xs : List Int) (n k : Nat) : Prop := ∀ j, k < j → j < n → nth xs (j - 1) ≤ nth xs j
theorem up_sorted {xs : List Int} {n : Nat} (hl : xs.length = n) : upTo xs n 0 ↔ insSort xs = xs := by
  subst hl
  constructor
  · intro h
    refine sorted_same ?_
    rw [List.pairwise_iff_getElem]
    intro i j hi hj hij
    have key : ∀ d, i + d < xs.length → nth xs i ≤ nth xs (i + d) := by
      intro d
      induction d with
      | zero => intro _; exact Int.le_refl _
      | succ d ih =>
        intro hd
        have h1 := ih (by omega)
        have h2 := h (i + (d + 1)) (by omega) hd
        rw [show i + (d + 1) - 1 = i + d by omega] at h2
        omega
    have := key (j - i) (by omega)
    rw [show i + (j - i) = j by omega] at this
    simpa [nth, hi, hj] using this
  · intro h j h0 hj
    have hs := insSort_sorted xs
    rw [h] at hs
    exact sorted_nth hs (by omega) hj

theorem quiet_step {w w' : World} (h : Quiet w w') (j : Nat) : Quiet w (w'.drewN j) := by
  obtain ⟨q, rfl⟩ := h
  exact ⟨_, World.drewN_drewN _ _ _⟩

set_option maxHeartbeats 800000 in
theorem isSorted_any (a : Option Addr) (n cap : Nat) (xs : List Int) (w : World) (h : Has w a n cap xs) :
    Calls Try.prog 107 #[.slice a n cap] w fun e w' => e = .returned (.bool (decide (insSort xs = xs))) ∧ Quiet w w' := by
  have HU := hid (up_sorted h.len)
  have hle := h.le
  go_enter Try.func107, Try.ntmps107
  go_wp2_with fail
  go_loopw [3] (fun i wr => ∃ k : Nat, k ≤ n ∧ i = .int .i64 ((k : Int) - 1) ∧ Hid (upTo xs n (k - 1)) ∧ Quiet w wr) (fun i _ => (intOf i).toNat)
  case atStart => exact ⟨n, Nat.le_refl _, rfl, hid (fun j h1 h2 => by omega), ⟨0, rfl⟩⟩
  case round =>
    obtain ⟨k, hk, rfl, HK, HQ⟩ := hrel
    obtain ⟨wo, hwo⟩ : ∃ wo : World, wo = wr := ⟨_, rfl⟩
    subst hwo
    have hh : Has wo a n cap xs := by obtain ⟨q, hq⟩ := HQ; rw [hq]; exact h
    by_cases h1 : 1 < k
    · obtain ⟨c, rfl⟩ : ∃ c, k = c + 2 := ⟨k - 2, by omega⟩
      obtain ⟨b, off, rfl, hbb, hc⟩ := hh.2.2.2.2 (by omega)
      have e1 : ((c + 2 : Nat) : Int) - 1 = (c : Int) + 1 := by omega
      rw [e1]
      have hck1 : wo.cell? ⟨b, off + (c + 1), none⟩ = some (.int .i64 (nth xs (c + 1))) := hc (c + 1) (by omega)
      have hck2 : wo.cell? ⟨b, off + c, none⟩ = some (.int .i64 (nth xs c)) := hc c (by omega)
      have t1 : ((c : Int) + 1).toNat = c + 1 := by omega
      have v1 : IntKind.i64.wrap ((c : Int) + 1 - 1) = (c : Int) := by rw [show (c : Int) + 1 - 1 = (c : Int) by omega]; exact IntWalk.i64_in _ (by omega)
      have l1 : (c : Int) + 1 < (n : Int) := by omega
      have v2 : IntKind.i64.wrap (c : Int) = (c : Int) := IntWalk.i64_in _ (by omega)
      have t2 : (c : Int) + 1 - 1 = (c : Int) := by omega
      have l2 : (c : Int) < (n : Int) := by omega
      have z1 : (0 : Int) ≤ (c : Int) + 1 := by omega
      have z2 : (0 : Int) ≤ (c : Int) := by omega
      have CQ : Hid (∀ j, Calls Try.prog 120 #[.int .i64 (nth xs (c + 1)), .int .i64 (nth xs c)] (wo.drewN j) fun e w' => e = .returned (.bool (decide (nth xs (c + 1) < nth xs c))) ∧ w' = wo.drewN j) := hid (fun j => cmpLess_any _ _ _)
      clear hc e1
      by_cases hlt : nth xs (c + 1) < nth xs c
      · have HD : Hid (decide (insSort xs = xs) = false) := hid (by
          rw [decide_eq_false_iff_not, ← HU.out]
          intro hh
          have := hh (c + 1) (by omega) (by omega)
          rw [show c + 1 - 1 = c by omega] at this
          omega)
        have hd : decide (nth xs (c + 1) < nth xs c) = true := by simp [hlt]
        rw [hd] at CQ
        clear hd hlt
        go_wp2_with fail
        go_quiet ((go_at_call 120; exact Calls.quiet_of_same (CQ.out _)))
        go_wp2_with fail
        go_ret
        exact ⟨ret_bool HD.out.symm, quiet_step HQ _⟩
      · have HK2 : Hid (upTo xs n (c + 1 - 1)) := hid (fun j h1 h2 => by
          by_cases e : j = c + 1
          · subst e; rw [show c + 1 - 1 = c by omega]; omega
          · exact HK.out j (by omega) h2)
        have hd : decide (nth xs (c + 1) < nth xs c) = false := by simp [hlt]
        rw [hd] at CQ
        clear hd hlt
        go_wp2_with fail
        go_quiet ((go_at_call 120; exact Calls.quiet_of_same (CQ.out _)))
        go_wp2_with fail
        go_roundw
        case rel => exact ⟨c + 1, by omega, by go_num, HK2, quiet_step HQ _⟩
        case measure => simp [intOf]
    · have HD : Hid (decide (insSort xs = xs) = true) := hid (by
        rw [decide_eq_true_eq, ← HU.out]
        intro j j1 j2
        exact HK.out j (by omega) j2)
      go_wp2_with fail
      go_ret
      exact ⟨ret_bool HD.out.symm, HQ⟩

set_option maxHeartbeats 800000 in
theorem lineWalk_any (a : Option Addr) (n cap : Nat) (xs : List Int) (ac : Int) (w : World) (h : Has w a n cap xs) :
    Calls Try.prog 85 #[.agg #[.int .i64 (n : Int), .int .i64 ac], .slice a n cap] w fun e w' => e = .returned (.bool (isWalkSl xs ac)) ∧ Below w.heap.size w w' := by
  have hb0 := (Below.refl w.heap.size w).alloc (Nat.le_refl _) (.cells #[.int .i64 (n : Int), .int .i64 ac] 71)
  have B0 := boxAt_new w (.int .i64 (n : Int)) (.int .i64 ac) 71
  obtain ⟨W, hW⟩ : ∃ W, w.alloc (.cells #[.int .i64 (n : Int), .int .i64 ac] 71) = W := ⟨_, rfl⟩
  rw [hW] at hb0 B0
  obtain ⟨_, _, _, _⟩ := id B0
  have h0 := h.below hb0 (Nat.le_refl _)
  by_cases hg : goodSl xs ac = true
  · have HR : Hid (isWalkSl xs ac = decide (insSort xs = xs)) := hid (by simp [isWalkSl, hg])
    have HG := hid hg
    clear hg
    go_enter Try.func85, Try.ntmps85
    go_wp2_with fail
    refine (linePark_any _ _ _ _ _ _ h0).mono ?_
    rintro e w1 ⟨rfl, hb1⟩
    rw [HG.out]
    have h1 := h0.below hb1 (Nat.le_refl _)
    have hb01 := hb0.trans (hb1.mono hb0.size)
    go_wp2_with fail
    refine (isSorted_any _ _ _ _ _ h1).mono ?_
    rintro e w2 ⟨rfl, hq⟩
    have hb02 := hb01.trans (quietB (K := w.heap.size) hq)
    clear hq
    go_wp2_with fail
    go_ret
    exact ⟨ret_bool HR.out.symm, hb02⟩
  · have HR : Hid (isWalkSl xs ac = false) := hid (by simp [isWalkSl, hg])
    have HG := hid (Bool.eq_false_iff.2 hg)
    clear hg
    go_enter Try.func85, Try.ntmps85
    go_wp2_with fail
    refine (linePark_any _ _ _ _ _ _ h0).mono ?_
    rintro e w1 ⟨rfl, hb1⟩
    rw [HG.out]
    have hb01 := hb0.trans (hb1.mono hb0.size)
    go_wp2_with fail
    go_ret
    exact ⟨ret_bool HR.out.symm, hb01⟩

set_option maxHeartbeats 800000 in
theorem implLevels_any (a : Option Addr) (n cap : Nat) (xs : List Int) (ac : Int) (w : World) (h : Has w a n cap xs) :
    Calls Try.prog 40 #[.slice a n cap, .int .i64 ac] w (PostInts w (levelsOf xs ac)) := by
  by_cases hg : isWalkSl xs ac = true
  · have HR : Hid (levelsOf xs ac = (levelsL xs ac n, true)) := hid (by simp [levelsOf, hg, h.len])
    obtain ⟨q, rfl, -, hn, hq, hx⟩ := good_len (walk_good hg) h.len
    have HG := hid hg
    have HL := hid h.len
    have HX := hid hx
    have HN : Hid (∀ k, k < n → nth (levelsL xs (q : Int) n) k = (k : Int) * (q : Int) - (n : Int) * nth xs k) := hid (fun k hk => by have e := HL.out; simp [levelsL, nth, hk, e])
    have HLL : Hid ((levelsL xs (q : Int) n).length = n) := hid (by simp [levelsL])
    clear hg hx
    go_enter Try.func40, Try.ntmps40
    go_wp2_with fail
    refine (lineOf_any _ _ _ _ _).mono ?_
    rintro e w0 ⟨rfl, hb0⟩
    go_wp2_with fail
    refine (lineWalk_any _ _ _ _ _ _ (h.below hb0 (Nat.le_refl _))).mono ?_
    rintro e w1 ⟨rfl, hb1⟩
    rw [HG.out]
    have hb01 := hb0.trans (hb1.mono hb0.size)
    go_wp2_with (at_make; refine wpList_make_ints _ rfl _ _ rfl n rfl rfl (by omega) ?_; intro a1 cap1 w2 hown2 hb2)
    have hb02 := hb01.trans (hb2.mono hb01.size)
    have hsz := hb01.size
    clear hb0 hb1 hb01 hb2
    go_loopw [20] (fun i wr => ∃ (k : Nat) (zs : List Int), k ≤ n ∧ i = .int .i64 (k : Int) ∧ Own wr w1.heap.size a1 n cap1 zs ∧ Hid (FromTo (levelsL xs (q : Int) n) zs k) ∧ Below w.heap.size w wr) (fun i _ => n - (intOf i).toNat)
    case atStart => exact ⟨0, _, Nat.zero_le _, rfl, hown2, hid (fun i hi => by omega), hb02⟩
    case round =>
      clear hown2 hb02
      obtain ⟨k, zs, hk, rfl, hz, HF, hb⟩ := hrel
      by_cases hlt : k < n
      · obtain ⟨b, off, rfl, hbb, hc⟩ := h.2.2.2.2 (by omega)
        have hck : wr.cell? ⟨b, off + k, none⟩ = some (.int .i64 (nth xs k)) := by rw [hb.cell (p := ⟨b, off + k, none⟩) hbb]; exact hc k hlt
        obtain ⟨x0, x1⟩ := HX.out k hlt
        obtain ⟨p0, p1, p2, p3⟩ := prodB (k := k) (n := n) (q := q) (x := nth xs k) (by omega) hq.2 (by omega) x0 (by omega)
        obtain ⟨g1, rfl, hg1, hg2, hg3, hg4⟩ := hz.opened (by omega)
        have hgk := hg3 k hlt
        have hgf := hg4 k
        obtain ⟨s1, s2⟩ := hz.set k ((k : Int) * (q : Int) - (n : Int) * nth xs k)
        have HF2 : Hid (FromTo (levelsL xs (q : Int) n) (zs.set k ((k : Int) * (q : Int) - (n : Int) * nth xs k)) (k + 1)) := hid (by
          intro i hi
          rw [nth_set (by rw [hz.len]; exact hlt)]
          by_cases e : k = i
          · subst e; rw [if_pos rfl, HN.out _ hlt]
          · rw [if_neg e]; exact HF.out i (by omega))
        have hb2 := hb.setCell (p := ⟨g1, k, none⟩) (show w.heap.size ≤ g1 by omega) (.int .i64 ((k : Int) * (q : Int) - (n : Int) * nth xs k))
        clear hc hg3 hg4 s2
        go_wp2_with fail
        go_roundw
        case rel => exact ⟨k + 1, _, by omega, by go_num, s1, HF2, hb2⟩
        case measure => simp [intOf]; omega
      · obtain rfl : n = k := by omega
        have HE : Hid (levelsL xs (q : Int) n = zs) := hid (ext_nth (by rw [HLL.out, hz.len]) (fun i hi => (HF.out i (by rw [HLL.out] at hi; exact hi)).symm))
        go_wp2_with fail
        go_ret2
        exact postInts (by rw [HR.out, HE.out]) (hz.mono hsz) hb
  · have HR : Hid (levelsOf xs ac = ([], false)) := hid (by simp [levelsOf, hg])
    have HG := hid (Bool.eq_false_iff.2 hg)
    clear hg
    go_enter Try.func40, Try.ntmps40
    go_wp2_with fail
    refine (lineOf_any _ _ _ _ _).mono ?_
    rintro e w0 ⟨rfl, hb0⟩
    go_wp2_with fail
    refine (lineWalk_any _ _ _ _ _ _ (h.below hb0 (Nat.le_refl _))).mono ?_
    rintro e w1 ⟨rfl, hb1⟩
    rw [HG.out]
    have hb01 := hb0.trans (hb1.mono hb0.size)
    go_wp2_with fail
    go_ret2
    exact postInts_no HR.out hb01
set_option maxHeartbeats 800000 in
theorem implTurnWk_any (a : Option Addr) (n cap : Nat) (xs : List Int) (ac : Int) (w : World) (h : Has w a n cap xs) :
    Calls Try.prog 38 #[.slice a n cap, .int .i64 ac] w (PostInts w (turnWkOf xs ac)) := by
  by_cases hg : isWalkSl xs ac = true
  · obtain ⟨q, rfl, -, hn, hq, hx⟩ := good_len (walk_good hg) h.len
    by_cases hs : slB (q : Int) (n : Int) = true
    · have HR := hid (turnWk_yes hg hs h.len)
      have HG := hid hg
      have HS : Hid (isSlopeOf (q : Int) (n : Int) = true) := hid hs
      have HL := hid h.len
      have HN : Hid (∀ k, k < q → nth (turnWkL xs (q : Int) q) k = (n : Int) - (below xs ((q : Int) - k) : Int)) := hid (fun k hk => by
        have := from_below xs ((q : Int) - k)
        have e := HL.out
        simp [turnWkL, nth, hk]
        omega)
      have HLL : Hid ((turnWkL xs (q : Int) q).length = q) := hid (by simp [turnWkL])
      clear hg hx hs
      go_enter Try.func38, Try.ntmps38
      go_wp2_with fail
      refine (lineOf_any _ _ _ _ _).mono ?_
      rintro e w0 ⟨rfl, hb0⟩
      go_wp2_with fail
      refine (lineWalk_any _ _ _ _ _ _ (h.below hb0 (Nat.le_refl _))).mono ?_
      rintro e w1 ⟨rfl, hb1⟩
      rw [HG.out]
      have hb01 := hb0.trans (hb1.mono hb0.size)
      go_wp2_with fail
      refine (implIsSlope_any _ _ _).mono ?_
      rintro e w1' ⟨rfl, hb1'⟩
      rw [HS.out]
      have hb01' := hb01.trans (hb1'.mono hb01.size)
      go_wp2_with (at_make; refine wpList_make_ints _ rfl _ _ rfl q rfl rfl (by omega) ?_; intro a1 cap1 w2 hown2 hb2)
      have hb02 := hb01'.trans (hb2.mono hb01'.size)
      have hsz := hb01'.size
      clear hb0 hb1 hb01 hb2 hb1' hb01'
      go_loopw [25] (fun i wr => ∃ (k : Nat) (zs : List Int), k ≤ q ∧ i = .int .i64 (k : Int) ∧ Own wr w1'.heap.size a1 q cap1 zs ∧ Hid (FromTo (turnWkL xs (q : Int) q) zs k) ∧ Below w.heap.size w wr) (fun i _ => q - (intOf i).toNat)
      case atStart => exact ⟨0, _, Nat.zero_le _, rfl, hown2, hid (fun i hi => by omega), hb02⟩
      case round =>
        clear hown2 hb02
        obtain ⟨k, zs, hk, rfl, hz, HF, hb⟩ := hrel
        by_cases hlt : k < q
        · have hh := h.below hb (Nat.le_refl _)
          obtain ⟨g1, rfl, hg1, hg2, hg3, hg4⟩ := hz.opened (by omega)
          have hgk := hg3 k hlt
          have hgf := hg4 k
          have hbl := below_le xs ((q : Int) - k)
          rw [HL.out] at hbl
          obtain ⟨s1, s2⟩ := hz.set k ((n : Int) - (below xs ((q : Int) - k) : Int))
          have HF2 : Hid (FromTo (turnWkL xs (q : Int) q) (zs.set k ((n : Int) - (below xs ((q : Int) - k) : Int))) (k + 1)) := hid (by
            intro i hi
            rw [nth_set (by rw [hz.len]; exact hlt)]
            by_cases e : k = i
            · subst e; rw [if_pos rfl, HN.out _ hlt]
            · rw [if_neg e]; exact HF.out i (by omega))
          have hb2 := hb.setCell (p := ⟨g1, k, none⟩) (show w.heap.size ≤ g1 by omega) (.int .i64 ((n : Int) - (below xs ((q : Int) - k) : Int)))
          clear hg3 hg4 s2
          go_wp2_with (go_at_call 86; refine (cBelow_any _ _ _ xs ((q : Int) - k) _ hh).mono ?_; rintro e w' ⟨rfl, rfl⟩)
          go_roundw
          case rel => exact ⟨k + 1, _, by omega, by go_num, s1, HF2, hb2⟩
          case measure => simp [intOf]; omega
        · obtain rfl : q = k := by omega
          have HE : Hid (turnWkL xs (q : Int) q = zs) := hid (ext_nth (by rw [HLL.out, hz.len]) (fun i hi => (HF.out i (by rw [HLL.out] at hi; exact hi)).symm))
          go_wp2_with fail
          go_ret2
          exact postInts (by rw [HR.out, HE.out]) (hz.mono hsz) hb
    · have HR : Hid (turnWkOf xs (q : Int) = ([], false)) := hid (by simp [turnWkOf, h.len, hs])
      have HG := hid hg
      have HS : Hid (isSlopeOf (q : Int) (n : Int) = false) := hid (Bool.eq_false_iff.2 hs)
      clear hg hx hs
      go_enter Try.func38, Try.ntmps38
      go_wp2_with fail
      refine (lineOf_any _ _ _ _ _).mono ?_
      rintro e w0 ⟨rfl, hb0⟩
      go_wp2_with fail
      refine (lineWalk_any _ _ _ _ _ _ (h.below hb0 (Nat.le_refl _))).mono ?_
      rintro e w1 ⟨rfl, hb1⟩
      rw [HG.out]
      have hb01 := hb0.trans (hb1.mono hb0.size)
      go_wp2_with fail
      refine (implIsSlope_any _ _ _).mono ?_
      rintro e w1' ⟨rfl, hb1'⟩
      rw [HS.out]
      have hb01' := hb01.trans (hb1'.mono hb01.size)
      go_wp2_with fail
      go_ret2
      exact postInts_no HR.out hb01'
  · have HR : Hid (turnWkOf xs ac = ([], false)) := hid (by simp [turnWkOf, hg])
    have HG := hid (Bool.eq_false_iff.2 hg)
    clear hg
    go_enter Try.func38, Try.ntmps38
    go_wp2_with fail
    refine (lineOf_any _ _ _ _ _).mono ?_
    rintro e w0 ⟨rfl, hb0⟩
    go_wp2_with fail
    refine (lineWalk_any _ _ _ _ _ _ (h.below hb0 (Nat.le_refl _))).mono ?_
    rintro e w1 ⟨rfl, hb1⟩
    rw [HG.out]
    have hb01 := hb0.trans (hb1.mono hb0.size)
    go_wp2_with fail
    go_ret2
    exact postInts_no HR.out hb01
end Go.Proofs.Ytfkejkkplafciad
