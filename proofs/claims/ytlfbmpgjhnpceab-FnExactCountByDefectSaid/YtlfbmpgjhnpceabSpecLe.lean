/- The model's counts by defects, by contract. -/
import Derived.Test.YtlfbmpgjhnpceabSpecLa
import Derived.Test.YtlfbmpgjhnpceabSpecLd
import Derived.Test.YtlfbmpgjhnpceabMathDf
namespace Go.Proofs.Ytlfbmpgjhnpceab
open Go.RowKit

theorem grown5_on {w w' w'' : World} {r : Option Nat} (h : w.grownBy w' r) (hb : Below w'.heap.size w' w'') : w.grownBy w'' r :=
  ⟨hb.os.trans h.os, hb.tape.trans h.tape, hb.output.trans h.output, Nat.le_trans h.size hb.size, fun j hj hne => (hb.block j (Nat.lt_of_lt_of_le hj h.size)).trans (h.block j hj hne)⟩
theorem grown5_set {w w' : World} {g i : Nat} (h : w.grownBy w' (some g)) (v : Value) : w.grownBy (w'.setCell ⟨g, i, none⟩ v) (some g) :=
  ⟨h.os, h.tape, h.output, by simpa using h.size, fun j hj hne => by
    rw [heap_setCell_other w' ⟨g, i, none⟩ j v (by intro e; exact hne (by simp [e]))]
    exact h.block j hj hne⟩
theorem hist5_all {n : Nat} {zs : List Int} {N : Nat} (h : Hist5 (defTs n) n N zs) (hN : (defTs n).length = N) (hl : zs.length = n) : zs = byDefect n := by
  refine ext_nth (by simp [byDefect, hl]) fun i hi => ?_
  rw [h i (by omega), List.take_of_length_le (by omega)]
  simp [nth, byDefect, show i < n by omega]
theorem defTs_facts {n : Nat} (hn1 : 1 ≤ n) {k : Nat} (hk : k < n ^ n) {xs : List Int} (hx : xs = (allTried n).getD k []) (hl : xs.length = n) (hg : good xs n = true) : ∃ d : Nat, (fails (drive n xs) : Int) = (d : Int) ∧ d < n ∧ nth (defTs n) k = (d : Int) :=
  ⟨fails (drive n xs), rfl, fails_lt hn1 hl (good_iff.1 hg).2.2, by rw [nth_defTs hn1 hk, hx]⟩

set_option maxHeartbeats 2000000 in
theorem specByDefect_any (n : Int) (w : World) : Calls Try.prog 15 #[.int .i64 n] w (PostInts w (byDefectOf n)) := by
  by_cases hn : inB n 1 5 = true
  · obtain ⟨p, rfl⟩ : ∃ p : Nat, n = (p : Int) := ⟨n.toNat, by have := inB_iff.1 hn; omega⟩
    have hp1 : 1 ≤ p ∧ p ≤ 5 := by have := inB_iff.1 hn; omega
    obtain ⟨hp1, hp5⟩ := hp1
    have HN := hid hn
    have HR : Hid (byDefectOf p = (byDefect p, true)) := hid (by simp [byDefectOf, hn])
    have HTL := hid (length_defTs hp1)
    clear hn
    go_enter Try.func15, Try.ntmps15
    go_wp2_with (first | (go_at_call 85; refine (l1In_any _ _ _ _).mono ?_; rintro e w' ⟨rfl, rfl⟩; rw [HN.out]) | (at_make; refine wpList_make_ints _ rfl _ _ rfl p rfl rfl (by omega) ?_; intro a1 cap1 w1 hown1 hb1))
    refine (loAll_any p hp1 hp5 p 0 none 0 [] _ (by omega) (Has.nilAt none (by unfold maxLen; omega))).mono ?_
    rintro e w2 ⟨a2, q, cap2, rs, rfl, hown2, hn2, hb2⟩
    obtain ⟨hq, hrow⟩ := rows_tried hp1 hp5 hn2 hown2.len
    have HROW := hid hrow
    have HQ := hid hq
    have hq5 : q ≤ 3125 := by
      rw [hq]
      exact Nat.le_trans (Nat.pow_le_pow_left hp5 p) (Nat.pow_le_pow_right (by omega) hp5)
    have ho1 := hown1.below hb2 (Nat.le_refl _)
    obtain ⟨g1, rfl, hg1, hg2, -, -⟩ := hown1.opened (by omega)
    have hbw := hb1.trans (hb2.mono hb1.size)
    have HGE := hid (fun i (hi : i < q) => (show ∀ x, (nthR rs i).a = some x → x.block ≠ g1 from fun x hx => by
      have := (hown2.2.2.2.1 i hi).ge x hx
      omega))
    have HRR := hid hown2.has
    have HGA := hid (show ∀ x, a2 = some x → x.block ≠ g1 from fun x hx => by
      subst hx
      have := (hown2.1.lt x.block rfl).1
      omega)
    have HH0 := hid (hist5_first (defTs p) p)
    have hlt2 : g1 < w2.heap.size := Nat.lt_of_lt_of_le hg2 hb2.size
    clear hn2 hq hrow hown2 hown1 hb1 hb2
    go_wp2_with fail
    go_loopw [15] (fun i wr => ∃ (k : Nat) (zs : List Int), k ≤ q ∧ i = .int .i64 (k : Int) ∧ Own wr w.heap.size (some ⟨g1, 0, none⟩) p cap1 zs ∧ Hid (Hist5 (defTs p) p k zs) ∧ w2.grownBy wr (some g1)) (fun i _ => q - (intOf i).toNat)
    case atStart => exact ⟨0, _, Nat.zero_le _, rfl, ho1, HH0, World.grownBy.refl _ _⟩
    case round =>
      clear ho1 HH0
      obtain ⟨k, zs, hk, rfl, hz, HH, hgr⟩ := hrel
      by_cases hkq : k < q
      · obtain ⟨p1, p2, p3⟩ := HROW.out k hkq
        obtain ⟨r0, r1, r2, r3, r4, r5⟩ := HRR.out
        obtain ⟨b, off, rfl, hbb, hc⟩ := r4 (by omega)
        have hbg := HGA.out _ rfl
        have hck : wr.cell? ⟨b, off + k, none⟩ = some (nthR rs k).v := hgr.cell (hc k hkq) (by simpa using hbg)
        have hrow := (r5 k hkq).kept hgr (HGE.out k hkq)
        obtain ⟨d, hd, hdp, hdn⟩ := defTs_facts hp1 (by rw [← HQ.out]; exact hkq) p1 p2 p3
        rw [p2] at hrow
        unfold Rw.v at hck
        rw [p2] at hck
        obtain ⟨g1', g2', g3', g4'⟩ := good_nth p3 p2
        have HH2 := hid (hist5_step HH.out (by rw [HTL.out, ← HQ.out]; exact hkq) hdn hdp hz.len)
        obtain ⟨z0, z1⟩ := hist5_le HH.out hdp (by rw [HTL.out, ← HQ.out]; omega)
        rw [HTL.out, ← HQ.out] at z1
        have HD := hid hd
        generalize (nthR rs k).xs = xs at *
        generalize (nthR rs k).a = ax at *
        generalize (nthR rs k).c = cx at *
        have HL := hid (loDefect_any ax p cx xs p wr hrow g1' g3' g4')
        clear hc r0 r1 r2 r3 r4 r5 p1 p2 p3 g4' hd hdn hrow
        go_wp2_with fail
        refine HL.out.mono ?_
        rintro e w5 ⟨rfl, hb5⟩
        rw [HD.out]
        have hz5 := hz.below hb5 (Nat.le_refl _)
        obtain ⟨g', hga, -, -, hcg, hfg⟩ := hz5.opened (by omega)
        cases hga
        have hgd := hcg d hdp
        have hgf := hfg d
        have hdi : (d : Int) < (p : Int) := by omega
        have hdz : (0 : Int) ≤ (d : Int) := by omega
        clear hcg hfg
        go_wp2_with fail
        go_roundw
        case rel => exact ⟨k + 1, _, by omega, by go_num, (hz5.set d _).1, HH2, grown5_set (grown5_on hgr hb5) _⟩
        case measure => simp [intOf]; omega
      · obtain rfl : k = q := by omega
        have HF := hid (hist5_all HH.out (by rw [HTL.out, HQ.out]) hz.len)
        go_wp2_with fail
        go_ret2
        exact postInts (by rw [HR.out, ← HF.out]) hz (hbw.trans (below_grown hgr hbw.size (fun j hj => by cases hj; exact hg1)))
  · have HR : Hid (byDefectOf n = ([], false)) := hid (by simp [byDefectOf, hn])
    have HN := hid hn
    clear hn
    go_enter Try.func15, Try.ntmps15
    go_wp2_with (go_at_call 85; refine (l1In_any _ _ _ _).mono ?_; rintro e w' ⟨rfl, rfl⟩; rw [Bool.eq_false_iff.2 HN.out])
    go_ret2
    exact postInts_no HR.out (Below.refl _ _)
end Go.Proofs.Ytlfbmpgjhnpceab
