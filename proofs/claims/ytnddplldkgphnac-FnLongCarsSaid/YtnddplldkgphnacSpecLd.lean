/- The model's functions of chapter 5, by their contracts: those over cars that look back, defects, places needed, stretched lists. -/
import Derived.Test.YtnddplldkgphnacSpecLb
import Derived.Test.YtnddplldkgphnacSpecLp
namespace Go.Proofs.Ytnddplldkgphnac
open Go.RowKit

theorem loBacks_any (k : Int) (w : World) : Calls Try.prog 69 #[.int .i64 k] w fun e w' => e = .returned (.bool (inB k 0 8)) ∧ w = w' := by
  go_enter Try.func69, Try.ntmps69
  go_wp2_with (go_at_call 76; refine (l1In_any _ _ _ _).mono ?_; rintro e w' ⟨rfl, rfl⟩)
  go_ret
  exact ⟨rfl, rfl⟩

/-- The two tests ahead of driving back. -/
theorem backB_parts {xs : List Int} {p k : Int} : backB xs p k = true ↔ good xs p = true ∧ inB k 0 8 = true := by simp [backB]

set_option maxHeartbeats 800000 in
theorem specDriveBack_any (a : Option Addr) (n cap : Nat) (xs : List Int) (p k0 : Int) (w : World) (h : Has w a n cap xs) :
    Calls Try.prog 31 #[.slice a n cap, .int .i64 p, .int .i64 k0] w (PostInts w (driveBackOf xs p k0)) := by
  by_cases hg : good xs p = true
  · obtain ⟨g1, g2, g3, g4⟩ := good_nth hg h.len
    have HG := hid hg
    by_cases hk : inB k0 0 8 = true
    · have HK := hid hk
      obtain ⟨m, rfl⟩ : ∃ m : Nat, k0 = (m : Int) := ⟨k0.toNat, by have := inB_iff.1 hk; omega⟩
      obtain ⟨P, rfl⟩ : ∃ P : Nat, p = (P : Int) := ⟨p.toNat, by omega⟩
      have hm8 : m ≤ 8 := by have := inB_iff.1 hk; omega
      have hcal := fun w1 (hb : Below w.heap.size w w1) => loBack_any a n cap P m xs w1 (h.below hb (Nat.le_refl _)) g1 (by omega) hm8 g4
      have HC := hid hcal
      by_cases hm : hasB (backs P m xs) (-1) = true
      · have HR : Hid (driveBackOf xs P m = ([], false)) := hid (by simp [driveBackOf, hm])
        have HM := hid hm
        clear hg hk hm hcal g4
        go_enter Try.func31, Try.ntmps31
        go_wp2_with (first | (go_at_call 68; refine (paGood_any _ _ _ _ _ _ h).mono ?_; rintro e w' ⟨rfl, rfl⟩; rw [HG.out]) | (go_at_call 69; refine (loBacks_any _ _).mono ?_; rintro e w' ⟨rfl, rfl⟩; rw [HK.out]))
        refine (HC.out _ (Below.refl _ _)).mono ?_
        rintro e w1 ⟨a1, cap1, rfl, hown1, hb1⟩
        go_wp2_with (go_at_call 71; refine (l1Has_any _ _ _ _ _ _ hown1.has).mono ?_; rintro e w' ⟨rfl, rfl⟩; rw [HM.out])
        go_ret2
        exact postInts_no HR.out hb1
      · have hm' : hasB (backs P m xs) (-1) = false := by simpa using hm
        have HR : Hid (driveBackOf xs P m = (backs P m xs, true)) := hid (by simp [driveBackOf, backB, hg, hk, hm'])
        have HM := hid hm'
        clear hg hk hm hm' hcal g4
        go_enter Try.func31, Try.ntmps31
        go_wp2_with (first | (go_at_call 68; refine (paGood_any _ _ _ _ _ _ h).mono ?_; rintro e w' ⟨rfl, rfl⟩; rw [HG.out]) | (go_at_call 69; refine (loBacks_any _ _).mono ?_; rintro e w' ⟨rfl, rfl⟩; rw [HK.out]))
        refine (HC.out _ (Below.refl _ _)).mono ?_
        rintro e w1 ⟨a1, cap1, rfl, hown1, hb1⟩
        go_wp2_with (go_at_call 71; refine (l1Has_any _ _ _ _ _ _ hown1.has).mono ?_; rintro e w' ⟨rfl, rfl⟩; rw [HM.out])
        go_ret2
        exact postInts HR.out hown1 hb1
    · have HR : Hid (driveBackOf xs p k0 = ([], false)) := hid (by simp [driveBackOf, backB, hk])
      have HK := hid hk
      clear hg hk g4
      go_enter Try.func31, Try.ntmps31
      go_wp2_with (first | (go_at_call 68; refine (paGood_any _ _ _ _ _ _ h).mono ?_; rintro e w' ⟨rfl, rfl⟩; rw [HG.out]) | (go_at_call 69; refine (loBacks_any _ _).mono ?_; rintro e w' ⟨rfl, rfl⟩; rw [Bool.eq_false_iff.2 HK.out]))
      go_ret2
      exact postInts_no HR.out (Below.refl _ _)
  · have HR : Hid (driveBackOf xs p k0 = ([], false)) := hid (by simp [driveBackOf, backB, hg])
    have HG := hid hg
    clear hg
    go_enter Try.func31, Try.ntmps31
    go_wp2_with (first | (go_at_call 68; refine (paGood_any _ _ _ _ _ _ h).mono ?_; rintro e w' ⟨rfl, rfl⟩; rw [Bool.eq_false_iff.2 HG.out]))
    go_ret2
    exact postInts_no HR.out (Below.refl _ _)

set_option maxHeartbeats 800000 in
theorem specDoBack_any (a : Option Addr) (n cap : Nat) (xs : List Int) (p k0 : Int) (w : World) (h : Has w a n cap xs) :
    Calls Try.prog 33 #[.slice a n cap, .int .i64 p, .int .i64 k0] w (PostBools w (doBackOf xs p k0)) := by
  by_cases hg : good xs p = true
  · obtain ⟨g1, g2, g3, g4⟩ := good_nth hg h.len
    have HG := hid hg
    by_cases hk : inB k0 0 8 = true
    · have HK := hid hk
      obtain ⟨m, rfl⟩ : ∃ m : Nat, k0 = (m : Int) := ⟨k0.toNat, by have := inB_iff.1 hk; omega⟩
      obtain ⟨P, rfl⟩ : ∃ P : Nat, p = (P : Int) := ⟨p.toNat, by omega⟩
      have hm8 : m ≤ 8 := by have := inB_iff.1 hk; omega
      have hcal := loBack_any a n cap P m xs w h g1 (by omega) hm8 g4
      have HC := hid hcal
      have HR : Hid (doBackOf xs P m = (!hasB (backs P m xs) (-1), true)) := hid (by simp [doBackOf, backB, hg, hk])
      clear hg hk hcal g4
      go_enter Try.func33, Try.ntmps33
      go_wp2_with (first | (go_at_call 68; refine (paGood_any _ _ _ _ _ _ h).mono ?_; rintro e w' ⟨rfl, rfl⟩; rw [HG.out]) | (go_at_call 69; refine (loBacks_any _ _).mono ?_; rintro e w' ⟨rfl, rfl⟩; rw [HK.out]))
      refine HC.out.mono ?_
      rintro e w1 ⟨a1, cap1, rfl, hown1, hb1⟩
      go_wp2_with (go_at_call 71; refine (l1Has_any _ _ _ _ _ _ hown1.has).mono ?_; rintro e w' ⟨rfl, rfl⟩)
      go_ret2
      exact postBools HR.out hb1
    · have HR : Hid (doBackOf xs p k0 = (false, false)) := hid (by simp [doBackOf, backB, hk])
      have HK := hid hk
      clear hg hk g4
      go_enter Try.func33, Try.ntmps33
      go_wp2_with (first | (go_at_call 68; refine (paGood_any _ _ _ _ _ _ h).mono ?_; rintro e w' ⟨rfl, rfl⟩; rw [HG.out]) | (go_at_call 69; refine (loBacks_any _ _).mono ?_; rintro e w' ⟨rfl, rfl⟩; rw [Bool.eq_false_iff.2 HK.out]))
      go_ret2
      exact postBools HR.out (Below.refl _ _)
  · have HR : Hid (doBackOf xs p k0 = (false, false)) := hid (by simp [doBackOf, backB, hg])
    have HG := hid hg
    clear hg
    go_enter Try.func33, Try.ntmps33
    go_wp2_with (first | (go_at_call 68; refine (paGood_any _ _ _ _ _ _ h).mono ?_; rintro e w' ⟨rfl, rfl⟩; rw [Bool.eq_false_iff.2 HG.out]))
    go_ret2
    exact postBools HR.out (Below.refl _ _)

theorem leastFrom_step {xs : List Int} {p : Int} {f k : Nat} (h : hasB (backs p k xs) (-1) = true) : leastFrom xs p (f + 1) k = leastFrom xs p f (k + 1) := by rw [leastFrom, if_pos h]
theorem leastFrom_hit {xs : List Int} {p : Int} {f k : Nat} (h : hasB (backs p k xs) (-1) = false) : leastFrom xs p (f + 1) k = ((k : Int), true) := by rw [leastFrom, if_neg (by rw [h]; simp)]

set_option maxHeartbeats 800000 in
theorem specLeastBack_any (a : Option Addr) (n cap : Nat) (xs : List Int) (p : Int) (w : World) (h : Has w a n cap xs) :
    Calls Try.prog 35 #[.slice a n cap, .int .i64 p] w (PostInt w (leastBackOf xs p)) := by
  by_cases hg : good xs p = true
  · obtain ⟨g1, g2, g3, g4⟩ := good_nth hg h.len
    have HG := hid hg
    obtain ⟨P, rfl⟩ : ∃ P : Nat, p = (P : Int) := ⟨p.toNat, by omega⟩
    have hcal := fun m (hm : m ≤ 8) w1 (hb : Below w.heap.size w w1) => loBack_any a n cap P m xs w1 (h.below hb (Nat.le_refl _)) g1 (by omega) hm g4
    have HC := hid hcal
    have HR : Hid (leastBackOf xs P = leastFrom xs P 9 0) := hid (by simp [leastBackOf, hg])
    clear hg hcal g4
    go_enter Try.func35, Try.ntmps35
    go_wp2_with (go_at_call 68; refine (paGood_any _ _ _ _ _ _ h).mono ?_; rintro e w' ⟨rfl, rfl⟩; rw [HG.out])
    go_loopw [6] (fun i wr => ∃ k f : Nat, i = .int .i64 k ∧ k + f ≤ 9 ∧ 9 ≤ k + f ∧ Hid (leastFrom xs P 9 0 = leastFrom xs P f k) ∧ Below w.heap.size w wr) (fun i _ => 9 - (intOf i).toNat)
    case atStart => exact ⟨0, 9, rfl, by omega, by omega, hid rfl, Below.refl _ _⟩
    case round =>
      obtain ⟨k, f, rfl, hf1, hf2, HL, hb⟩ := hrel
      cases f with
      | zero =>
        go_wp2_with fail
        go_ret2
        exact postInt (by rw [HR.out, HL.out]; rfl) hb
      | succ f =>
        have hk8 : k ≤ 8 := by omega
        have hbs := hb.size
        by_cases hm : hasB (backs P k xs) (-1) = true
        · have HM := hid hm
          have HS := hid (leastFrom_step (f := f) hm)
          clear hm
          go_wp2_with fail
          refine (HC.out k hk8 _ hb).mono ?_
          rintro e w1 ⟨a1, cap1, rfl, hown1, hb1⟩
          go_wp2_with (go_at_call 71; refine (l1Has_any _ _ _ _ _ _ hown1.has).mono ?_; rintro e w' ⟨rfl, rfl⟩; rw [HM.out])
          go_roundw
          case rel => exact ⟨k + 1, f, by go_num, by omega, by omega, hid (by rw [HL.out, HS.out]), hb.trans (hb1.mono hbs)⟩
          case measure => simp [intOf]; omega
        · have hm' : hasB (backs P k xs) (-1) = false := by simpa using hm
          have HM := hid hm'
          have HS := hid (leastFrom_hit (f := f) hm')
          clear hm hm'
          go_wp2_with fail
          refine (HC.out k hk8 _ hb).mono ?_
          rintro e w1 ⟨a1, cap1, rfl, hown1, hb1⟩
          go_wp2_with (go_at_call 71; refine (l1Has_any _ _ _ _ _ _ hown1.has).mono ?_; rintro e w' ⟨rfl, rfl⟩; rw [HM.out])
          go_ret2
          exact postInt (by rw [HR.out, HL.out, HS.out]) (hb.trans (hb1.mono hbs))
  · have HR : Hid (leastBackOf xs p = (0, false)) := hid (by simp [leastBackOf, hg])
    have HG := hid hg
    clear hg
    go_enter Try.func35, Try.ntmps35
    go_wp2_with (go_at_call 68; refine (paGood_any _ _ _ _ _ _ h).mono ?_; rintro e w' ⟨rfl, rfl⟩; rw [Bool.eq_false_iff.2 HG.out])
    go_ret2
    exact postInt HR.out (Below.refl _ _)

theorem small_of {ls : List Int} (h : ∀ i, i < ls.length → 1 ≤ nth ls i ∧ nth ls i ≤ 12) : ∀ x ∈ ls, 0 ≤ x := fun x hx => by
  obtain ⟨j, hj, e⟩ := List.getElem_of_mem hx
  have := h j hj
  have e2 : nth ls j = x := by simp [nth, hj, e]
  omega

set_option maxHeartbeats 2000000 in
theorem specStretch_any (a b : Option Addr) (n cap m capl : Nat) (xs ls : List Int) (w : World) (h : Has w a n cap xs) (h' : Has w b m capl ls) :
    Calls Try.prog 25 #[.slice a n cap, .slice b m capl] w (PostInts w (stretchOf xs ls)) := by
  have HN := hid h.len
  have HM := hid h'.len
  by_cases hp : isPark xs = true
  · have HP := hid hp
    by_cases hl : lenB ls = true
    · have HL := hid hl
      by_cases hmn : m = n
      · have HR : Hid (stretchOf xs ls = (stretch xs ls, true)) := hid (by simp [stretchOf, hp, hl, HN.out, HM.out, hmn])
        have HMN := hid hmn
        have hbe : ((m : Int) != (n : Int)) = false := by simp [hmn]
        obtain ⟨-, t1, t2, -, -, hlb⟩ := lenB_sum hl
        have HSB := hid (fun (x : Int) k (hk : k ≤ ls.length) => strSum_bounds (order := drive n xs) (small_of hlb) x k hk)
        have HST := hid (fun k (hk : k < xs.length) => stretch_take (ls := ls) hk)
        obtain ⟨p1, p2, -⟩ := isPark_iff.1 hp
        have hge : ∀ i, i < n → 0 ≤ nth xs i ∧ nth xs i ≤ (n : Int) - 1 := fun i hi => by
          have := p2 _ (nth_mem (xs := xs) (i := i) (by rw [HN.out]; exact hi))
          rw [HN.out] at this
          exact this
        have HGE := hid hge
        have hn8 : n ≤ 8 := by have := HN.out; omega
        have HTK := hid (fun k (hk : k ≤ ls.length) => (total_lens (small_of hlb) k hk).2)
        have HLB := hid (fun i (hi : i < m) => hlb i (by rw [HM.out]; exact hi))
        clear hp hl hmn hlb hge
        go_enter Try.func25, Try.ntmps25
        go_wp2_with (first | (go_at_call 65; refine (paParking_any _ _ _ _ _ h).mono ?_; rintro e w1 ⟨rfl, hb1⟩; rw [HP.out]) | (go_at_call 50; refine (loLengths_any _ _ _ _ _ (h'.below hb1 (Nat.le_refl _))).mono ?_; rintro e w' ⟨rfl, rfl⟩; rw [HL.out]))
        refine (paDrive_any _ _ _ _ _ _ (h.below hb1 (Nat.le_refl _)) hn8 (by omega) HGE.out).mono ?_
        rintro e w2 ⟨a2, cap2, rfl, hown2, hb2⟩
        have hbw := hb1.trans (hb2.mono hb1.size)
        have hh2 := hown2.has
        have hs1 := hb1.size
        obtain ⟨od, hod⟩ : ∃ od, drive n xs = od := ⟨_, rfl⟩
        rw [hod] at hh2
        have HOD := hid hod
        clear hod hown2 hb2 hb1
        go_wp2_with fail
        go_loopw [7, 34] (fun o i wr => ∃ (k : Nat) (a' : Option Addr) (cap' : Nat), k ≤ n ∧ i = .int .i64 k ∧ o = .slice a' k cap' ∧ Own wr w2.heap.size a' k cap' ((stretch xs ls).take k) ∧ Below w2.heap.size w2 wr) (fun _ i _ => n - (intOf i).toNat)
        case atStart => exact ⟨0, none, 0, Nat.zero_le _, rfl, rfl, Own.nil _ _, Below.refl _ _⟩
        case round =>
          obtain ⟨k, a', cap', hk, rfl, rfl, hown, hb⟩ := hrel
          have hww := hbw.trans (hb.mono hbw.size)
          by_cases hlt : k < n
          · obtain ⟨b0, off, rfl, hbb, hc⟩ := h.2.2.2.2 (by omega)
            have hck : wr.cell? ⟨b0, off + k, none⟩ = some (.int .i64 (nth xs k)) := by rw [hww.cell (p := ⟨b0, off + k, none⟩) hbb]; exact hc k hlt
            have hh3 := hh2.below hb (Nat.le_refl _)
            have hl3 := h'.below hww (Nat.le_refl _)
            have HS := hid (HST.out k (by rw [HN.out]; exact hlt))
            generalize hx : nth xs k = x at *
            have HX := hid hx
            clear hc hx
            go_wp2_with fail
            go_loop [10, 40] (fun c i => ∃ (j : Nat) (v : Int), j ≤ n ∧ i = .int .i64 j ∧ c = .int .i64 v ∧ Hid (v = strSum od ls x j)) (fun _ i => n - (intOf i).toNat)
            case atStart => exact ⟨0, 0, Nat.zero_le _, rfl, rfl, hid rfl⟩
            case round =>
              obtain ⟨j, v, hj, rfl, rfl, HV⟩ := hrel
              by_cases hjn : j < n
              · obtain ⟨b2, off2, rfl, hb2, hc2⟩ := hh3.2.2.2.2 (by omega)
                obtain ⟨b3, off3, rfl, hb3, hc3⟩ := hl3.2.2.2.2 (by have := HMN.out; omega)
                have hjm : j < m := by rw [HMN.out]; exact hjn
                have hd2 := hc2 j hjn
                have hd3 := hc3 j hjm
                obtain ⟨v0, v1⟩ := HSB.out x j (by rw [HM.out]; omega)
                have v2 := HTK.out j (by rw [HM.out]; omega)
                rw [HOD.out, ← HV.out] at v0 v1
                obtain ⟨l0, l1⟩ := HLB.out j hjm
                clear hc2 hc3
                by_cases ht : nth od j < x
                · have HV2 : Hid (strSum od ls x (j + 1) = v + nth ls j) := hid (by rw [strSum, if_pos ht, HV.out])
                  go_wp2_with fail
                  go_round
                  case rel => exact ⟨j + 1, v + nth ls j, by omega, by go_num, by go_num, hid HV2.out.symm⟩
                  case measure => simp [intOf]; omega
                · have HV2 : Hid (strSum od ls x (j + 1) = v) := hid (by rw [strSum, if_neg ht, HV.out]; omega)
                  go_wp2_with fail
                  go_round
                  case rel => exact ⟨j + 1, v, by omega, by go_num, rfl, hid HV2.out.symm⟩
                  case measure => simp [intOf]; omega
              · obtain rfl : j = n := by omega
                have HVV : Hid (v = strSum (drive xs.length xs) ls x ls.length) := hid (by rw [HN.out, HM.out, HMN.out, HOD.out, HV.out])
                have hbs := hb.size
                go_wp2_with (at_builtin; refine wpList_append_int _ rfl _ _ rfl w2.heap.size _ _ _ _ _ rfl rfl hown (by omega) hbs ?_; intro a3 cap3 w3 hown3 hb3)
                go_roundw
                case rel => exact ⟨k + 1, a3, cap3, by omega, by go_num, rfl, by rw [HS.out, ← HVV.out]; exact hown3, hb.trans hb3⟩
                case measure => simp [intOf]; omega
          · obtain rfl : k = n := by omega
            go_wp2_with fail
            go_ret2
            exact postInts HR.out (by rw [List.take_of_length_le (by rw [length_stretch, HN.out]; omega)] at hown; exact hown.mono hbw.size) hww
      · have HR : Hid (stretchOf xs ls = ([], false)) := hid (by
          have : ¬ n = m := fun e => hmn e.symm
          simp [stretchOf, HN.out, HM.out, this])
        have hbe : ((m : Int) != (n : Int)) = true := by simp; omega
        clear hp hl hmn
        go_enter Try.func25, Try.ntmps25
        go_wp2_with (first | (go_at_call 65; refine (paParking_any _ _ _ _ _ h).mono ?_; rintro e w1 ⟨rfl, hb1⟩; rw [HP.out]) | (go_at_call 50; refine (loLengths_any _ _ _ _ _ (h'.below hb1 (Nat.le_refl _))).mono ?_; rintro e w' ⟨rfl, rfl⟩; rw [HL.out]))
        go_ret2
        exact postInts_no HR.out hb1
    · have HR : Hid (stretchOf xs ls = ([], false)) := hid (by simp [stretchOf, hl])
      have HL := hid hl
      clear hp hl
      go_enter Try.func25, Try.ntmps25
      go_wp2_with (first | (go_at_call 65; refine (paParking_any _ _ _ _ _ h).mono ?_; rintro e w1 ⟨rfl, hb1⟩; rw [HP.out]) | (go_at_call 50; refine (loLengths_any _ _ _ _ _ (h'.below hb1 (Nat.le_refl _))).mono ?_; rintro e w' ⟨rfl, rfl⟩; rw [Bool.eq_false_iff.2 HL.out]))
      go_ret2
      exact postInts_no HR.out hb1
  · have HR : Hid (stretchOf xs ls = ([], false)) := hid (by simp [stretchOf, hp])
    have HP := hid hp
    clear hp
    go_enter Try.func25, Try.ntmps25
    go_wp2_with (first | (go_at_call 65; refine (paParking_any _ _ _ _ _ h).mono ?_; rintro e w1 ⟨rfl, hb1⟩; rw [Bool.eq_false_iff.2 HP.out]))
    go_ret2
    exact postInts_no HR.out hb1
end Go.Proofs.Ytnddplldkgphnac
