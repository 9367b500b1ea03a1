/- Chapter 9: CountUnit, by the contracts of the functions. -/
import Derived.Test.YtehdccfkkfkciabUnitA
import Derived.Test.YtehdccfkkfkciabImplAll
import Derived.Test.YtehdccfkkfkciabRowA
namespace Go.Proofs.Ytehdccfkkfkciab
open Go.RowKit

def countUnitOf (n m : Int) : Int × Bool := if inB n 0 5 && inB m 0 8 then (((listL n.toNat n.toNat []).countP (fun xs => unitB xs m) : Nat), true) else (0, false)
theorem cntU_yes {n : Nat} {m : Int} (h : inB (n : Int) 0 5 = true) (hm : inB m 0 8 = true) : countUnitOf n m = ((((listL n n []).countP (fun xs => unitB xs m) : Nat) : Int), true) := by simp [countUnitOf, h, hm]
theorem cntU_no {n m : Int} (h : ¬ (inB n 0 5 = true ∧ inB m 0 8 = true)) : countUnitOf n m = (0, false) := by
  unfold countUnitOf
  rw [if_neg (by simpa using h)]
theorem cnt_take_yes {L : List (List Int)} {p : List Int → Bool} {k : Nat} (h : k < L.length) (hp : p (L.getD k []) = true) : (L.take (k + 1)).countP p = (L.take k).countP p + 1 := by
  rw [take_getD h, List.countP_append, List.countP_singleton, if_pos hp]
theorem cnt_take_no {L : List (List Int)} {p : List Int → Bool} {k : Nat} (h : k < L.length) (hp : p (L.getD k []) = false) : (L.take (k + 1)).countP p = (L.take k).countP p := by
  rw [take_getD h, List.countP_append, List.countP_singleton, if_neg (by rw [hp]; simp), Nat.add_zero]
theorem cnt_le_take (L : List (List Int)) (p : List Int → Bool) (k : Nat) : (L.take k).countP p ≤ k := Nat.le_trans List.countP_le_length (by simp; omega)

set_option maxHeartbeats 2000000 in
theorem specCntU_any (n m : Int) (w : World) : Calls Try.prog 8 #[.int .i64 n, .int .i64 m] w (PostInt w (countUnitOf n m)) := by
  by_cases hg : inB n 0 5 = true
  · have HG := hid hg
    by_cases hm : inB m 0 8 = true
    · obtain ⟨N, rfl⟩ : ∃ N : Nat, n = (N : Int) := ⟨n.toNat, by have := inB_iff.1 hg; omega⟩
      have hN : N ≤ 5 := by have := inB_iff.1 hg; omega
      have HA := hid (cntU_yes hg hm)
      have HM := hid hm
      have HPK := hid (all_chain (n := N) (by omega)).2.2.2
      clear hg hm
      go_enter Try.func8, Try.ntmps8
      go_wp2_with (first | (go_at_call 27; refine (l1In_any _ _ _ _).mono ?_; rintro e w' ⟨rfl, rfl⟩; rw [HG.out]) | (go_at_call 28; refine (cnCars_any _ _).mono ?_; rintro e w' ⟨rfl, rfl⟩; rw [HM.out]))
      refine (cnAll_any N hN N 0 none 0 [] _ (by omega) (Has.nilAt none (by unfold maxLen; omega)) (hid (fun i hi => by omega))).mono ?_
      rintro e w2 ⟨a2, q2, cap2, rs2, rfl, hown2, hn2, hb2⟩
      have hle2 := hown2.le
      have HN2 := hid hn2
      have HLEN := hid hown2.len
      have HLQ : Hid (q2 = (listL N N []).length) := hid (by rw [← hn2]; simp [numsOf, HLEN.out])
      have HO := hid hown2
      have hsz2 := hb2.size
      have HC := hown2.has
      clear hn2 hown2
      generalize listL N N [] = L at *
      go_wp2_with fail
      go_loopw [6, 20] (fun c i wr => ∃ (k v : Nat), k ≤ q2 ∧ v ≤ k ∧ i = .int .i64 (k : Int) ∧ c = .int .i64 (v : Int) ∧ Hid (v = (L.take k).countP (fun xs => unitB xs m)) ∧ Below w2.heap.size w2 wr) (fun _ i _ => q2 - (intOf i).toNat)
      case atStart => exact ⟨0, 0, Nat.zero_le _, Nat.le_refl _, rfl, rfl, hid rfl, Below.refl _ _⟩
      case round =>
        obtain ⟨k, v, hk, hv, rfl, rfl, HV, hb⟩ := hrel
        by_cases hlt : k < q2
        · have hkL : k < L.length := by rw [← HLQ.out]; exact hlt
          have HPA := hid (HPK.out k hkL).1
          have hrow := HO.out.row hlt
          have hrowr := hrow.has.below hb (Nat.le_refl _)
          have HXS : Hid ((nthR rs2 k).xs = L.getD k []) := hid (by rw [← HN2.out, numsOf_nth (by rw [HLEN.out]; exact hlt)])
          have FY := hid (fun h => cnt_take_yes (p := fun xs => unitB xs m) hkL h)
          have FN := hid (fun h => cnt_take_no (p := fun xs => unitB xs m) hkL h)
          obtain ⟨b2, off2, rfl, hbb2, hc2⟩ := HC.2.2.2.2.1 (by omega)
          have hck : wr.cell? ⟨b2, off2 + k, none⟩ = some (.slice (nthR rs2 k).a (nthR rs2 k).xs.length (nthR rs2 k).c) := by rw [hb.cell (p := ⟨b2, off2 + k, none⟩) hbb2]; exact hc2 k hlt
          have hbs := hb.size
          obtain ⟨a5, n5, c5, e1, e2, e3⟩ : ∃ a5 n5 c5, (nthR rs2 k).a = a5 ∧ (nthR rs2 k).xs.length = n5 ∧ (nthR rs2 k).c = c5 := ⟨_, _, _, rfl, rfl, rfl⟩
          rw [e1, e2, e3] at hck hrowr
          rw [HXS.out] at hrowr
          clear hc2 hrow e1 e2 e3
          generalize L.getD k [] = ys at *
          go_wp2_with fail
          refine (vaUnit_any _ _ _ _ _ _ hrowr HPA.out).mono ?_
          rintro e w5 ⟨rfl, hb5⟩
          by_cases hp : unitB ys m = true
          · have HF := hid (FY.out hp)
            rw [hp]
            clear hp FY FN
            go_wp2_with fail
            go_roundw
            case rel => exact ⟨k + 1, v + 1, by omega, by omega, by go_num, by go_num, hid (by rw [HF.out, HV.out]), hb.trans (hb5.mono hbs)⟩
            case measure => simp [intOf]; omega
          · have HF := hid (FN.out (Bool.eq_false_iff.2 hp))
            rw [Bool.eq_false_iff.2 hp]
            clear hp FY FN
            go_wp2_with fail
            go_roundw
            case rel => exact ⟨k + 1, v, by omega, by omega, by go_num, rfl, hid (by rw [HF.out, HV.out]), hb.trans (hb5.mono hbs)⟩
            case measure => simp [intOf]; omega
        · obtain rfl : k = q2 := by omega
          have HF : Hid (v = L.countP (fun xs => unitB xs m)) := hid (by rw [HV.out, List.take_of_length_le (by rw [← HLQ.out]; exact Nat.le_refl _)])
          go_wp2_with fail
          go_ret2
          exact postInt (by rw [HA.out, ← HF.out]) (hb2.trans (hb.mono hsz2))
    · have HA := hid (cntU_no (n := n) (m := m) (fun h => hm h.2))
      have HM := hid hm
      clear hg hm
      go_enter Try.func8, Try.ntmps8
      go_wp2_with (first | (go_at_call 27; refine (l1In_any _ _ _ _).mono ?_; rintro e w' ⟨rfl, rfl⟩; rw [HG.out]) | (go_at_call 28; refine (cnCars_any _ _).mono ?_; rintro e w' ⟨rfl, rfl⟩; rw [Bool.eq_false_iff.2 HM.out]))
      go_ret2
      exact postInt HA.out (Below.refl _ _)
  · have HA := hid (cntU_no (n := n) (m := m) (fun h => hg h.1))
    have HG := hid hg
    clear hg
    go_enter Try.func8, Try.ntmps8
    go_wp2_with (go_at_call 27; refine (l1In_any _ _ _ _).mono ?_; rintro e w' ⟨rfl, rfl⟩; rw [Bool.eq_false_iff.2 HG.out])
    go_ret2
    exact postInt HA.out (Below.refl _ _)
set_option maxHeartbeats 2000000 in
theorem implCntU_any (n m : Int) (w : World) : Calls Try.prog 9 #[.int .i64 n, .int .i64 m] w (PostInt w (countUnitOf n m)) := by
  by_cases hg : inB n 0 5 = true
  · obtain ⟨h0, h5⟩ := inB_iff.1 hg
    have h0' : ¬ n < 0 := by omega
    have h5' : ¬ (5 : Int) < n := by omega
    by_cases hm : inB m 0 8 = true
    · obtain ⟨N, rfl⟩ : ∃ N : Nat, n = (N : Int) := ⟨n.toNat, by omega⟩
      have HA := hid (cntU_yes hg hm)
      have HM := hid hm
      have hm0 : 0 ≤ m := (inB_iff.1 hm).1
      have HPK := hid (all_chain (n := N) (by omega)).2.2.2
      have HAL := hid (allOf_yes hg)
      clear hg hm
      go_enter Try.func9, Try.ntmps9
      go_wp2_with (go_at_call 31; refine (isMost_any _ _).mono ?_; rintro e w' ⟨rfl, rfl⟩; rw [HM.out])
      refine (allParking_any _ _).mono ?_
      rw [HAL.out]
      rintro e w2 ⟨a2, q2, cap2, rs2, rfl, hown2, hn2, hb2⟩
      replace hn2 : numsOf rs2 = listL N N [] := hn2
      have hle2 := hown2.le
      have HN2 := hid hn2
      have HLEN := hid hown2.len
      have HLQ : Hid (q2 = (listL N N []).length) := hid (by rw [← hn2]; simp [numsOf, HLEN.out])
      have HO := hid hown2
      have hsz2 := hb2.size
      have HC := hown2.has
      clear hn2 hown2 HAL
      generalize listL N N [] = L at *
      go_wp2_with fail
      go_loopw [8, 29] (fun c i wr => ∃ (k v : Nat), k ≤ q2 ∧ v ≤ k ∧ i = .int .i64 (k : Int) ∧ c = .int .i64 (v : Int) ∧ Hid (v = (L.take k).countP (fun xs => unitB xs m)) ∧ Below w2.heap.size w2 wr) (fun _ i _ => q2 - (intOf i).toNat)
      case atStart => exact ⟨0, 0, Nat.zero_le _, Nat.le_refl _, rfl, rfl, hid rfl, Below.refl _ _⟩
      case round =>
        obtain ⟨k, v, hk, hv, rfl, rfl, HV, hb⟩ := hrel
        by_cases hlt : k < q2
        · have hkL : k < L.length := by rw [← HLQ.out]; exact hlt
          have HPA := hid (HPK.out k hkL).1
          have hrow := HO.out.row hlt
          have hrowr := hrow.has.below hb (Nat.le_refl _)
          have HXS : Hid ((nthR rs2 k).xs = L.getD k []) := hid (by rw [← HN2.out, numsOf_nth (by rw [HLEN.out]; exact hlt)])
          have FY := hid (fun h => cnt_take_yes (p := fun xs => unitB xs m) hkL h)
          have FN := hid (fun h => cnt_take_no (p := fun xs => unitB xs m) hkL h)
          obtain ⟨b2, off2, rfl, hbb2, hc2⟩ := HC.2.2.2.2.1 (by omega)
          have hck : wr.cell? ⟨b2, off2 + k, none⟩ = some (.slice (nthR rs2 k).a (nthR rs2 k).xs.length (nthR rs2 k).c) := by rw [hb.cell (p := ⟨b2, off2 + k, none⟩) hbb2]; exact hc2 k hlt
          have hbs := hb.size
          obtain ⟨a5, n5, c5, e1, e2, e3⟩ : ∃ a5 n5 c5, (nthR rs2 k).a = a5 ∧ (nthR rs2 k).xs.length = n5 ∧ (nthR rs2 k).c = c5 := ⟨_, _, _, rfl, rfl, rfl⟩
          rw [e1, e2, e3] at hck hrowr
          rw [HXS.out] at hrowr
          clear hc2 hrow e1 e2 e3
          generalize L.getD k [] = ys at *
          go_wp2_with fail
          refine (implUnitB_any _ _ _ _ _ _ hrowr HPA.out hm0).mono ?_
          rintro e w5 ⟨rfl, hb5⟩
          by_cases hp : unitB ys m = true
          · have HF := hid (FY.out hp)
            rw [hp]
            clear hp FY FN
            go_wp2_with fail
            go_roundw
            case rel => exact ⟨k + 1, v + 1, by omega, by omega, by go_num, by go_num, hid (by rw [HF.out, HV.out]), hb.trans (hb5.mono hbs)⟩
            case measure => simp [intOf]; omega
          · have HF := hid (FN.out (Bool.eq_false_iff.2 hp))
            rw [Bool.eq_false_iff.2 hp]
            clear hp FY FN
            go_wp2_with fail
            go_roundw
            case rel => exact ⟨k + 1, v, by omega, by omega, by go_num, rfl, hid (by rw [HF.out, HV.out]), hb.trans (hb5.mono hbs)⟩
            case measure => simp [intOf]; omega
        · obtain rfl : k = q2 := by omega
          have HF : Hid (v = L.countP (fun xs => unitB xs m)) := hid (by rw [HV.out, List.take_of_length_le (by rw [← HLQ.out]; exact Nat.le_refl _)])
          go_wp2_with fail
          go_ret2
          exact postInt (by rw [HA.out, ← HF.out]) (hb2.trans (hb.mono hsz2))
    · have HA := hid (cntU_no (n := n) (m := m) (fun h => hm h.2))
      have HM := hid hm
      clear hg hm
      go_enter Try.func9, Try.ntmps9
      go_wp2_with (go_at_call 31; refine (isMost_any _ _).mono ?_; rintro e w' ⟨rfl, rfl⟩; rw [Bool.eq_false_iff.2 HM.out])
      go_ret2
      exact postInt HA.out (Below.refl _ _)
  · have HA := hid (cntU_no (n := n) (m := m) (fun h => hg h.1))
    have hc := inB_not.1 (Bool.eq_false_iff.2 hg)
    clear hg
    by_cases h1 : n < 0
    · go_enter Try.func9, Try.ntmps9
      go_wp2_with fail
      go_ret2
      exact postInt HA.out (Below.refl _ _)
    · have h2 : (5 : Int) < n := by omega
      go_enter Try.func9, Try.ntmps9
      go_wp2_with fail
      go_ret2
      exact postInt HA.out (Below.refl _ _)
end Go.Proofs.Ytehdccfkkfkciab
