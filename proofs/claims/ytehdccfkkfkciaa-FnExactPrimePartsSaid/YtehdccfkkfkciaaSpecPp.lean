/- Chapter 9: PrimeParts: the model's function, by its contract. -/
import Derived.Test.YtehdccfkkfkciaaMathVq
import Derived.Test.YtehdccfkkfkciaaSpecE
import Derived.Test.YtehdccfkkfkciaaPut
import Derived.Test.YtehdccfkkfkciaaPro
namespace Go.Proofs.Ytehdccfkkfkciaa
open Go.RowKit

theorem partAt_yes {xs : List Int} {k : Nat} {A B : Int} (h : k < xs.length) (h1 : A ≤ nth xs k) (h2 : nth xs k < B) : partAt (xs.take (k + 1)) A B = partAt (xs.take k) A B ++ [nth xs k - A] := by
  unfold partAt
  rw [take_succ_nth h, List.filter_append, List.map_append]
  simp [h1, h2]
theorem partAt_no {xs : List Int} {k : Nat} {A B : Int} (h : k < xs.length) (h1 : ¬ (A ≤ nth xs k ∧ nth xs k < B)) : partAt (xs.take (k + 1)) A B = partAt (xs.take k) A B := by
  unfold partAt
  rw [take_succ_nth h, List.filter_append, List.map_append]
  have : ([nth xs k].filter fun x => decide (A ≤ x) && decide (x < B)) = [] := by
    rw [List.filter_eq_nil_iff]
    intro x hx
    rw [List.mem_singleton] at hx
    subst hx
    simpa using h1
  rw [this]
  simp
theorem primeParts_succ {xs : List Int} {k q : Nat} (hq : (cutList xs).length = q + 1) (h : k < q) : (primeParts xs).take (k + 1) = (primeParts xs).take k ++ [partAt xs (nth (cutList xs) k) (nth (cutList xs) (k + 1))] := by
  have hl : k < (primeParts xs).length := by simp [primeParts, hq, h]
  rw [List.take_succ_eq_append_getElem hl]
  simp [primeParts]
theorem cutList_bounds {xs : List Int} (h8 : xs.length ≤ 8) (k : Nat) : 0 ≤ nth (cutList xs) k ∧ nth (cutList xs) k ≤ 8 := by
  by_cases hk : k < (cutList xs).length
  · have hm := nth_mem hk
    generalize nth (cutList xs) k = v at *
    unfold cutList at hm
    simp only [List.mem_cons, List.mem_append, List.not_mem_nil, or_false] at hm
    rcases hm with rfl | hm | rfl
    · omega
    · unfold idxs at hm
      obtain ⟨i, hi, rfl⟩ := List.mem_map.1 hm
      have := List.mem_range.1 (List.mem_filter.1 hi).1
      omega
    · omega
  · have : nth (cutList xs) k = 0 := by simp [nth, Nat.not_lt.1 hk]
    omega
theorem parts_empty {xs : List Int} (h : isPark xs = true) (hn : xs.length = 0) : primePartsOf xs = ([], true) := by
  obtain rfl := List.eq_nil_of_length_eq_zero hn
  simp [primePartsOf, h]
theorem parts_some {xs : List Int} (h : isPark xs = true) (hn : 0 < xs.length) : primePartsOf xs = (primeParts xs, true) := by
  have : xs ≠ [] := List.length_pos_iff.1 hn
  simp [primePartsOf, h, this]

set_option maxHeartbeats 4000000 in
theorem specPrimeParts_any (a : Option Addr) (n cap : Nat) (xs : List Int) (w : World) (h : Has w a n cap xs) :
    Calls Try.prog 13 #[.slice a n cap] w (PostRows w (primePartsOf xs)) := by
  have HL := hid h.len
  by_cases hg : isPark xs = true
  · have HG := hid hg
    by_cases hn : n = 0
    · have HR := hid (parts_empty hg (by rw [h.len]; exact hn))
      clear hg
      subst hn
      go_enter Try.func13, Try.ntmps13
      go_wp2_with (go_at_call 34; refine (paParking_any _ _ _ _ _ h).mono ?_; rintro e w1 ⟨rfl, hb1⟩; rw [HG.out])
      go_ret2
      exact postRows (rs := []) HR.out (OwnR.nil _ _) rfl hb1
    · have HR := hid (parts_some hg (by rw [h.len]; omega))
      have h8 : n ≤ 8 := by have := (isPark_iff.1 hg).1; rw [← h.len]; exact this
      have HX : Hid (∀ i, i < n → 0 ≤ nth xs i ∧ nth xs i ≤ 8) := hid (fun i hi => by have := (isPark_iff.1 hg).2.1 _ (nth_mem (xs := xs) (i := i) (by rw [h.len]; exact hi)); have := h.len; omega)
      have HCB := hid (cutList_bounds (xs := xs) (by rw [h.len]; exact h8))
      have hbe : ((n : Int) == 0) = false := by simp; omega
      clear hg
      go_enter Try.func13, Try.ntmps13
      go_wp2_with (go_at_call 34; refine (paParking_any _ _ _ _ _ h).mono ?_; rintro e w1 ⟨rfl, hb1⟩; rw [HG.out])
      have hl1 := own_lit1 w1 w1.heap.size 0 (Nat.le_refl _)
      have hba := (Below.refl w1.heap.size w1).alloc (Nat.le_refl _) (.cells #[.int .i64 0] 3)
      refine (paCuts_any _ _ _ _ _ ((h.below hb1 (Nat.le_refl _)).below hba (Nat.le_refl _))).mono ?_
      rintro e w2 ⟨a2, m2, c2, rfl, hown2, hb2⟩
      have hl2 := hl1.below hb2 (Nat.le_refl _)
      have hle2 := hown2.le
      have hm2 : m2 ≤ 8 := by have h5 := length_idxs (isCut xs) n; have h6 := hown2.len; omega
      have hba2 : w1.heap.size ≤ w2.heap.size := Nat.le_trans hba.size hb2.size
      have hb12 := hb1.trans ((hba.trans (hb2.mono hba.size)).mono hb1.size)
      go_wp2_with (first | (at_builtin; refine wpList_append_ints _ rfl _ _ rfl w1.heap.size _ _ _ _ _ _ _ _ rfl rfl hl2 hown2.has (by omega) hba2 ?_; intro a3 q3 c3 w3 hq3 hown3 hb3; have HQ3 := hid hq3; have hq9 : q3 ≤ 100 := (by omega); clear hq3) | (at_builtin; refine wpList_append_int _ rfl _ _ rfl w1.heap.size _ _ _ _ _ rfl rfl hown3 (by omega) (Nat.le_trans hba2 hb3.size) ?_; intro a4 c4 w4 hown4 hb4))
      have hcl : Hid (([0] ++ idxs (isCut xs) n) ++ [(n : Int)] = cutList xs) := hid (by unfold cutList; rw [HL.out]; rfl)
      rw [hcl.out] at hown4
      have hsz4 : w.heap.size ≤ w4.heap.size := Nat.le_trans (Nat.le_trans hb12.size hb3.size) hb4.size
      have hb14 := hb12.trans ((hb3.trans hb4).mono hb1.size)
      have HC4 := hown4.has
      have hcl4 := hown4.len
      have HSU := hid (fun k (hk : k < q3) => primeParts_succ (k := k) hcl4 hk)
      have HFU : Hid ((primeParts xs).take q3 = primeParts xs) := hid (List.take_of_length_le (by simp [primeParts, hcl4]))
      have HX4 := h.below hb14 (Nat.le_refl _)
      clear hl1 hba hl2 hown2 hb2 hb12 hown3 hb3 hb4 hown4 hcl4 hcl hb1
      generalize cutList xs = cl at *
      go_loopw [5, 6] (fun o kk wr => ∃ (k : Nat) (a' : Option Addr) (cap' : Nat) (rs : List Rw), k ≤ q3 ∧ kk = .int .i64 ((k : Int) + 1) ∧ o = .slice a' k cap' ∧ OwnR wr w4.heap.size a' k cap' rs ∧ Hid (numsOf rs = (primeParts xs).take k) ∧ Below w4.heap.size w4 wr) (fun _ kk _ => q3 + 1 - (intOf kk).toNat)
      case atStart => exact ⟨0, none, 0, [], Nat.zero_le _, rfl, rfl, OwnR.nil _ _, hid rfl, Below.refl _ _⟩
      case round =>
        obtain ⟨wo, rfl⟩ : ∃ wo : World, wo = wr := ⟨_, rfl⟩
        obtain ⟨k, a', cap', rs, hk, rfl, rfl, hown, HN, hb⟩ := hrel
        by_cases hlt : k < q3
        · obtain ⟨A0, A1⟩ := HCB.out k
          obtain ⟨B0, B1⟩ := HCB.out (k + 1)
          have HS := hid (HSU.out k hlt)
          obtain ⟨b2, off2, rfl, hbb2, hc2⟩ := HC4.2.2.2.2 (by omega)
          have hck1 : ∀ (wr : World), Below w4.heap.size w4 wr → wr.cell? ⟨b2, off2 + k, none⟩ = some (.int .i64 (nth cl k)) := fun wr hb => by rw [hb.cell (p := ⟨b2, off2 + k, none⟩) hbb2]; exact hc2 k (by omega)
          have hck2 : ∀ (wr : World), Below w4.heap.size w4 wr → wr.cell? ⟨b2, off2 + (k + 1), none⟩ = some (.int .i64 (nth cl (k + 1))) := fun wr hb => by rw [hb.cell (p := ⟨b2, off2 + (k + 1), none⟩) hbb2]; exact hc2 (k + 1) (by omega)
          have HK1 := hid hck1
          have HK2 := hid hck2
          have hszo := hb.size
          have z1 : ((k : Int) + 1) < ((q3 : Int) + 1) := by omega
          clear hc2 hck1 hck2
          generalize nth cl k = A at *
          generalize nth cl (k + 1) = Bv at *
          go_wp2_with fail
          go_loopw [7, 32] (fun p i wr => ∃ (j mp : Nat) (ap : Option Addr) (cp : Nat), j ≤ n ∧ mp ≤ j ∧ i = .int .i64 (j : Int) ∧ p = .slice ap mp cp ∧ Own wr wo.heap.size ap mp cp (partAt (xs.take j) A Bv) ∧ Below wo.heap.size wo wr) (fun _ i _ => n - (intOf i).toNat)
          case atStart => exact ⟨0, 0, none, 0, Nat.zero_le _, Nat.le_refl _, rfl, rfl, Own.nil _ _, Below.refl _ _⟩
          case round =>
            obtain ⟨j, mp, ap, cp, hj, hmp, rfl, rfl, hpart, hbi⟩ := hrel
            have hb2i := hb.trans (hbi.mono hszo)
            by_cases hlj : j < n
            · obtain ⟨x0, x8⟩ := HX.out j hlj
              obtain ⟨b1, off1, rfl, hbb1, hx1⟩ := HX4.2.2.2.2 (by omega)
              have hcx : wr.cell? ⟨b1, off1 + j, none⟩ = some (.int .i64 (nth xs j)) := by rw [hb2i.cell (p := ⟨b1, off1 + j, none⟩) hbb1]; exact hx1 j hlj
              have hcA := HK1.out wr hb2i
              have hcB := HK2.out wr hb2i
              have PY := hid (fun h1 h2 => partAt_yes (A := A) (B := Bv) (show j < xs.length by rw [HL.out]; exact hlj) h1 h2)
              have PN := hid (fun h1 => partAt_no (A := A) (B := Bv) (show j < xs.length by rw [HL.out]; exact hlj) h1)
              have w1' : IntKind.i64.wrap ((k : Int) + 1 - 1) = (k : Int) := by rw [IntKind.wrap_i64]; omega
              have w2' : (k : Int) + 1 - 1 = (k : Int) := by omega
              have zk : (k : Int) < (q3 : Int) + 1 := by omega
              have zk1 : ((k + 1 : Nat) : Int) < ((q3 + 1 : Nat) : Int) := by omega
              clear hx1
              generalize nth xs j = x at *
              have w3' : IntKind.i64.wrap (x - A) = x - A := by rw [IntKind.wrap_i64]; omega
              by_cases h1 : A ≤ x
              · by_cases h2 : x < Bv
                · have PE := hid (PY.out h1 h2)
                  go_wp2_with (at_builtin; refine wpList_append_int _ rfl _ _ rfl wo.heap.size _ _ _ _ _ rfl rfl hpart (by omega) hbi.size ?_; intro a5 c5 w5 hown5 hb5)
                  go_roundw
                  case rel => exact ⟨j + 1, mp + 1, a5, c5, by omega, by omega, by go_num, rfl, by rw [PE.out]; exact hown5, hbi.trans hb5⟩
                  case measure => simp [intOf]; omega
                · have PE := hid (PN.out (fun h => h2 h.2))
                  go_wp2_with fail
                  go_roundw
                  case rel => exact ⟨j + 1, mp, ap, cp, by omega, by omega, by go_num, rfl, by rw [PE.out]; exact hpart, hbi⟩
                  case measure => simp [intOf]; omega
              · have PE := hid (PN.out (fun h => h1 h.1))
                go_wp2_with fail
                go_roundw
                case rel => exact ⟨j + 1, mp, ap, cp, by omega, by omega, by go_num, rfl, by rw [PE.out]; exact hpart, hbi⟩
                case measure => simp [intOf]; omega
            · obtain rfl : n = j := by omega
              rw [List.take_of_length_le (by rw [HL.out]; exact Nat.le_refl _)] at hpart
              go_wp2_with (at_builtin; refine wpList_append_row wo wr rfl _ _ rfl w4.heap.size _ _ _ _ _ _ _ _ rfl rfl hown hbi hpart (by omega) hszo ?_; intro a6 c6 w6 hrows6 hb6)
              go_roundw
              case rel => exact ⟨k + 1, a6, c6, _, by omega, by go_num, rfl, hrows6, hid (by rw [numsOf_app, HN.out, HS.out]; rfl), hb2i.trans hb6⟩
              case measure => simp [intOf]; omega
        · obtain rfl : k = q3 := by omega
          have z1 : ¬ ((k : Int) + 1) < ((k : Int) + 1) := by omega
          go_wp2_with fail
          go_ret2
          exact postRows (by rw [HR.out]) (hown.mono hsz4) (HN.out.trans HFU.out) (hb14.trans (hb.mono hsz4))
  · have HR : Hid (primePartsOf xs = ([], false)) := hid (by simp [primePartsOf, hg])
    have HG := hid hg
    clear hg
    go_enter Try.func13, Try.ntmps13
    go_wp2_with (go_at_call 34; refine (paParking_any _ _ _ _ _ h).mono ?_; rintro e w1 ⟨rfl, hb1⟩; rw [Bool.eq_false_iff.2 HG.out])
    go_ret2
    exact postRows_no HR.out hb1
end Go.Proofs.Ytehdccfkkfkciaa
