/- Chapter 9: the order by favourites and the greatest distance: the model's functions, by their contracts. -/
import Derived.Test.YtehdccfkkfkciacMathFr
import Derived.Test.YtehdccfkkfkciacReo
import Derived.Test.YtehdccfkkfkciacSpecS
namespace Go.Proofs.Ytehdccfkkfkciac
open Go.RowKit

theorem fairTo_nth (xs : List Int) {k j : Nat} (h : j < k) : ∃ c : Nat, c < k ∧ nth (fairTo xs k) j = (c : Int) := by
  have hl : (fairTo xs k).length = k := by rw [(fairTo_perm xs k).length_eq, length_upto]
  exact mem_upto.1 ((fairTo_perm xs k).subset (nth_mem (by omega)))
set_option maxHeartbeats 2000000 in
theorem vaFair_any (a : Option Addr) (n cap : Nat) (xs : List Int) (w : World) (h : Has w a n cap xs) (h8 : n ≤ 50) :
    Calls Try.prog 36 #[.slice a n cap] w fun e w' => ∃ a' cap', e = .returned (.slice a' n cap') ∧ Own w' w.heap.size a' n cap' (fairTo xs n) ∧ Below w.heap.size w w' := by
  have HL := hid h.len
  go_enter Try.func36, Try.ntmps36
  go_wp2_with fail
  go_loopw [3, 10] (fun o i wr => ∃ (k : Nat) (a' : Option Addr) (cap' : Nat), k ≤ n ∧ i = .int .i64 k ∧ o = .slice a' k cap' ∧ Own wr w.heap.size a' k cap' (fairTo xs k) ∧ Below w.heap.size w wr) (fun _ i _ => n - (intOf i).toNat)
  case atStart => exact ⟨0, none, 0, Nat.zero_le _, rfl, rfl, Own.nil _ _, Below.refl _ _⟩
  case round =>
    obtain ⟨k, a', cap', hk, rfl, rfl, hown, hb⟩ := hrel
    by_cases hlt : k < n
    · obtain ⟨b, off, rfl, hbb, hc⟩ := h.2.2.2.2 (by omega)
      have hck : wr.cell? ⟨b, off + k, none⟩ = some (.int .i64 (nth xs k)) := by rw [hb.cell (p := ⟨b, off + k, none⟩) hbb]; exact hc k hlt
      have HCC : Hid (∀ c, c < n → wr.cell? ⟨b, off + c, none⟩ = some (.int .i64 (nth xs c))) := hid (fun c hcl => by rw [hb.cell (p := ⟨b, off + c, none⟩) hbb]; exact hc c hcl)
      have HS : Hid (fairTo xs (k + 1) = insC xs (k : Int) (fairTo xs k)) := hid rfl
      have hsz := hb.size
      have hlen := hown.len
      have HLO := hid hlen
      clear hc hlen
      cases a' with
      | none =>
        obtain ⟨hk1, hcap1, hnil⟩ := hown.noneOf
        have hk0 : k ≤ 0 := by omega
        have hcap0 : cap' ≤ 0 := by omega
        have HN := hid hnil
        clear hnil hk1 hcap1
        go_wp2_with fail
        refine wp_loop_rounds 1 ?_
        rw [rounds_succ]
        have hk00 : ¬ (0 : Int) < (k : Int) := by omega
        clear hown HLO
        go_wp2_with fail
        refine (l1Own_any _ _ _ _ _ (Has.empty none (Nat.le_refl _) (Nat.le_refl _))).mono ?_
        rintro e w2 ⟨a2, cap2, rfl, hown2, hb2⟩
        go_wp2_with (first | (at_builtin; refine wpList_append_int _ rfl _ _ rfl wr.heap.size _ _ _ _ _ rfl rfl hown2 (by omega) hb2.size ?_; intro a3 cap3 w3 hown3 hb3) | (at_builtin; refine wpList_append_ints _ rfl _ _ rfl wr.heap.size _ none _ _ _ _ _ [] rfl rfl hown3 (Has.empty none (by omega) (by omega)) (by omega) (Nat.le_trans hb2.size hb3.size) ?_; intro a4 n4 cap4 w4 hn4 hown4 hb4))
        go_roundw
        case rel =>
          exact ⟨k + 1, _, _, by omega, by go_num, slice_len (by omega), (hown4.mono hsz).relen (by omega) (by rw [HS.out, HN.out]; rfl), hb.trans (((hb2.trans hb3).trans hb4).mono hsz)⟩
        case measure => simp [intOf]; omega
      | some p =>
        obtain ⟨g, rfl, hg1, hg2, hg3, hg4, hkc⟩ := hown.someOf
        have HA := hown.has
        go_wp2_with fail
        go_loop [6] (fun q => ∃ j : Nat, j ≤ k ∧ q = .int .i64 j ∧ Hid (∀ t, t < j → nth xs (nth (fairTo xs k) t).toNat ≤ nth xs k)) (fun q => k - (intOf q).toNat)
        case atStart => exact ⟨0, by omega, rfl, hid (fun t ht => by omega)⟩
        case round =>
          obtain ⟨j, hj, rfl, HJ⟩ := hrel
          have fin : ∀ (HX : j = k ∨ nth xs k < nth xs (nth (fairTo xs k) j).toNat), Hid (fairTo xs (k + 1) = (fairTo xs k).take j ++ [(k : Int)] ++ (fairTo xs k).drop j) := fun HX =>
            hid (by rw [HS.out]; exact insC_at j _ (by rw [HLO.out]; exact hj) (by rw [Int.toNat_natCast]; exact HJ.out) (by rw [HLO.out, Int.toNat_natCast]; exact HX))
          have FIN := hid fin
          clear fin
          by_cases hjk : j < k
          · have hjc := hg3 j hjk
            obtain ⟨c, hcl, hcv⟩ := fairTo_nth xs hjk
            rw [hcv] at hjc
            have hcc := HCC.out c (by omega)
            have z1 : (c : Int) < (n : Int) := by omega
            have z0 : (0 : Int) ≤ (c : Int) := by omega
            rw [hcv, Int.toNat_natCast] at FIN
            have HCV := hid hcv
            clear hcv hg3
            by_cases hle : nth xs c ≤ nth xs k
            · have HLE := hid hle
              go_wp2_with fail
              go_round
              case rel => exact ⟨j + 1, by omega, by go_num, hid (fun t ht => by rcases Nat.lt_succ_iff_lt_or_eq.1 ht with h1 | rfl; exact HJ.out t h1; rw [HCV.out, Int.toNat_natCast]; exact HLE.out)⟩
              case measure => simp [intOf]; omega
            · have HF := FIN.out (.inr (by omega))
              have hcj : ¬ cap' = j := by omega
              clear FIN hg4
              go_wp2_with fail
              refine (l1Own_any _ _ _ _ _ (HA.take (k := j) (by omega))).mono ?_
              rintro e w2 ⟨a2, cap2, rfl, hown2, hb2⟩
              have hd2 := (HA.drop (k := j) (by omega)).below hb2 (Nat.le_refl _)
              rw [Nat.zero_add] at hd2
              have hblk : ∀ p, (some ⟨g, j, none⟩ : Option Addr) = some p → p.block < wr.heap.size := fun p hp => by cases hp; exact hg2
              have HBK := hid hblk
              clear hblk
              go_wp2_with (first | (at_builtin; refine wpList_append_int _ rfl _ _ rfl wr.heap.size _ _ _ _ _ rfl rfl hown2 (by omega) hb2.size ?_; intro a3 cap3 w3 hown3 hb3) | (at_builtin; refine wpList_append_ints _ rfl _ _ rfl wr.heap.size _ _ _ _ _ _ _ _ rfl rfl hown3 (hd2.belowB hb3 HBK.out) (by omega) (Nat.le_trans hb2.size hb3.size) ?_; intro a4 n4 cap4 w4 hn4 hown4 hb4))
              go_roundw
              case rel =>
                exact ⟨k + 1, _, _, by omega, by go_num, slice_len (by omega), (hown4.mono hsz).relen (by omega) HF.out, hb.trans (((hb2.trans hb3).trans hb4).mono hsz)⟩
              case measure => simp [intOf]; omega
          · obtain rfl : k = j := by omega
            have HF := FIN.out (.inl rfl)
            rw [List.drop_eq_nil_of_le (by rw [HLO.out]; omega)] at HF
            clear FIN hg3 hg4 hjk
            by_cases hcj : cap' = k
            · obtain rfl : k = cap' := hcj.symm
              clear hcj
              go_wp2_with fail
              refine (l1Own_any _ _ _ _ _ (HA.take (k := k) (by omega))).mono ?_
              rintro e w2 ⟨a2, cap2, rfl, hown2, hb2⟩
              go_wp2_with (first | (at_builtin; refine wpList_append_int _ rfl _ _ rfl wr.heap.size _ _ _ _ _ rfl rfl hown2 (by omega) hb2.size ?_; intro a3 cap3 w3 hown3 hb3) | (at_builtin; refine wpList_append_ints _ rfl _ _ rfl wr.heap.size _ _ _ _ _ _ _ [] rfl rfl hown3 (Has.nilAt _ (by unfold maxLen; omega)) (by omega) (Nat.le_trans hb2.size hb3.size) ?_; intro a4 n4 cap4 w4 hn4 hown4 hb4))
              go_roundw
              case rel =>
                exact ⟨k + 1, _, _, by omega, by go_num, slice_len (by omega), (hown4.mono hsz).relen (by omega) HF.out, hb.trans (((hb2.trans hb3).trans hb4).mono hsz)⟩
              case measure => simp [intOf]; omega
            · have hmax : cap' - k ≤ maxLen := by have := HA.2.2.1; omega
              have HMX := hid hmax
              clear hmax
              go_wp2_with fail
              refine (l1Own_any _ _ _ _ _ (HA.take (k := k) (by omega))).mono ?_
              rintro e w2 ⟨a2, cap2, rfl, hown2, hb2⟩
              go_wp2_with (first | (at_builtin; refine wpList_append_int _ rfl _ _ rfl wr.heap.size _ _ _ _ _ rfl rfl hown2 (by omega) hb2.size ?_; intro a3 cap3 w3 hown3 hb3) | (at_builtin; refine wpList_append_ints _ rfl _ _ rfl wr.heap.size _ _ _ _ _ _ _ [] rfl rfl hown3 (Has.nilAt _ HMX.out) (by omega) (Nat.le_trans hb2.size hb3.size) ?_; intro a4 n4 cap4 w4 hn4 hown4 hb4))
              go_roundw
              case rel =>
                exact ⟨k + 1, _, _, by omega, by go_num, slice_len (by omega), (hown4.mono hsz).relen (by omega) HF.out, hb.trans (((hb2.trans hb3).trans hb4).mono hsz)⟩
              case measure => simp [intOf]; omega
    · obtain rfl : k = n := by omega
      go_wp2_with fail
      go_ret
      exact ⟨_, _, rfl, hown, hb⟩

/-! ### Favourites in another order -/
set_option maxHeartbeats 800000 in
theorem vaGreatest_any (a : Option Addr) (n cap : Nat) (xs : List Int) (p : Int) (w : World) (h : Has w a n cap xs) (h8 : n ≤ 8) (hp : p ≤ 12) (hge : ∀ i, i < n → 0 ≤ nth xs i ∧ nth xs i ≤ p - 1) :
    Calls Try.prog 43 #[.slice a n cap, .int .i64 p] w fun e w' => e = .returned (.int .i64 (greatL (dists p xs))) ∧ Below w.heap.size w w' := by
  go_enter Try.func43, Try.ntmps43
  go_wp2_with fail
  refine (paDistances_any _ _ _ _ _ _ h h8 hp hge).mono ?_
  rintro e w1 ⟨a1, cap1, rfl, hown, hb⟩
  obtain ⟨ys, hys⟩ : ∃ ys, ys = dists p xs := ⟨_, rfl⟩
  have HR := hid (congrArg greatL hys.symm)
  rw [← hys] at hown
  have HS := hid (fun k (hk : k < n) => great_succ (ys := ys) (k := k) (by rw [hown.len]; exact hk))
  have HT := hid (List.take_of_length_le (l := ys) (i := n) (by rw [hown.len]; exact Nat.le_refl _))
  obtain ⟨_, h1, h2, h3, h4⟩ := hown.has
  clear hown hys
  go_wp2_with fail
  go_loop [5, 12] (fun g i => ∃ (k : Nat) (v : Int), k ≤ n ∧ i = .int .i64 (k : Int) ∧ g = .int .i64 v ∧ Hid (v = greatL (ys.take k))) (fun _ i => n - (intOf i).toNat)
  case atStart => exact ⟨0, 0, Nat.zero_le _, rfl, rfl, hid rfl⟩
  case round =>
    obtain ⟨k, v, hk, rfl, rfl, HV⟩ := hrel
    by_cases hlt : k < n
    · obtain ⟨b, off, rfl, hbb, hc⟩ := h4 (by omega)
      have hck := hc k hlt
      have HS' := hid (HS.out k hlt)
      clear hc
      go_wp2_with (go_at_call 48; refine (l1Most_any _ _ _).mono ?_; rintro e w' ⟨rfl, rfl⟩)
      go_round
      case rel => exact ⟨k + 1, _, by omega, by go_num, rfl, hid (by rw [HS'.out, HV.out])⟩
      case measure => simp [intOf]; omega
    · obtain rfl : k = n := by omega
      go_wp2_with fail
      go_ret
      exact ⟨ret_int (by rw [HR.out, HV.out, HT.out]), hb⟩

set_option maxHeartbeats 800000 in
theorem specFair_any (a : Option Addr) (n cap : Nat) (xs : List Int) (p : Int) (w : World) (h : Has w a n cap xs) :
    Calls Try.prog 8 #[.slice a n cap, .int .i64 p] w (PostInts w (fairOf xs p)) := by
  by_cases hg : good xs p = true
  · obtain ⟨g1, g2, g3, g4⟩ := good_nth hg h.len
    obtain ⟨_, g12⟩ := good12 hg h.len
    by_cases ha : allPark p xs = true
    · have HR : Hid (fairOf xs p = (fairTo xs n, true)) := hid (by simp only [fairOf, hg, ha]; rw [fairTo_cars h.len (by omega) g12]; rfl)
      have HG := hid hg
      have HA := hid ha
      clear hg ha
      go_enter Try.func8, Try.ntmps8
      go_wp2_with (first | (go_at_call 34; refine (paGood_any _ _ _ _ _ _ h).mono ?_; rintro e w' ⟨rfl, rfl⟩; rw [HG.out]) | (go_at_call 35; refine (paAll_any _ _ _ _ _ _ h g1 g3 g4).mono ?_; rintro e w1 ⟨rfl, hb1⟩; rw [HA.out]))
      refine (vaFair_any _ _ _ _ _ (h.below hb1 (Nat.le_refl _)) (by omega)).mono ?_
      rintro e w2 ⟨a2, cap2, rfl, hown2, hb2⟩
      go_wp2_with fail
      go_ret2
      exact postInts HR.out (hown2.mono hb1.size) (hb1.trans (hb2.mono hb1.size))
    · have HR : Hid (fairOf xs p = ([], false)) := hid (by simp [fairOf, ha])
      have HG := hid hg
      have HA := hid ha
      clear hg ha
      go_enter Try.func8, Try.ntmps8
      go_wp2_with (first | (go_at_call 34; refine (paGood_any _ _ _ _ _ _ h).mono ?_; rintro e w' ⟨rfl, rfl⟩; rw [HG.out]) | (go_at_call 35; refine (paAll_any _ _ _ _ _ _ h g1 g3 g4).mono ?_; rintro e w1 ⟨rfl, hb1⟩; rw [Bool.eq_false_iff.2 HA.out]))
      go_ret2
      exact postInts_no HR.out hb1
  · have HR : Hid (fairOf xs p = ([], false)) := hid (by simp [fairOf, hg])
    have HG := hid hg
    clear hg
    go_enter Try.func8, Try.ntmps8
    go_wp2_with (go_at_call 34; refine (paGood_any _ _ _ _ _ _ h).mono ?_; rintro e w' ⟨rfl, rfl⟩; rw [Bool.eq_false_iff.2 HG.out])
    go_ret2
    exact postInts_no HR.out (Below.refl _ _)
theorem fair_cars {xs : List Int} {n : Nat} (hl : xs.length = n) (h8 : n ≤ 8) (hb : ∀ c, c < n → 0 ≤ nth xs c ∧ nth xs c < ((12 : Nat) : Int)) {k : Nat} (hk : k < n) : ∃ c : Nat, c < n ∧ nth (fairL xs) k = (c : Int) := by
  obtain ⟨c, h1, h2⟩ := carsP_nth hl (by omega) hb hk
  exact ⟨c, h2, h1⟩
theorem reord_good {xs os : List Int} {p : Int} {n : Nat} (hl : xs.length = n) (h : (good xs p && allPark p xs) = true) (ho : os.Perm (upto n)) : n ≤ 8 ∧ p ≤ 12 ∧ ∀ i, i < n → 0 ≤ nth (reordL xs os) i ∧ nth (reordL xs os) i ≤ p - 1 := by
  subst hl
  obtain ⟨h1, _⟩ := Bool.and_eq_true_iff.1 (reord_park h ho)
  have hle : (reordL xs os).length = xs.length := by rw [length_reord, ho.length_eq, length_upto]
  obtain ⟨g1, g2, g3, g4⟩ := good_nth h1 hle
  exact ⟨g1, g3, g4⟩
set_option maxHeartbeats 800000 in
theorem specLeast9_any (a : Option Addr) (n cap : Nat) (xs : List Int) (p : Int) (w : World) (h : Has w a n cap xs) :
    Calls Try.prog 16 #[.slice a n cap, .int .i64 p] w (PostInt w (leastGr xs p)) := by
  by_cases hg : good xs p = true
  · obtain ⟨g1, g2, g3, g4⟩ := good_nth hg h.len
    obtain ⟨_, g12⟩ := good12 hg h.len
    by_cases ha : allPark p xs = true
    · have HR : Hid (leastGr xs p = (greatL (dists p (reordL xs (fairL xs))), true)) := hid (by simp [leastGr, hg, ha])
      have HF : Hid (fairTo xs n = fairL xs) := hid (fairTo_cars h.len (by omega) g12)
      have HN := hid (fun k (hk : k < n) => fair_cars h.len g1 g12 hk)
      obtain ⟨_, _, r3⟩ := reord_good h.len (by rw [hg, ha]; rfl) (carsP_perm h.len (by omega) g12)
      have R3 : Hid (∀ i, i < n → 0 ≤ nth (reordL xs (fairL xs)) i ∧ nth (reordL xs (fairL xs)) i ≤ p - 1) := hid r3
      have HG := hid hg
      have HA := hid ha
      clear hg ha r3
      go_enter Try.func16, Try.ntmps16
      go_wp2_with (first | (go_at_call 34; refine (paGood_any _ _ _ _ _ _ h).mono ?_; rintro e w' ⟨rfl, rfl⟩; rw [HG.out]) | (go_at_call 35; refine (paAll_any _ _ _ _ _ _ h g1 g3 g4).mono ?_; rintro e w1 ⟨rfl, hb1⟩; rw [HA.out]))
      refine (vaFair_any _ _ _ _ _ (h.below hb1 (Nat.le_refl _)) (by omega)).mono ?_
      rw [HF.out]
      rintro e w2 ⟨a2, cap2, rfl, hown2, hb2⟩
      have hb12 := hb1.trans (hb2.mono hb1.size)
      go_wp2_with fail
      refine (vaOrder_any _ _ _ _ _ _ _ _ _ (h.below hb12 (Nat.le_refl _)) hown2.has HN.out).mono ?_
      rintro e w3 ⟨a3, cap3, rfl, hown3, hb3⟩
      have hb13 := hb12.trans (hb3.mono hb12.size)
      go_wp2_with fail
      refine (vaGreatest_any _ _ _ _ _ _ hown3.has g1 g3 R3.out).mono ?_
      rintro e w4 ⟨rfl, hb4⟩
      go_wp2_with fail
      go_ret2
      exact postInt HR.out (hb13.trans (hb4.mono hb13.size))
    · have HR : Hid (leastGr xs p = (0, false)) := hid (by simp [leastGr, ha])
      have HG := hid hg
      have HA := hid ha
      clear hg ha
      go_enter Try.func16, Try.ntmps16
      go_wp2_with (first | (go_at_call 34; refine (paGood_any _ _ _ _ _ _ h).mono ?_; rintro e w' ⟨rfl, rfl⟩; rw [HG.out]) | (go_at_call 35; refine (paAll_any _ _ _ _ _ _ h g1 g3 g4).mono ?_; rintro e w1 ⟨rfl, hb1⟩; rw [Bool.eq_false_iff.2 HA.out]))
      go_ret2
      exact postInt HR.out hb1
  · have HR : Hid (leastGr xs p = (0, false)) := hid (by simp [leastGr, hg])
    have HG := hid hg
    clear hg
    go_enter Try.func16, Try.ntmps16
    go_wp2_with (go_at_call 34; refine (paGood_any _ _ _ _ _ _ h).mono ?_; rintro e w' ⟨rfl, rfl⟩; rw [Bool.eq_false_iff.2 HG.out])
    go_ret2
    exact postInt HR.out (Below.refl _ _)
end Go.Proofs.Ytehdccfkkfkciac
