/- Chapter 9: the order by favourites and the greatest distance: the model's functions, by their contracts. -/
import Derived.Test.YtehdccfkkfkciabMathFr
import Derived.Test.YtehdccfkkfkciabReo
import Derived.Test.YtehdccfkkfkciabSpecS
namespace Go.Proofs.Ytehdccfkkfkciab
open Go.RowKit

theorem fairTo_nth (xs : List Int) {k j : Nat} (h : j < k) : ∃ c : Nat, c < k ∧ nth (fairTo xs k) j = (c : Int) := by
  have hl : (fairTo xs k).length = k := by rw [(fairTo_perm xs k).length_eq, length_upto]
  exact mem_upto.1 ((fairTo_perm xs k).subset (nth_mem (by omega)))
set_option maxHeartbeats 2000000 in
theorem vaFair_any (a : Option Addr) (n cap : Nat) (xs : List Int) (w : World) (h : Has w a n cap xs) (h8 : n ≤ 50) :
    Calls Try.prog 35 #[.slice a n cap] w fun e w' => ∃ a' cap', e = .returned (.slice a' n cap') ∧ Own w' w.heap.size a' n cap' (fairTo xs n) ∧ Below w.heap.size w w' := by
  have HL := hid h.len
  go_enter Try.func35, Try.ntmps35
  go_wp2_with fail
  go_loopw [3, 10] (fun o i wr => ∃ (k : Nat) (a' : Option Addr) (cap' : Nat), k ≤ n ∧ i = .int .i64 k ∧ o = .slice a' k cap' ∧ Own wr w.heap.size a' k cap' (fairTo xs k) ∧ Below w.heap.size w wr) (fun _ i _ => n - (intOf i).toNat)
  case atStart => exact ⟨0, none, 0, Nat.zero_le _, rfl, rfl, Own.nil _ _, Below.refl _ _⟩
  case round =>
    obtain ⟨k, a', cap', hk, rfl, rfl, hown, hb⟩ := hrel
    by_cases hlt : k < n
    · obtain ⟨b, off, rfl, hbb, hc⟩ := h.2.2.2.2 (by omega)
      have hck : wr.cell? ⟨b, off + k, none⟩ = some (.int .i64 (nth xs k)) := by rw [hb.cell (p := ⟨b, off + k, none⟩) hbb]; exact hc k hlt
      have HCC : Hid (∀ c, c < n → wr.cell? ⟨b, off + c, none⟩ = some (.int .i64 (nth xs c))) := hid (fun c hcl => by rw [hb.cell (p := ⟨b, off + c, none⟩) hbb]; exact hc c hcl)
      have HS : Hid (fairTo xs (k + 1) = insC xs (k : Int) (fairTo xs k)) := hid rfl
      have hsz := hb.size
      have hlen := hown.len
      have HLO := hid hlen
      clear hc hlen
      cases a' with
      | none =>
        obtain ⟨hk1, hcap1, hnil⟩ := hown.noneOf
        have hk0 : k ≤ 0 := by omega
        have hcap0 : cap' ≤ 0 := by omega
        have HN := hid hnil
        clear hnil hk1 hcap1
        go_wp2_with fail
        refine wp_loop_rounds 1 ?_
        rw [rounds_succ]
        have hk00 : ¬ (0 : Int) < (k : Int) := by omega
        clear hown HLO
        go_wp2_with fail
        refine (l1Own_any _ _ _ _ _ (Has.empty none (Nat.le_refl _) (Nat.le_refl _))).mono ?_
        rintro e w2 ⟨a2, cap2, rfl, hown2, hb2⟩
        go_wp2_with (first | (at_builtin; refine wpList_append_int _ rfl _ _ rfl wr.heap.size _ _ _ _ _ rfl rfl hown2 (by omega) hb2.size ?_; intro a3 cap3 w3 hown3 hb3) | (at_builtin; refine wpList_append_ints _ rfl _ _ rfl wr.heap.size _ none _ _ _ _ _ [] rfl rfl hown3 (Has.empty none (by omega) (by omega)) (by omega) (Nat.le_trans hb2.size hb3.size) ?_; intro a4 n4 cap4 w4 hn4 hown4 hb4))
        go_roundw
        case rel =>
          exact ⟨k + 1, _, _, by omega, by go_num, slice_len (by omega), (hown4.mono hsz).relen (by omega) (by rw [HS.out, HN.out]; rfl), hb.trans (((hb2.trans hb3).trans hb4).mono hsz)⟩
        case measure => simp [intOf]; omega
      | some p =>
        obtain ⟨g, rfl, hg1, hg2, hg3, hg4, hkc⟩ := hown.someOf
        have HA := hown.has
        go_wp2_with fail
        go_loop [6] (fun q => ∃ j : Nat, j ≤ k ∧ q = .int .i64 j ∧ Hid (∀ t, t < j → nth xs (nth (fairTo xs k) t).toNat ≤ nth xs k)) (fun q => k - (intOf q).toNat)
        case atStart => exact ⟨0, by omega, rfl, hid (fun t ht => by omega)⟩
        case round =>
          obtain ⟨j, hj, rfl, HJ⟩ := hrel
          have fin : ∀ (HX : j = k ∨ nth xs k < nth xs (nth (fairTo xs k) j).toNat), Hid (fairTo xs (k + 1) = (fairTo xs k).take j ++ [(k : Int)] ++ (fairTo xs k).drop j) := fun HX =>
            hid (by rw [HS.out]; exact insC_at j _ (by rw [HLO.out]; exact hj) (by rw [Int.toNat_natCast]; exact HJ.out) (by rw [HLO.out, Int.toNat_natCast]; exact HX))
          have FIN := hid fin
          clear fin
          by_cases hjk : j < k
          · have hjc := hg3 j hjk
            obtain ⟨c, hcl, hcv⟩ := fairTo_nth xs hjk
            rw [hcv] at hjc
            have hcc := HCC.out c (by omega)
            have z1 : (c : Int) < (n : Int) := by omega
            have z0 : (0 : Int) ≤ (c : Int) := by omega
            rw [hcv, Int.toNat_natCast] at FIN
            have HCV := hid hcv
            clear hcv hg3
            by_cases hle : nth xs c ≤ nth xs k
            · have HLE := hid hle
              go_wp2_with fail
              go_round
              case rel => exact ⟨j + 1, by omega, by go_num, hid (fun t ht => by rcases Nat.lt_succ_iff_lt_or_eq.1 ht with h1 | rfl; exact HJ.out t h1; rw [HCV.out, Int.toNat_natCast]; exact HLE.out)⟩
              case measure => simp [intOf]; omega
            · have HF := FIN.out (.inr (by omega))
              have hcj : ¬ cap' = j := by omega
              clear FIN hg4
              go_wp2_with fail
              refine (l1Own_any _ _ _ _ _ (HA.take (k := j) (by omega))).mono ?_
              rintro e w2 ⟨a2, cap2, rfl, hown2, hb2⟩
              have hd2 := (HA.drop (k := j) (by omega)).below hb2 (Nat.le_refl _)
              rw [Nat.zero_add] at hd2
              have hblk : ∀ p, (some ⟨g, j, none⟩ : Option Addr) = some p → p.block < wr.heap.size := fun p hp => by cases hp; exact hg2
              have HBK := hid hblk
              clear hblk
              go_wp2_with (first | (at_builtin; refine wpList_append_int _ rfl _ _ rfl wr.heap.size _ _ _ _ _ rfl rfl hown2 (by omega) hb2.size ?_; intro a3 cap3 w3 hown3 hb3) | (at_builtin; refine wpList_append_ints _ rfl _ _ rfl wr.heap.size _ _ _ _ _ _ _ _ rfl rfl hown3 (hd2.belowB hb3 HBK.out) (by omega) (Nat.le_trans hb2.size hb3.size) ?_; intro a4 n4 cap4 w4 hn4 hown4 hb4))
              go_roundw
              case rel =>
                exact ⟨k + 1, _, _, by omega, by go_num, slice_len (by omega), (hown4.mono hsz).relen (by omega) HF.out, hb.trans (((hb2.trans hb3).trans hb4).mono hsz)⟩
              case measure => simp [intOf]; omega
          · obtain rfl : k = j := by omega
            have HF := FIN.out (.inl rfl)
            rw [List.drop_eq_nil_of_le (by rw [HLO.out]; omega)] at HF
            clear FIN hg3 hg4 hjk
            by_cases hcj : cap' = k
            · obtain rfl : k = cap' := hcj.symm
              clear hcj
              go_wp2_with fail
              refine (l1Own_any _ _ _ _ _ (HA.take (k := k) (by omega))).mono ?_
              rintro e w2 ⟨a2, cap2, rfl, hown2, hb2⟩
              go_wp2_with (first | (at_builtin; refine wpList_append_int _ rfl _ _ rfl wr.heap.size _ _ _ _ _ rfl rfl hown2 (by omega) hb2.size ?_; intro a3 cap3 w3 hown3 hb3) | (at_builtin; refine wpList_append_ints _ rfl _ _ rfl wr.heap.size _ _ _ _ _ _ _ [] rfl rfl hown3 (Has.nilAt _ (by unfold maxLen; omega)) (by omega) (Nat.le_trans hb2.size hb3.size) ?_; intro a4 n4 cap4 w4 hn4 hown4 hb4))
              go_roundw
              case rel =>
                exact ⟨k + 1, _, _, by omega, by go_num, slice_len (by omega), (hown4.mono hsz).relen (by omega) HF.out, hb.trans (((hb2.trans hb3).trans hb4).mono hsz)⟩
              case measure => simp [intOf]; omega
            · have hmax : cap' - k ≤ maxLen := by have := HA.2.2.1; omega
              have HMX := hid hmax
              clear hmax
              go_wp2_with fail
              refine (l1Own_any _ _ _ _ _ (HA.take (k := k) (by omega))).mono ?_
              rintro e w2 ⟨a2, cap2, rfl, hown2, hb2⟩
              go_wp2_with (first | (at_builtin; refine wpList_append_int _ rfl _ _ rfl wr.heap.size _ _ _ _ _ rfl rfl hown2 (by omega) hb2.size ?_; intro a3 cap3 w3 hown3 hb3) | (at_builtin; refine wpList_append_ints _ rfl _ _ rfl wr.heap.size _ _ _ _ _ _ _ [] rfl rfl hown3 (Has.nilAt _ HMX.out) (by omega) (Nat.le_trans hb2.size hb3.size) ?_; intro a4 n4 cap4 w4 hn4 hown4 hb4))
              go_roundw
              case rel =>
                exact ⟨k + 1, _, _, by omega, by go_num, slice_len (by omega), (hown4.mono hsz).relen (by omega) HF.out, hb.trans (((hb2.trans hb3).trans hb4).mono hsz)⟩
              case measure => simp [intOf]; omega
    · obtain rfl : k = n := by omega
      go_wp2_with fail
      go_ret
      exact ⟨_, _, rfl, hown, hb⟩

/-! ### Favourites in another order -/
theorem fair_cars {xs : List Int} {n : Nat} (hl : xs.length = n) (h8 : n ≤ 8) (hb : ∀ c, c < n → 0 ≤ nth xs c ∧ nth xs c < ((12 : Nat) : Int)) {k : Nat} (hk : k < n) : ∃ c : Nat, c < n ∧ nth (fairL xs) k = (c : Int) := by
  obtain ⟨c, h1, h2⟩ := carsP_nth hl (by omega) hb hk
  exact ⟨c, h2, h1⟩
theorem reord_good {xs os : List Int} {p : Int} {n : Nat} (hl : xs.length = n) (h : (good xs p && allPark p xs) = true) (ho : os.Perm (upto n)) : n ≤ 8 ∧ p ≤ 12 ∧ ∀ i, i < n → 0 ≤ nth (reordL xs os) i ∧ nth (reordL xs os) i ≤ p - 1 := by
  subst hl
  obtain ⟨h1, _⟩ := Bool.and_eq_true_iff.1 (reord_park h ho)
  have hle : (reordL xs os).length = xs.length := by rw [length_reord, ho.length_eq, length_upto]
  obtain ⟨g1, g2, g3, g4⟩ := good_nth h1 hle
  exact ⟨g1, g3, g4⟩
end Go.Proofs.Ytehdccfkkfkciab
