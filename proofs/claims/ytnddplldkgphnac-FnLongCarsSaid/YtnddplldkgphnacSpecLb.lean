/- The model's functions of chapter 5, by their contracts: cars that look back. -/
import Derived.Test.YtnddplldkgphnacSpecC
import Derived.Test.YtnddplldkgphnacMathLl
namespace Go.Proofs.Ytnddplldkgphnac
open Go.RowKit

set_option maxHeartbeats 2000000 in
theorem loBack_any (a : Option Addr) (n cap P m : Nat) (xs : List Int) (w : World) (h : Has w a n cap xs) (h8 : n ≤ 8) (hP : P ≤ 12) (hm : m ≤ 8) (hge : ∀ i, i < n → 0 ≤ nth xs i ∧ nth xs i ≤ (P : Int) - 1) :
    Calls Try.prog 70 #[.slice a n cap, .int .i64 (P : Int), .int .i64 (m : Int)] w fun e w' => ∃ a' cap', e = .returned (.slice a' n cap') ∧ Own w' w.heap.size a' n cap' (backs P m xs) ∧ Below w.heap.size w w' := by
  obtain ⟨h0, h1, h2, h3, h4⟩ := h
  have HN := hid h0
  have HGE := hid hge
  clear h0 hge
  go_enter Try.func70, Try.ntmps70
  go_wp2_with fail
  go_loopw [7, 15] (fun o i wr => ∃ (k : Nat) (a' : Option Addr) (cap' : Nat), k ≤ n ∧ i = .int .i64 k ∧ o = .slice a' k cap' ∧ Own wr w.heap.size a' k cap' (backs P m (xs.take k)) ∧ Below w.heap.size w wr) (fun _ i _ => n - (intOf i).toNat)
  case atStart => exact ⟨0, none, 0, Nat.zero_le _, rfl, rfl, Own.nil _ _, Below.refl _ _⟩
  case round =>
    obtain ⟨k, a', cap', hk, rfl, rfl, hown, hb⟩ := hrel
    by_cases hlt : k < n
    · obtain ⟨b, off, rfl, hbb, hc⟩ := h4 (by omega)
      have hck : wr.cell? ⟨b, off + k, none⟩ = some (.int .i64 (nth xs k)) := by rw [hb.cell (p := ⟨b, off + k, none⟩) hbb]; exact hc k hlt
      obtain ⟨hx0, hx1⟩ := HGE.out k hlt
      have HS := hid (backs_succ (p := (P : Int)) (m := m) (xs := xs) (k := k) (by rw [HN.out]; omega))
      obtain ⟨x, hx⟩ : ∃ x : Nat, nth xs k = (x : Int) := ⟨_, (Int.toNat_of_nonneg hx0).symm⟩
      rw [hx] at hck hx1
      have HX := hid hx
      obtain ⟨T, hT⟩ : ∃ T, backs P m (xs.take k) = T := ⟨_, rfl⟩
      rw [hT] at hown
      have HT := hid hT
      clear hc h4 hx hx0 hT
      go_wp2_with fail
      go_loop [10, 11] (fun at_ kv => ∃ (j : Nat) (y : Int), kv = .int .i64 j ∧ j ≤ m + 1 ∧ at_ = .int .i64 y ∧ -1 ≤ y ∧ y ≤ x ∧
        Hid ((y = -1 ∧ j ≤ x + 1 ∧ lookBack T (m + 1) x = lookBack T (m + 1 - j) ((x : Int) - j)) ∨ (0 ≤ y ∧ lookBack T (m + 1) x = y))) (fun _ kv => m + 1 - (intOf kv).toNat)
      case atStart => exact ⟨0, -1, rfl, by omega, rfl, by omega, by omega, hid (.inl ⟨rfl, by omega, by simp⟩)⟩
      case round =>
        obtain ⟨j, y, rfl, hj, rfl, hy1, hy2, HL⟩ := hrel
        by_cases hgo : j ≤ m ∧ j ≤ x ∧ y < 0
        · obtain ⟨g1, g2, g3⟩ := hgo
          have hL : lookBack T (m + 1) x = lookBack T (m + 1 - j) ((x : Int) - j) := by
            rcases HL.out with h | h
            · exact h.2.2
            · omega
          have hjx : (j : Int) ≤ (x : Int) := by omega
          have hxj : 0 ≤ (x : Int) - (j : Int) := by omega
          by_cases hm2 : hasB T ((x : Int) - j) = true
          · have HM := hid hm2
            have HS2 : Hid (lookBack T (m + 1) x = lookBack T (m + 1 - (j + 1)) ((x : Int) - ((j + 1 : Nat) : Int))) := hid (by
              rw [hL, show m + 1 - j = (m + 1 - (j + 1)) + 1 from by omega, lookBack_step hxj hm2]
              congr 1
              omega)
            clear hm2 hL
            go_wp2_with (go_at_call 71; refine (l1Has_any _ _ _ _ _ _ hown.has).mono ?_; rintro e w' ⟨rfl, rfl⟩; rw [HM.out])
            go_round
            case rel => exact ⟨j + 1, y, by go_num, by omega, rfl, hy1, hy2, hid (.inl ⟨by omega, by omega, HS2.out⟩)⟩
            case measure => simp [intOf]; omega
          · have hm3 : hasB T ((x : Int) - j) = false := by simpa using hm2
            have HM := hid hm3
            have HS2 : Hid (lookBack T (m + 1) x = (x : Int) - j) := hid (by
              rw [hL, show m + 1 - j = (m + 1 - (j + 1)) + 1 from by omega, lookBack_hit hxj hm2])
            clear hm2 hm3 hL
            go_wp2_with (go_at_call 71; refine (l1Has_any _ _ _ _ _ _ hown.has).mono ?_; rintro e w' ⟨rfl, rfl⟩; rw [HM.out])
            go_round
            case rel => exact ⟨j + 1, (x : Int) - j, by go_num, by omega, rfl, by omega, by omega, hid (.inr ⟨by omega, HS2.out⟩)⟩
            case measure => simp [intOf]; omega
        · have HD : Hid ((y = -1 ∧ lookBack T (m + 1) x = -1) ∨ (0 ≤ y ∧ lookBack T (m + 1) x = y)) := hid (by
            rcases HL.out with ⟨e1, e2, e3⟩ | e
            · left
              refine ⟨e1, ?_⟩
              rw [e3]
              by_cases h5 : j ≤ m
              · exact lookBack_neg (by omega)
              · rw [show m + 1 - j = 0 from by omega]; rfl
            · exact .inr e)
          have hor : (m : Int) < j ∨ ((j : Int) ≤ m ∧ (x : Int) < j) ∨ ((j : Int) ≤ m ∧ (j : Int) ≤ x ∧ 0 ≤ y) := by omega
          have HB : Hid (y = -1 ∨ backPlace P m T x = y) := hid (by
            rcases HD.out with ⟨e1, e2⟩ | ⟨e1, e2⟩
            · exact .inl e1
            · exact .inr (by rw [backPlace_pos (by rw [e2]; exact e1), e2]))
          clear hgo HL
          rcases hor with hA | ⟨hA, hB⟩ | ⟨hA, hB, hC⟩ <;>
          (go_wp2_with fail
           go_loop [10, 12] (fun at_ kv => ∃ (q : Nat) (z : Int), kv = .int .i64 q ∧ x ≤ q ∧ q ≤ P ∧ at_ = .int .i64 z ∧ -1 ≤ z ∧ z ≤ 12 ∧
            Hid ((z = -1 ∧ Runs T P x q ∧ lookBack T (m + 1) x = -1) ∨ (0 ≤ z ∧ backPlace P m T x = z))) (fun _ kv => P - (intOf kv).toNat)
           case atStart => exact ⟨x, y, rfl, Nat.le_refl _, by omega, rfl, hy1, by omega, hid (by
              rcases HD.out with ⟨e1, e2⟩ | ⟨e1, e2⟩
              · exact .inl ⟨e1, Runs.refl _ _ _, e2⟩
              · exact .inr ⟨e1, by rw [backPlace_pos (by rw [e2]; exact e1), e2]⟩)⟩
           case round =>
             clear hy1 hy2 HD HB
             obtain ⟨q, z, rfl, hq1, hq2, rfl, hz1, hz2, HL⟩ := hrel
             by_cases hgo : q < P ∧ z < 0
             · obtain ⟨g1, g2⟩ := hgo
               by_cases hm2 : hasB T q = true
               · have HM := hid hm2
                 have HS2 : Hid (Runs T P x ((q + 1 : Nat) : Int) ∧ lookBack T (m + 1) x = -1) := hid (by
                   rcases HL.out with ⟨e1, e2, e3⟩ | ⟨e1, e2⟩
                   · exact ⟨by have := e2.step (by omega) (hasB_iff.1 hm2); simpa using this, e3⟩
                   · omega)
                 clear hm2
                 go_wp2_with (go_at_call 71; refine (l1Has_any _ _ _ _ _ _ hown.has).mono ?_; rintro e w' ⟨rfl, rfl⟩; rw [HM.out])
                 go_round
                 case rel => exact ⟨q + 1, z, by go_num, by omega, by omega, rfl, hz1, hz2, hid (.inl ⟨by omega, HS2.out.1, HS2.out.2⟩)⟩
                 case measure => simp [intOf]; omega
               · have hm3 : hasB T q = false := by simpa using hm2
                 have HM := hid hm3
                 have HS2 : Hid (backPlace P m T x = (q : Int)) := hid (by
                   rcases HL.out with ⟨e1, e2, e3⟩ | ⟨e1, e2⟩
                   · rw [backPlace_neg e3, place_of e2 (fun e => hm2 (hasB_iff.2 e.2)) (by omega), if_neg (by omega)]
                   · omega)
                 clear hm2 hm3
                 go_wp2_with (go_at_call 71; refine (l1Has_any _ _ _ _ _ _ hown.has).mono ?_; rintro e w' ⟨rfl, rfl⟩; rw [HM.out])
                 go_round
                 case rel => exact ⟨q + 1, (q : Int), by go_num, by omega, by omega, rfl, by omega, by omega, hid (.inr ⟨by omega, HS2.out⟩)⟩
                 case measure => simp [intOf]; omega
             · have HZ : Hid (backs P m (xs.take (k + 1)) = T ++ [z]) := hid (by
                 rw [HS.out, HT.out, HX.out]
                 congr 2
                 rcases HL.out with ⟨e1, e2, e3⟩ | ⟨e1, e2⟩
                 · rw [backPlace_neg e3, place_of e2 (by omega) (by omega), if_pos (by omega), e1]
                 · exact e2)
               have hor : (P : Int) ≤ q ∨ ((q : Int) < P ∧ 0 ≤ z) := by omega
               have hbs := hb.size
               clear hgo HL
               rcases hor with hq | ⟨hq, hz⟩ <;>
               (go_wp2_with (at_builtin; refine wpList_append_int _ rfl _ _ rfl w.heap.size _ _ _ _ _ rfl rfl hown (by omega) hbs ?_; intro a3 cap3 w3 hown3 hb3)
                go_roundw
                case rel => exact ⟨k + 1, a3, cap3, by omega, by go_num, rfl, by rw [HZ.out]; exact hown3, hb.trans hb3⟩
                case measure => simp [intOf]; omega))
    · obtain rfl : k = n := by omega
      go_wp2_with fail
      go_ret
      exact ⟨_, _, rfl, by rw [List.take_of_length_le (by rw [HN.out]; omega)] at hown; exact hown, hb⟩
end Go.Proofs.Ytnddplldkgphnac
