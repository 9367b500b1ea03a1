/- The model's functions of chapter 3, by their contracts: trees, what is above, breadth orders. -/
import Derived.Test.YtdemcjciijlbeaaSpecB
import Derived.Test.YtdemcjciijlbeaaSpecS
import Derived.Test.YtdemcjciijlbeaaMathBf
namespace Go.Proofs.Ytdemcjciijlbeaa
open Go.RowKit

theorem tree_fin {ps : List Int} {n : Nat} (hn : ps.length = n) (h8 : n ≤ 8) (hb : allB ps 0 n = true) (h : ∀ i, i < n → up ps ((i : Int) + 1) n = 0) : treeB ps = true := by
  subst hn
  rw [treeB_iff]
  exact ⟨h8, allB_iff.1 hb, h⟩
theorem tree_bad {ps : List Int} {n : Nat} (hn : ps.length = n) (h : ¬ n ≤ 8 ∨ allB ps 0 n = false) : treeB ps = false := by
  subst hn
  unfold treeB
  rcases h with h | h
  · simp [h]
  · simp [h]
theorem up_bound {ps : List Int} {n : Nat} (hn : ps.length = n) (hb : allB ps 0 n = true) {i : Nat} (hi : i < n) : ∀ s, 0 ≤ up ps ((i : Int) + 1) s ∧ up ps ((i : Int) + 1) s ≤ n
  | 0 => by simp only [up]; omega
  | s + 1 => by
    obtain ⟨h1, h2⟩ := up_bound hn hb hi s
    by_cases e : up ps ((i : Int) + 1) s = 0
    · simp only [up, e, if_true]; omega
    · rw [up_succ e]
      exact allB_nth hb (by omega)

set_option maxHeartbeats 1000000 in
theorem trGood_any (a : Option Addr) (n cap : Nat) (xs : List Int) (w : World) (h : Has w a n cap xs) :
    Calls Try.prog 22 #[.slice a n cap] w fun e w' => e = .returned (.bool (treeB xs)) ∧ w = w' := by
  have HL := hid h.len
  by_cases h8 : n ≤ 8
  · by_cases hb : allB xs 0 n = true
    · have HB := hid hb
      clear hb
      go_enter Try.func22, Try.ntmps22
      go_wp2_with (go_at_call 37; refine (l1All_any _ _ _ _ _ _ _ h).mono ?_; rintro e w' ⟨rfl, rfl⟩; rw [HB.out])
      go_loop [19] (fun i => ∃ k : Nat, k ≤ n ∧ i = .int .i64 k ∧ Hid (∀ j, j < k → up xs ((j : Int) + 1) n = 0)) (fun i => n - (intOf i).toNat)
      case atStart => exact ⟨0, Nat.zero_le _, rfl, hid (fun j hj => by omega)⟩
      case round =>
        obtain ⟨k, hk, rfl, HR⟩ := hrel
        by_cases hlt : k < n
        · obtain ⟨b, off, rfl, hbb, hc⟩ := h.2.2.2.2 (by omega)
          go_wp2_with fail
          go_loop [5, 6] (fun x s => ∃ (v t : Nat), t ≤ n ∧ s = .int .i64 t ∧ x = .int .i64 v ∧ v ≤ n ∧ up xs ((k : Int) + 1) t = v) (fun _ s => n - (intOf s).toNat)
          case atStart => exact ⟨k + 1, 0, by omega, rfl, rfl, by omega, by simp [up]⟩
          case round =>
            obtain ⟨v, t, ht, rfl, rfl, hv, hup⟩ := hrel
            have HU := hid hup
            clear hup
            by_cases hv0 : 0 < v
            · have hv0' : (0 : Int) < (v : Int) := by omega
              by_cases htn : t = n
              · have HN : Hid (treeB xs = false) := hid (treeB_no (i := k) (by rw [HL.out]; exact hlt) (by rw [HL.out, ← htn, HU.out]; omega))
                have hbe : ((t : Int) == (n : Int)) = true := by simp [htn]
                clear htn
                go_wp2_with fail
                go_ret
                exact ⟨ret_bool HN.out.symm, rfl⟩
              · have hbe : ((t : Int) == (n : Int)) = false := by simp; omega
                obtain ⟨u, hu⟩ : ∃ u : Nat, v = u + 1 := ⟨v - 1, by omega⟩
                subst hu
                have hcu := hc u (by omega)
                have HS : Hid (up xs ((k : Int) + 1) (t + 1) = nth xs u) := hid (by
                  rw [up_succ (by rw [HU.out]; omega), HU.out]
                  unfold par
                  rw [show ((u + 1 : Nat) : Int).toNat - 1 = u by omega])
                have HQ : Hid (0 ≤ nth xs u ∧ nth xs u ≤ (n : Int)) := hid (allB_nth HB.out (by rw [HL.out]; omega))
                obtain ⟨x, hx⟩ : ∃ x : Nat, nth xs u = (x : Int) := ⟨(nth xs u).toNat, by have := HQ.out.1; omega⟩
                rw [hx] at hcu HS HQ
                have hq2 : x ≤ n := by have := HQ.out.2; omega
                clear hc hx
                go_wp2_with fail
                go_round
                case rel => exact ⟨x, t + 1, by omega, by go_num, rfl, hq2, HS.out⟩
                case measure => simp [intOf]; omega
            · have hv00 : v = 0 := by omega
              subst hv00
              have HZ : Hid (up xs ((k : Int) + 1) n = 0) := hid (up_zero HU.out n ht)
              clear hc
              go_wp2_with fail
              go_round
              case rel => exact ⟨k + 1, by omega, by go_num, hid (fun j hj => by rcases Nat.lt_succ_iff_lt_or_eq.1 hj with h1 | rfl; exact HR.out j h1; exact HZ.out)⟩
              case measure => simp [intOf]; omega
        · obtain rfl : k = n := by omega
          have HT : Hid (treeB xs = true) := hid (tree_fin HL.out h8 HB.out HR.out)
          go_wp2_with fail
          go_ret
          exact ⟨ret_bool HT.out.symm, rfl⟩
    · have HT : Hid (treeB xs = false) := hid (tree_bad HL.out (.inr (Bool.eq_false_iff.2 hb)))
      have HB := hid (Bool.eq_false_iff.2 hb)
      clear hb
      go_enter Try.func22, Try.ntmps22
      go_wp2_with (go_at_call 37; refine (l1All_any _ _ _ _ _ _ _ h).mono ?_; rintro e w' ⟨rfl, rfl⟩; rw [HB.out])
      go_ret
      exact ⟨ret_bool HT.out.symm, rfl⟩
  · have HT : Hid (treeB xs = false) := hid (tree_bad HL.out (.inl h8))
    go_enter Try.func22, Try.ntmps22
    go_wp2_with fail
    go_ret
    exact ⟨ret_bool HT.out.symm, rfl⟩

end Go.Proofs.Ytdemcjciijlbeaa
