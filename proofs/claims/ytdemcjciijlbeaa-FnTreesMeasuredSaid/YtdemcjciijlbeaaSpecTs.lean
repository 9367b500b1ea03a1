/- The model's functions of chapter 3, by their contracts: what is above, neighbours, breadth orders. -/
import Derived.Test.YtdemcjciijlbeaaSpecTr
import Derived.Test.YtdemcjciijlbeaaMathNr
import Derived.Test.YtdemcjciijlbeaaPut
import Derived.Deep.LoopGhost
namespace Go.Proofs.Ytdemcjciijlbeaa
open Go.RowKit

set_option maxHeartbeats 1000000 in
theorem trAbove_any (a : Option Addr) (n cap : Nat) (xs : List Int) (v : Nat) (w : World) (h : Has w a n cap xs) (ht : Tree xs n) (hv : v ≤ n) :
    Calls Try.prog 24 #[.slice a n cap, .int .i64 (v : Int)] w fun e w' => ∃ a' m cap', e = .returned (.slice a' m cap') ∧ Own w' w.heap.size a' m cap' (abv xs v) ∧ Below w.heap.size w w' := by
  have HT := hid ht
  have h8 := ht.le
  obtain ⟨d1, d2, d3⟩ := ht.dep (v := v) (by omega) (by omega)
  have D1 := hid d1
  have D2 := hid d2
  clear ht d1 d2
  go_enter Try.func24, Try.ntmps24
  go_wp2_with fail
  go_loopg [1, 5] (dep xs v) (fun q nd o wr => ∃ (k u : Nat) (a' : Option Addr) (cap' : Nat), k + q = dep xs v ∧ nd = .int .i64 u ∧ o = .slice a' k cap' ∧ up xs v k = u ∧ u ≤ n ∧ Own wr w.heap.size a' k cap' (upTo xs v k) ∧ Below w.heap.size w wr)
  case atStart => exact ⟨0, v, none, 0, by omega, rfl, rfl, rfl, hv, Own.nil _ _, Below.refl _ _⟩
  case round =>
    obtain ⟨k, u, a', cap', hkq, rfl, rfl, hup, hu, hown, hb⟩ := hrel
    have HU := hid hup
    clear hup
    cases gk with
    | zero =>
      obtain rfl : k = dep xs v := by omega
      have hu0 : u = 0 := by have := HU.out; rw [D1.out] at this; omega
      subst hu0
      go_wp2_with fail
      go_ret
      exact ⟨_, _, _, rfl, hown, hb⟩
    | succ q =>
      have hu0 : u ≠ 0 := fun e => D2.out k (by omega) (by rw [HU.out, e]; rfl)
      obtain ⟨t, hut⟩ : ∃ t : Nat, u = t + 1 := ⟨u - 1, by omega⟩
      subst hut
      obtain ⟨b, off, rfl, hbb, hc⟩ := h.2.2.2.2 (by omega)
      have hct : wr.cell? ⟨b, off + t, none⟩ = some (.int .i64 (nth xs t)) := by rw [hb.cell (p := ⟨b, off + t, none⟩) hbb]; exact hc t (by omega)
      have HS : Hid (up xs v (k + 1) = nth xs t) := hid (by
        rw [up_succ (by rw [HU.out]; omega), HU.out]
        unfold par
        rw [show ((t + 1 : Nat) : Int).toNat - 1 = t by omega])
      have HQ : Hid (0 ≤ nth xs t ∧ nth xs t ≤ (n : Int)) := hid (HT.out.nthB t (by omega))
      obtain ⟨x, hx⟩ : ∃ x : Nat, nth xs t = (x : Int) := ⟨(nth xs t).toNat, by have := HQ.out.1; omega⟩
      rw [hx] at hct HS HQ
      have hq2 : x ≤ n := by have := HQ.out.2; omega
      have hk8 : k ≤ 8 := by omega
      clear hc hx
      go_wp2_with (at_builtin; refine wpList_append_int _ rfl _ _ rfl w.heap.size _ _ _ _ _ rfl rfl hown (by omega) hb.size ?_; intro a2 cap2 w2 hown2 hb2)
      go_roundg q
      case rel => exact ⟨k + 1, x, a2, cap2, by omega, rfl, rfl, HS.out, hq2, by rw [upTo_succ, HS.out]; exact hown2, hb.trans hb2⟩
      case measure => omega

end Go.Proofs.Ytdemcjciijlbeaa
