/- In how many ways more choose: the program's function, by its contract. -/
import Derived.Test.YtkkhlkaieohklabGreatPow
import Derived.Test.YtkkhlkaieohklabGreatMathW
import Derived.StillTailTactics
namespace Go.Proofs.YtkkhlkaieohklabGreat
open Go.RowKit

set_option maxRecDepth 100000 in
set_option maxHeartbeats 4000000 in
theorem chMore_any (a : Option Addr) (K cap L : Nat) (ys : List Int) (v : Nat → Nat) (w : World) (h : Has w a K cap ys) (hK1 : K ≤ L + 1) (hK2 : L + 1 ≤ K) (h8 : L ≤ 8) (HT : Hid (Tab v L ys)) (HV : Hid (∀ s, s ≤ 8 → v s ≤ 16777216)) :
    Calls Tryz.prog 58 #[.slice a K cap] w fun e w' => ∃ a' cap' zs, e = .returned (.slice a' K cap') ∧ Own w' w.heap.size a' K cap' zs ∧ Hid (Next (fun _ => true) v L (L + 1) 0 zs) ∧ Below w.heap.size w w' := by
  have hrep : List.replicate K (0 : Int) = List.replicate (L + 1) 0 := by rw [show K = L + 1 by omega]
  have HREP := hid hrep
  have HZ0 := hid (next_zero (fun _ => true) v L)
  obtain ⟨b, off, rfl, hbb, hc⟩ := h.2.2.2.2 (by omega)
  have HC := hid hc
  clear hrep hc
  go_enter Tryz.func58, Tryz.ntmps58
  go_wp2_with (at_make; refine wpList_make_ints _ rfl _ _ rfl K rfl rfl (by omega) ?_; intro a2 cap2 w3 hown3 hb3)
  rw [HREP.out] at hown3
  go_loopw [16] (fun i wr => ∃ (k : Nat) (zs : List Int), k ≤ K ∧ i = .int .i64 (k : Int) ∧ Own wr w.heap.size a2 K cap2 zs ∧ Hid (Next (fun _ => true) v L k 0 zs) ∧ Below w.heap.size w wr) (fun i _ => K - (intOf i).toNat)
  case atStart => exact ⟨0, _, Nat.zero_le _, rfl, hown3, HZ0, hb3⟩
  case round =>
    clear hown3 hb3 HZ0
    obtain ⟨k, zs, hk, rfl, hz, HZ, hb4⟩ := hrel
    obtain ⟨w4, hw4⟩ : ∃ w4 : World, w4 = wr := ⟨_, rfl⟩
    subst hw4
    by_cases hkK : k < K
    · have hck : w4.cell? ⟨b, off + k, none⟩ = some (.int .i64 (nth ys k)) := by rw [hb4.cell (p := ⟨b, off + k, none⟩) hbb]; exact HC.out k hkK
      obtain ⟨y0, y1⟩ := tab_le HT.out (by omega) HV.out (s := k) (by omega)
      go_wp2_with fail
      go_loopw [25] (fun j wr4 => ∃ (M : Nat) (zs : List Int), k + M ≤ K ∧ j = .int .i64 (M : Int) ∧ Own wr4 w.heap.size a2 K cap2 zs ∧ Hid (Next (fun _ => true) v L k M zs) ∧ Below w.heap.size w wr4) (fun j _ => K - (intOf j).toNat)
      case atStart => exact ⟨0, zs, by omega, rfl, hz, HZ, hb4⟩
      case round =>
        clear hz HZ hb4 hck
        obtain ⟨M, zs, hM, rfl, hz, HZ, hb5⟩ := hrel
        by_cases hj : (M : Int) < (K : Int) - 1 - (k : Int) + 1
        · obtain ⟨g2, rfl, hg1, hg2, hg3, hg4⟩ := hz.opened (by omega)
          have hgk := hg3 (k + M) (by omega)
          have hgf := hg4 (k + M)
          obtain ⟨z0, z1⟩ := next_le HZ.out (by omega) (by omega) HV.out (s := k + M) (by omega)
          obtain ⟨p0, p1⟩ := prod_le HT.out (by omega) HV.out (s := k) (by omega) (n := L - k) (k := M) (by omega) (by omega)
          have HZ' := hid (next_store HZ.out HT.out (by rw [hz.len]; omega) (by omega) (by omega) (by simp))
          clear hg3 hg4
          go_wp2_with fail
          have v1 : IntKind.i64.wrap ((k : Int) + (M : Int)) = (k : Int) + (M : Int) := IntWalk.i64_in _ (by omega)
          have v2 : 0 ≤ (k : Int) + (M : Int) := by omega
          have v3 : ((k : Int) + (M : Int)).toNat = k + M := by omega
          have v4 : (k : Int) + (M : Int) < (K : Int) := by omega
          have v5 : IntKind.i64.wrap ((K : Int) - 1 - (k : Int)) = (K : Int) - 1 - (k : Int) := IntWalk.i64_in _ (by omega)
          have v6 : IntKind.i64.wrap (nth ys k * (chs (L - k) M : Int)) = nth ys k * (chs (L - k) M : Int) := IntWalk.i64_in _ (by omega)
          have v7 : IntKind.i64.wrap (nth zs (k + M) + nth ys k * (chs (L - k) M : Int)) = nth zs (k + M) + nth ys k * (chs (L - k) M : Int) := IntWalk.i64_in _ (by omega)
          go_still_tail 15, (by kernel_rfl)
          still_call (bino_any (L - k) M _ _ _ (by omega) (by omega) (by omega) (by omega))
          repeat still_step
          refine wpStill_nil ?_
          clear v1 v2 v3 v4 v5 v6 v7
          change wpList _ _ _ _ _ wr.drew
          go_wp2_with fail
          go_roundw
          case rel =>
            obtain ⟨s1, s2⟩ := hz.set (k + M) (nth zs (k + M) + nth ys k * (chs (L - k) M : Int))
            exact ⟨M + 1, _, by omega, by go_num, s1, HZ', (hb5.setCell hg1 _).drew⟩
          case measure => simp [intOf]; omega
        · have HZ' := hid (next_done HZ.out (by omega))
          go_wp2_with fail
          go_roundw
          case rel => exact ⟨k + 1, zs, by omega, by go_num, hz, HZ', hb5⟩
          case measure => simp [intOf]; omega
    · have hkL : k = L + 1 := by omega
      have HZ' : Hid (Next (fun _ => true) v L (L + 1) 0 zs) := hid (by have := HZ.out; rw [hkL] at this; exact this)
      clear hkL
      go_wp2_with fail
      go_ret
      exact ⟨_, _, zs, rfl, hz, HZ', hb4⟩

end Go.Proofs.YtkkhlkaieohklabGreat
