/- The model's count of beginnings, by its contract. -/
import Derived.Test.YtkkhlkaieohklabGreatSpecN
import Derived.IntWalk
namespace Go.Proofs.YtkkhlkaieohklabGreat
open Go.RowKit

/-- How many favourites there are up to a place. -/
def upB (xs : List Int) (P : Nat) : Nat := below xs ((P : Int) + 1)
theorem upB_le (xs : List Int) (P : Nat) : upB xs P ≤ xs.length := below_le _ _
theorem N_upB (xs : List Int) (n : Nat) : N xs n = V (upB xs) n (n - xs.length) := rfl
/-- Those that are asked for at a place, among the first. -/
theorem count_at {xs : List Int} {P k : Nat} (h : k < xs.length) : (below (xs.take (k + 1)) ((P : Int) + 1) : Int) - below (xs.take (k + 1)) P = (below (xs.take k) ((P : Int) + 1) : Int) - below (xs.take k) P + if nth xs k = P then 1 else 0 := by
  rw [below_succ h, below_succ h]
  split <;> split <;> split <;> omega
theorem below_mono (xs : List Int) (P : Int) : below xs P ≤ below xs (P + 1) := by
  unfold below
  exact List.countP_mono_left fun x _ h => by simp at *; omega

set_option maxRecDepth 100000 in
set_option maxHeartbeats 4000000 in
theorem cnWith_any (a : Option Addr) (m cap : Nat) (xs : List Int) (n : Nat) (w : World) (h : Has w a m cap xs) (hn : n ≤ 8) (hm : m ≤ n) (h0 : ∀ i, i < m → 0 ≤ nth xs i) :
    Calls Tryz.prog 25 #[.slice a m cap, .int .i64 (n : Int)] w fun e w' => e = .returned (.int .i64 (N xs n : Int)) ∧ Below w.heap.size w w' := by
  obtain ⟨L, hL1, hL2⟩ : ∃ L, n ≤ m + L ∧ m + L ≤ n := ⟨n - m, by omega, by omega⟩
  obtain ⟨K, hK1, hK2⟩ : ∃ K, K ≤ L + 1 ∧ L + 1 ≤ K := ⟨L + 1, by omega, by omega⟩
  have HLEN := hid h.len
  have HN : Hid (N xs n = V (upB xs) n L) := hid (by rw [N_upB, h.len, show n - m = L by omega])
  have HB0 := hid (below_upto h0 h.len)
  have HBL : Hid (∀ P, upB xs P ≤ m) := hid (fun P => by have := upB_le xs P; rw [h.len] at this; exact this)
  have HC := hid h.2.2.2.2
  have hmc := h.2.1
  clear h0
  have hK0 : 0 < K := by omega
  go_enter Tryz.func25, Tryz.ntmps25
  go_wp2_with (at_make; refine wpList_make_ints _ rfl _ _ rfl K (congrArg (Value.int .i64) (by omega)) (congrArg (Value.int .i64) (by omega)) (by omega) ?_; intro a1 cap1 w1 hown1 hb1; obtain ⟨g1, rfl, hg1, hg2, hg3, hg4⟩ := hown1.opened (by omega); have hgk := hg3 0 (by omega); have hgf := hg4 0; clear hg3 hg4)
  obtain ⟨s1, s2⟩ := hown1.set 0 1
  have HT0 := hid (tab_first (upB xs) L)
  have hrep : List.replicate K (0 : Int) = List.replicate (L + 1) 0 := by rw [show K = L + 1 by omega]
  rw [hrep] at s1
  have hb2 := hb1.setCell (p := ⟨g1, 0, none⟩) hg1 (.int .i64 1)
  clear hown1 hb1 s2 hrep hgk hgf
  generalize w1.setCell ⟨g1, 0, none⟩ (.int .i64 1) = w2 at *
  go_loopw [6, 7, 8] (fun s6 s7 s8 wr => ∃ (P : Nat) (a' : Option Addr) (cap' : Nat) (ys : List Int), P ≤ n ∧ s8 = .int .i64 (P : Int) ∧ s7 = .int .i64 (below xs P : Int) ∧ s6 = .slice a' K cap' ∧ Own wr w.heap.size a' K cap' ys ∧ Hid (Tab (V (upB xs) P) L ys) ∧ Below w.heap.size w wr) (fun _ _ i _ => n - (intOf i).toNat)
  case atStart => exact ⟨0, some ⟨g1, 0, none⟩, cap1, _, Nat.zero_le _, rfl, by rw [show (((0 : Nat) : Int)) = 0 from rfl, HB0.out]; rfl, rfl, s1, HT0, hb2⟩
  case round =>
    clear s1 HT0 hb2 hg1 hg2
    obtain ⟨P, a', cap', ys, hP, rfl, rfl, rfl, hown, HT, hb⟩ := hrel
    obtain ⟨wo, hwo⟩ : ∃ wo : World, wo = wr := ⟨_, rfl⟩
    subst hwo
    by_cases hlt : P < n
    · have HBM : Hid (below xs (P : Int) + 0 ≤ upB xs P) := hid (by have := below_mono xs P; unfold upB; omega)
      have hbl := below_le xs (P : Int)
      rw [HLEN.out] at hbl
      go_wp2_with fail
      go_loop [7, 31] (fun c i => ∃ k : Nat, k ≤ m ∧ i = .int .i64 (k : Int) ∧ c = .int .i64 ((below xs P : Int) + ((below (xs.take k) ((P : Int) + 1) : Int) - below (xs.take k) P))) (fun _ i => m - (intOf i).toNat)
      case atStart => exact ⟨0, Nat.zero_le _, rfl, by simp [below]⟩
      case round =>
        obtain ⟨k, hk, rfl, rfl⟩ := hrel
        by_cases hkm : k < m
        · obtain ⟨b, off, rfl, hbb, hc⟩ := HC.out (by omega)
          have hck : wo.cell? ⟨b, off + k, none⟩ = some (.int .i64 (nth xs k)) := by rw [hb.cell (p := ⟨b, off + k, none⟩) hbb]; exact hc k hkm
          have hca := count_at (xs := xs) (P := P) (k := k) (by rw [HLEN.out]; omega)
          have HCA := hid hca
          have h1 := below_mono (xs.take k) (P : Int)
          have h2 := below_le (xs.take k) ((P : Int) + 1)
          rw [List.length_take] at h2
          have hd0 : 0 ≤ (below (xs.take k) ((P : Int) + 1) : Int) - below (xs.take k) P := by omega
          have hd1 : (below (xs.take k) ((P : Int) + 1) : Int) - below (xs.take k) P ≤ 8 := by omega
          clear hca hc h1 h2
          generalize (below (xs.take k) ((P : Int) + 1) : Int) - below (xs.take k) P = d at *
          by_cases he : nth xs k = (P : Int)
          · have hbe : (nth xs k == (P : Int)) = true := by simp [he]
            have HE := hid he
            clear he
            go_wp2_with fail
            go_round
            case rel => exact ⟨k + 1, by omega, by go_num, by rw [HCA.out, if_pos HE.out]; go_num⟩
            case measure => simp [intOf]; omega
          · have hbe : (nth xs k == (P : Int)) = false := by simp [he]
            have HE := hid he
            clear he
            go_wp2_with fail
            go_round
            case rel => exact ⟨k + 1, by omega, by go_num, by rw [HCA.out, if_neg HE.out, Int.add_zero]⟩
            case measure => simp [intOf]; omega
        · obtain rfl : m = k := by omega
          have hu : (below xs P : Int) + ((below (xs.take m) ((P : Int) + 1) : Int) - below (xs.take m) P) = (upB xs P : Int) := by
            rw [List.take_of_length_le (by rw [HLEN.out]; omega)]
            unfold upB
            omega
          rw [hu]
          have hul := HBL.out P
          clear hu
          go_wp2_with (at_make; refine wpList_make_ints _ rfl _ _ rfl K (congrArg (Value.int .i64) (by omega)) (congrArg (Value.int .i64) (by omega)) (by omega) ?_; intro a2 cap2 w3 hown3 hb3)
          have hrep : List.replicate K (0 : Int) = List.replicate (L + 1) 0 := by rw [show K = L + 1 by omega]
          rw [hrep] at hown3
          have hsz := hb.size
          have HZ0 := hid (next_zero (fun s => decide (P < upB xs P + s)) (V (upB xs) P) L)
          have HV := hid (V_le8 (upB xs) (P := P) (by omega))
          clear hrep
          go_loopw [46] (fun i wr3 => ∃ (k : Nat) (zs : List Int), k ≤ K ∧ i = .int .i64 (k : Int) ∧ Own wr3 wo.heap.size a2 K cap2 zs ∧ Hid (Next (fun s => decide (P < upB xs P + s)) (V (upB xs) P) L k 0 zs) ∧ Below wo.heap.size wo wr3) (fun i _ => K - (intOf i).toNat)
          case atStart => exact ⟨0, _, Nat.zero_le _, rfl, hown3, HZ0, hb3⟩
          case round =>
            clear hown3 hb3 HZ0
            obtain ⟨k, zs, hk, rfl, hz, HZ, hb4⟩ := hrel
            obtain ⟨w4, hw4⟩ : ∃ w4 : World, w4 = wr := ⟨_, rfl⟩
            subst hw4
            by_cases hkK : k < K
            · obtain ⟨-, -, -, -, hy4⟩ := hown.has
              obtain ⟨b, off, rfl, hbb, hc⟩ := hy4 (by omega)
              have hck : w4.cell? ⟨b, off + k, none⟩ = some (.int .i64 (nth ys k)) := by rw [hb4.cell (p := ⟨b, off + k, none⟩) hbb]; exact hc k hkK
              obtain ⟨y0, y1⟩ := tab_le HT.out (by omega) HV.out (s := k) (by omega)
              clear hc hy4
              go_wp2_with fail
              go_loopw [14] (fun j wr4 => ∃ (M : Nat) (zs : List Int), k + M ≤ K ∧ j = .int .i64 (M : Int) ∧ Own wr4 wo.heap.size a2 K cap2 zs ∧ Hid (Next (fun s => decide (P < upB xs P + s)) (V (upB xs) P) L k M zs) ∧ Below wo.heap.size wo wr4) (fun j _ => K - (intOf j).toNat)
              case atStart => exact ⟨0, zs, by omega, rfl, hz, HZ, hb4⟩
              case round =>
                clear hz HZ hb4 hck
                obtain ⟨M, zs, hM, rfl, hz, HZ, hb5⟩ := hrel
                by_cases hj : (k : Int) + (M : Int) ≤ (n : Int) - (m : Int)
                · by_cases hcd : (P : Int) < (upB xs P : Int) + (k : Int) + (M : Int)
                  · obtain ⟨g2, rfl, hg1, hg2, hg3, hg4⟩ := hz.opened (by omega)
                    have hgk := hg3 (k + M) (by omega)
                    have hgf := hg4 (k + M)
                    obtain ⟨z0, z1⟩ := next_le HZ.out (by omega) (by omega) HV.out (s := k + M) (by omega)
                    obtain ⟨p0, p1⟩ := prod_le HT.out (by omega) HV.out (s := k) (by omega) (n := L - k) (k := M) (by omega) (by omega)
                    have HZ' := hid (next_store HZ.out HT.out (by rw [hz.len]; omega) (by omega) (by omega) (by simp; omega))
                    clear hg3 hg4
                    go_wp2_with fail
                    have v1 : IntKind.i64.wrap ((k : Int) + (M : Int)) = (k : Int) + (M : Int) := IntWalk.i64_in _ (by omega)
                    have v2 : 0 ≤ (k : Int) + (M : Int) := by omega
                    have v3 : ((k : Int) + (M : Int)).toNat = k + M := by omega
                    have v4 : (k : Int) + (M : Int) < (K : Int) := by omega
                    have v5 : IntKind.i64.wrap ((n : Int) - (m : Int) - (k : Int)) = (n : Int) - (m : Int) - (k : Int) := IntWalk.i64_in _ (by omega)
                    have v6 : IntKind.i64.wrap (nth ys k * (chs (L - k) M : Int)) = nth ys k * (chs (L - k) M : Int) := IntWalk.i64_in _ (by omega)
                    have v7 : IntKind.i64.wrap (nth zs (k + M) + nth ys k * (chs (L - k) M : Int)) = nth zs (k + M) + nth ys k * (chs (L - k) M : Int) := IntWalk.i64_in _ (by omega)
                    go_still_tail 15, (by kernel_rfl)
                    still_call (cnChoose_at (L - k) M _ _ _ (by omega) (by omega) (by omega) (by omega))
                    repeat still_step
                    refine wpStill_nil ?_
                    clear v1 v2 v3 v4 v5 v6 v7
                    change wpList _ _ _ _ _ wr.drew
                    go_wp2_with fail
                    go_roundw
                    case rel =>
                      obtain ⟨s1, s2⟩ := hz.set (k + M) (nth zs (k + M) + nth ys k * (chs (L - k) M : Int))
                      exact ⟨M + 1, _, by omega, by go_num, s1, HZ', (hb5.setCell hg1 _).drew⟩
                    case measure => simp [intOf]; omega
                  · have HZ' := hid (next_skip HZ.out (by simp; omega))
                    go_wp2_with fail
                    go_roundw
                    case rel => exact ⟨M + 1, zs, by omega, by go_num, hz, HZ', hb5⟩
                    case measure => simp [intOf]; omega
                · have HZ' := hid (next_done HZ.out (by omega))
                  go_wp2_with fail
                  go_roundw
                  case rel => exact ⟨k + 1, zs, by omega, by go_num, hz, HZ', hb5⟩
                  case measure => simp [intOf]; omega
            · have hkL : k = L + 1 := by omega
              have HT' := hid (tab_step (by have := HZ.out; rw [hkL] at this; exact this))
              have HU : Hid ((upB xs P : Int) = (below xs ((P + 1 : Nat) : Int) : Int)) := hid (by unfold upB; rw [show ((P + 1 : Nat) : Int) = (P : Int) + 1 by omega])
              clear hkL
              go_wp2_with fail
              go_roundw
              case rel => exact ⟨P + 1, a2, cap2, zs, by omega, by go_num, by rw [HU.out], rfl, hz.mono hsz, HT', hb.trans (hb4.mono hsz)⟩
              case measure => simp [intOf]; omega
    · obtain rfl : n = P := by omega
      obtain ⟨-, -, -, -, hy4⟩ := hown.has
      obtain ⟨b, off, rfl, hbb, hc⟩ := hy4 (by omega)
      have hck := hc L (by omega)
      have HV2 : Hid (nth ys L = (V (upB xs) n L : Int)) := hid (by rw [HT.out L (Nat.le_refl _), chs_self, Nat.one_mul])
      have e1 : ((n : Int) - (m : Int)).toNat = L := by omega
      have v2 : (0 : Int) ≤ (n : Int) - (m : Int) := by omega
      have v4 : (n : Int) - (m : Int) < (K : Int) := by omega
      clear hc hy4
      go_wp2_with fail
      go_ret
      exact ⟨ret_int (by rw [HN.out, HV2.out]), hb⟩
end Go.Proofs.YtkkhlkaieohklabGreat
