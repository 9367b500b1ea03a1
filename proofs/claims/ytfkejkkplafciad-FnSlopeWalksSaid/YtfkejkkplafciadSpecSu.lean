/- The model's counts and ranks of slope parking functions, by their contracts. -/
import Derived.Test.YtfkejkkplafciadSpecSl
import Derived.Test.YtfkejkkplafciadMathSw
import Derived.StillTailTactics
import Derived.IntWalk
namespace Go.Proofs.Ytfkejkkplafciad
open Go.RowKit

theorem slNeed_any (n a j : Nat) (w : World) (hn : n ≤ 6) (ha : a ≤ 13) :
    Calls Try.prog 95 #[.int .i64 (n : Int), .int .i64 (a : Int), .int .i64 (j : Int)] w fun e w' => e = .returned (.int .i64 (below (bnds n a) ((j : Int) + 1) : Int)) ∧ Below w.heap.size w w' := by
  have HL := hid (length_bnds n a)
  go_enter Try.func95, Try.ntmps95
  go_wp2_with fail
  refine (slBounds_any n a _ hn ha).mono ?_
  rintro e w1 ⟨a1, cap1, rfl, hown1, hb1⟩
  obtain ⟨-, k1, k2, -, k4⟩ := hown1.has
  clear hown1
  go_wp2_with fail
  go_loop [7, 14] (fun c i => ∃ k : Nat, k ≤ n ∧ i = .int .i64 (k : Int) ∧ c = .int .i64 (below ((bnds n a).take k) ((j : Int) + 1) : Int)) (fun _ i => n - (intOf i).toNat)
  case atStart => exact ⟨0, Nat.zero_le _, rfl, rfl⟩
  case round =>
    obtain ⟨k, hk, rfl, rfl⟩ := hrel
    by_cases hlt : k < n
    · obtain ⟨b, off, rfl, hbb, hc⟩ := k4 (by omega)
      have hck := hc k hlt
      have HS := hid (below_succ (xs := bnds n a) (k := k) (by rw [HL.out]; exact hlt) ((j : Int) + 1))
      have hle := below_le ((bnds n a).take k) ((j : Int) + 1)
      rw [List.length_take] at hle
      clear hc k4
      by_cases ht : nth (bnds n a) k ≤ (j : Int)
      · have HT : Hid (nth (bnds n a) k < (j : Int) + 1) := hid (by omega)
        go_wp2_with fail
        go_round
        case rel => exact ⟨k + 1, by omega, by go_num, by rw [HS.out, if_pos HT.out]; go_num⟩
        case measure => simp [intOf]; omega
      · have HT : Hid (¬ nth (bnds n a) k < (j : Int) + 1) := hid (by omega)
        go_wp2_with fail
        go_round
        case rel => exact ⟨k + 1, by omega, by go_num, by rw [HS.out, if_neg HT.out]; rfl⟩
        case measure => simp [intOf]; omega
    · obtain rfl : n = k := by omega
      have HE : Hid ((bnds n a).take n = bnds n a) := hid (List.take_of_length_le (by rw [HL.out]; exact Nat.le_refl _))
      go_wp2_with fail
      go_ret
      exact ⟨ret_int (by rw [HE.out]), hb1⟩

/-- How often each number occurs among the first ones. -/
def Occ (xs : List Int) (k : Nat) (zs : List Int) : Prop := ∀ j, j < zs.length → nth zs j = (((xs.take k).countP fun x => decide (x = (j : Int)) : Nat) : Int)
theorem occ_first (xs : List Int) (a : Nat) : Occ xs 0 (List.replicate a 0) := fun j _ => by rw [nth_replicate0]; simp
theorem occ_step {xs zs : List Int} {k x : Nat} (h : Occ xs k zs) (hk : k < xs.length) (hx : nth xs k = (x : Int)) (hl : x < zs.length) : Occ xs (k + 1) (zs.set x (nth zs x + 1)) := fun j hj => by
  rw [List.length_set] at hj
  rw [nth_set hl, take_succ_nth hk, List.countP_append, hx]
  by_cases e : x = j
  · subst e
    rw [if_pos rfl, h x hl]
    simp
  · rw [if_neg e, h j hj]
    have : ¬ (x : Int) = (j : Int) := by omega
    simp [this]
theorem occ_le {xs zs : List Int} {k j : Nat} (h : Occ xs k zs) (hj : j < zs.length) : 0 ≤ nth zs j ∧ nth zs j ≤ xs.length := by
  rw [h j hj]
  have h1 := List.countP_le_length (l := xs.take k) (p := fun x => decide (x = (j : Int)))
  rw [List.length_take] at h1
  omega
theorem below_occ {xs zs : List Int} {j n : Nat} (hn : xs.length = n) (h : Occ xs n zs) (hj : j < zs.length) : (below xs ((j : Int) + 1) : Int) = (below xs (j : Int) : Int) + nth zs j := by
  subst hn
  rw [h j hj, List.take_of_length_le (Nat.le_refl _)]
  unfold below
  rw [← Int.natCast_add]
  congr 1
  clear h
  induction xs with
  | nil => rfl
  | cons x xs ih =>
    simp only [List.countP_cons, decide_eq_true_eq]
    split <;> split <;> split <;> omega

set_option maxRecDepth 100000 in
set_option maxHeartbeats 2000000 in
theorem slWays_any (a : Option Addr) (m cap : Nat) (xs : List Int) (n q : Nat) (w : World) (h : Has w a m cap xs) (hs : Hid (slN n q = true)) (hm : m ≤ n) (hx : Hid (∀ i, i < m → 0 ≤ nth xs i ∧ nth xs i < (q : Int))) :
    Calls Try.prog 61 #[.slice a m cap, .int .i64 (n : Int), .int .i64 (q : Int)] w fun e w' => e = .returned (.int .i64 (NU (shp (bnds n q)) xs : Int)) ∧ Below w.heap.size w w' := by
  obtain ⟨L, hL1, hL2⟩ : ∃ L, n ≤ m + L ∧ m + L ≤ n := ⟨n - m, by omega, by omega⟩
  obtain ⟨K, hK1, hK2⟩ : ∃ K, K ≤ L + 1 ∧ L + 1 ≤ K := ⟨L + 1, by omega, by omega⟩
  obtain ⟨⟨n0, n1⟩, ⟨q0, q1⟩, -⟩ := slN_iff.1 hs.out
  have HLEN := hid h.len
  obtain ⟨d, hd⟩ : ∃ d, (fun j : Nat => below (bnds n q) ((j : Int) + 1)) = d := ⟨_, rfl⟩
  obtain ⟨u, hu⟩ : ∃ u, (fun P : Nat => below xs ((P : Int) + 1)) = u := ⟨_, rfl⟩
  have HN : Hid (NU (shp (bnds n q)) xs = U d u q L) := hid (by
    obtain ⟨k, hk⟩ : ∃ k, numB (bnds n q) + k = q := ⟨q - numB (bnds n q), by have := numB_slope (n := n) q0; omega⟩
    have := U_across (bs := bnds n q) (p := xs) (bnds_bnd n q) (by rw [length_bnds]; omega) (by rw [length_bnds, h.len]; exact hm) k
    rw [hk, length_bnds, h.len, show n - m = L by omega, hu] at this
    rw [← this, ← hd]
    rfl)
  have HU : Hid (∀ P : Nat, below xs ((P : Int) + 1) = u P) := hid (fun P => by rw [← hu])
  have HD : Hid (∀ P : Nat, below (bnds n q) ((P : Int) + 1) = d P) := hid (fun P => by rw [← hd])
  have HUL : Hid (∀ P, u P ≤ m) := hid (fun P => by have := below_le xs ((P : Int) + 1); rw [h.len, HU.out] at this; exact this)
  have HDL : Hid (∀ P, d P ≤ n) := hid (fun P => by have := below_le (bnds n q) ((P : Int) + 1); rw [length_bnds, HD.out] at this; exact this)
  have HV : Hid (∀ P, P ≤ q → ∀ s, s ≤ 8 → cutU d u L P s ≤ 16777216) := hid (fun P hP s hs8 => by
    unfold cutU
    split
    · rename_i hsl
      refine Nat.le_trans (U_le d u P (by omega) s (by omega)) ?_
      have := pow_slope s (by omega) P (by omega)
      omega
    · omega)
  have HB0 : Hid (below xs 0 = 0) := hid (below_upto (n := m) (fun i hi => (hx.out i hi).1) h.len)
  have HC := hid h.2.2.2.2
  have hmc := h.2.1
  have hK0 : 0 < K := by omega
  clear hd hu
  go_enter Try.func61, Try.ntmps61
  go_wp2_with (at_make; refine wpList_make_ints _ rfl _ _ rfl q rfl rfl (by omega) ?_; intro a0 cap0 w0 hown0 hb0)
  have HO0 := hid (occ_first xs q)
  go_loopw [22] (fun i wr => ∃ (k : Nat) (zs : List Int), k ≤ m ∧ i = .int .i64 (k : Int) ∧ Own wr w.heap.size a0 q cap0 zs ∧ Hid (Occ xs k zs) ∧ Below w.heap.size w wr) (fun i _ => m - (intOf i).toNat)
  case atStart => exact ⟨0, _, Nat.zero_le _, rfl, hown0, HO0, hb0⟩
  case round =>
    clear hown0 hb0 HO0
    obtain ⟨k, zs, hk, rfl, hz, HO, hb⟩ := hrel
    obtain ⟨wo, hwo⟩ : ∃ wo : World, wo = wr := ⟨_, rfl⟩
    subst hwo
    by_cases hlt : k < m
    · obtain ⟨b, off, rfl, hbb, hc⟩ := HC.out (by omega)
      have hck : wo.cell? ⟨b, off + k, none⟩ = some (.int .i64 (nth xs k)) := by rw [hb.cell (p := ⟨b, off + k, none⟩) hbb]; exact hc k hlt
      obtain ⟨x0, x1⟩ := hx.out k hlt
      obtain ⟨x, hxx⟩ : ∃ x : Nat, nth xs k = (x : Int) := ⟨(nth xs k).toNat, by omega⟩
      have HO2 := hid (occ_step HO.out (by rw [HLEN.out]; exact hlt) hxx (by rw [hz.len]; omega))
      obtain ⟨z0, z1⟩ := occ_le (j := x) HO.out (by rw [hz.len]; omega)
      rw [HLEN.out] at z1
      rw [hxx] at hck x0 x1
      obtain ⟨g1, rfl, hg1, hg2, hg3, hg4⟩ := hz.opened (by omega)
      have hgk := hg3 x (by omega)
      have hgf := hg4 x
      obtain ⟨s1, s2⟩ := hz.set x (nth zs x + 1)
      have hb2 := hb.setCell (p := ⟨g1, x, none⟩) hg1 (.int .i64 (nth zs x + 1))
      clear hc hg3 hg4 s2 hxx
      go_wp2_with fail
      go_roundw
      case rel => exact ⟨k + 1, _, by omega, by go_num, s1, HO2, hb2⟩
      case measure => simp [intOf]; omega
    · obtain rfl : m = k := by omega
      have HOM := HO
      have hsz0 := hb.size
      go_wp2_with (at_make; refine wpList_make_ints _ rfl _ _ rfl K (congrArg (Value.int .i64) (by omega)) (congrArg (Value.int .i64) (by omega)) (by omega) ?_; intro a1 cap1 w1 hown1 hb1; obtain ⟨g1, rfl, hg1, hg2, hg3, hg4⟩ := hown1.opened (by omega); have hgk := hg3 0 (by omega); have hgf := hg4 0; clear hg3 hg4)
      obtain ⟨s1, s2⟩ := hown1.set 0 1
      have hz1 := (hz.below hb1 (Nat.le_refl _)).kept s2 (.inr (fun p hp => by have := hz.lt p hp; omega))
      have HT0 := hid (tabU_first d u L)
      have hrep : List.replicate K (0 : Int) = List.replicate (L + 1) 0 := by rw [show K = L + 1 by omega]
      rw [hrep] at s1
      have hb2 := (hb.trans (hb1.mono hsz0)).setCell (p := ⟨g1, 0, none⟩) (Nat.le_trans hsz0 hg1) (.int .i64 1)
      have s1' := s1.mono hsz0
      clear hown1 hb1 s2 hrep hgk hgf s1 hb hz
      generalize w1.setCell ⟨g1, 0, none⟩ (.int .i64 1) = w2 at *
      go_loopw [11, 12, 13] (fun s11 s12 s13 wr => ∃ (P : Nat) (a' : Option Addr) (cap' : Nat) (ys : List Int), P ≤ q ∧ s13 = .int .i64 (P : Int) ∧ s12 = .int .i64 (below xs (P : Int) : Int) ∧ s11 = .slice a' K cap' ∧ Own wr w.heap.size a' K cap' ys ∧ Own wr w.heap.size a0 q cap0 zs ∧ Hid (Tab (U d u P) L ys) ∧ Below w.heap.size w wr) (fun _ _ i _ => q - (intOf i).toNat)
      case atStart => exact ⟨0, some ⟨g1, 0, none⟩, cap1, _, Nat.zero_le _, rfl, by rw [show (((0 : Nat) : Int)) = 0 from rfl, HB0.out]; rfl, rfl, s1', hz1, HT0, hb2⟩
      case round =>
        clear s1' HT0 hb2 hg1 hg2 hz1
        obtain ⟨P, a', cap', ys, hP, rfl, rfl, rfl, hown, hz, HT, hb⟩ := hrel
        obtain ⟨wp, hwp⟩ : ∃ wp : World, wp = wr := ⟨_, rfl⟩
        subst hwp
        by_cases hlt : P < q
        · have hbo := below_occ (j := P) HLEN.out HOM.out (by rw [hz.len]; exact hlt)
          rw [HU.out] at hbo
          have HBO := hid hbo.symm
          have hbl := below_le xs (P : Int)
          rw [HLEN.out] at hbl
          obtain ⟨o0, o1⟩ := occ_le (j := P) HOM.out (by rw [hz.len]; exact hlt)
          rw [HLEN.out] at o1
          obtain ⟨g0, rfl, -, -, hc0, -⟩ := hz.opened (by omega)
          have hck0 := hc0 P hlt
          have hul := HUL.out P
          have hdl := HDL.out P
          have HDP : Hid ((below (bnds n q) ((P : Int) + 1) : Int) = (d P : Int)) := hid (by rw [HD.out])
          clear hc0 hbo
          go_wp2_with (at_make; refine wpList_make_ints _ rfl _ _ rfl K (congrArg (Value.int .i64) (by omega)) (congrArg (Value.int .i64) (by omega)) (by omega) ?_; intro a2 cap2 w3 hown3 hb3)
          rw [HBO.out]
          have hrep : List.replicate K (0 : Int) = List.replicate (L + 1) 0 := by rw [show K = L + 1 by omega]
          rw [hrep] at hown3
          have hsz := hb.size
          have HZ0 := hid (next_zero (fun s => decide (d P ≤ u P + s)) (cutU d u L P) L)
          have HVP := hid (HV.out P (by omega))
          have HTC := hid (tab_cut HT.out)
          clear hrep
          go_loopw [58] (fun i wr3 => ∃ (k : Nat) (zs' : List Int), k ≤ K ∧ i = .int .i64 (k : Int) ∧ Own wr3 wp.heap.size a2 K cap2 zs' ∧ Hid (Next (fun s => decide (d P ≤ u P + s)) (cutU d u L P) L k 0 zs') ∧ Below wp.heap.size wp wr3) (fun i _ => K - (intOf i).toNat)
          case atStart => exact ⟨0, _, Nat.zero_le _, rfl, hown3, HZ0, hb3⟩
          case round =>
            clear hown3 hb3 HZ0
            obtain ⟨k, zs', hk, rfl, hz', HZ, hb4⟩ := hrel
            obtain ⟨w4, hw4⟩ : ∃ w4 : World, w4 = wr := ⟨_, rfl⟩
            subst hw4
            by_cases hkK : k < K
            · obtain ⟨-, -, -, -, hy4⟩ := hown.has
              obtain ⟨b, off, rfl, hbb, hc⟩ := hy4 (by omega)
              have hck : w4.cell? ⟨b, off + k, none⟩ = some (.int .i64 (nth ys k)) := by rw [hb4.cell (p := ⟨b, off + k, none⟩) hbb]; exact hc k hkK
              obtain ⟨y0, y1⟩ := tab_le HTC.out (by omega) HVP.out (s := k) (by omega)
              clear hc hy4
              go_wp2_with fail
              go_loopw [17] (fun j wr4 => ∃ (M : Nat) (zs' : List Int), k + M ≤ K ∧ j = .int .i64 (M : Int) ∧ Own wr4 wp.heap.size a2 K cap2 zs' ∧ Hid (Next (fun s => decide (d P ≤ u P + s)) (cutU d u L P) L k M zs') ∧ Below wp.heap.size wp wr4) (fun j _ => K - (intOf j).toNat)
              case atStart => exact ⟨0, zs', by omega, rfl, hz', HZ, hb4⟩
              case round =>
                clear hz' HZ hb4 hck
                obtain ⟨M, zs', hM, rfl, hz', HZ, hb5⟩ := hrel
                by_cases hj : (k : Int) + (M : Int) ≤ (n : Int) - (m : Int)
                · go_wp2_with fail
                  refine (slNeed_any n q P _ n1 q1).mono ?_
                  rw [HDP.out]
                  rintro e w6 ⟨rfl, hb6⟩
                  have hz6 := hz'.below hb6 (Nat.le_refl _)
                  have hb56 := hb5.trans (hb6.mono hb5.size)
                  clear hb6 hb5 hz'
                  by_cases hcd : (d P : Int) ≤ (u P : Int) + (k : Int) + (M : Int)
                  · obtain ⟨g2, rfl, hg1, hg2, hg3, hg4⟩ := hz6.opened (by omega)
                    have hgk := hg3 (k + M) (by omega)
                    have hgf := hg4 (k + M)
                    obtain ⟨z0, z1⟩ := next_le HZ.out (by omega) (by omega) HVP.out (s := k + M) (by omega)
                    obtain ⟨p0, p1⟩ := prod_le HTC.out (by omega) HVP.out (s := k) (by omega) (n := L - k) (k := M) (by omega) (by omega)
                    have HZ' := hid (next_store HZ.out HTC.out (by rw [hz6.len]; omega) (by omega) (by omega) (by simp; omega))
                    clear hg3 hg4
                    go_wp2_with fail
                    have v1 : IntKind.i64.wrap ((k : Int) + (M : Int)) = (k : Int) + (M : Int) := IntWalk.i64_in _ (by omega)
                    have v2 : 0 ≤ (k : Int) + (M : Int) := by omega
                    have v3 : ((k : Int) + (M : Int)).toNat = k + M := by omega
                    have v4 : (k : Int) + (M : Int) < (K : Int) := by omega
                    have v5 : IntKind.i64.wrap ((n : Int) - (m : Int) - (k : Int)) = (n : Int) - (m : Int) - (k : Int) := IntWalk.i64_in _ (by omega)
                    have v6 : IntKind.i64.wrap (nth ys k * (chs (L - k) M : Int)) = nth ys k * (chs (L - k) M : Int) := IntWalk.i64_in _ (by omega)
                    have v7 : IntKind.i64.wrap (nth zs' (k + M) + nth ys k * (chs (L - k) M : Int)) = nth zs' (k + M) + nth ys k * (chs (L - k) M : Int) := IntWalk.i64_in _ (by omega)
                    go_still_tail 15, (by kernel_rfl)
                    still_call (slChoose_at (L - k) M _ _ _ (by omega) (by omega) (by omega) (by omega) (by omega))
                    repeat still_step
                    refine wpStill_nil ?_
                    clear v1 v2 v3 v4 v5 v6 v7
                    change wpList _ _ _ _ _ w6.drew
                    go_wp2_with fail
                    go_roundw
                    case rel =>
                      obtain ⟨s1, s2⟩ := hz6.set (k + M) (nth zs' (k + M) + nth ys k * (chs (L - k) M : Int))
                      exact ⟨M + 1, _, by omega, by go_num, s1, HZ', (hb56.setCell hg1 _).drew⟩
                    case measure => simp [intOf]; omega
                  · have HZ' := hid (next_skip HZ.out (by simp; omega))
                    go_wp2_with fail
                    go_roundw
                    case rel => exact ⟨M + 1, zs', by omega, by go_num, hz6, HZ', hb56⟩
                    case measure => simp [intOf]; omega
                · have HZ' := hid (next_done HZ.out (by omega))
                  go_wp2_with fail
                  go_roundw
                  case rel => exact ⟨k + 1, zs', by omega, by go_num, hz', HZ', hb5⟩
                  case measure => simp [intOf]; omega
            · have hkL : k = L + 1 := by omega
              have HT' := hid (tabU_step (by have := HZ.out; rw [hkL] at this; exact this))
              have HU2 : Hid ((u P : Int) = (below xs ((P + 1 : Nat) : Int) : Int)) := hid (by rw [← HU.out, show ((P + 1 : Nat) : Int) = (P : Int) + 1 by omega])
              clear hkL
              go_wp2_with fail
              go_roundw
              case rel => exact ⟨P + 1, a2, cap2, zs', by omega, by go_num, by rw [HU2.out], rfl, hz'.mono hsz, hz.below hb4 (Nat.le_refl _), HT', hb.trans (hb4.mono hsz)⟩
              case measure => simp [intOf]; omega
        · obtain rfl : q = P := by omega
          obtain ⟨-, -, -, -, hy4⟩ := hown.has
          obtain ⟨b, off, rfl, hbb, hc⟩ := hy4 (by omega)
          have hck := hc L (by omega)
          have HV2 : Hid (nth ys L = (U d u q L : Int)) := hid (by rw [HT.out L (Nat.le_refl _), chs_self, Nat.one_mul])
          have e1 : ((n : Int) - (m : Int)).toNat = L := by omega
          have v2 : (0 : Int) ≤ (n : Int) - (m : Int) := by omega
          have v4 : (n : Int) - (m : Int) < (K : Int) := by omega
          clear hc hy4
          go_wp2_with fail
          go_ret
          exact ⟨ret_int (by rw [HN.out, HV2.out]), hb⟩
theorem good_parts {xs : List Int} {n : Nat} {a : Int} (h : goodSl xs a = true) (hl : xs.length = n) : ∃ q : Nat, a = (q : Int) ∧ slN n q = true ∧ und (bnds n q) xs = true ∧ ∀ i, i < n → 0 ≤ nth xs i ∧ nth xs i < (q : Int) := by
  subst hl
  simp only [goodSl, Bool.and_eq_true] at h
  obtain ⟨q, rfl, h3, h4, h5⟩ := slB_parts h.1
  rw [Int.toNat_natCast] at h
  refine ⟨q, rfl, h3, h.2, fun i hi => ?_⟩
  have := und_len (bnds_bnd _ _) (by rw [length_bnds]) h.2 _ (nth_mem hi)
  have := numB_slope (n := xs.length) (a := q) h5.1
  omega
theorem rankSl_yes {xs : List Int} {n q : Nat} (hg : goodSl xs q = true) (hl : xs.length = n) : rankSlOf xs q = ((rkTU (bnds n q) xs n : Int), true) := by
  subst hl
  simp [rankSlOf, hg, rkTU_all]
theorem rankSl_no {xs : List Int} {a : Int} (hg : ¬ goodSl xs a = true) : rankSlOf xs a = (0, false) := by simp [rankSlOf, hg]
theorem snoc_between {ys : List Int} {k q x : Nat} (hl : ys.length = k) (h : ∀ i, i < k → 0 ≤ nth ys i ∧ nth ys i < (q : Int)) (hx : x < q) : ∀ i, i < k + 1 → 0 ≤ nth (ys ++ [(x : Int)]) i ∧ nth (ys ++ [(x : Int)]) i < (q : Int) := by
  intro i hi
  by_cases e : i = k
  · subst e
    rw [← hl, nth_append_at]
    omega
  · rw [nth_append_left (by omega)]
    exact h i (by omega)

theorem slAt_yes {m q R : Nat} (h : slN m q = true) (hR : R < q ^ (m - 1)) : slAtOf m q R = (atB (bnds m q) R, true) := by
  have h2 : inB (R : Int) 0 (((q ^ (m - 1) : Nat) : Int) - 1) = true := inB_iff.2 ⟨by omega, by omega⟩
  simp only [slAtOf, slB_nat, h, Int.toNat_natCast, h2, Bool.and_true, if_true]
theorem slAt_no1 {n a r : Int} (h : ¬ slB n a = true) : slAtOf n a r = ([], false) := by simp [slAtOf, h]
theorem slAt_no2 {m q : Nat} {r : Int} (h : ¬ inB r 0 (((q ^ (m - 1) : Nat) : Int) - 1) = true) : slAtOf m q r = ([], false) := by
  rw [slAtOf, Int.toNat_natCast, Int.toNat_natCast, Bool.eq_false_iff.2 h, Bool.and_false]
  rfl
theorem power_slope {m q : Nat} (h : slN m q = true) : 1 ≤ q ^ (m - 1) ∧ q ^ (m - 1) ≤ 4826809 := by
  obtain ⟨⟨h1, h2⟩, ⟨h3, h4⟩, _⟩ := slN_iff.1 h
  refine ⟨Nat.pow_pos (by omega), pow_slope (m - 1) (by omega) q (by omega)⟩

set_option maxRecDepth 100000 in
set_option maxHeartbeats 1500000 in
theorem specSlAt_any (n a r : Int) (w : World) : Calls Try.prog 10 #[.int .i64 n, .int .i64 a, .int .i64 r] w (PostInts w (slAtOf n a r)) := by
  by_cases hg : slB n a = true
  · have HG := hid hg
    obtain ⟨m, q, rfl, rfl, hs⟩ := slB_iff.1 hg
    have HSL := hid hs
    obtain ⟨⟨n0, n1⟩, ⟨q0, q1⟩, -⟩ := slN_iff.1 hs
    obtain ⟨c1, c2⟩ := power_slope hs
    have HC : Hid (cntB (bnds m q) = q ^ (m - 1)) := hid (cnt_slope m (by omega) q (by omega) hs)
    have HB := hid (sml_bnds hs)
    have HLB := hid (length_bnds m q)
    by_cases hr : inB r 0 (((q ^ (m - 1) : Nat) : Int) - 1) = true
    · obtain ⟨R, rfl⟩ : ∃ R : Nat, r = (R : Int) := ⟨r.toNat, by have := inB_iff.1 hr; omega⟩
      have hR : R < q ^ (m - 1) := by have := inB_iff.1 hr; omega
      have HA := hid (slAt_yes hs hR)
      have HA0 : Hid (LeftU (bnds m q) R [] 0 R) := hid (leftU_first (by rw [HC.out]; exact hR))
      have hRl : R ≤ 4826809 := by omega
      have HP := hid hr
      have hpi0 : 1 ≤ ((q ^ (m - 1) : Nat) : Int) := by omega
      have hpi1 : ((q ^ (m - 1) : Nat) : Int) ≤ 4826809 := by omega
      have HPW := hid (fun w => slPower_at q (m - 1) (q : Int) ((m : Int) - 1) w rfl (by omega) (by omega) (by omega))
      clear hg hr hs c1 c2
      generalize q ^ (m - 1) = pw at *
      go_enter Try.func10, Try.ntmps10
      go_wp2_with (first | (go_at_call 53; refine (slIs_any _ _ _).mono ?_; rintro e w' ⟨rfl, rfl⟩; rw [HG.out]) | (go_at_call 55; refine (HPW.out _).mono ?_; rintro e w' ⟨rfl, rfl⟩) | (go_at_call 60; refine (l1In_any _ _ _ _).mono ?_; rintro e w' ⟨rfl, rfl⟩; rw [HP.out]))
      go_loopw [2, 8] (fun s2 s8 wr => ∃ (k r : Nat) (a' : Option Addr) (cap' : Nat) (p : List Int), k ≤ m ∧ r ≤ 16777216 ∧ s2 = .int .i64 (r : Int) ∧ s8 = .slice a' k cap' ∧ Own wr w.heap.size a' k cap' p ∧ Hid (∀ i, i < k → 0 ≤ nth p i ∧ nth p i < (q : Int)) ∧ Hid (LeftU (bnds m q) R p k r) ∧ Below w.heap.size w wr) (fun _ o _ => m - (match o with | .slice _ k _ => k | _ => 0))
      case atStart => exact ⟨0, R, none, 0, [], Nat.zero_le _, by omega, rfl, rfl, Own.nil _ _, hid (fun i hi => by omega), HA0, Below.refl _ _⟩
      case round =>
        obtain ⟨k, r, a', cap', p, hk, hr, rfl, rfl, hown, HP2, HA1, hb⟩ := hrel
        obtain ⟨wo, hwo⟩ : ∃ wo : World, wo = wr := ⟨_, rfl⟩
        subst hwo
        by_cases hlt : k < m
        · have HL := hid hown.len
          have hsz := hb.size
          have HR0 : Hid (∀ y ρ, r = rkP (bnds m q) p y + ρ → y < q) := hid (fun y ρ hy => by
            have := leftU_room HA1.out (by rw [HLB.out]; exact hlt) HL.out hy
            have := numB_slope (n := m) q0
            omega)
          have H0 := hid (snoc_between HL.out HP2.out (show 0 < q by omega))
          go_wp2_with fail
          refine (l1Own_any _ _ _ _ _ hown.has).mono ?_
          rintro e w3 ⟨a3, cap3, rfl, hown3, hb3⟩
          go_wp2_with (at_builtin; refine wpList_append_int _ rfl _ _ rfl wo.heap.size _ _ _ _ _ rfl rfl hown3 (by omega) hb3.size ?_; intro a4 cap4 w4 hown4 hb4)
          have hb34 := hb3.trans hb4
          refine (slWays_any _ _ _ (p ++ [((0 : Nat) : Int)]) m q _ hown4.has HSL (by omega) H0).mono ?_
          rintro e w5 ⟨rfl, hb5⟩
          have hb35 := hb34.trans (hb5.mono hb34.size)
          clear hown3 hown4 hb3 hb4 hb5 hb34
          go_wp2_with fail
          go_loopw [2, 9, 10] (fun s2 s9 s10 wr => ∃ (y ρ : Nat), ρ ≤ 16777216 ∧ y ≤ q ∧ s2 = .int .i64 (ρ : Int) ∧ s9 = .int .i64 (y : Int) ∧ s10 = .int .i64 (NU (shp (bnds m q)) (p ++ [(y : Int)]) : Int) ∧ Hid (r = rkP (bnds m q) p y + ρ) ∧ Below wo.heap.size wo wr) (fun _ y _ _ => q + 1 - (intOf y).toNat)
          case atStart => exact ⟨0, r, hr, Nat.zero_le _, rfl, rfl, rfl, hid (by simp [rkP, sumTo]), hb35⟩
          case round =>
            clear hb35
            obtain ⟨y, ρ, hρ, hy, rfl, rfl, rfl, HY, hbo⟩ := hrel
            have hyn := HR0.out y ρ HY.out
            have hN := NU_le (p := p ++ [(y : Int)]) HB.out
            by_cases hge : NU (shp (bnds m q)) (p ++ [(y : Int)]) ≤ ρ
            · have HY2 : Hid (r = rkP (bnds m q) p (y + 1) + (ρ - NU (shp (bnds m q)) (p ++ [(y : Int)]))) := hid (by rw [rkP_succ]; have := HY.out; omega)
              have hy2 := HR0.out _ _ HY2.out
              have H1 := hid (snoc_between HL.out HP2.out hy2)
              have hge' : (NU (shp (bnds m q)) (p ++ [(y : Int)]) : Int) ≤ (ρ : Int) := by omega
              have HD : Hid (((ρ - NU (shp (bnds m q)) (p ++ [(y : Int)]) : Nat) : Int) = (ρ : Int) - (NU (shp (bnds m q)) (p ++ [(y : Int)]) : Int)) := hid (by omega)
              have hown2 := hown.below hbo (Nat.le_refl _)
              clear hge
              go_wp2_with fail
              refine (l1Own_any _ _ _ _ _ hown2.has).mono ?_
              rintro e w3 ⟨a3, cap3, rfl, hown3, hb3⟩
              go_wp2_with (at_builtin; refine wpList_append_int _ rfl _ _ rfl wr.heap.size _ _ _ _ _ rfl rfl hown3 (by omega) hb3.size ?_; intro a4 cap4 w4 hown4 hb4)
              have hb34 := hb3.trans hb4
              refine (slWays_any _ _ _ (p ++ [((y + 1 : Nat) : Int)]) m q _ hown4.has HSL (by omega) H1).mono ?_
              rintro e w5 ⟨rfl, hb5⟩
              have hb35 := hb34.trans (hb5.mono hb34.size)
              clear hown3 hown4 hb3 hb4 hb5 hb34 hown2
              go_wp2_with fail
              go_roundw
              case rel => exact ⟨y + 1, ρ - NU (shp (bnds m q)) (p ++ [(y : Int)]), by omega, by omega, by rw [HD.out], by go_num, rfl, HY2, hbo.trans (hb35.mono hbo.size)⟩
              case measure => simp [intOf]; omega
            · have HA2 := hid (leftU_step HA1.out (by rw [HLB.out]; exact hlt) HL.out HY.out (by omega))
              have H1 := hid (snoc_between HL.out HP2.out hyn)
              have hown2 := hown.below hbo (Nat.le_refl _)
              have hlt' : ¬ (NU (shp (bnds m q)) (p ++ [(y : Int)]) : Int) ≤ (ρ : Int) := by omega
              clear hge hown
              go_wp2_with (at_builtin; refine wpList_append_int _ rfl _ _ rfl w.heap.size _ _ _ _ _ rfl rfl hown2 (by omega) (Nat.le_trans hsz hbo.size) ?_; intro a4 cap4 w4 hown4 hb4)
              go_roundw
              case rel => exact ⟨k + 1, ρ, a4, cap4, _, by omega, hρ, rfl, rfl, hown4, H1, HA2, (hb.trans (hbo.mono hsz)).trans hb4⟩
              case measure => simp; omega
        · obtain rfl : m = k := by omega
          have HE : Hid (atB (bnds m q) R = p) := hid (by rw [HA1.out.2, HLB.out, Nat.sub_self]; simp [atU, toI])
          go_wp2_with fail
          go_ret2
          exact postInts (by rw [HA.out, HE.out]) hown hb
    · have HA := hid (slAt_no2 hr)
      have HP := hid hr
      have hpi0 : 1 ≤ ((q ^ (m - 1) : Nat) : Int) := by omega
      have hpi1 : ((q ^ (m - 1) : Nat) : Int) ≤ 4826809 := by omega
      have HPW := hid (fun w => slPower_at q (m - 1) (q : Int) ((m : Int) - 1) w rfl (by omega) (by omega) (by omega))
      clear hg hr hs c1 c2
      generalize q ^ (m - 1) = pw at *
      go_enter Try.func10, Try.ntmps10
      go_wp2_with (first | (go_at_call 53; refine (slIs_any _ _ _).mono ?_; rintro e w' ⟨rfl, rfl⟩; rw [HG.out]) | (go_at_call 55; refine (HPW.out _).mono ?_; rintro e w' ⟨rfl, rfl⟩) | (go_at_call 60; refine (l1In_any _ _ _ _).mono ?_; rintro e w' ⟨rfl, rfl⟩; rw [Bool.eq_false_iff.2 HP.out]))
      go_ret2
      exact postInts_no HA.out (Below.refl _ _)
  · have HA := hid (slAt_no1 (r := r) hg)
    have HG := hid hg
    clear hg
    go_enter Try.func10, Try.ntmps10
    go_wp2_with (go_at_call 53; refine (slIs_any _ _ _).mono ?_; rintro e w' ⟨rfl, rfl⟩; rw [Bool.eq_false_iff.2 HG.out])
    go_ret2
    exact postInts_no HA.out (Below.refl _ _)
end Go.Proofs.Ytfkejkkplafciad
