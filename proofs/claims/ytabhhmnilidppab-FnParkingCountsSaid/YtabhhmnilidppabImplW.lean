/- The program's count of beginnings, by its contracts. -/
import Derived.Test.YtabhhmnilidppabImplN
import Derived.Test.YtabhhmnilidppabSpecW
import Derived.Test.YtabhhmnilidppabMathV
import Derived.Test.YtabhhmnilidppabCopy
namespace Go.Proofs.Ytabhhmnilidppab
open Go.RowKit

set_option maxRecDepth 100000 in
set_option maxHeartbeats 4000000 in
theorem chooseMore_any (a : Option Addr) (K cap L : Nat) (ys : List Int) (v : Nat → Nat) (w : World) (h : Has w a K cap ys) (hK1 : K ≤ L + 1) (hK2 : L + 1 ≤ K) (h8 : L ≤ 8) (HT : Hid (Tab v L ys)) (HV : Hid (∀ s, s ≤ 8 → v s ≤ 16777216)) :
    Calls Try.prog 140 #[.slice a K cap] w fun e w' => ∃ a' cap' zs, e = .returned (.slice a' K cap') ∧ Own w' w.heap.size a' K cap' zs ∧ Hid (Next (fun _ => true) v L (L + 1) 0 zs) ∧ Below w.heap.size w w' := by
  have hrep : List.replicate K (0 : Int) = List.replicate (L + 1) 0 := by rw [show K = L + 1 by omega]
  have HREP := hid hrep
  have HZ0 := hid (next_zero (fun _ => true) v L)
  obtain ⟨b, off, rfl, hbb, hc⟩ := h.2.2.2.2 (by omega)
  have HC := hid hc
  clear hrep hc
  go_enter Try.func140, Try.ntmps140
  go_wp2_with (at_make; refine wpList_make_ints _ rfl _ _ rfl K rfl rfl (by omega) ?_; intro a2 cap2 w3 hown3 hb3)
  rw [HREP.out] at hown3
  go_loopw [16] (fun i wr => ∃ (k : Nat) (zs : List Int), k ≤ K ∧ i = .int .i64 (k : Int) ∧ Own wr w.heap.size a2 K cap2 zs ∧ Hid (Next (fun _ => true) v L k 0 zs) ∧ Below w.heap.size w wr) (fun i _ => K - (intOf i).toNat)
  case atStart => exact ⟨0, _, Nat.zero_le _, rfl, hown3, HZ0, hb3⟩
  case round =>
    clear hown3 hb3 HZ0
    obtain ⟨k, zs, hk, rfl, hz, HZ, hb4⟩ := hrel
    obtain ⟨w4, hw4⟩ : ∃ w4 : World, w4 = wr := ⟨_, rfl⟩
    subst hw4
    by_cases hkK : k < K
    · have hck : w4.cell? ⟨b, off + k, none⟩ = some (.int .i64 (nth ys k)) := by rw [hb4.cell (p := ⟨b, off + k, none⟩) hbb]; exact HC.out k hkK
      obtain ⟨y0, y1⟩ := tab_le HT.out (by omega) HV.out (s := k) (by omega)
      go_wp2_with fail
      go_loopw [25] (fun j wr4 => ∃ (M : Nat) (zs : List Int), k + M ≤ K ∧ j = .int .i64 (M : Int) ∧ Own wr4 w.heap.size a2 K cap2 zs ∧ Hid (Next (fun _ => true) v L k M zs) ∧ Below w.heap.size w wr4) (fun j _ => K - (intOf j).toNat)
      case atStart => exact ⟨0, zs, by omega, rfl, hz, HZ, hb4⟩
      case round =>
        clear hz HZ hb4 hck
        obtain ⟨M, zs, hM, rfl, hz, HZ, hb5⟩ := hrel
        by_cases hj : (M : Int) < (K : Int) - 1 - (k : Int) + 1
        · obtain ⟨g2, rfl, hg1, hg2, hg3, hg4⟩ := hz.opened (by omega)
          have hgk := hg3 (k + M) (by omega)
          have hgf := hg4 (k + M)
          obtain ⟨z0, z1⟩ := next_le HZ.out (by omega) (by omega) HV.out (s := k + M) (by omega)
          obtain ⟨p0, p1⟩ := prod_le HT.out (by omega) HV.out (s := k) (by omega) (n := L - k) (k := M) (by omega) (by omega)
          have HZ' := hid (next_store HZ.out HT.out (by rw [hz.len]; omega) (by omega) (by omega) (by simp))
          clear hg3 hg4
          go_wp2_with fail
          have v1 : IntKind.i64.wrap ((k : Int) + (M : Int)) = (k : Int) + (M : Int) := IntWalk.i64_in _ (by omega)
          have v2 : 0 ≤ (k : Int) + (M : Int) := by omega
          have v3 : ((k : Int) + (M : Int)).toNat = k + M := by omega
          have v4 : (k : Int) + (M : Int) < (K : Int) := by omega
          have v5 : IntKind.i64.wrap ((K : Int) - 1 - (k : Int)) = (K : Int) - 1 - (k : Int) := IntWalk.i64_in _ (by omega)
          have v6 : IntKind.i64.wrap (nth ys k * (chs (L - k) M : Int)) = nth ys k * (chs (L - k) M : Int) := IntWalk.i64_in _ (by omega)
          have v7 : IntKind.i64.wrap (nth zs (k + M) + nth ys k * (chs (L - k) M : Int)) = nth zs (k + M) + nth ys k * (chs (L - k) M : Int) := IntWalk.i64_in _ (by omega)
          go_still_tail 15, (by kernel_rfl)
          still_call (binomial_at (L - k) M _ _ _ (by omega) (by omega) (by omega) (by omega))
          repeat still_step
          refine wpStill_nil ?_
          clear v1 v2 v3 v4 v5 v6 v7
          change wpList _ _ _ _ _ wr.drew
          go_wp2_with fail
          go_roundw
          case rel =>
            obtain ⟨s1, s2⟩ := hz.set (k + M) (nth zs (k + M) + nth ys k * (chs (L - k) M : Int))
            exact ⟨M + 1, _, by omega, by go_num, s1, HZ', (hb5.setCell hg1 _).drew⟩
          case measure => simp [intOf]; omega
        · have HZ' := hid (next_done HZ.out (by omega))
          go_wp2_with fail
          go_roundw
          case rel => exact ⟨k + 1, zs, by omega, by go_num, hz, HZ', hb5⟩
          case measure => simp [intOf]; omega
    · have hkL : k = L + 1 := by omega
      have HZ' : Hid (Next (fun _ => true) v L (L + 1) 0 zs) := hid (by have := HZ.out; rw [hkL] at this; exact this)
      clear hkL
      go_wp2_with fail
      go_ret
      exact ⟨_, _, zs, rfl, hz, HZ', hb4⟩

/-- Of the first k entries those are zero for which too few are asked for. -/
def Zeroed (u P L k : Nat) (zs zs' : List Int) : Prop := ∀ s, s ≤ L → nth zs' s = if s < k ∧ ¬ P < u + s then 0 else nth zs s
theorem zeroed_first (u P L : Nat) (zs : List Int) : Zeroed u P L 0 zs zs := fun s _ => by rw [if_neg (by omega)]
theorem zeroed_skip {u P L k : Nat} {zs zs' : List Int} (h : Zeroed u P L k zs zs') (hk : P < u + k) : Zeroed u P L (k + 1) zs zs' := fun s hs => by
  rw [h s hs]
  have : (s < k ∧ ¬ P < u + s) = (s < k + 1 ∧ ¬ P < u + s) := by
    apply propext
    constructor
    · exact fun ⟨a, b⟩ => ⟨by omega, b⟩
    · intro ⟨a, b⟩
      refine ⟨?_, b⟩
      by_cases e : s = k
      · subst e; omega
      · omega
  simp only [this]
theorem zeroed_set {u P L k : Nat} {zs zs' : List Int} (h : Zeroed u P L k zs zs') (hl : k < zs'.length) (hk : ¬ P < u + k) : Zeroed u P L (k + 1) zs (zs'.set k 0) := fun s hs => by
  rw [nth_set hl]
  by_cases e : k = s
  · subst e; rw [if_pos rfl, if_pos ⟨by omega, hk⟩]
  · rw [if_neg e, h s hs]
    have : (s < k ∧ ¬ P < u + s) = (s < k + 1 ∧ ¬ P < u + s) := by apply propext; omega
    simp only [this]
theorem zeroed_tab {b : Nat → Nat} {P L : Nat} {zs zs' : List Int} (h : Zeroed (b P) P L (L + 1) zs zs') (hn : Next (fun _ => true) (V b P) L (L + 1) 0 zs) : Tab (V b (P + 1)) L zs' := fun s hs => by
  rw [h s hs, next_final hn s hs]
  simp only [V]
  by_cases e : P < b P + s
  · rw [if_neg (by omega), if_pos e]; simp
  · rw [if_pos ⟨by omega, e⟩, if_neg e, Nat.mul_zero]
    rfl

set_option maxRecDepth 100000 in
set_option maxHeartbeats 4000000 in
theorem countBeginning_any (a : Option Addr) (m cap : Nat) (xs : List Int) (n : Nat) (w : World) (h : Has w a m cap xs) (hn : n ≤ 8) (hm : m ≤ n) :
    Calls Try.prog 128 #[.slice a m cap, .int .i64 (n : Int)] w fun e w' => e = .returned (.int .i64 (N xs n : Int)) ∧ Below w.heap.size w w' := by
  obtain ⟨L, hL1, hL2⟩ : ∃ L, n ≤ m + L ∧ m + L ≤ n := ⟨n - m, by omega, by omega⟩
  obtain ⟨K, hK1, hK2⟩ : ∃ K, K ≤ L + 1 ∧ L + 1 ≤ K := ⟨L + 1, by omega, by omega⟩
  have HN : Hid (N xs n = V (upB xs) n L) := hid (by rw [N_upB, h.len, show n - m = L by omega])
  have HBL : Hid (∀ P, upB xs P ≤ m) := hid (fun P => by have := upB_le xs P; rw [h.len] at this; exact this)
  have hmc := h.2.1
  have hK0 : 0 < K := by omega
  go_enter Try.func128, Try.ntmps128
  go_wp2_with (at_make; refine wpList_make_ints _ rfl _ _ rfl K (congrArg (Value.int .i64) (by omega)) (congrArg (Value.int .i64) (by omega)) (by omega) ?_; intro a1 cap1 w1 hown1 hb1; obtain ⟨g1, rfl, hg1, hg2, hg3, hg4⟩ := hown1.opened (by omega); have hgk := hg3 0 (by omega); have hgf := hg4 0; clear hg3 hg4)
  obtain ⟨s1, s2⟩ := hown1.set 0 1
  have HT0 := hid (tab_first (upB xs) L)
  have hrep : List.replicate K (0 : Int) = List.replicate (L + 1) 0 := by rw [show K = L + 1 by omega]
  rw [hrep] at s1
  have hb2 := hb1.setCell (p := ⟨g1, 0, none⟩) hg1 (.int .i64 1)
  clear hown1 hb1 s2 hrep hgk hgf
  generalize w1.setCell ⟨g1, 0, none⟩ (.int .i64 1) = w2 at *
  go_loopw [6, 20] (fun s6 s20 wr => ∃ (P : Nat) (a' : Option Addr) (cap' : Nat) (ys : List Int), P ≤ n ∧ s20 = .int .i64 (P : Int) ∧ s6 = .slice a' K cap' ∧ Own wr w.heap.size a' K cap' ys ∧ Hid (Tab (V (upB xs) P) L ys) ∧ Below w.heap.size w wr) (fun _ i _ => n - (intOf i).toNat)
  case atStart => exact ⟨0, some ⟨g1, 0, none⟩, cap1, _, Nat.zero_le _, rfl, rfl, s1, HT0, hb2⟩
  case round =>
    clear s1 HT0 hb2 hg1 hg2
    obtain ⟨P, a', cap', ys, hP, rfl, rfl, hown, HT, hb⟩ := hrel
    obtain ⟨wo, hwo⟩ : ∃ wo : World, wo = wr := ⟨_, rfl⟩
    subst hwo
    by_cases hlt : P < n
    · have HV := hid (V_le8 (upB xs) (P := P) (by omega))
      have hsz := hb.size
      have hul := HBL.out P
      go_wp2_with fail
      refine (chooseMore_any _ _ _ L _ _ _ hown.has hK1 hK2 (by omega) HT HV).mono ?_
      rintro e w3 ⟨a3, cap3, zs, rfl, hown3, HZ, hb3⟩
      have hh := (h.below hb (Nat.le_refl _)).below hb3 (Nat.le_refl _)
      go_wp2_with (go_at_call 141; refine (countBelow_any _ _ _ xs ((P : Int) + 1) _ hh).mono ?_; rintro e w' ⟨rfl, rfl⟩)
      have hu : ((below xs ((P : Int) + 1) : Nat) : Int) = (upB xs P : Int) := rfl
      rw [hu]
      have HF := hid (zeroed_first (upB xs P) P L zs)
      clear hu hh hown
      go_loopw [31] (fun i wr => ∃ (k : Nat) (zs' : List Int), k ≤ K ∧ i = .int .i64 (k : Int) ∧ Own wr wo.heap.size a3 K cap3 zs' ∧ Hid (Zeroed (upB xs P) P L k zs zs') ∧ Below wo.heap.size wo wr) (fun i _ => K - (intOf i).toNat)
      case atStart => exact ⟨0, zs, Nat.zero_le _, rfl, hown3, HF, hb3⟩
      case round =>
        clear hown3 hb3 HF
        obtain ⟨k, zs', hk, rfl, hz, HF, hb4⟩ := hrel
        by_cases hkK : k < K
        · by_cases hc : P < upB xs P + k
          · have HF' := hid (zeroed_skip HF.out hc)
            have hc' : ¬ (upB xs P : Int) + (k : Int) ≤ (P : Int) := by omega
            clear hc
            go_wp2_with fail
            go_roundw
            case rel => exact ⟨k + 1, zs', by omega, by go_num, hz, HF', hb4⟩
            case measure => simp [intOf]; omega
          · have HF' := hid (zeroed_set HF.out (by rw [hz.len]; omega) hc)
            have hc' : (upB xs P : Int) + (k : Int) ≤ (P : Int) := by omega
            obtain ⟨g2, rfl, hg1, hg2, hg3, hg4⟩ := hz.opened (by omega)
            have hgk := hg3 k (by omega)
            have hgf := hg4 k
            clear hg3 hg4 hc
            go_wp2_with fail
            go_roundw
            case rel =>
              obtain ⟨s1, s2⟩ := hz.set k 0
              exact ⟨k + 1, _, by omega, by go_num, s1, HF', hb4.setCell hg1 _⟩
            case measure => simp [intOf]; omega
        · have hkL : k = L + 1 := by omega
          have HT' : Hid (Tab (V (upB xs) (P + 1)) L zs') := hid (by have := HF.out; rw [hkL] at this; exact zeroed_tab this HZ.out)
          clear hkL
          go_wp2_with fail
          go_roundw
          case rel => exact ⟨P + 1, a3, cap3, zs', by omega, by go_num, rfl, hz.mono hsz, HT', hb.trans (hb4.mono hsz)⟩
          case measure => simp [intOf]; omega
    · obtain rfl : n = P := by omega
      obtain ⟨-, -, -, -, hy4⟩ := hown.has
      obtain ⟨b, off, rfl, hbb, hc⟩ := hy4 (by omega)
      have hck := hc L (by omega)
      have HV2 : Hid (nth ys L = (V (upB xs) n L : Int)) := hid (by rw [HT.out L (Nat.le_refl _), chs_self, Nat.one_mul])
      have e1 : ((n : Int) - (m : Int)).toNat = L := by omega
      have v2 : (0 : Int) ≤ (n : Int) - (m : Int) := by omega
      have v4 : (n : Int) - (m : Int) < (K : Int) := by omega
      clear hc hy4
      go_wp2_with fail
      go_ret
      exact ⟨ret_int (by rw [HN.out, HV2.out]), hb⟩

/-- How many go on p with each of the first k numbers. -/
def nexts (p : List Int) (n k : Nat) : List Int := (List.range k).map fun (x : Nat) => (N (p ++ [(x : Int)]) n : Int)
theorem nth_nexts {p : List Int} {n k i : Nat} (h : i < k) : nth (nexts p n k) i = (N (p ++ [(i : Int)]) n : Int) := by simp [nth, nexts, h]
theorem length_nexts (p : List Int) (n k : Nat) : (nexts p n k).length = k := by simp [nexts]
theorem over0_snoc {ys : List Int} {m : Nat} (h : ys.length = m) : over0 (List.replicate (m + 1) 0) ys = ys ++ [0] := by
  subst h
  unfold over0
  rw [List.length_replicate, List.take_of_length_le (by omega), List.drop_replicate, show ys.length + 1 - ys.length = 1 by omega]
  rfl
theorem set_snoc {ys : List Int} {m : Nat} (h : ys.length = m) (z y : Int) : (ys ++ [z]).set m y = ys ++ [y] := by
  subst h
  rw [List.set_append_right _ _ (Nat.le_refl _)]
  simp

set_option maxRecDepth 100000 in
set_option maxHeartbeats 4000000 in
theorem countNext_any (a : Option Addr) (m cap : Nat) (ys : List Int) (n : Nat) (w : World) (h : Has w a m cap ys) (hn : n ≤ 8) (hm : m < n) :
    Calls Try.prog 92 #[.slice a m cap, .int .i64 (n : Int)] w fun e w' => ∃ a' cap', e = .returned (.slice a' n cap') ∧ Own w' w.heap.size a' n cap' (nexts ys n n) ∧ Below w.heap.size w w' := by
  have HLEN := hid h.len
  have HO := hid (over0_snoc h.len)
  obtain ⟨K, hK1, hK2⟩ : ∃ K, K ≤ m + 1 ∧ m + 1 ≤ K := ⟨m + 1, by omega, by omega⟩
  have HREP : Hid (List.replicate K (0 : Int) = List.replicate (m + 1) 0) := hid (by rw [show K = m + 1 by omega])
  have hmc := h.2.1
  go_enter Try.func92, Try.ntmps92
  go_wp2_with (first
    | (at_make; refine wpList_make_ints _ rfl _ _ rfl K (congrArg (Value.int .i64) (by omega)) (congrArg (Value.int .i64) (by omega)) (by omega) ?_; intro a1 cap1 w1 hown1 hb1)
    | (with_reducible refine wpList_copy_ints _ rfl _ _ rfl w.heap.size _ _ _ _ _ _ _ _ rfl rfl hown1 (h.below hb1 (Nat.le_refl _)) (by omega) ?_; intro w2 hown2 hb2)
    | (at_make; refine wpList_make_ints _ rfl _ _ rfl n rfl rfl (by omega) ?_; intro a3 cap3 w3 hown3 hb3))
  rw [HREP.out, HO.out] at hown2
  have hsz2 := (hb1.trans hb2).size
  have hown2' := hown2.below hb3 (Nat.le_refl _)
  have hbw := (hb1.trans hb2).trans (hb3.mono hsz2)
  obtain ⟨g1, rfl, hg1, hg2, -, -⟩ := hown2.opened (by omega)
  obtain ⟨g2, rfl, hg3, hg4, -, -⟩ := hown3.opened (by omega)
  clear hown1 hb1 hb2 hown2 hb3
  go_loopw [19] (fun i wr => ∃ (k : Nat) (z : Int) (zs : List Int), k ≤ n ∧ i = .int .i64 (k : Int) ∧ Own wr w.heap.size (some ⟨g1, 0, none⟩) K cap1 (ys ++ [z]) ∧ Own wr w2.heap.size (some ⟨g2, 0, none⟩) n cap3 zs ∧ Hid (FromTo (nexts ys n n) zs k) ∧ Below w.heap.size w wr) (fun i _ => n - (intOf i).toNat)
  case atStart => exact ⟨0, 0, _, Nat.zero_le _, rfl, hown2', hown3, hid (fun i hi => by omega), hbw⟩
  case round =>
    clear hown2' hown3 hbw
    obtain ⟨k, z, zs, hk, rfl, hl, hz, HF, hb⟩ := hrel
    have HM := hid (fun (z y : Int) => set_snoc (ys := ys) (m := m) HLEN.out z y)
    by_cases hlt : k < n
    · obtain ⟨g', hga, hl1, hl2, hl3, hl4⟩ := hl.opened (by omega)
      cases hga
      have hgk := hl3 m (by omega)
      have hgf := hl4 m
      obtain ⟨s1, s2⟩ := hl.set m (k : Int)
      rw [HM.out] at s1
      have hz1 := hz.kept s2 (.inl (by omega))
      have hb1 := hb.setCell (p := ⟨g1, m, none⟩) hl1 (.int .i64 (k : Int))
      clear hl3 hl4 hl hz hb s2
      go_wp2_with fail
      refine (countBeginning_any _ _ _ _ n _ s1.has hn (by omega)).mono ?_
      rintro e w5 ⟨rfl, hb5⟩
      have hl5 := s1.below hb5 (Nat.le_refl _)
      have hz5 := hz1.below hb5 (Nat.le_refl _)
      have hb6 := hb1.trans (hb5.mono hb1.size)
      have hN := N_le (p := ys ++ [(k : Int)]) hn
      obtain ⟨g', hga, hl1, hl2, hl3, hl4⟩ := hz5.opened (by omega)
      cases hga
      have hgk := hl3 k (by omega)
      have hgf := hl4 k
      obtain ⟨s3, s4⟩ := hz5.set k (N (ys ++ [(k : Int)]) n : Int)
      have hl6 := hl5.kept s4 (.inr (fun p hp => by cases hp; simp; omega))
      have hb7 := hb6.setCell (p := ⟨g2, k, none⟩) (show w.heap.size ≤ g2 by omega) (.int .i64 (N (ys ++ [(k : Int)]) n : Int))
      have HF' : Hid (FromTo (nexts ys n n) (zs.set k (N (ys ++ [(k : Int)]) n : Int)) (k + 1)) := hid (by
        intro i hi
        rw [nth_set (by rw [hz5.len]; omega), nth_nexts (by omega)]
        split
        · subst_vars; rfl
        · rw [HF.out i (by omega), nth_nexts (by omega)])
      clear hl3 hl4 s4 hl5 hz5 hb6 s1 hz1 hb1 hb5
      go_wp2_with fail
      go_roundw
      case rel => exact ⟨k + 1, _, _, by omega, by go_num, hl6, s3, HF', hb7⟩
      case measure => simp [intOf]; omega
    · obtain rfl : n = k := by omega
      have HE : Hid (nexts ys n n = zs) := hid (ext_nth (by rw [length_nexts, hz.len]) (fun i hi => (HF.out i (by rw [length_nexts] at hi; exact hi)).symm))
      go_wp2_with fail
      go_ret
      exact ⟨_, _, rfl, by rw [HE.out]; exact hz.mono hsz2, hb⟩
end Go.Proofs.Ytabhhmnilidppab
