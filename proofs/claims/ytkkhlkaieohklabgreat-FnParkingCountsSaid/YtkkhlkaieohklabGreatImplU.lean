/- Lists under bounds: the program's counts, ranks and lists with a rank, by their contracts. -/
import Derived.Test.YtkkhlkaieohklabGreatChm
import Derived.Test.YtkkhlkaieohklabGreatCb
import Derived.Test.YtkkhlkaieohklabGreatCopy
import Derived.Test.YtkkhlkaieohklabGreatIdx
import Derived.Test.YtkkhlkaieohklabGreatMathSw
namespace Go.Proofs.YtkkhlkaieohklabGreat
open Go.RowKit

theorem max_step {bs : List Int} {k : Nat} (h : k < bs.length) : (bs.take (k + 1)).foldl max (-1) = max ((bs.take k).foldl max (-1)) (nth bs k) := by
  rw [take_succ_nth h, List.foldl_append]
  rfl

set_option maxHeartbeats 800000 in
theorem sliceMax_any (a : Option Addr) (n cap : Nat) (bs : List Int) (w : World) (h : Has w a n cap bs) (hn : 0 < n) (h0 : 0 ≤ nth bs 0) :
    Calls Tryz.prog 57 #[.slice a n cap] w fun e w' => e = .returned (.int .i64 (bs.foldl max (-1))) ∧ w' = w := by
  have HL := hid h.len
  have hle := h.le
  obtain ⟨b, off, rfl, hbb, hc⟩ := h.2.2.2.2 hn
  have hc0 : w.cell? ⟨b, off, none⟩ = some (.int .i64 (nth bs 0)) := hc 0 hn
  have hn1 : ¬ (n : Int) < 1 := by omega
  have H1 : Hid ((bs.take 1).foldl max (-1) = nth bs 0) := hid (by
    rw [max_step (k := 0) (by rw [HL.out]; exact hn)]
    simp
    omega)
  go_enter Tryz.func57, Tryz.ntmps57
  go_wp2_with fail
  go_loop [3, 4] (fun m i => ∃ k : Nat, 1 ≤ k ∧ k ≤ n ∧ i = .int .i64 (k : Int) ∧ m = .int .i64 ((bs.take k).foldl max (-1))) (fun _ i => n - (intOf i).toNat)
  case atStart => exact ⟨1, by omega, by omega, rfl, by rw [H1.out]⟩
  case round =>
    obtain ⟨k, hk1, hk, rfl, rfl⟩ := hrel
    by_cases hlt : k < n
    · have hck := hc k hlt
      have HS := hid (max_step (bs := bs) (k := k) (by rw [HL.out]; exact hlt))
      have hkn : (k : Int) < (n : Int) := by omega
      have hkz : (0 : Int) ≤ (k : Int) := by omega
      generalize (bs.take k).foldl max (-1) = m at *
      go_wp2_with fail
      go_round
      case rel => exact ⟨k + 1, by omega, by omega, by go_num, congrArg (Value.int .i64) (by rw [HS.out, Int.max_def]; split <;> split <;> omega)⟩
      case measure => simp [intOf]; omega
    · obtain rfl : n = k := by omega
      have HE : Hid (bs.take n = bs) := hid (List.take_of_length_le (by rw [HL.out]; exact Nat.le_refl _))
      go_wp2_with fail
      go_ret
      exact ⟨ret_int (by rw [HE.out]), rfl⟩

theorem countNums_any (a : Option Addr) (n cap : Nat) (bs : List Int) (w : World) (h : Has w a n cap bs) (hb : Hid (Sml bs)) :
    Calls Tryz.prog 42 #[.slice a n cap] w fun e w' => e = .returned (.int .i64 (numB bs : Int)) ∧ w' = w := by
  by_cases h0 : n = 0
  · subst h0
    have HR : Hid (numB bs = 0) := hid (by rw [List.eq_nil_of_length_eq_zero h.len]; rfl)
    go_enter Tryz.func42, Tryz.ntmps42
    go_wp2_with fail
    go_ret
    exact ⟨ret_int (by rw [HR.out]; rfl), rfl⟩
  · have hbe : ((n : Int) == 0) = false := by simp; omega
    obtain ⟨hB, -, h13, -⟩ := hb.out
    have hl := h.len
    have h00 : 0 ≤ nth bs 0 := hB.2 _ (nth_mem (by omega))
    have ht := (numB_top hB (by omega)).1
    have hm : bs.foldl max (-1) + 1 = (numB bs : Int) := by
      unfold numB at ht ⊢
      omega
    have HM := hid hm
    have hm1 : bs.foldl max (-1) ≤ 12 := by omega
    have hm0 : 0 ≤ bs.foldl max (-1) := by omega
    clear hB hl hm
    go_enter Tryz.func42, Tryz.ntmps42
    go_wp2_with fail
    refine (sliceMax_any _ _ _ _ _ h (by omega) h00).mono ?_
    rintro e w' ⟨rfl, rfl⟩
    generalize bs.foldl max (-1) = m at *
    go_wp2_with fail
    go_ret
    exact ⟨ret_int HM.out, rfl⟩

set_option maxRecDepth 100000 in
set_option maxHeartbeats 1500000 in
theorem cBegin_any (a b : Option Addr) (m cap n capb : Nat) (xs bs : List Int) (w : World) (h : Has w a m cap xs) (h' : Has w b n capb bs) (HB : Hid (Sml bs)) (hm : m ≤ n) :
    Calls Tryz.prog 43 #[.slice a m cap, .slice b n capb] w fun e w' => e = .returned (.int .i64 (NU (shp bs) xs : Int)) ∧ Below w.heap.size w w' := by
  obtain ⟨L, hL1, hL2⟩ : ∃ L, n ≤ m + L ∧ m + L ≤ n := ⟨n - m, by omega, by omega⟩
  obtain ⟨K, hK1, hK2⟩ : ∃ K, K ≤ L + 1 ∧ L + 1 ≤ K := ⟨L + 1, by omega, by omega⟩
  have hn : n ≤ 8 := by have := HB.out.2.1; have := h'.len; omega
  have hLn : L ≤ bs.length := by have := h'.len; omega
  have hA : numB bs ≤ 13 := HB.out.2.2.1
  obtain ⟨A, hAe⟩ : ∃ A, numB bs = A := ⟨_, rfl⟩
  obtain ⟨d, hd⟩ : ∃ d, (shp bs).need = d := ⟨_, rfl⟩
  obtain ⟨u, hu⟩ : ∃ u, (fun P : Nat => below xs ((P : Int) + 1)) = u := ⟨_, rfl⟩
  have HN : Hid (NU (shp bs) xs = U d u A L) := hid (by
    unfold NU
    rw [hd, hu, show (shp bs).A = A from hAe, show (shp bs).n = n from h'.len, h.len, show n - m = L by omega])
  have HU : Hid (∀ P : Nat, below xs ((P : Int) + 1) = u P) := hid (fun P => by rw [← hu])
  have HD : Hid (∀ P : Nat, below bs ((P : Int) + 1) = d P) := hid (fun P => by rw [← hd]; rfl)
  have HUL : Hid (∀ P, u P ≤ m) := hid (fun P => by have := below_le xs ((P : Int) + 1); rw [h.len, HU.out] at this; exact this)
  have HDL : Hid (∀ P, d P ≤ n) := hid (fun P => by have := below_le bs ((P : Int) + 1); rw [h'.len, HD.out] at this; exact this)
  have HV : Hid (∀ P, P ≤ A → ∀ s, s ≤ 8 → cutU d u L P s ≤ 16777216) := hid (fun P hP => by rw [← hd]; exact cut_small HB.out u (by omega) hLn)
  have HA := hid hAe
  have hmc := h.2.1
  have hnc := h'.2.1
  have hK0 : 0 < K := by omega
  rw [hAe] at hA
  clear hAe hd hu hLn
  go_enter Tryz.func43, Tryz.ntmps43
  go_wp2_with (at_make; refine wpList_make_ints _ rfl _ _ rfl K (congrArg (Value.int .i64) (by omega)) (congrArg (Value.int .i64) (by omega)) (by omega) ?_; intro a1 cap1 w1 hown1 hb1; obtain ⟨g1, rfl, hg1, hg2, hg3, hg4⟩ := hown1.opened (by omega); have hgk := hg3 0 (by omega); have hgf := hg4 0; clear hg3 hg4)
  obtain ⟨s1, s2⟩ := hown1.set 0 1
  have HT0 := hid (tabU_first d u L)
  have hrep : List.replicate K (0 : Int) = List.replicate (L + 1) 0 := by rw [show K = L + 1 by omega]
  rw [hrep] at s1
  have hb2 := hb1.setCell (p := ⟨g1, 0, none⟩) hg1 (.int .i64 1)
  clear hown1 hb1 s2 hrep hgk hgf
  generalize w1.setCell ⟨g1, 0, none⟩ (.int .i64 1) = w2 at *
  refine (countNums_any _ _ _ _ _ (h'.below hb2 (Nat.le_refl _)) HB).mono ?_
  rintro e w' ⟨rfl, rfl⟩
  rw [HA.out]
  go_wp2_with fail
  go_loopw [6, 23] (fun s6 s23 wr => ∃ (P : Nat) (a' : Option Addr) (cap' : Nat) (ys : List Int), P ≤ A ∧ s23 = .int .i64 (P : Int) ∧ s6 = .slice a' K cap' ∧ Own wr w.heap.size a' K cap' ys ∧ Hid (Tab (U d u P) L ys) ∧ Below w.heap.size w wr) (fun _ i _ => A - (intOf i).toNat)
  case atStart => exact ⟨0, some ⟨g1, 0, none⟩, cap1, _, Nat.zero_le _, rfl, rfl, s1, HT0, hb2⟩
  case round =>
    clear s1 HT0 hb2 hg1 hg2
    obtain ⟨P, a', cap', ys, hP, rfl, rfl, hown, HT, hb⟩ := hrel
    obtain ⟨wo, hwo⟩ : ∃ wo : World, wo = wr := ⟨_, rfl⟩
    subst hwo
    by_cases hlt : P < A
    · have HVP := hid (HV.out P (by omega))
      have HTC := hid (tab_cut HT.out)
      have hsz := hb.size
      have hul := HUL.out P
      have hdl := HDL.out P
      go_wp2_with fail
      refine (chMore_any _ _ _ L _ _ _ hown.has hK1 hK2 (by omega) HTC HVP).mono ?_
      rintro e w3 ⟨a3, cap3, zs, rfl, hown3, HZ, hb3⟩
      have hh := (h.below hb (Nat.le_refl _)).below hb3 (Nat.le_refl _)
      have hh' := (h'.below hb (Nat.le_refl _)).below hb3 (Nat.le_refl _)
      go_wp2_with (first | (go_at_call_of 59 (Value.slice a m cap); refine (cBelow_any _ _ _ xs ((P : Int) + 1) _ hh).mono ?_; rintro e w' ⟨rfl, rfl⟩; rw [HU.out]) | (go_at_call_of 59 (Value.slice b n capb); refine (cBelow_any _ _ _ bs ((P : Int) + 1) _ hh').mono ?_; rintro e w' ⟨rfl, rfl⟩; rw [HD.out]))
      have HF := hid (zeroD_first (d P) (u P) L zs)
      clear hh hh' hown
      go_loopw [38] (fun i wr => ∃ (k : Nat) (zs' : List Int), k ≤ K ∧ i = .int .i64 (k : Int) ∧ Own wr wo.heap.size a3 K cap3 zs' ∧ Hid (ZeroD (d P) (u P) L k zs zs') ∧ Below wo.heap.size wo wr) (fun i _ => K - (intOf i).toNat)
      case atStart => exact ⟨0, zs, Nat.zero_le _, rfl, hown3, HF, hb3⟩
      case round =>
        clear hown3 hb3 HF
        obtain ⟨k, zs', hk, rfl, hz, HF, hb4⟩ := hrel
        by_cases hkK : k < K
        · by_cases hc : d P ≤ u P + k
          · have HF' := hid (zeroD_skip HF.out hc)
            have hc' : ¬ (u P : Int) + (k : Int) < (d P : Int) := by omega
            clear hc
            go_wp2_with fail
            go_roundw
            case rel => exact ⟨k + 1, zs', by omega, by go_num, hz, HF', hb4⟩
            case measure => simp [intOf]; omega
          · have HF' := hid (zeroD_set HF.out (by rw [hz.len]; omega) (by omega))
            have hc' : (u P : Int) + (k : Int) < (d P : Int) := by omega
            obtain ⟨g2, rfl, hg1, hg2, hg3, hg4⟩ := hz.opened (by omega)
            have hgk := hg3 k (by omega)
            have hgf := hg4 k
            clear hg3 hg4 hc
            go_wp2_with fail
            go_roundw
            case rel =>
              obtain ⟨s1, s2⟩ := hz.set k 0
              exact ⟨k + 1, _, by omega, by go_num, s1, HF', hb4.setCell hg1 _⟩
            case measure => simp [intOf]; omega
        · have hkL : k = L + 1 := by omega
          have HT' : Hid (Tab (U d u (P + 1)) L zs') := hid (by have := HF.out; rw [hkL] at this; exact zeroD_tab this HZ.out)
          clear hkL
          go_wp2_with fail
          go_roundw
          case rel => exact ⟨P + 1, a3, cap3, zs', by omega, by go_num, rfl, hz.mono hsz, HT', hb.trans (hb4.mono hsz)⟩
          case measure => simp [intOf]; omega
    · obtain rfl : A = P := by omega
      obtain ⟨-, -, -, -, hy4⟩ := hown.has
      obtain ⟨b, off, rfl, hbb, hc⟩ := hy4 (by omega)
      have hck := hc L (by omega)
      have HV2 : Hid (nth ys L = (U d u A L : Int)) := hid (by rw [HT.out L (Nat.le_refl _), chs_self, Nat.one_mul])
      have e1 : ((n : Int) - (m : Int)).toNat = L := by omega
      have v2 : (0 : Int) ≤ (n : Int) - (m : Int) := by omega
      have v4 : (n : Int) - (m : Int) < (K : Int) := by omega
      clear hc hy4
      go_wp2_with fail
      go_ret
      exact ⟨ret_int (by rw [HN.out, HV2.out]), hb⟩

theorem over0_snocU {ys : List Int} {m : Nat} (h : ys.length = m) : over0 (List.replicate (m + 1) 0) ys = ys ++ [0] := by
  subst h
  unfold over0
  rw [List.length_replicate, List.take_of_length_le (by omega), List.drop_replicate, show ys.length + 1 - ys.length = 1 by omega]
  rfl
theorem set_snocU {ys : List Int} {m : Nat} (h : ys.length = m) (z y : Int) : (ys ++ [z]).set m y = ys ++ [y] := by
  subst h
  rw [List.set_append_right _ _ (Nat.le_refl _)]
  simp

set_option maxRecDepth 100000 in
set_option maxHeartbeats 1500000 in
theorem cNext_any (a b : Option Addr) (m cap n capb : Nat) (ys bs : List Int) (w : World) (h : Has w a m cap ys) (h' : Has w b n capb bs) (HB : Hid (Sml bs)) (hm : m < n) :
    Calls Tryz.prog 22 #[.slice a m cap, .slice b n capb] w fun e w' => ∃ a' cap', e = .returned (.slice a' (numB bs) cap') ∧ Own w' w.heap.size a' (numB bs) cap' (nextsU bs ys (numB bs)) ∧ Below w.heap.size w w' := by
  have HLEN := hid h.len
  have hn : n ≤ 8 := by have := HB.out.2.1; have := h'.len; omega
  have hA : numB bs ≤ 13 := HB.out.2.2.1
  have HO := hid (over0_snocU h.len)
  obtain ⟨K, hK1, hK2⟩ : ∃ K, K ≤ m + 1 ∧ m + 1 ≤ K := ⟨m + 1, by omega, by omega⟩
  have HREP : Hid (List.replicate K (0 : Int) = List.replicate (m + 1) 0) := hid (by rw [show K = m + 1 by omega])
  have hmc := h.2.1
  have hnc := h'.2.1
  go_enter Tryz.func22, Tryz.ntmps22
  go_wp2_with (first
    | (at_make; refine wpList_make_ints _ rfl _ _ rfl K (congrArg (Value.int .i64) (by omega)) (congrArg (Value.int .i64) (by omega)) (by omega) ?_; intro a1 cap1 w1 hown1 hb1)
    | (with_reducible refine wpList_copy_ints _ rfl _ _ rfl w.heap.size _ _ _ _ _ _ _ _ rfl rfl hown1 (h.below hb1 (Nat.le_refl _)) (by omega) ?_; intro w2 hown2 hb2))
  rw [HREP.out, HO.out] at hown2
  have hb12 := hb1.trans hb2
  refine (countNums_any _ _ _ _ _ (h'.below hb12 (Nat.le_refl _)) HB).mono ?_
  rintro e w' ⟨rfl, rfl⟩
  obtain ⟨A, hAe⟩ : ∃ A, numB bs = A := ⟨_, rfl⟩
  rw [hAe] at hA ⊢
  have HA := hid hAe
  clear hAe
  go_wp2_with (at_make; refine wpList_make_ints _ rfl _ _ rfl A rfl rfl (by omega) ?_; intro a3 cap3 w3 hown3 hb3)
  have hsz2 := hb12.size
  have hown2' := hown2.below hb3 (Nat.le_refl _)
  have hbw := hb12.trans (hb3.mono hsz2)
  obtain ⟨g1, rfl, hg1, hg2, -, -⟩ := hown2.opened (by omega)
  clear hown1 hb1 hb2 hown2 hb3 hb12
  go_loopw [20] (fun i wr => ∃ (k : Nat) (z : Int) (zs : List Int), k ≤ A ∧ i = .int .i64 (k : Int) ∧ Own wr w.heap.size (some ⟨g1, 0, none⟩) K cap1 (ys ++ [z]) ∧ Own wr w'.heap.size a3 A cap3 zs ∧ Hid (FromTo (nextsU bs ys A) zs k) ∧ Below w.heap.size w wr) (fun i _ => A - (intOf i).toNat)
  case atStart => exact ⟨0, 0, _, Nat.zero_le _, rfl, hown2', hown3, hid (fun i hi => by omega), hbw⟩
  case round =>
    clear hown2' hown3 hbw
    obtain ⟨k, z, zs, hk, rfl, hl, hz, HF, hb⟩ := hrel
    have HM := hid (fun (z y : Int) => set_snocU (ys := ys) (m := m) HLEN.out z y)
    by_cases hlt : k < A
    · obtain ⟨g', hga, hl1, hl2, hl3, hl4⟩ := hl.opened (by omega)
      cases hga
      have hgk := hl3 m (by omega)
      have hgf := hl4 m
      obtain ⟨s1, s2⟩ := hl.set m (k : Int)
      rw [HM.out] at s1
      have hz1 := hz.kept s2 (.inl (by omega))
      have hb1 := hb.setCell (p := ⟨g1, m, none⟩) hl1 (.int .i64 (k : Int))
      clear hl3 hl4 hl hz hb s2
      go_wp2_with fail
      refine (cBegin_any _ _ _ _ _ _ _ _ _ s1.has (h'.below hb1 (Nat.le_refl _)) HB (by omega)).mono ?_
      rintro e w5 ⟨rfl, hb5⟩
      have hl5 := s1.below hb5 (Nat.le_refl _)
      have hz5 := hz1.below hb5 (Nat.le_refl _)
      have hb6 := hb1.trans (hb5.mono hb1.size)
      have hN := NU_le (p := ys ++ [(k : Int)]) HB.out
      obtain ⟨g2, rfl, hg3, hg4, hl3, hl4⟩ := hz5.opened (by omega)
      have hgk := hl3 k (by omega)
      have hgf := hl4 k
      obtain ⟨s3, s4⟩ := hz5.set k (NU (shp bs) (ys ++ [(k : Int)]) : Int)
      have hl6 := hl5.kept s4 (.inr (fun p hp => by cases hp; simp; omega))
      have hb7 := hb6.setCell (p := ⟨g2, k, none⟩) (show w.heap.size ≤ g2 by omega) (.int .i64 (NU (shp bs) (ys ++ [(k : Int)]) : Int))
      have HF' : Hid (FromTo (nextsU bs ys A) (zs.set k (NU (shp bs) (ys ++ [(k : Int)]) : Int)) (k + 1)) := hid (by
        intro i hi
        rw [nth_set (by rw [hz5.len]; omega), nth_nextsU (by omega)]
        split
        · subst_vars; rfl
        · rw [HF.out i (by omega), nth_nextsU (by omega)])
      clear hl3 hl4 s4 hl5 hz5 hb6 s1 hz1 hb1 hb5
      go_wp2_with fail
      go_roundw
      case rel => exact ⟨k + 1, _, _, by omega, by go_num, hl6, s3, HF', hb7⟩
      case measure => simp [intOf]; omega
    · obtain rfl : A = k := by omega
      have HE : Hid (nextsU bs ys A = zs) := hid (ext_nth (by rw [length_nextsU, hz.len]) (fun i hi => (HF.out i (by rw [length_nextsU] at hi; exact hi)).symm))
      go_wp2_with fail
      go_ret
      exact ⟨a3, cap3, by rw [HA.out]; rfl, by rw [HA.out, HE.out]; exact hz.mono hsz2, hb⟩

end Go.Proofs.YtkkhlkaieohklabGreat
