/- The model's functions of chapter 3, by their contracts: degrees, leaves, depths, numbers below. -/
import Derived.Test.YtochmifhhigfhaaSpecTu
namespace Go.Proofs.Ytochmifhhigfhaa
open Go.RowKit

theorem trAbove_at (a : Option Addr) (n cap : Nat) (xs : List Int) (v : Nat) (V : Int) (w : World) (hV : V = (v : Int)) (h : Has w a n cap xs) (ht : Tree xs n) (hv : v ≤ n) :
    Calls Try.prog 68 #[.slice a n cap, .int .i64 V] w fun e w' => ∃ a' m cap', e = .returned (.slice a' m cap') ∧ Own w' w.heap.size a' m cap' (abv xs v) ∧ Below w.heap.size w w' := by
  subst hV
  exact trAbove_any a n cap xs v w h ht hv

set_option maxHeartbeats 1000000 in
theorem trNear_any (a : Option Addr) (n cap : Nat) (xs : List Int) (v : Nat) (V : Int) (w : World) (hV : V = (v : Int)) (h : Has w a n cap xs) (hv : v ≤ n) (h8 : n ≤ 8) :
    Calls Try.prog 67 #[.slice a n cap, .int .i64 V] w fun e w' => ∃ a' m cap', e = .returned (.slice a' m cap') ∧ Own w' w.heap.size a' m cap' (nearP xs v) ∧ Below w.heap.size w w' := by
  subst hV
  have HL := hid h.len
  by_cases hv0 : v = 0
  · have HN : Hid (nearTo xs v 0 = []) := hid (by subst hv0; simp [nearTo])
    have hv0' : ¬ (0 : Int) < (v : Int) := by omega
    have HV := hid hv0
    clear hv0
    go_enter Try.func67, Try.ntmps67
    go_wp2_with fail
    go_loopw [5, 20] (fun o i wr => ∃ (k m : Nat) (a' : Option Addr) (cap' : Nat), k ≤ n ∧ i = .int .i64 k ∧ o = .slice a' m cap' ∧ Own wr w.heap.size a' m cap' (nearTo xs v k) ∧ Below w.heap.size w wr) (fun _ i _ => n - (intOf i).toNat)
    case atStart => exact ⟨0, 0, none, 0, Nat.zero_le _, rfl, rfl, by rw [HN.out]; exact Own.nil _ _, Below.refl _ _⟩
    case round =>
      obtain ⟨k, m, a', cap', hk, rfl, rfl, hown, hb⟩ := hrel
      have hm : m ≤ k + 1 := by have := length_nearTo xs v k; rw [hown.len] at this; exact this
      by_cases hlt : k < n
      · obtain ⟨b, off, rfl, hbb, hc⟩ := h.2.2.2.2 (by omega)
        have hck : wr.cell? ⟨b, off + k, none⟩ = some (.int .i64 (nth xs k)) := by rw [hb.cell (p := ⟨b, off + k, none⟩) hbb]; exact hc k hlt
        clear hc
        by_cases he : nth xs k = (v : Int)
        · have HE : Hid (nearTo xs v (k + 1) = putL (nearTo xs v k) ((k : Int) + 1)) := hid (by simp [nearTo, he])
          rw [he] at hck
          clear he
          go_wp2_with fail
          refine (l1Put_any _ _ _ _ _ _ _ hown (by omega) hb.size).mono ?_
          rintro e w2 ⟨a2, m2, cap2, rfl, hown2, hb2⟩
          go_wp2_with fail
          go_roundw
          case rel => exact ⟨k + 1, m2, a2, cap2, by omega, by go_num, rfl, by rw [HE.out]; exact hown2, hb.trans (hb2.mono hb.size)⟩
          case measure => simp [intOf]; omega
        · have HE : Hid (nearTo xs v (k + 1) = nearTo xs v k) := hid (by simp [nearTo, he])
          have hbe : (nth xs k == (v : Int)) = false := by simp [he]
          clear he
          go_wp2_with fail
          go_roundw
          case rel => exact ⟨k + 1, m, a', cap', by omega, by go_num, rfl, by rw [HE.out]; exact hown, hb⟩
          case measure => simp [intOf]; omega
      · obtain rfl : k = n := by omega
        have HN2 : Hid (nearTo xs v k = nearP xs v) := hid (by unfold nearP; rw [HL.out])
        go_wp2_with fail
        go_ret
        exact ⟨_, _, _, rfl, by rw [← HN2.out]; exact hown, hb⟩
  · obtain ⟨t, rfl⟩ : ∃ t : Nat, v = t + 1 := ⟨v - 1, by omega⟩
    have HN : Hid (nearTo xs ((t + 1 : Nat) : Int) 0 = [nth xs t]) := hid (by
      have : ¬ ((t + 1 : Nat) : Int) = 0 := by omega
      simp only [nearTo, if_neg this]
      unfold par
      rw [show ((t + 1 : Nat) : Int).toNat - 1 = t by omega])
    obtain ⟨b0, off0, rfl, hbb0, hc0⟩ := h.2.2.2.2 (by omega)
    have hct := hc0 t (by omega)
    have hcn := h.2.1
    clear hc0 hv0
    go_enter Try.func67, Try.ntmps67
    go_wp2_with (at_builtin; refine wpList_append_int _ rfl _ _ rfl w.heap.size _ _ _ _ _ rfl rfl (Own.nil w w.heap.size) (by omega) (Nat.le_refl _) ?_; intro a1 cap1 w1 hown1 hb1)
    go_loopw [5, 20] (fun o i wr => ∃ (k m : Nat) (a' : Option Addr) (cap' : Nat), k ≤ n ∧ i = .int .i64 k ∧ o = .slice a' m cap' ∧ Own wr w.heap.size a' m cap' (nearTo xs ((t + 1 : Nat) : Int) k) ∧ Below w.heap.size w wr) (fun _ i _ => n - (intOf i).toNat)
    case atStart => exact ⟨0, 1, a1, cap1, Nat.zero_le _, rfl, rfl, by rw [HN.out]; exact hown1, hb1⟩
    case round =>
      obtain ⟨k, m, a', cap', hk, rfl, rfl, hown, hb⟩ := hrel
      clear hown1 hb1
      have hm : m ≤ k + 1 := by have := length_nearTo xs ((t + 1 : Nat) : Int) k; rw [hown.len] at this; exact this
      by_cases hlt : k < n
      · have hck : wr.cell? ⟨b0, off0 + k, none⟩ = some (.int .i64 (nth xs k)) := by
          obtain ⟨b, off, hbo, hbb, hc⟩ := h.2.2.2.2 (by omega)
          cases hbo
          rw [hb.cell (p := ⟨b0, off0 + k, none⟩) hbb]; exact hc k hlt
        by_cases he : nth xs k = ((t + 1 : Nat) : Int)
        · have HE : Hid (nearTo xs ((t + 1 : Nat) : Int) (k + 1) = putL (nearTo xs ((t + 1 : Nat) : Int) k) ((k : Int) + 1)) := hid (by simp only [nearTo, if_pos he])
          rw [he] at hck
          clear he
          go_wp2_with fail
          refine (l1Put_any _ _ _ _ _ _ _ hown (by omega) hb.size).mono ?_
          rintro e w2 ⟨a2, m2, cap2, rfl, hown2, hb2⟩
          go_wp2_with fail
          go_roundw
          case rel => exact ⟨k + 1, m2, a2, cap2, by omega, by go_num, rfl, by rw [HE.out]; exact hown2, hb.trans (hb2.mono hb.size)⟩
          case measure => simp [intOf]; omega
        · have HE : Hid (nearTo xs ((t + 1 : Nat) : Int) (k + 1) = nearTo xs ((t + 1 : Nat) : Int) k) := hid (by simp only [nearTo, if_neg he])
          have hbe : (nth xs k == (t : Int) + 1) = false := by simp; omega
          clear he
          go_wp2_with fail
          go_roundw
          case rel => exact ⟨k + 1, m, a', cap', by omega, by go_num, rfl, by rw [HE.out]; exact hown, hb⟩
          case measure => simp [intOf]; omega
      · obtain rfl : k = n := by omega
        have HN2 : Hid (nearTo xs ((t + 1 : Nat) : Int) k = nearP xs ((t + 1 : Nat) : Int)) := hid (by unfold nearP; rw [HL.out])
        go_wp2_with fail
        go_ret
        exact ⟨_, _, _, rfl, by rw [← HN2.out]; exact hown, hb⟩

theorem degL_succ {xs : List Int} {v : Nat} (h : v ≤ xs.length) : (degL xs).take (v + 1) = (degL xs).take v ++ [(deg xs v : Int)] := by
  rw [take_succ_nth (by rw [length_degL]; omega), nth_degL h]
theorem deg_le {xs : List Int} (v : Nat) (h : xs.length ≤ 8) : deg xs v ≤ 9 := by
  unfold deg
  have : xs.count (v : Int) ≤ xs.length := List.count_le_length
  split <;> omega

set_option maxHeartbeats 1000000 in
theorem specDegrees_any (a : Option Addr) (n cap : Nat) (xs : List Int) (w : World) (h : Has w a n cap xs) :
    Calls Try.prog 38 #[.slice a n cap] w (PostInts w (degOf xs)) := by
  have HL := hid h.len
  by_cases hg : treeB xs = true
  · have HR : Hid (degOf xs = (degL xs, true)) := hid (by simp [degOf, hg])
    have ht := tree_of hg h.len
    have h8 := ht.le
    have HT := hid ht
    have HG := hid hg
    clear hg ht
    go_enter Try.func38, Try.ntmps38
    go_wp2_with (go_at_call 46; refine (trGood_any _ _ _ _ _ h).mono ?_; rintro e w' ⟨rfl, rfl⟩; rw [HG.out])
    go_loopw [4, 5] (fun o i wr => ∃ (k : Nat) (a' : Option Addr) (cap' : Nat), k ≤ n + 1 ∧ i = .int .i64 k ∧ o = .slice a' k cap' ∧ Own wr w.heap.size a' k cap' ((degL xs).take k) ∧ Below w.heap.size w wr) (fun _ i _ => n + 1 - (intOf i).toNat)
    case atStart => exact ⟨0, none, 0, by omega, rfl, rfl, Own.nil _ _, Below.refl _ _⟩
    case round =>
      obtain ⟨k, a', cap', hk, rfl, rfl, hown, hb⟩ := hrel
      by_cases hlt : k ≤ n
      · have HS := hid (degL_succ (xs := xs) (v := k) (by rw [HL.out]; exact hlt))
        have hd9 := deg_le (xs := xs) k (by rw [HL.out]; exact h8)
        go_wp2_with fail
        refine (trNear_any _ _ _ _ k _ _ rfl (h.below hb (Nat.le_refl _)) hlt h8).mono ?_
        rintro e w2 ⟨a2, m2, cap2, rfl, hown2, hb2⟩
        have HM : Hid (m2 = deg xs k) := hid (by rw [← hown2.len, length_nearP HT.out hlt])
        have hm2 : m2 ≤ 9 := by rw [HM.out]; exact hd9
        have hownX := hown.below hb2 (Nat.le_refl _)
        have hle := Nat.le_trans hb.size hb2.size
        go_wp2_with (at_builtin; refine wpList_append_int _ rfl _ _ rfl w.heap.size _ _ _ _ _ rfl rfl hownX (by omega) hle ?_; intro a3 cap3 w3 hown3 hb3)
        go_roundw
        case rel => exact ⟨k + 1, a3, cap3, by omega, by go_num, rfl, by rw [HS.out, ← HM.out]; exact hown3, (hb.trans (hb2.mono hb.size)).trans hb3⟩
        case measure => simp [intOf]; omega
      · obtain rfl : k = n + 1 := by omega
        go_wp2_with fail
        go_ret2
        exact postInts HR.out (by rw [List.take_of_length_le (by rw [length_degL, HL.out]; omega)] at hown; exact hown) hb
  · have HR : Hid (degOf xs = ([], false)) := hid (by simp [degOf, hg])
    have HG := hid (Bool.eq_false_iff.2 hg)
    clear hg
    go_enter Try.func38, Try.ntmps38
    go_wp2_with (go_at_call 46; refine (trGood_any _ _ _ _ _ h).mono ?_; rintro e w' ⟨rfl, rfl⟩; rw [HG.out])
    go_ret2
    exact postInts_no HR.out (Below.refl _ _)

theorem leaves_nth {xs : List Int} {k : Nat} (h : k < xs.length) : nth (List.drop 1 (degL xs)) k = (deg xs (k + 1) : Int) := by
  rw [nth_dropP, Nat.add_comm, nth_degL (by omega)]

set_option maxHeartbeats 1000000 in
theorem specLeaves_any (a : Option Addr) (n cap : Nat) (xs : List Int) (w : World) (h : Has w a n cap xs) :
    Calls Try.prog 44 #[.slice a n cap] w (PostInts w (leavesOf xs)) := by
  have HL := hid h.len
  by_cases hg : treeB xs = true
  · have HR : Hid (leavesOf xs = (leavesL xs, true)) := hid (by simp [leavesOf, hg])
    have ht := tree_of hg h.len
    have h8 := ht.le
    have HT := hid ht
    have HG := hid hg
    clear hg ht
    go_enter Try.func44, Try.ntmps44
    go_wp2_with (go_at_call 46; refine (trGood_any _ _ _ _ _ h).mono ?_; rintro e w' ⟨rfl, rfl⟩; rw [HG.out])
    go_loopw [4, 11] (fun o i wr => ∃ (k q : Nat) (a' : Option Addr) (cap' : Nat), k ≤ n ∧ i = .int .i64 k ∧ q ≤ k ∧ o = .slice a' q cap' ∧ Own wr w.heap.size a' q cap' (nodesTo (List.drop 1 (degL xs)) 1 k) ∧ Below w.heap.size w wr) (fun _ i _ => n - (intOf i).toNat)
    case atStart => exact ⟨0, 0, none, 0, by omega, rfl, by omega, rfl, Own.nil _ _, Below.refl _ _⟩
    case round =>
      obtain ⟨k, q, a', cap', hk, rfl, hq, rfl, hown, hb⟩ := hrel
      by_cases hlt : k < n
      · have HS := hid (leaves_nth (xs := xs) (k := k) (by rw [HL.out]; exact hlt))
        go_wp2_with fail
        refine (trNear_any _ _ _ _ (k + 1) _ _ (by omega) (h.below hb (Nat.le_refl _)) (by omega) h8).mono ?_
        rintro e w2 ⟨a2, m2, cap2, rfl, hown2, hb2⟩
        have HM : Hid (m2 = deg xs (k + 1)) := hid (by rw [← hown2.len]; exact length_nearP HT.out (by omega))
        have hownX := hown.below hb2 (Nat.le_refl _)
        have hle := Nat.le_trans hb.size hb2.size
        by_cases h1 : m2 = 1
        · have HY := hid (nodesTo_yes (xs := List.drop 1 (degL xs)) (x := 1) (k := k) (by rw [HS.out, ← HM.out, h1]; rfl))
          subst h1
          go_wp2_with (at_builtin; refine wpList_append_int _ rfl _ _ rfl w.heap.size _ _ _ _ _ rfl rfl hownX (by omega) hle ?_; intro a3 cap3 w3 hown3 hb3)
          go_roundw
          case rel => exact ⟨k + 1, q + 1, a3, cap3, by omega, by go_num, by omega, rfl, by rw [HY.out]; exact hown3, (hb.trans (hb2.mono hb.size)).trans hb3⟩
          case measure => simp [intOf]; omega
        · have HY := hid (nodesTo_no (xs := List.drop 1 (degL xs)) (x := 1) (k := k) (by rw [HS.out, ← HM.out]; omega))
          have hbe : ((m2 : Int) == 1) = false := by simp; omega
          go_wp2_with fail
          go_roundw
          case rel => exact ⟨k + 1, q, a', cap', by omega, by go_num, by omega, rfl, by rw [HY.out]; exact hownX, hb.trans (hb2.mono hb.size)⟩
          case measure => simp [intOf]; omega
      · obtain rfl : k = n := by omega
        have HF : Hid (nodesTo (List.drop 1 (degL xs)) 1 k = leavesL xs) := hid (by unfold leavesL nodesW; rw [List.length_drop, length_degL, HL.out, Nat.add_sub_cancel])
        go_wp2_with fail
        go_ret2
        exact postInts HR.out (by rw [← HF.out]; exact hown) hb
  · have HR : Hid (leavesOf xs = ([], false)) := hid (by simp [leavesOf, hg])
    have HG := hid (Bool.eq_false_iff.2 hg)
    clear hg
    go_enter Try.func44, Try.ntmps44
    go_wp2_with (go_at_call 46; refine (trGood_any _ _ _ _ _ h).mono ?_; rintro e w' ⟨rfl, rfl⟩; rw [HG.out])
    go_ret2
    exact postInts_no HR.out (Below.refl _ _)

set_option maxHeartbeats 1000000 in
theorem specParkOf_any (a : Option Addr) (n cap : Nat) (xs : List Int) (w : World) (h : Has w a n cap xs) :
    Calls Try.prog 36 #[.slice a n cap] w (PostInts w (potOf xs)) := by
  have HL := hid h.len
  by_cases hg : treeB xs = true
  · have HR : Hid (potOf xs = (potL xs, true)) := hid (by simp [potOf, hg])
    have ht := tree_of hg h.len
    have h8 := ht.le
    have HI : Hid (∀ i, i < n → nth xs i ∈ brOrder xs) := hid (fun i hi => by have := ht.nthB i hi; exact br_all ht _ _ this.1 this.2 rfl)
    have HBL := hid (br_length ht)
    have HG := hid hg
    clear hg ht
    go_enter Try.func36, Try.ntmps36
    go_wp2_with (first | (go_at_call 46; refine (trGood_any _ _ _ _ _ h).mono ?_; rintro e w' ⟨rfl, rfl⟩; rw [HG.out]) | (go_at_call 60; refine (trBreadth_any _ _ _ _ _ h h8).mono ?_; rintro e w1 ⟨a1, m1, cap1, rfl, hown1, hb1⟩))
    have hs1 := hb1.size
    go_loopw [5, 15] (fun o i wr => ∃ (k : Nat) (a' : Option Addr) (cap' : Nat), k ≤ n ∧ i = .int .i64 k ∧ o = .slice a' k cap' ∧ Own wr w1.heap.size a' k cap' ((potL xs).take k) ∧ Below w1.heap.size w1 wr) (fun _ i _ => n - (intOf i).toNat)
    case atStart => exact ⟨0, none, 0, by omega, rfl, rfl, Own.nil _ _, Below.refl _ _⟩
    case round =>
      obtain ⟨k, a', cap', hk, rfl, rfl, hown, hb⟩ := hrel
      by_cases hlt : k < n
      · obtain ⟨b, off, rfl, hbb, hc⟩ := ((h.below hb1 (Nat.le_refl _)).below hb (Nat.le_refl _)).2.2.2.2 (by omega)
        have hck := hc k hlt
        have HS := hid (potL_succ (ps := xs) (k := k) (by rw [HL.out]; exact hlt)) 
        have HP : Hid (plc (brOrder xs) (nth xs k) ≤ 9) := hid (by have := (plc_mem (HI.out k hlt)).1; rw [HBL.out] at this; omega)
        have hp9 := HP.out
        clear hc
        go_wp2_with fail
        refine (trPlace_any _ _ _ _ _ _ (hown1.has.below hb (Nat.le_refl _)) (HI.out k hlt)).mono ?_
        rintro e _ ⟨rfl, rfl⟩
        go_wp2_with (at_builtin; refine wpList_append_int _ rfl _ _ rfl w1.heap.size _ _ _ _ _ rfl rfl hown (by omega) hb.size ?_; intro a3 cap3 w3 hown3 hb3)
        go_roundw
        case rel => exact ⟨k + 1, a3, cap3, by omega, by go_num, rfl, by rw [HS.out]; exact hown3, hb.trans hb3⟩
        case measure => simp [intOf]; omega
      · obtain rfl : k = n := by omega
        go_wp2_with fail
        go_ret2
        exact postInts HR.out (by rw [List.take_of_length_le (by rw [length_potL, HL.out]; omega)] at hown; exact hown.mono hs1) (hb1.trans (hb.mono hs1))
  · have HR : Hid (potOf xs = ([], false)) := hid (by simp [potOf, hg])
    have HG := hid (Bool.eq_false_iff.2 hg)
    clear hg
    go_enter Try.func36, Try.ntmps36
    go_wp2_with (go_at_call 46; refine (trGood_any _ _ _ _ _ h).mono ?_; rintro e w' ⟨rfl, rfl⟩; rw [HG.out])
    go_ret2
    exact postInts_no HR.out (Below.refl _ _)
end Go.Proofs.Ytochmifhhigfhaa
