/- The program's functions of chapter 1, by their contracts: cuts, joins. -/
import Derived.Test.YtehdccfkkfkciaaImplD
import Derived.Test.YtehdccfkkfkciaaSpecE
namespace Go.Proofs.Ytehdccfkkfkciaa
open Go.RowKit

theorem cut_below {xs : List Int} {j : Nat} (h1 : 1 ≤ j) : isCut xs j = ((below xs j : Int) == (j : Int)) := by
  unfold isCut
  rw [Bool.eq_iff_iff]
  simp
  omega

set_option maxHeartbeats 800000 in
theorem cutsOf_any (a : Option Addr) (n cap : Nat) (xs : List Int) (w : World) (h : Has w a n cap xs) :
    Calls Try.prog 28 #[.slice a n cap] w (PostInts w (cutsOf xs)) := by
  have HL := hid h.len
  have hle := h.le
  by_cases hg : isPark xs = true
  · have HR : Hid (cutsOf xs = (idxs (isCut xs) n, true)) := hid (by simp [cutsOf, hg, HL.out])
    have HG := hid hg
    clear hg
    go_enter Try.func28, Try.ntmps28
    go_wp2_with (go_at_call 37; refine (isParkingFunction_any _ _ _ _ _ h).mono ?_; rintro e w1 ⟨rfl, hb1⟩; rw [HG.out])
    have hh := h.below hb1 (Nat.le_refl _)
    go_loopw [4, 5] (fun o j wr => ∃ (k m : Nat) (a' : Option Addr) (cap' : Nat), 1 ≤ k ∧ (k ≤ n ∨ k = 1) ∧ m ≤ k ∧ j = .int .i64 k ∧ o = .slice a' m cap' ∧ Own wr w1.heap.size a' m cap' (idxs (isCut xs) k) ∧ Below w1.heap.size w1 wr) (fun _ j _ => n - (intOf j).toNat)
    case atStart => exact ⟨1, 0, none, 0, by omega, .inr rfl, by omega, rfl, rfl, by rw [idxs_one rfl]; exact Own.nil _ _, Below.refl _ _⟩
    case round =>
      obtain ⟨k, m, a', cap', hk1, hk, hm, rfl, rfl, hown, hb⟩ := hrel
      by_cases hlt : k < n
      · have HS := hid (idxs_succ (isCut xs) k)
        have HC := hid (cut_below (xs := xs) hk1)
        have hfl := below_le xs k
        rw [HL.out] at hfl
        by_cases ht : ((below xs k : Int) == (k : Int)) = true
        · rw [HC.out, if_pos ht] at HS
          go_wp2_with (first | (go_at_call 54; refine (countBelow_any _ _ _ _ _ _ (hh.below hb (Nat.le_refl _))).mono ?_; rintro e w' ⟨rfl, rfl⟩) | (at_builtin; refine wpList_append_int _ rfl _ _ rfl w1.heap.size _ _ _ _ _ rfl rfl hown (by omega) hb.size ?_; intro a2 cap2 w2 hown2 hb2))
          go_roundw
          case rel => exact ⟨k + 1, m + 1, a2, cap2, by omega, by omega, by omega, by go_num, rfl, by rw [HS.out]; exact hown2, hb.trans hb2⟩
          case measure => simp [intOf]; omega
        · have ht' : ((below xs k : Int) == (k : Int)) = false := Bool.eq_false_iff.2 ht
          rw [HC.out, if_neg ht, List.append_nil] at HS
          clear ht
          go_wp2_with (go_at_call 54; refine (countBelow_any _ _ _ _ _ _ (hh.below hb (Nat.le_refl _))).mono ?_; rintro e w' ⟨rfl, rfl⟩)
          go_roundw
          case rel => exact ⟨k + 1, m, _, _, by omega, by omega, by omega, by go_num, rfl, by rw [HS.out]; exact hown, hb⟩
          case measure => simp [intOf]; omega
      · have he : idxs (isCut xs) k = idxs (isCut xs) n := by
          rcases hk with hk | rfl
          · rw [show k = n by omega]
          · rcases (show n = 0 ∨ n = 1 by omega) with rfl | rfl
            · rw [idxs_one rfl]; rfl
            · rfl
        rw [he] at hown
        clear he
        go_wp2_with fail
        go_ret2
        exact postInts HR.out (hown.mono hb1.size) (hb1.trans (hb.mono hb1.size))
  · have HR : Hid (cutsOf xs = ([], false)) := hid (by simp [cutsOf, hg])
    have HG := hid hg
    clear hg
    go_enter Try.func28, Try.ntmps28
    go_wp2_with (go_at_call 37; refine (isParkingFunction_any _ _ _ _ _ h).mono ?_; rintro e w1 ⟨rfl, hb1⟩; rw [Bool.eq_false_iff.2 HG.out])
    go_ret2
    exact postInts_no HR.out hb1

set_option maxHeartbeats 1600000 in
theorem join_any (a b : Option Addr) (n m cap cap' : Nat) (xs ys : List Int) (w : World) (h : Has w a n cap xs) (h' : Has w b m cap' ys) :
    Calls Try.prog 29 #[.slice a n cap, .slice b m cap'] w (PostInts w (joinOf xs ys)) := by
  have hlx := h.len
  have hly := h'.len
  have hlex := h.le
  have hley := h'.le
  by_cases hx : isPark xs = true
  · have HX := hid hx
    by_cases hy : isPark ys = true
    · have HY := hid hy
      by_cases hnm : n + m ≤ 8
      · have HR := hid (join_yes hlx hly hx hy hnm)
        have hbd := park_bounds hly hy
        clear hx hy
        go_enter Try.func29, Try.ntmps29
        go_wp2_with fail
        refine (isParkingFunction_any _ _ _ _ _ h).mono ?_
        rintro e w1 ⟨rfl, hb1⟩
        rw [HX.out]
        go_wp2_with fail
        refine (isParkingFunction_any _ _ _ _ _ (h'.below hb1 (Nat.le_refl _))).mono ?_
        rintro e w2 ⟨rfl, hb2⟩
        rw [HY.out]
        have hbb := hb1.trans (hb2.mono hb1.size)
        have hx2 := h.below hbb (Nat.le_refl _)
        have hsz := hbb.size
        go_wp2_with (first | (at_make; refine wpList_make_room _ rfl _ _ rfl (n + m) rfl (congrArg (Value.int .i64) (Int.natCast_add n m).symm) (by omega) ?_; intro a3 cap3 w3 hown3 hb3) | (at_builtin; refine wpList_append_ints _ rfl _ _ rfl w2.heap.size _ _ _ _ _ _ [] xs rfl rfl hown3 (hx2.below hb3 (Nat.le_refl _)) (by omega) hb3.size ?_; intro a4 n4 cap4 w4 hn4 hown4 hb4))
        obtain rfl : n4 = n := by omega
        have hbd4 := hb3.trans (hb4.mono (Nat.le_refl _))
        have hbc := hbb.trans (hbd4.mono hsz)
        obtain ⟨k0, k1, k2, k3, k4⟩ := h'.below hbc (Nat.le_refl _)
        have HLY := hid k0
        have hsz4 := hbd4.size
        clear k0 hly hlx hb1 hb2
        go_wp2_with fail
        go_loopw [6, 36] (fun o i wr => ∃ (k : Nat) (a' : Option Addr) (cap' : Nat), k ≤ m ∧ i = .int .i64 k ∧ o = .slice a' (n4 + k) cap' ∧ Own wr w2.heap.size a' (n4 + k) cap' (xs ++ (shifted ys n4).take k) ∧ Below w2.heap.size w4 wr) (fun _ i _ => m - (intOf i).toNat)
        case atStart => exact ⟨0, _, _, Nat.zero_le _, rfl, rfl, by simpa using hown4, Below.refl _ _⟩
        case round =>
          obtain ⟨k, a', cap', hk, rfl, rfl, hown, hb⟩ := hrel
          by_cases hlt : k < m
          · obtain ⟨b2, off2, rfl, hbb2, hc2⟩ := k4 (by omega)
            have hblk : b2 < w.heap.size := by
              obtain ⟨_, _, _, _, q4⟩ := h'
              obtain ⟨b5, off5, e5, hlt5, _⟩ := q4 (by omega)
              have e6 : b2 = b5 := by cases e5; rfl
              omega
            have hdk : wr.cell? ⟨b2, off2 + k, none⟩ = some (.int .i64 (nth ys k)) := by rw [hb.cell (p := ⟨b2, off2 + k, none⟩) (by simp; omega)]; exact hc2 k hlt
            obtain ⟨hv0, hv1⟩ := hbd k hlt
            have HS := hid (shifted_succ (ys := ys) (d := n4) (k := k) (by rw [HLY.out]; omega))
            have hszr := hb.size
            clear hc2 k4 hbd
            clear hn4 hb3 hb4 hown3 hown4 hbd4 hbc
            go_wp2_with (at_builtin; refine wpList_append_int _ rfl _ _ rfl w2.heap.size _ _ _ _ _ rfl rfl hown (by omega) (by omega) ?_; intro a5 cap5 w5 hown5 hb5)
            go_roundw
            case rel => exact ⟨k + 1, a5, cap5, by omega, by go_num, rfl, by rw [HS.out, ← List.append_assoc]; exact hown5, hb.trans hb5⟩
            case measure => simp [intOf]; omega
          · obtain rfl : k = m := by omega
            rw [List.take_of_length_le (by rw [length_shifted, HLY.out]; omega)] at hown
            go_wp2_with fail
            go_ret2
            exact postInts HR.out (hown.mono hsz) (hbc.trans (hb.mono hsz))
      · have HR : Hid (joinOf xs ys = ([], false)) := hid (by simp [joinOf, hlx, hly, hnm])
        clear hx hy
        go_enter Try.func29, Try.ntmps29
        go_wp2_with fail
        refine (isParkingFunction_any _ _ _ _ _ h).mono ?_
        rintro e w1 ⟨rfl, hb1⟩
        rw [HX.out]
        go_wp2_with fail
        refine (isParkingFunction_any _ _ _ _ _ (h'.below hb1 (Nat.le_refl _))).mono ?_
        rintro e w2 ⟨rfl, hb2⟩
        rw [HY.out]
        go_wp2_with fail
        go_ret2
        exact postInts_no HR.out (hb1.trans (hb2.mono hb1.size))
    · have HR : Hid (joinOf xs ys = ([], false)) := hid (by simp [joinOf, hy])
      have HY := hid hy
      clear hy hx
      go_enter Try.func29, Try.ntmps29
      go_wp2_with fail
      refine (isParkingFunction_any _ _ _ _ _ h).mono ?_
      rintro e w1 ⟨rfl, hb1⟩
      rw [HX.out]
      go_wp2_with fail
      refine (isParkingFunction_any _ _ _ _ _ (h'.below hb1 (Nat.le_refl _))).mono ?_
      rintro e w2 ⟨rfl, hb2⟩
      rw [Bool.eq_false_iff.2 HY.out]
      go_wp2_with fail
      go_ret2
      exact postInts_no HR.out (hb1.trans (hb2.mono hb1.size))
  · have HR : Hid (joinOf xs ys = ([], false)) := hid (by simp [joinOf, hx])
    have HX := hid hx
    clear hx
    go_enter Try.func29, Try.ntmps29
    go_wp2_with fail
    refine (isParkingFunction_any _ _ _ _ _ h).mono ?_
    rintro e w1 ⟨rfl, hb1⟩
    rw [Bool.eq_false_iff.2 HX.out]
    go_wp2_with fail
    go_ret2
    exact postInts_no HR.out hb1
end Go.Proofs.Ytehdccfkkfkciaa
