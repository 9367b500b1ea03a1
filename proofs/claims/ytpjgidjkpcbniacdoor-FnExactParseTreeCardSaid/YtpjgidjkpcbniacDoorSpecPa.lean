/- The model's readers of texts: of trees, of parking functions. -/
import Derived.Test.YtpjgidjkpcbniacDoorSplit
import Derived.Test.YtpjgidjkpcbniacDoorSpecTr
import Derived.Test.YtpjgidjkpcbniacDoorSpecC
import Derived.Test.YtpjgidjkpcbniacDoorText
namespace Go.Proofs.YtpjgidjkpcbniacDoor
open Go.RowKit

/-- The tree with a text. -/
def treeRead (s : ByteArray) : List Int × Bool := if s.toList = [45] then ([], true) else if treeB ((cutL s 44).map readB) then ((cutL s 44).map readB, true) else ([], false)

theorem take_readB {ps : List ByteArray} {k : Nat} (h : k < ps.length) : (ps.map readB).take (k + 1) = (ps.map readB).take k ++ [readB (nthS ps k)] := by
  rw [← List.map_take, take_succ_nthS h, List.map_append, List.map_take]
  rfl
theorem take_readB_all {ps : List ByteArray} {n : Nat} (h : ps.length = n) : (ps.map readB).take n = ps.map readB := by
  rw [List.take_of_length_le (by simp [h])]

set_option maxHeartbeats 2000000 in
theorem specParseTree_any (s : ByteArray) (w : World) (hs : s.size ≤ 1048576) :
    Calls Tryd.prog 21 #[.string s] w (PostInts w (treeRead s)) := by
  by_cases he : s.toList = [45]
  · have HR : Hid (treeRead s = ([], true)) := hid (by unfold treeRead; rw [if_pos he])
    have hbe : (s.toList == [45]) = true := by rw [he]; rfl
    clear he
    go_enter Tryd.func21, Tryd.ntmps21
    go_wp2_with fail
    go_ret2
    exact postInts HR.out (Own.nil _ _) (Below.refl _ _)
  · have HNE := hid he
    have hne : (s.toList == [45]) = false := by simp [he]
    clear he
    go_enter Tryd.func21, Tryd.ntmps21
    go_wp2_with fail
    refine (l1Split_any s 44 44 _ rfl hs).mono ?_
    rintro e w1 ⟨a1, n1, cap1, rfl, hn1, hown1, hb1⟩
    obtain ⟨ps, hps⟩ : ∃ ps, cutL s 44 = ps := ⟨_, rfl⟩
    rw [hps] at hown1
    have HPS := hid hps
    have HL1 := hid hown1.len
    clear hps
    go_wp2_with fail
    have HHS := hid hown1.has
    clear hown1
    go_loopw [4, 12] (fun o i wr => ∃ (k : Nat) (a' : Option Addr) (cap' : Nat), k ≤ n1 ∧ i = .int .i64 (k : Int) ∧ o = .slice a' k cap' ∧ Own wr w1.heap.size a' k cap' ((ps.map readB).take k) ∧ Below w1.heap.size w1 wr) (fun _ i _ => n1 - (intOf i).toNat)
    case atStart => exact ⟨0, none, 0, Nat.zero_le _, rfl, rfl, Own.nil _ _, Below.refl _ _⟩
    case round =>
      obtain ⟨k, a', cap', hk, rfl, rfl, hown, hbw⟩ := hrel
      have hsz := hbw.size
      by_cases hlt : k < n1
      · obtain ⟨b, off, rfl, hbb, hc⟩ := (HHS.out.below hbw (Nat.le_refl _)).2.2.2.2 (by omega)
        have hck := hc k hlt
        have HT : Hid ((ps.map readB).take (k + 1) = (ps.map readB).take k ++ [readB (nthS ps k)]) := hid (take_readB (by rw [HL1.out]; exact hlt))
        clear hc
        go_wp2_with (first | (go_at_call 50; refine (l1Read_any _ _).mono ?_; rintro e w' ⟨rfl, rfl⟩) | (at_builtin; refine wpList_append_int _ rfl _ _ rfl w1.heap.size _ _ _ _ _ rfl rfl hown (by omega) hsz ?_; intro a4 cap4 w4 hown4 hb4))
        go_roundw
        case rel => exact ⟨k + 1, a4, cap4, by omega, by go_num, rfl, by rw [HT.out]; exact hown4, hbw.trans hb4⟩
        case measure => simp [intOf]; omega
      · obtain rfl : k = n1 := by omega
        rw [take_readB_all HL1.out] at hown
        have hbb := hb1.trans (hbw.mono hb1.size)
        by_cases hg : treeB (ps.map readB) = true
        · have HR : Hid (treeRead s = (ps.map readB, true)) := hid (by unfold treeRead; rw [if_neg HNE.out, HPS.out, if_pos hg])
          have HG := hid hg
          clear hg
          go_wp2_with (go_at_call 47; refine (trGood_any _ _ _ _ _ hown.has).mono ?_; rintro e w' ⟨rfl, rfl⟩; rw [HG.out])
          go_ret2
          exact postInts HR.out (hown.mono hb1.size) hbb
        · have HR : Hid (treeRead s = ([], false)) := hid (by unfold treeRead; rw [if_neg HNE.out, HPS.out, if_neg hg])
          have HG := hid (Bool.eq_false_iff.2 hg)
          clear hg
          go_wp2_with (go_at_call 47; refine (trGood_any _ _ _ _ _ hown.has).mono ?_; rintro e w' ⟨rfl, rfl⟩; rw [HG.out])
          go_ret2
          exact postInts_no HR.out hbb

/-- The parking function with a text. -/
def parkRead (s : ByteArray) : List Int × Bool := if s.toList.isEmpty = true then ([], true) else if isPark ((cutL s 32).map readB) = true ∧ (bs (txt ((cutL s 32).map readB))).toList = s.toList then ((cutL s 32).map readB, true) else ([], false)
theorem park_digitsP {xs : List Int} (h : isPark xs = true) : Digits xs := by
  obtain ⟨h1, h2, _⟩ := isPark_iff.1 h
  intro i hi
  have := h2 _ (nth_mem hi)
  omega

set_option maxHeartbeats 4000000 in
theorem specParsePark_any (s : ByteArray) (w : World) (hs : s.size ≤ 1048576) :
    Calls Tryd.prog 37 #[.string s] w (PostInts w (parkRead s)) := by
  by_cases he : s.toList.isEmpty = true
  · have HR : Hid (parkRead s = ([], true)) := hid (by unfold parkRead; rw [if_pos he])
    go_enter Tryd.func37, Tryd.ntmps37
    go_wp2_with fail
    go_ret2
    exact postInts HR.out (Own.nil _ _) (Below.refl _ _)
  · have HNE := hid he
    replace he := Bool.eq_false_iff.2 he
    go_enter Tryd.func37, Tryd.ntmps37
    go_wp2_with fail
    refine (l1Split_any s 32 32 _ rfl hs).mono ?_
    rintro e w1 ⟨a1, n1, cap1, rfl, hn1, hown1, hb1⟩
    obtain ⟨ps, hps⟩ : ∃ ps, cutL s 32 = ps := ⟨_, rfl⟩
    rw [hps] at hown1
    have HPS := hid hps
    have HL1 := hid hown1.len
    have HHS := hid hown1.has
    clear hps hown1 he
    go_wp2_with fail
    go_loopw [4, 12] (fun o i wr => ∃ (k : Nat) (a' : Option Addr) (cap' : Nat), k ≤ n1 ∧ k ≤ 8 ∧ i = .int .i64 (k : Int) ∧ o = .slice a' k cap' ∧ Own wr w1.heap.size a' k cap' ((ps.map readB).take k) ∧ Below w1.heap.size w1 wr) (fun _ i _ => n1 - (intOf i).toNat)
    case atStart => exact ⟨0, none, 0, Nat.zero_le _, Nat.zero_le _, rfl, rfl, Own.nil _ _, Below.refl _ _⟩
    case round =>
      obtain ⟨k, a', cap', hk, hk8, rfl, rfl, hown, hbw⟩ := hrel
      have hsz := hbw.size
      by_cases hlt : k < n1
      · obtain ⟨b, off, rfl, hbb, hc⟩ := (HHS.out.below hbw (Nat.le_refl _)).2.2.2.2 (by omega)
        have hck := hc k hlt
        have HT : Hid ((ps.map readB).take (k + 1) = (ps.map readB).take k ++ [readB (nthS ps k)]) := hid (take_readB (by rw [HL1.out]; exact hlt))
        clear hc
        by_cases h8 : k = 8
        · have hbe : ((k : Int) == 8) = true := by simp; omega
          have HR : Hid (parkRead s = ([], false)) := hid (by
            unfold parkRead
            rw [if_neg HNE.out, HPS.out, if_neg]
            rintro ⟨hp, _⟩
            have := (isPark_iff.1 hp).1
            rw [List.length_map, HL1.out] at this
            omega)
          have hbb2 := hb1.trans (hbw.mono hb1.size)
          clear h8
          go_wp2_with fail
          go_ret2
          exact postInts_no HR.out hbb2
        · have hbe : ((k : Int) == 8) = false := by simp; omega
          go_wp2_with (first | (go_at_call 50; refine (l1Read_any _ _).mono ?_; rintro e w' ⟨rfl, rfl⟩) | (at_builtin; refine wpList_append_int _ rfl _ _ rfl w1.heap.size _ _ _ _ _ rfl rfl hown (by omega) hsz ?_; intro a4 cap4 w4 hown4 hb4))
          go_roundw
          case rel => exact ⟨k + 1, a4, cap4, by omega, by omega, by go_num, rfl, by rw [HT.out]; exact hown4, hbw.trans hb4⟩
          case measure => simp [intOf]; omega
      · obtain rfl : k = n1 := by omega
        rw [take_readB_all HL1.out] at hown
        have hbb := hb1.trans (hbw.mono hb1.size)
        by_cases hg : isPark (ps.map readB) = true
        · have HD := hid (park_digitsP hg)
          have HG := hid hg
          by_cases hq : (bs (txt (ps.map readB))).toList = s.toList
          · have HR : Hid (parkRead s = (ps.map readB, true)) := hid (by unfold parkRead; rw [if_neg HNE.out, HPS.out, if_pos ⟨hg, hq⟩])
            have hbe : ((bs (txt (ps.map readB))).toList == s.toList) = true := by rw [hq]; simp
            clear hg hq
            go_wp2_with fail
            refine (paParking_any _ _ _ _ _ hown.has).mono ?_
            rw [HG.out]
            rintro e w4 ⟨rfl, hb4⟩
            replace hown := hown.below hb4 (Nat.le_refl _)
            go_wp2_with fail
            refine (paText_any _ _ _ _ _ hown.has HD.out).mono ?_
            rintro e w5 ⟨rfl, hb5⟩
            replace hown := hown.below hb5 (Nat.le_refl _)
            go_wp2_with fail
            go_ret2
            exact postInts HR.out (hown.mono hb1.size) (hbb.trans ((hb4.trans (hb5.mono hb4.size)).mono (Nat.le_trans hb1.size hsz)))
          · have HR : Hid (parkRead s = ([], false)) := hid (by unfold parkRead; rw [if_neg HNE.out, HPS.out, if_neg (fun hh => hq hh.2)])
            have hbe : ((bs (txt (ps.map readB))).toList == s.toList) = false := by simpa using hq
            clear hg hq
            go_wp2_with fail
            refine (paParking_any _ _ _ _ _ hown.has).mono ?_
            rw [HG.out]
            rintro e w4 ⟨rfl, hb4⟩
            replace hown := hown.below hb4 (Nat.le_refl _)
            go_wp2_with fail
            refine (paText_any _ _ _ _ _ hown.has HD.out).mono ?_
            rintro e w5 ⟨rfl, hb5⟩
            go_wp2_with fail
            go_ret2
            exact postInts_no HR.out (hbb.trans ((hb4.trans (hb5.mono hb4.size)).mono (Nat.le_trans hb1.size hsz)))
        · have HR : Hid (parkRead s = ([], false)) := hid (by unfold parkRead; rw [if_neg HNE.out, HPS.out, if_neg (fun hh => hg hh.1)])
          have HG := hid (Bool.eq_false_iff.2 hg)
          clear hg
          go_wp2_with fail
          refine (paParking_any _ _ _ _ _ hown.has).mono ?_
          rw [HG.out]
          rintro e w4 ⟨rfl, hb4⟩
          go_wp2_with fail
          go_ret2
          exact postInts_no HR.out (hbb.trans (hb4.mono (Nat.le_trans hb1.size hsz)))
end Go.Proofs.YtpjgidjkpcbniacDoor
