/- Chapter 4: readers of walks' texts. -/
import Derived.Test.YtakadjhbomggbabDoorWkX
import Derived.Test.YtakadjhbomggbabDoorSpecPa
namespace Go.Proofs.YtakadjhbomggbabDoor
open Go.RowKit

/-- What a text of numbers with commas, or -, reads as by the model. -/
def waR (s : ByteArray) : List Int := if s.toList = [45] then [] else (cutL s 44).map readB
set_option maxHeartbeats 2000000 in
theorem waRead_any (s : ByteArray) (w : World) (hs : s.size ≤ 1048576) :
    Calls Tryd.prog 10 #[.string s] w fun e w' => ∃ a n cap, e = .returned (.slice a n cap) ∧ Own w' w.heap.size a n cap (waR s) ∧ Below w.heap.size w w' := by
  by_cases he : s.toList = [45]
  · have HR : Hid (waR s = []) := hid (by unfold waR; rw [if_pos he])
    have hbe : (s.toList == [45]) = true := by rw [he]; rfl
    clear he
    go_enter Tryd.func10, Tryd.ntmps10
    go_wp2_with fail
    go_ret
    exact ⟨_, _, _, rfl, by rw [HR.out]; exact Own.nil _ _, Below.refl _ _⟩
  · have HNE := hid he
    have hne : (s.toList == [45]) = false := by simp [he]
    clear he
    go_enter Tryd.func10, Tryd.ntmps10
    go_wp2_with fail
    refine (l1Split_any s 44 44 _ rfl hs).mono ?_
    rintro e w1 ⟨a1, n1, cap1, rfl, hn1, hown1, hb1⟩
    obtain ⟨ps, hps⟩ : ∃ ps, cutL s 44 = ps := ⟨_, rfl⟩
    rw [hps] at hown1
    have HPS := hid hps
    have HL1 := hid hown1.len
    clear hps
    go_wp2_with fail
    have HHS := hid hown1.has
    clear hown1
    go_loopw [3, 11] (fun o i wr => ∃ (k : Nat) (a' : Option Addr) (cap' : Nat), k ≤ n1 ∧ i = .int .i64 (k : Int) ∧ o = .slice a' k cap' ∧ Own wr w1.heap.size a' k cap' ((ps.map readB).take k) ∧ Below w1.heap.size w1 wr) (fun _ i _ => n1 - (intOf i).toNat)
    case atStart => exact ⟨0, none, 0, Nat.zero_le _, rfl, rfl, Own.nil _ _, Below.refl _ _⟩
    case round =>
      obtain ⟨k, a', cap', hk, rfl, rfl, hown, hbw⟩ := hrel
      have hsz := hbw.size
      by_cases hlt : k < n1
      · obtain ⟨b, off, rfl, hbb, hc⟩ := (HHS.out.below hbw (Nat.le_refl _)).2.2.2.2 (by omega)
        have hck := hc k hlt
        have HT : Hid ((ps.map readB).take (k + 1) = (ps.map readB).take k ++ [readB (nthS ps k)]) := hid (take_readB (by rw [HL1.out]; exact hlt))
        clear hc
        go_wp2_with (first | (go_at_call 19; refine (l1Read_any _ _).mono ?_; rintro e w' ⟨rfl, rfl⟩) | (at_builtin; refine wpList_append_int _ rfl _ _ rfl w1.heap.size _ _ _ _ _ rfl rfl hown (by omega) hsz ?_; intro a4 cap4 w4 hown4 hb4))
        go_roundw
        case rel => exact ⟨k + 1, a4, cap4, by omega, by go_num, rfl, by rw [HT.out]; exact hown4, hbw.trans hb4⟩
        case measure => simp [intOf]; omega
      · obtain rfl : k = n1 := by omega
        have HR : Hid (waR s = ps.map readB) := hid (by unfold waR; rw [if_neg HNE.out, HPS.out])
        rw [take_readB_all HL1.out] at hown
        have hbb := hb1.trans (hbw.mono hb1.size)
        go_wp2_with fail
        go_ret
        exact ⟨_, _, _, rfl, by rw [HR.out]; exact hown.mono hb1.size, hbb⟩
end Go.Proofs.YtakadjhbomggbabDoor
