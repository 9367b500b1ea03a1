/- Chapter 9: favourites in another order, by the contracts of the functions. -/
import Derived.Test.YtehdccfkkfkciabMathVv
import Derived.Test.YtehdccfkkfkciabHelp
import Derived.StillTailTactics
namespace Go.Proofs.Ytehdccfkkfkciab
open Go.RowKit

set_option maxHeartbeats 800000 in
theorem vaOrder_any (a b : Option Addr) (n m cap cap' : Nat) (xs os : List Int) (w : World) (h : Has w a n cap xs) (h' : Has w b m cap' os) (ho : ∀ i, i < m → ∃ c : Nat, c < n ∧ nth os i = (c : Int)) :
    Calls Try.prog 50 #[.slice a n cap, .slice b m cap'] w fun e w' => ∃ a' cap', e = .returned (.slice a' m cap') ∧ Own w' w.heap.size a' m cap' (reordL xs os) ∧ Below w.heap.size w w' := by
  have HO := hid ho
  have HLO := hid h'.len
  have hle := h'.le
  clear ho
  go_enter Try.func50, Try.ntmps50
  go_wp2_with fail
  go_loopw [5, 10] (fun o i wr => ∃ (k : Nat) (a' : Option Addr) (cap' : Nat), k ≤ m ∧ i = .int .i64 k ∧ o = .slice a' k cap' ∧ Own wr w.heap.size a' k cap' ((reordL xs os).take k) ∧ Below w.heap.size w wr) (fun _ i _ => m - (intOf i).toNat)
  case atStart => exact ⟨0, none, 0, Nat.zero_le _, rfl, rfl, Own.nil _ _, Below.refl _ _⟩
  case round =>
    obtain ⟨k, a', cap', hk, rfl, rfl, hown, hb⟩ := hrel
    by_cases hlt : k < m
    · obtain ⟨c, hc1, hc2⟩ := HO.out k hlt
      obtain ⟨b1, off1, rfl, hbb1, hx1⟩ := h.2.2.2.2 (by omega)
      obtain ⟨b2, off2, rfl, hbb2, hx2⟩ := h'.2.2.2.2 (by omega)
      have hck : wr.cell? ⟨b1, off1 + c, none⟩ = some (.int .i64 (nth xs c)) := by rw [hb.cell (p := ⟨b1, off1 + c, none⟩) hbb1]; exact hx1 c hc1
      have hdk : wr.cell? ⟨b2, off2 + k, none⟩ = some (.int .i64 (c : Int)) := by rw [hb.cell (p := ⟨b2, off2 + k, none⟩) hbb2, hx2 k hlt, hc2]
      have HS : Hid ((reordL xs os).take (k + 1) = (reordL xs os).take k ++ [nth xs c]) := hid (by rw [reord_succ (by rw [HLO.out]; exact hlt), hc2, Int.toNat_natCast])
      have z1 : (c : Int) < (n : Int) := by omega
      have z0 : (0 : Int) ≤ (c : Int) := by omega
      clear hx1 hx2 hc2
      go_wp2_with (at_builtin; refine wpList_append_int _ rfl _ _ rfl w.heap.size _ _ _ _ _ rfl rfl hown (by omega) hb.size ?_; intro a3 cap3 w3 hown3 hb3)
      go_roundw
      case rel => exact ⟨k + 1, a3, cap3, by omega, by go_num, rfl, by rw [HS.out]; exact hown3, hb.trans hb3⟩
      case measure => simp [intOf]; omega
    · obtain rfl : k = m := by omega
      rw [List.take_of_length_le (by rw [length_reord, HLO.out]; omega)] at hown
      go_wp2_with fail
      go_ret
      exact ⟨_, _, rfl, hown, hb⟩
set_option maxHeartbeats 800000 in
theorem reordered_any (a b : Option Addr) (n m cap cap' : Nat) (xs os : List Int) (w : World) (h : Has w a n cap xs) (h' : Has w b m cap' os) (ho : ∀ i, i < m → ∃ c : Nat, c < n ∧ nth os i = (c : Int)) :
    Calls Try.prog 53 #[.slice a n cap, .slice b m cap'] w fun e w' => ∃ a' cap', e = .returned (.slice a' m cap') ∧ Own w' w.heap.size a' m cap' (reordL xs os) ∧ Below w.heap.size w w' := by
  have HO := hid ho
  have HLO := hid h'.len
  have hle := h'.le
  have HN := hid (fun k (hk : k < m) => nth_reord (xs := xs) (os := os) (k := k) (by rw [HLO.out]; exact hk))
  clear ho
  go_enter Try.func53, Try.ntmps53
  go_wp2_with (at_make; refine wpList_make_ints _ rfl _ _ rfl m rfl rfl (by omega) ?_; intro a1 cap1 w1 hown1 hb1)
  go_loopw [13] (fun i wr => ∃ (k : Nat) (zs : List Int), k ≤ m ∧ i = .int .i64 (k : Int) ∧ Own wr w.heap.size a1 m cap1 zs ∧ Hid (FromTo (reordL xs os) zs k) ∧ Below w.heap.size w wr) (fun i _ => m - (intOf i).toNat)
  case atStart => exact ⟨0, _, Nat.zero_le _, rfl, hown1, hid (fun i hi => by omega), hb1⟩
  case round =>
    clear hown1 hb1
    obtain ⟨k, zs, hk, rfl, hz, HF, hb⟩ := hrel
    by_cases hlt : k < m
    · obtain ⟨c, hc1, hc2⟩ := HO.out k hlt
      obtain ⟨b1, off1, rfl, hbb1, hx1⟩ := h.2.2.2.2 (by omega)
      obtain ⟨b2, off2, rfl, hbb2, hx2⟩ := h'.2.2.2.2 (by omega)
      have hck : wr.cell? ⟨b1, off1 + c, none⟩ = some (.int .i64 (nth xs c)) := by rw [hb.cell (p := ⟨b1, off1 + c, none⟩) hbb1]; exact hx1 c hc1
      have hdk : wr.cell? ⟨b2, off2 + k, none⟩ = some (.int .i64 (c : Int)) := by rw [hb.cell (p := ⟨b2, off2 + k, none⟩) hbb2, hx2 k hlt, hc2]
      have z1 : (c : Int) < (n : Int) := by omega
      have z0 : (0 : Int) ≤ (c : Int) := by omega
      obtain ⟨g1, rfl, hg1, hg2, hg3, hg4⟩ := hz.opened (by omega)
      have hgk := hg3 k hlt
      have hgf := hg4 k
      obtain ⟨s1, s2⟩ := hz.set k (nth xs c)
      have HF2 : Hid (FromTo (reordL xs os) (zs.set k (nth xs c)) (k + 1)) := hid (by
        intro i hi
        rw [nth_set (by rw [hz.len]; exact hlt)]
        by_cases e : k = i
        · subst e; rw [if_pos rfl, HN.out _ hlt, hc2, Int.toNat_natCast]
        · rw [if_neg e]; exact HF.out i (by omega))
      have hb2 := hb.setCell (p := ⟨g1, k, none⟩) hg1 (.int .i64 (nth xs c))
      clear hx1 hx2 hc2 hg3 hg4
      go_wp2_with fail
      go_roundw
      case rel => exact ⟨k + 1, _, by omega, by go_num, s1, HF2, hb2⟩
      case measure => simp [intOf]; omega
    · obtain rfl : k = m := by omega
      have HE : Hid (zs = reordL xs os) := hid (ext_nth (by rw [hz.len, length_reord, HLO.out]) fun i hi => by rw [hz.len] at hi; exact HF.out i hi)
      go_wp2_with fail
      go_ret
      exact ⟨_, _, rfl, by rw [← HE.out]; exact hz, hb⟩
end Go.Proofs.Ytehdccfkkfkciab
