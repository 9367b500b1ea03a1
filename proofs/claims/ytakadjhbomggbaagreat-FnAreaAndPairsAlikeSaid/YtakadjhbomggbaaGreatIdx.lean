/- The indices of a list: the program's function, by its contract. -/
import Derived.Test.YtakadjhbomggbaaGreatBase
import Derived.Test.YtakadjhbomggbaaGreatHelp
import Derived.Test.YtakadjhbomggbaaGreatMathSm
namespace Go.Proofs.YtakadjhbomggbaaGreat
open Go.RowKit

theorem indices_any (n : Nat) (w : World) (hn : n ≤ 1000) :
    Calls Tryz.prog 65 #[.int .i64 (n : Int)] w fun e w' => ∃ a' cap', e = .returned (.slice a' n cap') ∧ Own w' w.heap.size a' n cap' (idx n) ∧ Below w.heap.size w w' := by
  have HN := hid (fun k (hk : k < n) => nth_idx hk)
  have HLL := hid (length_idx n)
  go_enter Tryz.func65, Tryz.ntmps65
  go_wp2_with (at_make; refine wpList_make_ints _ rfl _ _ rfl n rfl rfl (by omega) ?_; intro a1 cap1 w1 hown1 hb1)
  go_loopw [9] (fun i wr => ∃ (k : Nat) (zs : List Int), k ≤ n ∧ i = .int .i64 (k : Int) ∧ Own wr w.heap.size a1 n cap1 zs ∧ Hid (FromTo (idx n) zs k) ∧ Below w.heap.size w wr) (fun i _ => n - (intOf i).toNat)
  case atStart => exact ⟨0, _, Nat.zero_le _, rfl, hown1, hid (fun i hi => by omega), hb1⟩
  case round =>
    clear hown1 hb1
    obtain ⟨k, zs, hk, rfl, hz, HF, hb⟩ := hrel
    by_cases hlt : k < n
    · obtain ⟨g1, rfl, hg1, hg2, hg3, hg4⟩ := hz.opened (by omega)
      have hgk := hg3 k hlt
      have hgf := hg4 k
      obtain ⟨s1, s2⟩ := hz.set k (k : Int)
      have HF2 : Hid (FromTo (idx n) (zs.set k (k : Int)) (k + 1)) := hid (by
        intro i hi
        rw [nth_set (by rw [hz.len]; exact hlt)]
        by_cases e : k = i
        · subst e; rw [if_pos rfl, HN.out _ hlt]
        · rw [if_neg e]; exact HF.out i (by omega))
      have hb2 := hb.setCell (p := ⟨g1, k, none⟩) hg1 (.int .i64 (k : Int))
      clear hg3 hg4 s2
      go_wp2_with fail
      go_roundw
      case rel => exact ⟨k + 1, _, by omega, by go_num, s1, HF2, hb2⟩
      case measure => simp [intOf]; omega
    · obtain rfl : n = k := by omega
      have HE : Hid (idx n = zs) := hid (ext_nth (by rw [HLL.out, hz.len]) (fun i hi => (HF.out i (by rw [HLL.out] at hi; exact hi)).symm))
      go_wp2_with fail
      go_ret
      exact ⟨a1, cap1, rfl, by rw [HE.out]; exact hz, hb⟩
end Go.Proofs.YtakadjhbomggbaaGreat
