/- Turned lists: the program's function, by its contract. -/
import Derived.Test.YtkkhlkaieohklabLawKit
import Derived.Test.YtkkhlkaieohklabMathC
import Derived.IntWalk
namespace Go.Proofs.Ytkkhlkaieohklab
open Go.RowKit

theorem lenTurn (xs : List Int) (p b : Int) : (turn xs p b).length = xs.length := by simp [turn]
theorem nthTurn {xs : List Int} {p b : Int} {i : Nat} (h : i < xs.length) : nth (turn xs p b) i = (nth xs i + b) % p := by simp [nth, turn, h]
theorem turn_tmod5 (x b p : Int) : (x + b.tmod p) % p = (x + b) % p := by
  have h1 := Int.tmod_add_mul_tdiv b p
  conv => rhs; rw [← h1]
  rw [← Int.add_assoc, Int.add_mul_emod_self_left]

set_option maxHeartbeats 800000 in
theorem turnedBy_any (a : Option Addr) (n cap : Nat) (xs : List Int) (q : Nat) (b : Int) (w : World) (h : Has w a n cap xs) (hn : n ≤ 1000) (hq : 1 ≤ q ∧ q ≤ 13) (hx : Hid (∀ i, i < n → 0 ≤ nth xs i ∧ nth xs i < (q : Int))) :
    Calls Try.prog 37 #[.slice a n cap, .int .i64 (q : Int), .int .i64 b] w fun e w' => ∃ a' cap', e = .returned (.slice a' n cap') ∧ Own w' w.heap.size a' n cap' (turn xs q b) ∧ Below w.heap.size w w' := by
  have HL := hid h.len
  have hq0 : ¬ (q : Int) = 0 := by omega
  have hp1 : (0 : Int) < (q : Int) := by omega
  have t0 : -(q : Int) < b.tmod (q : Int) := Int.lt_tmod_of_pos b hp1
  have t1 : b.tmod (q : Int) < (q : Int) := Int.tmod_lt_of_pos b hp1
  go_enter Try.func37, Try.ntmps37
  go_wp2_with (at_make; refine wpList_make_ints _ rfl _ _ rfl n rfl rfl (by omega) ?_; intro a1 cap1 w1 hown1 hb1)
  go_loopw [15] (fun i wr => ∃ (k : Nat) (zs : List Int), k ≤ n ∧ i = .int .i64 (k : Int) ∧ Own wr w.heap.size a1 n cap1 zs ∧ Hid (FromTo (turn xs q b) zs k) ∧ Below w.heap.size w wr) (fun i _ => n - (intOf i).toNat)
  case atStart => exact ⟨0, _, Nat.zero_le _, rfl, hown1, hid (fun i hi => by omega), hb1⟩
  case round =>
    clear hown1 hb1
    obtain ⟨k, zs, hk, rfl, hz, HF, hb'⟩ := hrel
    by_cases hlt : k < n
    · obtain ⟨bk, off, rfl, hbb, hc⟩ := h.2.2.2.2 (by omega)
      have hck : wr.cell? ⟨bk, off + k, none⟩ = some (.int .i64 (nth xs k)) := by rw [hb'.cell (p := ⟨bk, off + k, none⟩) hbb]; exact hc k hlt
      obtain ⟨x0, x1⟩ := hx.out k hlt
      obtain ⟨g', rfl, hl1, hl2, hl3, hl4⟩ := hz.opened (by omega)
      have hgk := hl3 k (by omega)
      have hgf := hl4 k
      have HT := hid (turn_tmod5 (nth xs k) b q)
      have hm0 : 0 ≤ nth xs k + b.tmod q + q := by omega
      clear hc hl3 hl4
      go_wp2_with fail
      go_roundw
      case rel =>
        obtain ⟨s1, s2⟩ := hz.set k ((nth xs k + b.tmod q) % q)
        refine ⟨k + 1, _, by omega, by go_num, s1, hid ?_, hb'.setCell hl1 _⟩
        intro i hi
        rw [nth_set (by rw [hz.len]; omega), nthTurn (by rw [HL.out]; omega)]
        split
        · subst_vars; rw [HT.out]
        · rw [HF.out i (by omega), nthTurn (by rw [HL.out]; omega)]
      case measure => simp [intOf]; omega
    · obtain rfl : n = k := by omega
      have HE : Hid (turn xs q b = zs) := hid (ext_nth (by rw [lenTurn, hz.len, HL.out]) (fun i hi => (HF.out i (by rw [lenTurn, HL.out] at hi; exact hi)).symm))
      go_wp2_with fail
      go_ret
      exact ⟨a1, cap1, rfl, by rw [HE.out]; exact hz, hb'⟩
end Go.Proofs.Ytkkhlkaieohklab
