/- Is the number of the first index greater than on a plane: for points, by contract. -/
import Derived.Test.YtakadjhbomggbabPln
import Derived.Test.YtakadjhbomggbabRgn
import Derived.Handy
import Derived.Test.YtakadjhbomggbabSpecPln
namespace Go.Proofs.Ytakadjhbomggbab
open Go.RowKit

set_option maxRecDepth 100000 in
set_option maxHeartbeats 1600000 in
theorem greaterX_any (a : Option Addr) (n cap : Nat) (xs : List Int) (i s : Nat) (c : Int) (w : World) (h : Has w a n cap xs) (hi : i < n) (hs : s < n) (hb : ∀ i, i < n → -100000 ≤ nth xs i ∧ nth xs i ≤ 100000) :
    Calls Try.prog 81 #[.slice a n cap, .agg #[.int .i64 (i : Int), .int .i64 (s : Int), .int .i64 c]] w fun e w' => e = .returned (.bool (decide (c < nth xs i - nth xs s))) ∧ Below w.heap.size w w' := by
  obtain ⟨b0, off, rfl, hbb, hc⟩ := h.2.2.2.2 (by omega)
  obtain ⟨r1, r2⟩ := hb i hi
  obtain ⟨r3, r4⟩ := hb s hs
  have hwr : IntKind.i64.wrap (nth xs i - nth xs s) = nth xs i - nth xs s := IntWalk.i64_in _ (by omega)
  have hbA : Below w.heap.size w (w.alloc (.cells #[.int .i64 (i : Int), .int .i64 (s : Int), .int .i64 c] 89)) := (Below.refl _ _).alloc (Nat.le_refl _) _
  have x1 := hc i hi
  have x2 := hc s hs
  have z1 := (hbA.cell (p := ⟨b0, off + i, none⟩) hbb).trans x1
  have z2 := (hbA.cell (p := ⟨b0, off + s, none⟩) hbb).trans x2
  have hi1 : (i : Int) < (n : Int) := by omega
  have hi0 : (0 : Int) ≤ (i : Int) := by omega
  have hs1 : (s : Int) < (n : Int) := by omega
  have hs0 : (0 : Int) ≤ (s : Int) := by omega
  clear hc x1 x2 r1 r2 r3 r4 hb
  generalize nth xs i = u at *
  generalize nth xs s = v at *
  by_cases hd : c < u - v
  · have hd1 : decide (c < u - v) = true := decide_eq_true hd
    go_enter Try.func81, Try.ntmps81
    go_wp2_with fail
    go_quiet (fail)
    go_wp2_with fail
    go_ret
    exact ⟨ret_bool hd1.symm, below_drewN hbA _⟩
  · have hd1 : decide (c < u - v) = false := decide_eq_false hd
    go_enter Try.func81, Try.ntmps81
    go_wp2_with fail
    go_quiet (fail)
    go_wp2_with fail
    go_ret
    exact ⟨ret_bool hd1.symm, below_drewN hbA _⟩
end Go.Proofs.Ytakadjhbomggbab
