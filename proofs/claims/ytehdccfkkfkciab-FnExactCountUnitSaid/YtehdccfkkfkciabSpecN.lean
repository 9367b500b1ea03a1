/- The model's functions of chapter 2, by their contracts: counts, ranks. -/
import Derived.Test.YtehdccfkkfkciabSpecS
import Derived.Test.YtehdccfkkfkciabMathW
import Derived.StillTailTactics
namespace Go.Proofs.Ytehdccfkkfkciab
open Go.RowKit

theorem cnCars_any (n : Int) (w : World) :
    Calls Try.prog 28 #[.int .i64 n] w fun e w' => e = .returned (.bool (inB n 0 8)) ∧ w = w' := by
  go_enter Try.func28, Try.ntmps28
  go_wp2_with (go_at_call 27; refine (l1In_any _ _ _ _).mono ?_; rintro e w' ⟨rfl, rfl⟩)
  go_ret
  exact ⟨rfl, rfl⟩

theorem street_small : ∀ c, c < 9 → ∀ p, p < 13 → 1 ≤ c → c ≤ p → (p + 1 - c) * (p + 1) ^ (c - 1) ≤ 815730721 := by decide +kernel

theorem chs_times : ∀ n, n < 17 → ∀ i, i < n → chs n i * (n - i) ≤ 205920 := by decide +kernel

end Go.Proofs.Ytehdccfkkfkciab
