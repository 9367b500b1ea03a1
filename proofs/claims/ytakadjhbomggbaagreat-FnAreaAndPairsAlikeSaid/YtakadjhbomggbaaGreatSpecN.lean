/- The model's functions of chapter 2, by their contracts: counts, ranks. -/
import Derived.Test.YtakadjhbomggbaaGreatSpecS
import Derived.Test.YtakadjhbomggbaaGreatMathW
import Derived.StillTailTactics
namespace Go.Proofs.YtakadjhbomggbaaGreat
open Go.RowKit

theorem street_small : ∀ c, c < 9 → ∀ p, p < 13 → 1 ≤ c → c ≤ p → (p + 1 - c) * (p + 1) ^ (c - 1) ≤ 815730721 := by decide +kernel

theorem chs_times : ∀ n, n < 17 → ∀ i, i < n → chs n i * (n - i) ≤ 205920 := by decide +kernel

end Go.Proofs.YtakadjhbomggbaaGreat
