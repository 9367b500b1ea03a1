/- The program's functions of chapter 2, by their contracts: powers, choices, counts. -/
import Derived.Test.YtnddplldkgphnabImplG
import Derived.Test.YtnddplldkgphnabSpecN
namespace Go.Proofs.Ytnddplldkgphnab
open Go.RowKit

theorem streetCnt_le {c q : Nat} (hc : c ≤ 8) (hq : q ≤ 12) : streetCnt c q ≤ 815730721 := by
  have : ∀ c, c < 9 → ∀ q, q < 13 → streetCnt c q ≤ 815730721 := by decide +kernel
  exact this c (by omega) q (by omega)
theorem streetCnt_self : ∀ n, n < 9 → streetCnt n n = cnt n := by decide +kernel

end Go.Proofs.Ytnddplldkgphnab
