/- The program's defect, by contract. -/
import Derived.Test.YtnddplldkgphnacImplC
import Derived.Test.YtnddplldkgphnacMathLo
namespace Go.Proofs.Ytnddplldkgphnac
open Go.RowKit

theorem defTo_bounds {xs : List Int} {p : Int} (h8 : xs.length ≤ 8) (hp : 0 ≤ p) (hp2 : p ≤ 12) : ∀ q : Nat, (q : Int) ≤ p → 0 ≤ defTo xs p q ∧ defTo xs p q ≤ 8
  | 0, _ => by simp [defTo]
  | q + 1, hq => by
    have ih := defTo_bounds h8 hp hp2 q (by omega)
    have := below_le xs q
    rw [defTo]
    unfold surplus
    omega

end Go.Proofs.Ytnddplldkgphnac
