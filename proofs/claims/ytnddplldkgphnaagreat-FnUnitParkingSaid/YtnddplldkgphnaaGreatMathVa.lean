/- Chapter 9: prime parking functions. -/
import Derived.Test.YtnddplldkgphnaaGreatMath1
namespace Go.Proofs.YtnddplldkgphnaaGreat
open Go.RowKit

def primeB (xs : List Int) : Bool := decide (0 < xs.length) && decide (idxs (isCut xs) xs.length = [])
def primeOf (xs : List Int) : Bool × Bool := if isPark xs then (primeB xs, true) else (false, false)
def cntPrimeOf (n : Int) : Int × Bool := if inB n 1 8 then ((((n.toNat - 1) ^ (n.toNat - 1) : Nat) : Int), true) else (0, false)
end Go.Proofs.YtnddplldkgphnaaGreat
