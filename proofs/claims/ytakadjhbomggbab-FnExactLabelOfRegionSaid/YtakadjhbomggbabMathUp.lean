/- The numbers 0, 1, .. in order. -/
import Derived.Test.YtakadjhbomggbabMath1
namespace Go.Proofs.Ytakadjhbomggbab
def upto (n : Nat) : List Int := (List.range n).map fun (i : Nat) => (i : Int)
theorem length_upto (n : Nat) : (upto n).length = n := by simp [upto]
theorem nth_upto {n i : Nat} (h : i < n) : nth (upto n) i = (i : Int) := by simp [nth, upto, h]
theorem upto_succ (n : Nat) : upto (n + 1) = upto n ++ [(n : Int)] := by simp [upto, List.range_succ]
end Go.Proofs.Ytakadjhbomggbab
