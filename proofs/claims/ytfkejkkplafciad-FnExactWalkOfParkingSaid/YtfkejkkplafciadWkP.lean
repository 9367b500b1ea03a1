/- Chapter 4: pairs of walks, by their contracts. -/
import Derived.Test.YtfkejkkplafciadImplWk
import Derived.Test.YtfkejkkplafciadLit2
namespace Go.Proofs.Ytfkejkkplafciad
open Go.RowKit

theorem pair_yes1 {hs ls : List Int} {i j : Nat} (h1 : nth hs i = nth hs j) (h2 : nth ls i < nth ls j) : pairB hs ls i j = true := by simp [pairB, h1, h2]
theorem pair_no1 {hs ls : List Int} {i j : Nat} (h1 : nth hs i = nth hs j) (h2 : ¬ nth ls i < nth ls j) : pairB hs ls i j = false := by
  simp only [pairB, h1, decide_true, Bool.true_and, decide_eq_false h2, Bool.false_or, Bool.and_eq_false_iff, decide_eq_false_iff_not]
  left; omega
theorem pair_yes2 {hs ls : List Int} {i j : Nat} (h1 : nth hs i = nth hs j + 1) (h2 : nth ls j < nth ls i) : pairB hs ls i j = true := by simp [pairB, h1, h2]
theorem pair_no2 {hs ls : List Int} {i j : Nat} (h1 : nth hs i = nth hs j + 1) (h2 : ¬ nth ls j < nth ls i) : pairB hs ls i j = false := by
  have : ¬ nth hs i = nth hs j := by omega
  simp [pairB, this, h2]
theorem pair_no3 {hs ls : List Int} {i j : Nat} (h1 : ¬ nth hs i = nth hs j) (h2 : ¬ nth hs i = nth hs j + 1) : pairB hs ls i j = false := by simp [pairB, h1, h2]
theorem prow_yes {hs ls : List Int} {i c : Nat} (h : pairB hs ls i (i + 1 + c) = true) : pairRow hs ls i (c + 1) = pairRow hs ls i c ++ [[(i : Int), ((i + 1 + c : Nat) : Int)]] := by rw [pairRow_succ, if_pos h]
theorem prow_no {hs ls : List Int} {i c : Nat} (h : pairB hs ls i (i + 1 + c) = false) : pairRow hs ls i (c + 1) = pairRow hs ls i c := by rw [pairRow_succ, if_neg (by rw [h]; decide), List.append_nil]

end Go.Proofs.Ytfkejkkplafciad
