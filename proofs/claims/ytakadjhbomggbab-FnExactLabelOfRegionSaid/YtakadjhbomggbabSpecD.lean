/- The model's functions of chapter 1, by their contracts: lists below others, mixtures, cuts, joins. -/
import Derived.Test.YtakadjhbomggbabSpecC
namespace Go.Proofs.Ytakadjhbomggbab
open Go.RowKit

theorem isBelow_yes {xs ys : List Int} (h : (isPark xs && isPark ys) = true) : isBelowOf xs ys = (decide (xs.length = ys.length) && leB xs ys xs.length, true) := by simp only [isBelowOf, if_pos h]
theorem isBelow_no {xs ys : List Int} (h : ¬ (isPark xs && isPark ys) = true) : isBelowOf xs ys = (false, false) := by simp only [isBelowOf, if_neg h]

theorem l1Most_any (x y : Int) (w : World) : Calls Try.prog 75 #[.int .i64 x, .int .i64 y] w fun e w' => e = .returned (.int .i64 (max x y)) ∧ w = w' := by
  by_cases hxy : y < x
  · go_enter Try.func75, Try.ntmps75
    go_wp2_with fail
    go_ret
    exact ⟨ret_int (by omega), rfl⟩
  · go_enter Try.func75, Try.ntmps75
    go_wp2_with fail
    go_ret
    exact ⟨ret_int (by omega), rfl⟩

theorem length_mix {xs ys : List Int} {low : Bool} (h : xs.length = ys.length) : (mixWith xs ys low).length = xs.length := by simp [mixWith, h]
theorem mix_succ {xs ys : List Int} {low : Bool} {k : Nat} (hx : k < xs.length) (hy : k < ys.length) : (mixWith xs ys low).take (k + 1) = (mixWith xs ys low).take k ++ [if low then min (nth xs k) (nth ys k) else max (nth xs k) (nth ys k)] := by
  have hl : k < (mixWith xs ys low).length := by simp [mixWith]; omega
  rw [take_succ_nth hl]
  congr 2
  simp [nth, mixWith, List.getElem?_zipWith, hx, hy]

theorem park_le {xs : List Int} (h : isPark xs = true) : xs.length ≤ 8 := (isPark_iff.1 h).1

end Go.Proofs.Ytakadjhbomggbab
