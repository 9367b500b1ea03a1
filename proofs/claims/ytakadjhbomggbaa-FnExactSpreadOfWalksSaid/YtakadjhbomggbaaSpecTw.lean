/- The model's DepthsOf and BelowCounts, and slices.Clone of integers. -/
import Derived.Test.YtakadjhbomggbaaSpecTv
import Derived.Test.YtakadjhbomggbaaMathBe
namespace Go.Proofs.Ytakadjhbomggbaa
open Go.RowKit

set_option maxHeartbeats 400000 in
theorem cloneT_any (a : Option Addr) (n cap : Nat) (xs : List Int) (w : World) (h : Has w a n cap xs) :
    Calls Try.prog 76 #[.slice a n cap] w fun e w' => ∃ a' cap', e = .returned (.slice a' n cap') ∧ Own w' w.heap.size a' n cap' xs ∧ Below w.heap.size w w' := by
  have hle := h.le
  have hb0 : Below w.heap.size w (w.alloc (.cells #[] 3)) := (Below.refl _ _).alloc (Nat.le_refl _) _
  have qn : ∀ (w : World) (a : Option Addr) (n c n' c' : Nat), (binOp .eql 24 (.slice a n c) (.slice none n' c')).run Try.prog w = .ok (.bool a.isNone) w := fun w a n c n' c' => Lib.run_eql_slice_nil w _ _ a n c n' c' Try.underlying24
  cases a with
  | none =>
    have hn : n = 0 := by
      apply Classical.byContradiction
      intro hne
      obtain ⟨b, off, hbo, _⟩ := h.2.2.2.2 (by omega)
      cases hbo
    subst hn
    have hx : xs = [] := List.eq_nil_of_length_eq_zero h.len
    subst hx
    go_enter Try.func76, Try.ntmps76
    go_wp2_with fail
    go_ret
    exact ⟨_, _, rfl, Own.nil _ _, Below.refl _ _⟩
  | some p =>
    go_enter Try.func76, Try.ntmps76
    go_wp2_with (at_builtin; refine wpList_append_ints _ rfl _ _ rfl w.heap.size _ _ _ _ _ _ [] xs rfl rfl (own_lit0 w _ (Nat.le_refl _)) (h.below hb0 (Nat.le_refl _)) (by omega) (by simp) ?_; intro a2 n2 cap2 w2 hn2 hown2 hb2)
    go_ret
    obtain rfl : n2 = n := by omega
    exact ⟨_, _, rfl, by simpa using hown2, hb0.trans hb2⟩

def depL (xs : List Int) : List Int := (List.range xs.length).map fun (i : Nat) => (dep xs ((i : Int) + 1) : Int)
def depOf (xs : List Int) : List Int × Bool := if treeB xs then (depL xs, true) else ([], false)
theorem length_depL (xs : List Int) : (depL xs).length = xs.length := by simp [depL]
theorem nth_depL {xs : List Int} {i : Nat} (h : i < xs.length) : nth (depL xs) i = (dep xs ((i : Int) + 1) : Int) := by simp [nth, depL, h]
theorem depL_succ {xs : List Int} {k : Nat} (h : k < xs.length) : (depL xs).take (k + 1) = (depL xs).take k ++ [(dep xs ((k : Int) + 1) : Int)] := by
  rw [take_succ_nth (by rw [length_depL]; exact h), nth_depL h]
theorem length_abv (xs : List Int) (v : Int) : (abv xs v).length = dep xs v := by simp [abv, length_upTo]

theorem nth_upTo {xs : List Int} {v : Int} {k j : Nat} (h : j < k) : nth (upTo xs v k) j = up xs v (j + 1) := by simp [nth, upTo, h]
theorem nth_abv {xs : List Int} {v : Int} {j : Nat} (h : j < dep xs v) : nth (abv xs v) j = up xs v (j + 1) := nth_upTo h

end Go.Proofs.Ytakadjhbomggbaa
