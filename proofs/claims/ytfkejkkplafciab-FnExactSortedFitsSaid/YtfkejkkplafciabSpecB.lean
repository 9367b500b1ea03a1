/- The model's functions of chapter 1, by their contracts: driving. -/
import Derived.Test.YtfkejkkplafciabSpecA
namespace Go.Proofs.Ytfkejkkplafciab
open Go.RowKit

theorem good_nth {xs : List Int} {p : Int} {n : Nat} (h : good xs p = true) (hn : xs.length = n) : n ≤ 8 ∧ 1 ≤ p ∧ p ≤ 12 ∧ ∀ i, i < n → 0 ≤ nth xs i ∧ nth xs i ≤ p - 1 := by
  obtain ⟨h1, h2, h3⟩ := good_iff.1 h
  exact ⟨by omega, h1.1, h1.2, fun i hi => h3 _ (nth_mem (by omega))⟩

set_option maxHeartbeats 400000 in
theorem paAsked_any (a : Option Addr) (n cap : Nat) (xs : List Int) (w : World) (h : Has w a n cap xs) :
    Calls Try.prog 54 #[.slice a n cap] w fun e w' => e = .returned (.bool (asked xs)) ∧ w = w' := by
  have hlen := h.len
  by_cases h8 : n ≤ 8
  · go_enter Try.func54, Try.ntmps54
    go_wp2_with (go_at_call 46; refine (l1All_any _ _ _ _ _ _ _ h).mono ?_; rintro e w' ⟨rfl, rfl⟩)
    go_ret
    exact ⟨ret_bool (by simp [asked, hlen, h8]), rfl⟩
  · go_enter Try.func54, Try.ntmps54
    go_wp2_with fail
    go_ret
    exact ⟨ret_bool (by simp [asked, hlen, h8]), rfl⟩

theorem park_nth {xs : List Int} {n : Nat} (h : allB xs 0 ((n : Int) - 1) = true) (hn : xs.length = n) : ∀ i, i < n → 0 ≤ nth xs i ∧ nth xs i ≤ (n : Int) - 1 :=
  fun i hi => allB_nth h (by omega)

end Go.Proofs.Ytfkejkkplafciab
