/- The program's functions of chapter 2, by their contracts: powers, choices, counts. -/
import Derived.Test.YtclpbccmgfclcaaImplG
import Derived.Test.YtclpbccmgfclcaaSpecN
namespace Go.Proofs.Ytclpbccmgfclcaa
open Go.RowKit

theorem isCarNumber_any (n : Int) (w : World) :
    Calls Try.prog 69 #[.int .i64 n] w fun e w' => e = .returned (.bool (inB n 0 8)) ∧ w = w' := by
  by_cases h1 : 0 ≤ n
  · by_cases h2 : n ≤ 8
    · have HR : Hid (inB n 0 8 = true) := hid (inB_iff.2 ⟨h1, h2⟩)
      go_enter Try.func69, Try.ntmps69
      go_wp2_with fail
      go_ret
      exact ⟨ret_bool HR.out.symm, rfl⟩
    · have HR : Hid (inB n 0 8 = false) := hid (by rw [inB_not]; omega)
      go_enter Try.func69, Try.ntmps69
      go_wp2_with fail
      go_ret
      exact ⟨ret_bool HR.out.symm, rfl⟩
  · have HR : Hid (inB n 0 8 = false) := hid (by rw [inB_not]; omega)
    go_enter Try.func69, Try.ntmps69
    go_wp2_with fail
    go_ret
    exact ⟨ret_bool HR.out.symm, rfl⟩

theorem streetCnt_le {c q : Nat} (hc : c ≤ 8) (hq : q ≤ 12) : streetCnt c q ≤ 815730721 := by
  have : ∀ c, c < 9 → ∀ q, q < 13 → streetCnt c q ≤ 815730721 := by decide +kernel
  exact this c (by omega) q (by omega)
theorem streetCnt_self : ∀ n, n < 9 → streetCnt n n = cnt n := by decide +kernel

end Go.Proofs.Ytclpbccmgfclcaa
