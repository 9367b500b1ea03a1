/- The program's ways of driving: who may drive so; the sum of lengths; what a list has. -/
import Derived.Test.YthlmfbcnaciafaaImplLq
import Derived.Test.YthlmfbcnaciafaaImplC
import Derived.Test.YthlmfbcnaciafaaCont
import Derived.Handy
namespace Go.Proofs.Ythlmfbcnaciafaa
open Go.RowKit

theorem ta_FB (v : Value) (w : World) : (Instr.typeAssert (.iface 46 v) 66 75 true).run Try.prog w = .ok (.tuple #[.agg #[.int .i64 0], .bool false]) w := by kernel_rfl
theorem ta_FL (v : Value) (w : World) : (Instr.typeAssert (.iface 46 v) 66 77 true).run Try.prog w = .ok (.tuple #[.agg #[.slice none 0 0], .bool false]) w := by kernel_rfl
theorem ta_BB (v : Value) (w : World) : (Instr.typeAssert (.iface 75 v) 66 75 true).run Try.prog w = .ok (.tuple #[v, .bool true]) w := by kernel_rfl
theorem ta_LB (v : Value) (w : World) : (Instr.typeAssert (.iface 77 v) 66 75 true).run Try.prog w = .ok (.tuple #[.agg #[.int .i64 0], .bool false]) w := by kernel_rfl
theorem ta_LL (v : Value) (w : World) : (Instr.typeAssert (.iface 77 v) 66 77 true).run Try.prog w = .ok (.tuple #[v, .bool true]) w := by kernel_rfl

theorem wayF_any (n : Int) (w : World) : Calls Try.prog 45 #[.iface 46 (.agg #[]), .int .i64 n] w fun e w' => e = .returned (.bool true) ∧ w = w' := by
  have tFB := ta_FB
  have tFL := ta_FL
  go_enter Try.func45, Try.ntmps45
  go_wp2_with fail
  go_ret
  exact ⟨rfl, rfl⟩

theorem wayB_any (k n : Int) (w : World) : Calls Try.prog 45 #[.iface 75 (.agg #[.int .i64 k]), .int .i64 n] w (PostBool w (inB k 0 8)) := by
  have tBB := ta_BB
  by_cases h1 : 0 ≤ k
  · by_cases h2 : k ≤ 8
    · have HR : Hid (inB k 0 8 = true) := hid (inB_iff.2 ⟨h1, h2⟩)
      go_enter Try.func45, Try.ntmps45
      go_wp2_with fail
      go_ret
      exact postBool HR.out.symm ((Below.refl _ _).alloc (Nat.le_refl _) _)
    · have HR : Hid (inB k 0 8 = false) := hid (inB_not.2 (by omega))
      go_enter Try.func45, Try.ntmps45
      go_wp2_with fail
      go_ret
      exact postBool HR.out.symm ((Below.refl _ _).alloc (Nat.le_refl _) _)
  · have HR : Hid (inB k 0 8 = false) := hid (inB_not.2 (by omega))
    go_enter Try.func45, Try.ntmps45
    go_wp2_with fail
    go_ret
    exact postBool HR.out.symm ((Below.refl _ _).alloc (Nat.le_refl _) _)

theorem wayL_any (a : Option Addr) (m cap : Nat) (n : Nat) (w : World) : Calls Try.prog 45 #[.iface 77 (.agg #[.slice a m cap]), .int .i64 (n : Int)] w (PostBool w (decide (m = n))) := by
  have tLB := ta_LB
  have tLL := ta_LL
  by_cases h : m = n
  · have hb : ((m : Int) == (n : Int)) = true := by simp [h]
    have HR : Hid (decide (m = n) = true) := hid (by simp [h])
    clear h
    go_enter Try.func45, Try.ntmps45
    go_wp2_with fail
    go_ret
    exact postBool HR.out.symm ((Below.refl _ _).alloc (Nat.le_refl _) _)
  · have hb : ((m : Int) == (n : Int)) = false := by simp; omega
    have HR : Hid (decide (m = n) = false) := hid (by simp [h])
    clear h
    go_enter Try.func45, Try.ntmps45
    go_wp2_with fail
    go_ret
    exact postBool HR.out.symm ((Below.refl _ _).alloc (Nat.le_refl _) _)

/-- The sum of lengths, if they are lengths. -/
def lensOf (ls : List Int) : Int × Bool := if lenB ls then (total ls, true) else (0, false)

end Go.Proofs.Ythlmfbcnaciafaa
