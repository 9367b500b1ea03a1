/- The program's ways of driving: who may drive so; the sum of lengths; what a list has. -/
import Derived.Test.YtnddplldkgphnacImplLq
import Derived.Test.YtnddplldkgphnacImplC
import Derived.Test.YtnddplldkgphnacCont
import Derived.Handy
namespace Go.Proofs.Ytnddplldkgphnac
open Go.RowKit

theorem ta_FB (v : Value) (w : World) : (Instr.typeAssert (.iface 171 v) 110 81 true).run Try.prog w = .ok (.tuple #[.agg #[.int .i64 0], .bool false]) w := by kernel_rfl
theorem ta_FL (v : Value) (w : World) : (Instr.typeAssert (.iface 171 v) 110 69 true).run Try.prog w = .ok (.tuple #[.agg #[.slice none 0 0], .bool false]) w := by kernel_rfl
theorem ta_BB (v : Value) (w : World) : (Instr.typeAssert (.iface 81 v) 110 81 true).run Try.prog w = .ok (.tuple #[v, .bool true]) w := by kernel_rfl
theorem ta_LB (v : Value) (w : World) : (Instr.typeAssert (.iface 69 v) 110 81 true).run Try.prog w = .ok (.tuple #[.agg #[.int .i64 0], .bool false]) w := by kernel_rfl
theorem ta_LL (v : Value) (w : World) : (Instr.typeAssert (.iface 69 v) 110 69 true).run Try.prog w = .ok (.tuple #[v, .bool true]) w := by kernel_rfl

theorem wayF_any (n : Int) (w : World) : Calls Try.prog 74 #[.iface 171 (.agg #[]), .int .i64 n] w fun e w' => e = .returned (.bool true) ∧ w = w' := by
  have tFB := ta_FB
  have tFL := ta_FL
  go_enter Try.func74, Try.ntmps74
  go_wp2_with fail
  go_ret
  exact ⟨rfl, rfl⟩

theorem wayB_any (k n : Int) (w : World) : Calls Try.prog 74 #[.iface 81 (.agg #[.int .i64 k]), .int .i64 n] w (PostBool w (inB k 0 8)) := by
  have tBB := ta_BB
  by_cases h1 : 0 ≤ k
  · by_cases h2 : k ≤ 8
    · have HR : Hid (inB k 0 8 = true) := hid (inB_iff.2 ⟨h1, h2⟩)
      go_enter Try.func74, Try.ntmps74
      go_wp2_with fail
      go_ret
      exact postBool HR.out.symm ((Below.refl _ _).alloc (Nat.le_refl _) _)
    · have HR : Hid (inB k 0 8 = false) := hid (inB_not.2 (by omega))
      go_enter Try.func74, Try.ntmps74
      go_wp2_with fail
      go_ret
      exact postBool HR.out.symm ((Below.refl _ _).alloc (Nat.le_refl _) _)
  · have HR : Hid (inB k 0 8 = false) := hid (inB_not.2 (by omega))
    go_enter Try.func74, Try.ntmps74
    go_wp2_with fail
    go_ret
    exact postBool HR.out.symm ((Below.refl _ _).alloc (Nat.le_refl _) _)

theorem wayL_any (a : Option Addr) (m cap : Nat) (n : Nat) (w : World) : Calls Try.prog 74 #[.iface 69 (.agg #[.slice a m cap]), .int .i64 (n : Int)] w (PostBool w (decide (m = n))) := by
  have tLB := ta_LB
  have tLL := ta_LL
  by_cases h : m = n
  · have hb : ((m : Int) == (n : Int)) = true := by simp [h]
    have HR : Hid (decide (m = n) = true) := hid (by simp [h])
    clear h
    go_enter Try.func74, Try.ntmps74
    go_wp2_with fail
    go_ret
    exact postBool HR.out.symm ((Below.refl _ _).alloc (Nat.le_refl _) _)
  · have hb : ((m : Int) == (n : Int)) = false := by simp; omega
    have HR : Hid (decide (m = n) = false) := hid (by simp [h])
    clear h
    go_enter Try.func74, Try.ntmps74
    go_wp2_with fail
    go_ret
    exact postBool HR.out.symm ((Below.refl _ _).alloc (Nat.le_refl _) _)

/-- The sum of lengths, if they are lengths. -/
def lensOf (ls : List Int) : Int × Bool := if lenB ls then (total ls, true) else (0, false)

set_option maxHeartbeats 400000 in
theorem totalLength_any (a : Option Addr) (n cap : Nat) (ls : List Int) (w : World) (h : Has w a n cap ls) :
    Calls Try.prog 55 #[.slice a n cap] w fun e w' => e = .returned (.tuple #[.int .i64 (lensOf ls).1, .bool (lensOf ls).2]) ∧ w = w' := by
  obtain ⟨h0, h1, h2, h3, h4⟩ := h
  have HN := hid h0
  by_cases hn0 : n = 0
  · have HR : Hid (lensOf ls = (0, false)) := hid (by
      have : lenB ls = false := by rw [Bool.eq_false_iff]; intro e; have := (lenB_iff.1 e).1; omega
      simp [lensOf, this])
    have hb : ((n : Int) == 0) = true := by simp [hn0]
    clear h0 hn0
    go_enter Try.func55, Try.ntmps55
    go_wp2_with fail
    go_ret2
    exact ⟨by rw [HR.out]; rfl, rfl⟩
  · have hb : ((n : Int) == 0) = false := by simp [hn0]
    by_cases hn8 : n ≤ 8
    · clear h0
      go_enter Try.func55, Try.ntmps55
      go_wp2_with fail
      go_loop [4, 17] (fun t i => ∃ (k : Nat) (s : Int), k ≤ n ∧ i = .int .i64 k ∧ t = .int .i64 s ∧ 0 ≤ s ∧ s ≤ 12 ∧ Hid (s = total (ls.take k)) ∧ Hid (∀ j, j < k → 1 ≤ nth ls j)) (fun _ i => n - (intOf i).toNat)
      case atStart => exact ⟨0, 0, Nat.zero_le _, rfl, rfl, by omega, by omega, hid rfl, hid fun j hj => by omega⟩
      case round =>
        obtain ⟨k, s, hk, rfl, rfl, hs0, hs1, HS, HA⟩ := hrel
        by_cases hlt : k < n
        · obtain ⟨b, off, rfl, hbb, hc⟩ := h4 (by omega)
          have hck := hc k hlt
          clear hc h4
          by_cases hx1 : nth ls k < 1
          · have HR : Hid (lensOf ls = (0, false)) := hid (by
              have : lenB ls = false := by
                rw [Bool.eq_false_iff]; intro e
                have := (lenB_iff.1 e).2.1 _ (nth_mem (xs := ls) (i := k) (by rw [HN.out]; exact hlt))
                omega
              simp [lensOf, this])
            go_wp2_with fail
            go_ret2
            exact ⟨by rw [HR.out]; rfl, rfl⟩
          · by_cases hx2 : 12 - s < nth ls k
            · have HR : Hid (lensOf ls = (0, false)) := hid (by
                have : lenB ls = false := by
                  rw [Bool.eq_false_iff]; intro e
                  obtain ⟨e1, e2, e3⟩ := lenB_iff.1 e
                  have := (total_lens (fun x hx => by have := e2 x hx; omega) (k + 1) (by rw [HN.out]; omega)).2
                  rw [total_succ (by rw [HN.out]; omega), ← HS.out] at this
                  omega
                simp [lensOf, this])
              go_wp2_with fail
              go_ret2
              exact ⟨by rw [HR.out]; rfl, rfl⟩
            · have HT := hid (total_succ (xs := ls) (k := k) (by rw [HN.out]; exact hlt))
              go_wp2_with fail
              go_round
              case rel => exact ⟨k + 1, s + nth ls k, by omega, by go_num, by go_num, by omega, by omega, hid (by rw [HT.out, HS.out]), hid fun j hj => by
                by_cases e : j < k
                · exact HA.out j e
                · rw [show j = k from by omega]; omega⟩
              case measure => simp [intOf]; omega
        · obtain rfl : k = n := by omega
          have HR : Hid (lensOf ls = (s, true)) := hid (by
            have hst : s = total ls := by rw [HS.out, List.take_of_length_le (by rw [HN.out]; exact Nat.le_refl _)]
            have : lenB ls = true := by
              rw [lenB_iff]
              have hall : ∀ x ∈ ls, 1 ≤ x := fun x hx => by
                obtain ⟨j, hj, e⟩ := List.getElem_of_mem hx
                have := HA.out j (by rw [← HN.out]; exact hj)
                simpa [nth, hj, e] using this
              have hle : ∀ x ∈ ls, x ≤ 12 := fun x hx => by
                obtain ⟨j, hj, e⟩ := List.getElem_of_mem hx
                have h5 := total_lens (fun x hx => by have := hall x hx; omega) (j + 1) (by omega)
                have h6 := total_lens (fun x hx => by have := hall x hx; omega) j (by omega)
                rw [total_succ hj] at h5
                have : nth ls j = x := by simp [nth, hj, e]
                omega
              exact ⟨⟨by rw [HN.out]; omega, by rw [HN.out]; omega⟩, fun x hx => ⟨hall x hx, hle x hx⟩, by omega⟩
            simp [lensOf, this, hst])
          go_wp2_with fail
          go_ret2
          exact ⟨by rw [HR.out]; rfl, rfl⟩
    · have HR : Hid (lensOf ls = (0, false)) := hid (by
        have : lenB ls = false := by rw [Bool.eq_false_iff]; intro e; have := (lenB_iff.1 e).1; omega
        simp [lensOf, this])
      clear h0
      go_enter Try.func55, Try.ntmps55
      go_wp2_with fail
      go_ret2
      exact ⟨by rw [HR.out]; rfl, rfl⟩
end Go.Proofs.Ytnddplldkgphnac
