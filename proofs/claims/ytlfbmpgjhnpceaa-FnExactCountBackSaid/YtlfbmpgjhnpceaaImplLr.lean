/- The program's ways of driving: who may drive so; the sum of lengths; what a list has. -/
import Derived.Test.YtlfbmpgjhnpceaaImplLq
import Derived.Test.YtlfbmpgjhnpceaaImplC
import Derived.Handy
namespace Go.Proofs.Ytlfbmpgjhnpceaa
open Go.RowKit

theorem ta_FB (v : Value) (w : World) : (Instr.typeAssert (.iface 45 v) 64 49 true).run Try.prog w = .ok (.tuple #[.agg #[.int .i64 0], .bool false]) w := by kernel_rfl
theorem ta_FL (v : Value) (w : World) : (Instr.typeAssert (.iface 45 v) 64 53 true).run Try.prog w = .ok (.tuple #[.agg #[.slice none 0 0], .bool false]) w := by kernel_rfl
theorem ta_BB (v : Value) (w : World) : (Instr.typeAssert (.iface 49 v) 64 49 true).run Try.prog w = .ok (.tuple #[v, .bool true]) w := by kernel_rfl
theorem ta_LB (v : Value) (w : World) : (Instr.typeAssert (.iface 53 v) 64 49 true).run Try.prog w = .ok (.tuple #[.agg #[.int .i64 0], .bool false]) w := by kernel_rfl
theorem ta_LL (v : Value) (w : World) : (Instr.typeAssert (.iface 53 v) 64 53 true).run Try.prog w = .ok (.tuple #[v, .bool true]) w := by kernel_rfl

theorem wayF_any (n : Int) (w : World) : Calls Try.prog 67 #[.iface 45 (.agg #[]), .int .i64 n] w fun e w' => e = .returned (.bool true) ∧ w = w' := by
  have tFB := ta_FB
  have tFL := ta_FL
  go_enter Try.func67, Try.ntmps67
  go_wp2_with fail
  go_ret
  exact ⟨rfl, rfl⟩

theorem wayB_any (k n : Int) (w : World) : Calls Try.prog 67 #[.iface 49 (.agg #[.int .i64 k]), .int .i64 n] w (PostBool w (inB k 0 8)) := by
  have tBB := ta_BB
  by_cases h1 : 0 ≤ k
  · by_cases h2 : k ≤ 8
    · have HR : Hid (inB k 0 8 = true) := hid (inB_iff.2 ⟨h1, h2⟩)
      go_enter Try.func67, Try.ntmps67
      go_wp2_with fail
      go_ret
      exact postBool HR.out.symm ((Below.refl _ _).alloc (Nat.le_refl _) _)
    · have HR : Hid (inB k 0 8 = false) := hid (inB_not.2 (by omega))
      go_enter Try.func67, Try.ntmps67
      go_wp2_with fail
      go_ret
      exact postBool HR.out.symm ((Below.refl _ _).alloc (Nat.le_refl _) _)
  · have HR : Hid (inB k 0 8 = false) := hid (inB_not.2 (by omega))
    go_enter Try.func67, Try.ntmps67
    go_wp2_with fail
    go_ret
    exact postBool HR.out.symm ((Below.refl _ _).alloc (Nat.le_refl _) _)

theorem wayL_any (a : Option Addr) (m cap : Nat) (n : Nat) (w : World) : Calls Try.prog 67 #[.iface 53 (.agg #[.slice a m cap]), .int .i64 (n : Int)] w (PostBool w (decide (m = n))) := by
  have tLB := ta_LB
  have tLL := ta_LL
  by_cases h : m = n
  · have hb : ((m : Int) == (n : Int)) = true := by simp [h]
    have HR : Hid (decide (m = n) = true) := hid (by simp [h])
    clear h
    go_enter Try.func67, Try.ntmps67
    go_wp2_with fail
    go_ret
    exact postBool HR.out.symm ((Below.refl _ _).alloc (Nat.le_refl _) _)
  · have hb : ((m : Int) == (n : Int)) = false := by simp; omega
    have HR : Hid (decide (m = n) = false) := hid (by simp [h])
    clear h
    go_enter Try.func67, Try.ntmps67
    go_wp2_with fail
    go_ret
    exact postBool HR.out.symm ((Below.refl _ _).alloc (Nat.le_refl _) _)

/-- The first index of a number, -1 if there is none. -/
def idxTo (xs : List Int) (x : Int) : Nat → Int
  | 0 => -1
  | k + 1 => if idxTo xs x k = -1 then (if nth xs k = x then (k : Int) else -1) else idxTo xs x k
theorem idxTo_none {xs : List Int} {x : Int} : ∀ {k : Nat}, k ≤ xs.length → (idxTo xs x k = -1 ↔ x ∉ xs.take k)
  | 0, _ => by simp [idxTo]
  | k + 1, hk => by
    have ih := idxTo_none (xs := xs) (x := x) (k := k) (by omega)
    rw [idxTo, take_succ_nth (xs := xs) (k := k) (by omega), List.mem_append, List.mem_singleton]
    by_cases h : idxTo xs x k = -1
    · rw [if_pos h]
      have h2 := ih.1 h
      by_cases e : nth xs k = x
      · rw [if_pos e]
        exact ⟨fun hh => by omega, fun hh => absurd (.inr e.symm) hh⟩
      · rw [if_neg e]
        exact ⟨fun _ hh => by rcases hh with hh | hh; exact h2 hh; exact e hh.symm, fun _ => rfl⟩
    · rw [if_neg h]
      exact ⟨fun hh => absurd hh h, fun hh => absurd (ih.2 fun h3 => hh (.inl h3)) h⟩
theorem idxTo_keep {xs : List Int} {x : Int} {k : Nat} (h : idxTo xs x k ≠ -1) : ∀ m, k ≤ m → idxTo xs x m = idxTo xs x k := by
  intro m hm
  induction m with
  | zero => rw [show k = 0 from by omega]
  | succ m ih =>
    by_cases e : k = m + 1
    · rw [e]
    · have := ih (by omega)
      rw [idxTo, if_neg (by rw [this]; exact h), this]

theorem indexOf_any (a : Option Addr) (n cap : Nat) (xs : List Int) (x : Int) (w : World) (h : Has w a n cap xs) :
    Calls Try.prog 54 #[.slice a n cap, .int .i64 x] w fun e w' => e = .returned (.int .i64 (idxTo xs x n)) ∧ w = w' := by
  obtain ⟨h0, h1, h2, h3, h4⟩ := h
  go_enter Try.func54, Try.ntmps54
  go_wp2_with fail
  go_loop [8] (fun i => ∃ k : Nat, k ≤ n ∧ i = .int .i64 k ∧ Hid (idxTo xs x k = -1)) (fun i => n - (intOf i).toNat)
  case atStart => exact ⟨0, Nat.zero_le _, rfl, hid rfl⟩
  case round =>
    obtain ⟨k, hk, rfl, HR⟩ := hrel
    by_cases hlt : k < n
    · obtain ⟨b, off, rfl, hb, hc⟩ := h4 (by omega)
      have hck := hc k hlt
      clear hc h4
      by_cases he : x = nth xs k
      · have hbe : (x == nth xs k) = true := by simp [he]
        have HN : Hid (idxTo xs x n = (k : Int)) := hid (by
          have h5 : idxTo xs x (k + 1) = (k : Int) := by rw [idxTo, if_pos HR.out, if_pos he.symm]
          rw [idxTo_keep (k := k + 1) (by rw [h5]; omega) n (by omega), h5])
        clear he
        go_wp2_with fail
        go_ret
        exact ⟨ret_int HN.out.symm, rfl⟩
      · have hbe : (x == nth xs k) = false := by simp [he]
        have HN : Hid (idxTo xs x (k + 1) = -1) := hid (by rw [idxTo, if_pos HR.out, if_neg fun e => he e.symm])
        clear he
        go_wp2_with fail
        go_round
        case rel => exact ⟨k + 1, by omega, by go_num, HN⟩
        case measure => simp [intOf]; omega
    · obtain rfl : k = n := by omega
      go_wp2_with fail
      go_ret
      exact ⟨ret_int HR.out.symm, rfl⟩

theorem idxTo_bounds (xs : List Int) (x : Int) : ∀ k : Nat, -1 ≤ idxTo xs x k ∧ idxTo xs x k < k
  | 0 => by simp [idxTo]
  | k + 1 => by
    have := idxTo_bounds xs x k
    rw [idxTo]
    split
    · split <;> omega
    · omega

theorem contains_any (a : Option Addr) (n cap : Nat) (xs : List Int) (x : Int) (w : World) (h : Has w a n cap xs) :
    Calls Try.prog 71 #[.slice a n cap, .int .i64 x] w fun e w' => e = .returned (.bool (hasB xs x)) ∧ w = w' := by
  have hb := idxTo_bounds xs x n
  have hi := idxTo_none (xs := xs) (x := x) (k := n) (by rw [h.len]; exact Nat.le_refl _)
  rw [List.take_of_length_le (by rw [h.len]; exact Nat.le_refl _)] at hi
  by_cases hx : x ∈ xs
  · have HR : Hid (hasB xs x = true) := hid (hasB_iff.2 hx)
    have h0 : 0 ≤ idxTo xs x n := by
      have : idxTo xs x n ≠ -1 := fun e => (hi.1 e) hx
      omega
    clear hi hx
    go_enter Try.func71, Try.ntmps71
    go_wp2_with (go_at_call 54; refine (indexOf_any _ _ _ _ _ _ h).mono ?_; rintro e w' ⟨rfl, rfl⟩)
    go_ret
    exact ⟨ret_bool HR.out.symm, rfl⟩
  · have HR : Hid (hasB xs x = false) := hid (hasB_not.2 hx)
    have h0 : ¬ 0 ≤ idxTo xs x n := by
      have := hi.2 hx
      omega
    clear hi hx
    go_enter Try.func71, Try.ntmps71
    go_wp2_with (go_at_call 54; refine (indexOf_any _ _ _ _ _ _ h).mono ?_; rintro e w' ⟨rfl, rfl⟩)
    go_ret
    exact ⟨ret_bool (by rw [HR.out]; simpa using h0), rfl⟩

/-- The sum of lengths, if they are lengths. -/
def lensOf (ls : List Int) : Int × Bool := if lenB ls then (total ls, true) else (0, false)

set_option maxHeartbeats 400000 in
theorem totalLength_any (a : Option Addr) (n cap : Nat) (ls : List Int) (w : World) (h : Has w a n cap ls) :
    Calls Try.prog 53 #[.slice a n cap] w fun e w' => e = .returned (.tuple #[.int .i64 (lensOf ls).1, .bool (lensOf ls).2]) ∧ w = w' := by
  obtain ⟨h0, h1, h2, h3, h4⟩ := h
  have HN := hid h0
  by_cases hn0 : n = 0
  · have HR : Hid (lensOf ls = (0, false)) := hid (by
      have : lenB ls = false := by rw [Bool.eq_false_iff]; intro e; have := (lenB_iff.1 e).1; omega
      simp [lensOf, this])
    have hb : ((n : Int) == 0) = true := by simp [hn0]
    clear h0 hn0
    go_enter Try.func53, Try.ntmps53
    go_wp2_with fail
    go_ret2
    exact ⟨by rw [HR.out]; rfl, rfl⟩
  · have hb : ((n : Int) == 0) = false := by simp [hn0]
    by_cases hn8 : n ≤ 8
    · clear h0
      go_enter Try.func53, Try.ntmps53
      go_wp2_with fail
      go_loop [4, 17] (fun t i => ∃ (k : Nat) (s : Int), k ≤ n ∧ i = .int .i64 k ∧ t = .int .i64 s ∧ 0 ≤ s ∧ s ≤ 12 ∧ Hid (s = total (ls.take k)) ∧ Hid (∀ j, j < k → 1 ≤ nth ls j)) (fun _ i => n - (intOf i).toNat)
      case atStart => exact ⟨0, 0, Nat.zero_le _, rfl, rfl, by omega, by omega, hid rfl, hid fun j hj => by omega⟩
      case round =>
        obtain ⟨k, s, hk, rfl, rfl, hs0, hs1, HS, HA⟩ := hrel
        by_cases hlt : k < n
        · obtain ⟨b, off, rfl, hbb, hc⟩ := h4 (by omega)
          have hck := hc k hlt
          clear hc h4
          by_cases hx1 : nth ls k < 1
          · have HR : Hid (lensOf ls = (0, false)) := hid (by
              have : lenB ls = false := by
                rw [Bool.eq_false_iff]; intro e
                have := (lenB_iff.1 e).2.1 _ (nth_mem (xs := ls) (i := k) (by rw [HN.out]; exact hlt))
                omega
              simp [lensOf, this])
            go_wp2_with fail
            go_ret2
            exact ⟨by rw [HR.out]; rfl, rfl⟩
          · by_cases hx2 : 12 - s < nth ls k
            · have HR : Hid (lensOf ls = (0, false)) := hid (by
                have : lenB ls = false := by
                  rw [Bool.eq_false_iff]; intro e
                  obtain ⟨e1, e2, e3⟩ := lenB_iff.1 e
                  have := (total_nonneg (fun x hx => by have := e2 x hx; omega) (k + 1) (by rw [HN.out]; omega)).2
                  rw [total_succ (by rw [HN.out]; omega), ← HS.out] at this
                  omega
                simp [lensOf, this])
              go_wp2_with fail
              go_ret2
              exact ⟨by rw [HR.out]; rfl, rfl⟩
            · have HT := hid (total_succ (xs := ls) (k := k) (by rw [HN.out]; exact hlt))
              go_wp2_with fail
              go_round
              case rel => exact ⟨k + 1, s + nth ls k, by omega, by go_num, by go_num, by omega, by omega, hid (by rw [HT.out, HS.out]), hid fun j hj => by
                by_cases e : j < k
                · exact HA.out j e
                · rw [show j = k from by omega]; omega⟩
              case measure => simp [intOf]; omega
        · obtain rfl : k = n := by omega
          have HR : Hid (lensOf ls = (s, true)) := hid (by
            have hst : s = total ls := by rw [HS.out, List.take_of_length_le (by rw [HN.out]; exact Nat.le_refl _)]
            have : lenB ls = true := by
              rw [lenB_iff]
              have hall : ∀ x ∈ ls, 1 ≤ x := fun x hx => by
                obtain ⟨j, hj, e⟩ := List.getElem_of_mem hx
                have := HA.out j (by rw [← HN.out]; exact hj)
                simpa [nth, hj, e] using this
              have hle : ∀ x ∈ ls, x ≤ 12 := fun x hx => by
                obtain ⟨j, hj, e⟩ := List.getElem_of_mem hx
                have h5 := total_nonneg (fun x hx => by have := hall x hx; omega) (j + 1) (by omega)
                have h6 := total_nonneg (fun x hx => by have := hall x hx; omega) j (by omega)
                rw [total_succ hj] at h5
                have : nth ls j = x := by simp [nth, hj, e]
                omega
              exact ⟨⟨by rw [HN.out]; omega, by rw [HN.out]; omega⟩, fun x hx => ⟨hall x hx, hle x hx⟩, by omega⟩
            simp [lensOf, this, hst])
          go_wp2_with fail
          go_ret2
          exact ⟨by rw [HR.out]; rfl, rfl⟩
    · have HR : Hid (lensOf ls = (0, false)) := hid (by
        have : lenB ls = false := by rw [Bool.eq_false_iff]; intro e; have := (lenB_iff.1 e).1; omega
        simp [lensOf, this])
      clear h0
      go_enter Try.func53, Try.ntmps53
      go_wp2_with fail
      go_ret2
      exact ⟨by rw [HR.out]; rfl, rfl⟩
end Go.Proofs.Ytlfbmpgjhnpceaa
