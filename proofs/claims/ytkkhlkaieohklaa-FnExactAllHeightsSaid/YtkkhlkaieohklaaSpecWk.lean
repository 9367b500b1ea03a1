/- Chapter 4: heights and walks, the model's and the program's functions that tell them, by their contracts. -/
import Derived.Test.YtkkhlkaieohklaaSpecA
import Derived.Test.YtkkhlkaieohklaaOutc
import Derived.Test.YtkkhlkaieohklaaWlk
import Derived.Test.YtkkhlkaieohklaaMathH
namespace Go.Proofs.Ytkkhlkaieohklaa
open Go.RowKit

set_option maxHeartbeats 400000 in
theorem isRaised_any (a : Option Addr) (n cap : Nat) (hs : List Int) (k : Nat) (w : World) (h : Has w a n cap hs) (hk : k < n) (hb : ∀ i, i < n → 0 ≤ nth hs i ∧ nth hs i ≤ 100) :
    Calls Try.prog 87 #[.slice a n cap, .int .i64 k] w fun e w' => e = .returned (.bool (raisedB hs k)) ∧ Quiet w w' := by
  obtain ⟨b, off, rfl, hbb, hc⟩ := h.2.2.2.2 (by omega)
  have hle := h.le
  match k, hk with
  | 0, hk =>
    go_enter Try.func87, Try.ntmps87
    go_wp2_with fail
    go_quiet (fail)
    go_wp2_with fail
    go_ret
    exact ⟨ret_bool rfl, ⟨_, rfl⟩⟩
  | k + 1, hk =>
    have hc1 := hc (k + 1) hk
    have hc0 := hc k (by omega)
    have hb0 := hb k (by omega)
    have he : ((k + 1 : Nat) : Int) - 1 = (k : Int) := by omega
    have hp : (0 : Int) < ((k + 1 : Nat) : Int) := by omega
    by_cases hr : nth hs (k + 1) = nth hs k + 1
    · have HR : Hid (raisedB hs (k + 1) = true) := hid (by simp [raisedB, hr])
      have hbe : (nth hs (k + 1) == nth hs k + 1) = true := by simp [hr]
      clear hr hc hb
      go_enter Try.func87, Try.ntmps87
      go_wp2_with fail
      go_quiet (fail)
      go_wp2_with fail
      go_ret
      exact ⟨ret_bool HR.out.symm, ⟨_, rfl⟩⟩
    · have HR : Hid (raisedB hs (k + 1) = false) := hid (by simp [raisedB, hr])
      have hbe : (nth hs (k + 1) == nth hs k + 1) = false := by simp [hr]
      clear hr hc hb
      go_enter Try.func87, Try.ntmps87
      go_wp2_with fail
      go_quiet (fail)
      go_wp2_with fail
      go_ret
      exact ⟨ret_bool HR.out.symm, ⟨_, rfl⟩⟩
/-! ### Walks -/
theorem walk_no1 {hs ls : List Int} (h : hgtB hs = false) : walkB hs ls = false := by simp [walkB, h]
theorem walk_no2 {hs ls : List Int} {n m : Nat} (hl : hs.length = n) (hl' : ls.length = m) (h : n ≠ m) : walkB hs ls = false := by
  subst hl hl'
  simp [walkB, h]
theorem walk_no3 {hs ls : List Int} (h : outB ls = false) : walkB hs ls = false := by simp [walkB, h]
theorem walk_no4 {hs ls : List Int} {n : Nat} (hl : ls.length = n) (h : riseTo hs ls n = false) : walkB hs ls = false := by subst hl; simp [walkB, h]
theorem walk_yes {hs ls : List Int} {n : Nat} (hl : hs.length = n) (hl' : ls.length = n) (h : hgtB hs = true) (ho : outB ls = true) (hr : riseTo hs ls n = true) : walkB hs ls = true := by
  subst hl'
  rw [walkB_iff]
  exact ⟨h, hl, ho, hr⟩
theorem out_no1 {ls : List Int} {n : Nat} (hl : ls.length = n) (h : allB ls 0 ((n : Int) - 1) = false) : outB ls = false := by subst hl; simp [outB, carsB, h]
theorem out_no2 {ls : List Int} {n : Nat} (hl : ls.length = n) (h : distB ls n = false) : outB ls = false := by subst hl; simp [outB, h]
theorem out_yes {ls : List Int} {n : Nat} (hl : ls.length = n) (h8 : n ≤ 8) (h : allB ls 0 ((n : Int) - 1) = true) (hd : distB ls n = true) : outB ls = true := by subst hl; simp [outB, carsB, h, hd, h8]
theorem rise_first (hs ls : List Int) : riseOk hs ls 0 = true := by simp [riseOk, raisedB]
theorem rise_flat {hs ls : List Int} {k : Nat} (h : ¬ nth hs (k + 1) = nth hs k + 1) : riseOk hs ls (k + 1) = true := by simp [riseOk, raisedB, h]
theorem rise_up {hs ls : List Int} {k : Nat} (h : ¬ nth ls (k + 1) < nth ls k) : riseOk hs ls (k + 1) = true := by simp [riseOk]; right; omega
theorem rise_down {hs ls : List Int} {k : Nat} (h : nth hs (k + 1) = nth hs k + 1) (h' : nth ls (k + 1) < nth ls k) : riseOk hs ls (k + 1) = false := by simp [riseOk, raisedB, h, h']

end Go.Proofs.Ytkkhlkaieohklaa
