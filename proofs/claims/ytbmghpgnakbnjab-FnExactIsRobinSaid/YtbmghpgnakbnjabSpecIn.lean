/- Keys put in: the model's lists of keys and tables of keys. -/
import Derived.Test.YtbmghpgnakbnjabImplEm
import Derived.Test.YtbmghpgnakbnjabTbl
namespace Go.Proofs.Ytbmghpgnakbnjab
open Go.RowKit

def tabOf (n : Int) (keys : List Int) : List Int × Bool := if keysB n keys then (tabL n.toNat keys, true) else ([], false)
theorem keys_no1 {n : Int} {keys : List Int} (h : inB n 2 12 = false) : keysB n keys = false := by simp [keysB, h]
theorem keys_no2 {n : Int} {keys : List Int} (h : ¬ (keys.length : Int) < n) : keysB n keys = false := by simp [keysB, h]
theorem keys_no3 {n : Int} {keys : List Int} (h : allB keys 0 999 = false) : keysB n keys = false := by simp [keysB, h]
theorem keys_no4 {n : Int} {keys : List Int} {i : Nat} (hi : i < keys.length) (h : hasB (keys.take i) (nth keys i) = true) : keysB n keys = false := by
  have : diffB keys = false := by
    unfold diffB
    rw [List.all_eq_false]
    exact ⟨i, by simpa using hi, by simp [h]⟩
  simp [keysB, this]
theorem keys_yes {n : Int} {keys : List Int} (h1 : inB n 2 12 = true) (h2 : (keys.length : Int) < n) (h3 : allB keys 0 999 = true) (h4 : ∀ i, i < keys.length → hasB (keys.take i) (nth keys i) = false) : keysB n keys = true := by
  have : diffB keys = true := by
    unfold diffB
    simp only [List.all_eq_true, List.mem_range, Bool.not_eq_true']
    exact h4
  simp [keysB, h1, h2, h3, this]

set_option maxRecDepth 100000 in
set_option maxHeartbeats 2000000 in
theorem prKeys_any (p : Int) (a : Option Addr) (n cap : Nat) (ks : List Int) (w : World) (h : Has w a n cap ks) :
    Calls Try.prog 52 #[.int .i64 p, .slice a n cap] w fun e w' => e = .returned (.bool (keysB p ks)) ∧ w = w' := by
  obtain rfl := h.len
  have hle := h.le
  have hcap := h.2.1
  by_cases h1 : inB p 2 12 = true
  · have H1 := hid h1
    clear h1
    by_cases h2 : (ks.length : Int) < p
    · by_cases h3 : allB ks 0 999 = true
      · have H3 := hid h3
        clear h3
        go_enter Try.func52, Try.ntmps52
        go_wp2_with (first | (go_at_call 76; refine (prSize_any _ _).mono ?_; rintro e w' ⟨rfl, rfl⟩; rw [H1.out]) | (go_at_call 64; refine (l1All_any _ _ _ _ _ _ _ h).mono ?_; rintro e w' ⟨rfl, rfl⟩; rw [H3.out]))
        go_loopw [23] (fun i wr => ∃ k : Nat, i = .int .i64 k ∧ k ≤ ks.length ∧ Hid (∀ j, j < k → hasB (ks.take j) (nth ks j) = false) ∧ w = wr) (fun i _ => ks.length - (intOf i).toNat)
        case atStart => exact ⟨0, rfl, by omega, hid (fun j hj => by omega), rfl⟩
        case round =>
          obtain ⟨k, rfl, hk, HA, rfl⟩ := hrel
          by_cases hlt : k < ks.length
          · obtain ⟨b, off, rfl, hbb, hcc⟩ := h.2.2.2.2 (by omega)
            have hck := hcc k hlt
            clear hcc
            have hT := h.take (k := k) (by omega)
            have hki : (k : Int) ≤ (cap : Int) := by omega
            by_cases hh : hasB (ks.take k) (nth ks k) = true
            · have HN : Hid (keysB p ks = false) := hid (keys_no4 hlt hh)
              have HH := hid hh
              clear hh
              go_wp2_with (go_at_call 65; refine (l1Has_any _ _ _ _ _ _ hT).mono ?_; rintro e w' ⟨rfl, rfl⟩; rw [HH.out])
              go_ret
              exact ⟨ret_bool (by rw [HN.out]), rfl⟩
            · have HH := hid (Bool.eq_false_iff.2 hh)
              clear hh
              go_wp2_with (go_at_call 65; refine (l1Has_any _ _ _ _ _ _ hT).mono ?_; rintro e w' ⟨rfl, rfl⟩; rw [HH.out])
              go_roundw
              case rel => exact ⟨k + 1, by go_num, by omega, hid (fun j hj => by rcases Nat.lt_succ_iff_lt_or_eq.1 hj with h1 | rfl; exact HA.out j h1; exact HH.out), trivial⟩
              case measure => simp [intOf]; omega
          · obtain rfl : k = ks.length := by omega
            have HY : Hid (keysB p ks = true) := hid (keys_yes H1.out h2 H3.out HA.out)
            go_wp2_with fail
            go_ret
            exact ⟨ret_bool (by rw [HY.out]), rfl⟩
      · have H3 := hid (Bool.eq_false_iff.2 h3)
        have HN : Hid (keysB p ks = false) := hid (keys_no3 H3.out)
        clear h3
        go_enter Try.func52, Try.ntmps52
        go_wp2_with (first | (go_at_call 76; refine (prSize_any _ _).mono ?_; rintro e w' ⟨rfl, rfl⟩; rw [H1.out]) | (go_at_call 64; refine (l1All_any _ _ _ _ _ _ _ h).mono ?_; rintro e w' ⟨rfl, rfl⟩; rw [H3.out]))
        go_ret
        exact ⟨ret_bool (by rw [HN.out]), rfl⟩
    · have HN : Hid (keysB p ks = false) := hid (keys_no2 h2)
      go_enter Try.func52, Try.ntmps52
      go_wp2_with (go_at_call 76; refine (prSize_any _ _).mono ?_; rintro e w' ⟨rfl, rfl⟩; rw [H1.out])
      go_ret
      exact ⟨ret_bool (by rw [HN.out]), rfl⟩
  · have H1 := hid (Bool.eq_false_iff.2 h1)
    have HN : Hid (keysB p ks = false) := hid (keys_no1 H1.out)
    clear h1
    go_enter Try.func52, Try.ntmps52
    go_wp2_with (go_at_call 76; refine (prSize_any _ _).mono ?_; rintro e w' ⟨rfl, rfl⟩; rw [H1.out])
    go_ret
    exact ⟨ret_bool (by rw [HN.out]), rfl⟩

/-- Where an insertion stops. -/
def freeB (cs : List Int) (c : Nat) : Bool := decide (nth cs c = -1)
end Go.Proofs.Ytbmghpgnakbnjab
