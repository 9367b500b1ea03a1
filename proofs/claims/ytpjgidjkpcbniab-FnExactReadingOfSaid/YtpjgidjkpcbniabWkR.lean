/- Chapter 4: readings of walks, by the contracts of the functions. -/
import Derived.Test.YtpjgidjkpcbniabWkS
import Derived.Test.YtpjgidjkpcbniabWkH
import Derived.Test.YtpjgidjkpcbniabMathRe
import Derived.Deep.RegionWith
namespace Go.Proofs.Ytpjgidjkpcbniab
open Go.RowKit Go.Sort

/-- The first number that is not 0. -/
def orL : List Int → Int
  | [] => 0
  | x :: r => if x = 0 then orL r else x
def ZeroTo (xs : List Int) (k : Nat) : Prop := ∀ i, i < k → nth xs i = 0
theorem orL_at : ∀ {xs : List Int} {k : Nat}, ZeroTo xs k → k < xs.length → nth xs k ≠ 0 → orL xs = nth xs k
  | [], k, _, h, _ => by simp at h
  | x :: r, 0, _, _, hn => by
    simp only [nth, List.getD_cons_zero] at hn ⊢
    simp only [orL]; rw [if_neg hn]
  | x :: r, k + 1, hz, h, hn => by
    have h0 := hz 0 (by omega)
    simp only [nth, List.getD_cons_zero] at h0
    simp only [orL]; rw [if_pos h0]
    have := orL_at (xs := r) (k := k) (fun i hi => by have := hz (i + 1) (by omega); simpa [nth] using this) (by simpa using h) (by simpa [nth] using hn)
    rw [this]
    simp [nth]
theorem orL_zero : ∀ {xs : List Int}, ZeroTo xs xs.length → orL xs = 0
  | [], _ => rfl
  | x :: r, hz => by
    have h0 := hz 0 (by simp)
    simp only [nth, List.getD_cons_zero] at h0
    simp only [orL]; rw [if_pos h0]
    exact orL_zero (fun i hi => by have := hz (i + 1) (by simpa using hi); simpa [nth] using this)

set_option maxHeartbeats 400000 in
theorem or_any (a : Option Addr) (n cap : Nat) (xs : List Int) (w : World) (h : Has w a n cap xs) :
    Calls Try.prog 69 #[.slice a n cap] w fun e w' => e = .returned (.int .i64 (orL xs)) ∧ w = w' := by
  have HL := hid h.len
  have hle := h.le
  go_enter Try.func69, Try.ntmps69
  go_wp2_with fail
  go_loop [8] (fun i => ∃ k : Nat, k ≤ n ∧ i = .int .i64 k ∧ Hid (ZeroTo xs k)) (fun i => n - (intOf i).toNat)
  case atStart => exact ⟨0, Nat.zero_le _, rfl, hid (fun i hi => by omega)⟩
  case round =>
    obtain ⟨k, hk, rfl, HZ⟩ := hrel
    by_cases hlt : k < n
    · obtain ⟨b, off, rfl, hb, hc⟩ := h.2.2.2.2 (by omega)
      have hck := hc k hlt
      clear hc
      by_cases he : nth xs k = 0
      · have hbe : (nth xs k != 0) = false := by simp [he]
        have HZ2 : Hid (ZeroTo xs (k + 1)) := hid (fun i hi => by rcases Nat.lt_succ_iff_lt_or_eq.1 hi with h1 | rfl; exact HZ.out i h1; exact he)
        clear he
        go_wp2_with fail
        go_round
        case rel => exact ⟨k + 1, by omega, by go_num, HZ2⟩
        case measure => simp [intOf]; omega
      · have hbe : (nth xs k != 0) = true := by simp [he]
        have HE := hid (orL_at HZ.out (by rw [HL.out]; exact hlt) he)
        clear he
        go_wp2_with fail
        go_ret
        exact ⟨ret_int HE.out.symm, rfl⟩
    · obtain rfl : k = n := by omega
      have HE : Hid (orL xs = 0) := hid (orL_zero (by rw [HL.out]; exact HZ.out))
      go_wp2_with fail
      go_ret
      exact ⟨ret_int HE.out.symm, rfl⟩
theorem or_two (hs : List Int) (x y : Nat) : orL [cmpI (nth hs y) (nth hs x), cmpI (y : Int) (x : Int)] = rcmp hs x y := by
  have e1 : cmpI (y : Int) (x : Int) = if y < x then -1 else if x < y then 1 else 0 := by
    unfold cmpI
    simp only [Int.ofNat_lt]
  rw [e1]
  unfold rcmp cmpI
  simp only [orL]
  by_cases h1 : nth hs y < nth hs x
  · rw [if_pos h1, if_pos h1]; rfl
  · rw [if_neg h1, if_neg h1]
    by_cases h2 : nth hs x < nth hs y
    · rw [if_pos h2, if_pos h2]; rfl
    · rw [if_neg h2, if_neg h2, if_pos rfl]
      by_cases h3 : y < x
      · rw [if_pos h3]; rfl
      · rw [if_neg h3]
        by_cases h4 : x < y
        · rw [if_pos h4]; rfl
        · rw [if_neg h4]; rfl

set_option maxRecDepth 100000 in
set_option maxHeartbeats 8000000 in
theorem rcmp_any (bx : Nat) (a : Option Addr) (n cap : Nat) (hs : List Int) (x y : Nat) (w : World) (hbx : w.cell? ⟨bx, 0, none⟩ = some (.slice a n cap)) (h : Has w a n cap hs) (hx : x < n) (hy : y < n) :
    Calls Try.prog 68 #[.int .i64 (x : Int), .int .i64 (y : Int), .pointer (some ⟨bx, 0, none⟩)] w fun e w' => e = .returned (.int .i64 (rcmp hs x y)) ∧ ∃ q os, w' = grow (w.drewN q) os := by
  obtain ⟨b1, off, rfl, hb, hc⟩ := h.2.2.2.2 (by omega)
  have c1 := hc x hx
  have c2 := hc y hy
  have z1 : (x : Int) < (n : Int) := by omega
  have z2 : (y : Int) < (n : Int) := by omega
  have z3 : (0 : Int) ≤ (x : Int) := by omega
  have z4 : (0 : Int) ≤ (y : Int) := by omega
  have HO := hid (or_two hs x y)
  have hlit : Has (w.alloc (.cells #[.int .i64 (cmpI (nth hs y) (nth hs x)), .int .i64 (cmpI (y : Int) (x : Int))] 3)).drew (some ⟨w.heap.size, 0, none⟩) 2 2 [cmpI (nth hs y) (nth hs x), cmpI (y : Int) (x : Int)] := (own_lit2 w 0 _ _ (Nat.zero_le _)).has
  have HLIT := hid hlit
  have HW : Hid ((w.alloc (.cells #[.int .i64 (cmpI (nth hs y) (nth hs x)), .int .i64 (cmpI (y : Int) (x : Int))] 3)).drew = grow (w.drewN 1) #[.cells #[.int .i64 (cmpI (nth hs y) (nth hs x)), .int .i64 (cmpI (y : Int) (x : Int))] 3]) := hid (by rw [alloc_eq_grow]; rfl)
  clear hc hlit
  go_enter Try.func68, Try.ntmps68
  go_wp2_with fail
  go_region_with (first
    | (go_at_call_of 70 (Value.int IntKind.i64 (nth hs y)); refine (compareJ_any _ _ _).mono ?_; rintro e w' ⟨rfl, rfl⟩)
    | (go_at_call_of 70 (Value.int IntKind.i64 (y : Int)); refine (compareJ_any _ _ _).mono ?_; rintro e w' ⟨rfl, rfl⟩)
    | (go_at_call 69; refine (or_any _ 2 2 _ _ HLIT.out).mono ?_; rintro e w' ⟨rfl, rfl⟩; rw [HO.out]))
  all_goals (go_wp2_with fail; go_ret; exact ⟨rfl, 1, _, HW.out⟩)
end Go.Proofs.Ytpjgidjkpcbniab
