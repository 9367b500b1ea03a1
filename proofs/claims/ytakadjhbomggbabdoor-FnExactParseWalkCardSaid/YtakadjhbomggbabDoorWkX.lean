/- Chapter 4: texts of walks, by the contracts of the functions. -/
import Derived.Test.YtakadjhbomggbabDoorImplWk
import Derived.Test.YtakadjhbomggbabDoorTxt
import Derived.Deep.RegionWith
namespace Go.Proofs.YtakadjhbomggbabDoor
open Go.RowKit

def walkTx (hs ls : List Int) : List UInt8 := trTxt hs ++ [58] ++ trTxt ls
def walkTxt (hs ls : List Int) : List UInt8 × Bool := if walkB hs ls then (walkTx hs ls, true) else ([], false)
theorem hgt_digits {hs : List Int} (h : hgtB hs = true) : Digits hs := fun i hi => by
  obtain ⟨h8, hb⟩ := hgt_of h rfl
  have := hb i hi
  omega
theorem out_digits {ls : List Int} (h : outB ls = true) : Digits ls := fun i hi => by
  have h1 := out_nth h hi
  have h2 := out_le h
  omega
theorem trTxt_size {xs : List Int} (hd : Digits xs) (h8 : xs.length ≤ 8) : (bs (trTxt xs)).size ≤ 16 := by
  unfold trTxt
  by_cases h : xs.length = 0
  · rw [if_pos h]; decide
  · rw [if_neg h]
    have := txtS_len (s := 44) hd xs.length (Nat.le_refl _)
    rw [List.take_of_length_le (Nat.le_refl _)] at this
    omega
theorem walkTx_eq (hs ls : List Int) : bs (trTxt hs) ++ bs [58] ++ bs (trTxt ls) = bs (walkTx hs ls) := by rw [bs_append, bs_append]; rfl

set_option maxRecDepth 100000 in
set_option maxHeartbeats 2000000 in
theorem waText_any (a b : Option Addr) (n cap m cap' : Nat) (hs ls : List Int) (w : World) (h : Has w a n cap hs) (h' : Has w b m cap' ls) (hd : Digits hs) (hd' : Digits ls) (h8 : n ≤ 8) (h8' : m ≤ 8) :
    Calls Tryd.prog 12 #[.agg #[.slice a n cap, .slice b m cap']] w fun e w' => e = .returned (.string (bs (walkTx hs ls))) ∧ Below w.heap.size w w' := by
  have HD := hid hd
  have HD' := hid hd'
  have sz1 := trTxt_size hd (by rw [h.len]; exact h8)
  have sz2 := trTxt_size hd' (by rw [h'.len]; exact h8')
  have HT := hid (walkTx_eq hs ls)
  clear hd hd'
  go_enter Tryd.func12, Tryd.ntmps12
  go_wp2_with fail
  have hbW : Below w.heap.size w (w.alloc (.cells #[.slice a n cap, .slice b m cap'] 24)) := (Below.refl _ w).alloc (Nat.le_refl _) _
  have B1 := boxAt_new w (.slice a n cap) (.slice b m cap') 24
  generalize w.alloc (.cells #[.slice a n cap, .slice b m cap'] 24) = W at *
  obtain ⟨x1, x2, x3, x4⟩ := id B1
  have std : Below W.heap.size W W.drew := (Below.refl _ _).drew
  have hBel : Below w.heap.size w W.drew := hbW.drew
  have BX := B1.below std (boxAt_lt B1)
  have hA : Has W.drew a n cap hs := h.below hBel (Nat.le_refl _)
  have hB : Has W.drew b m cap' ls := h'.below hBel (Nat.le_refl _)
  go_region_with (first
    | (go_at_call_of 23 (Value.slice a n cap); refine (trText_any a n cap hs _ (by first | exact hA | exact hA2) HD.out).mono ?_; rintro e wa ⟨rfl, sta⟩; (try have hB2 := hB.below sta (Nat.le_refl _)); have hBel := hBel.trans (sta.mono hBel.size); have BX := BX.below sta (boxAt_lt BX); obtain ⟨y1, y2, y3, y4⟩ := id BX)
    | (go_at_call_of 23 (Value.slice b m cap'); refine (trText_any b m cap' ls _ (by first | exact hB | exact hB2) HD'.out).mono ?_; rintro e wb ⟨rfl, stb⟩; (try have hA2 := hA.below stb (Nat.le_refl _)); have hBel := hBel.trans (stb.mono hBel.size); have BX := BX.below stb (boxAt_lt BX); obtain ⟨z1, z2, z3, z4⟩ := id BX))
  all_goals (go_wp2_with fail; go_ret; exact ⟨by rw [← HT.out]; rfl, hBel⟩)

end Go.Proofs.YtakadjhbomggbabDoor
