/- The base region: both sides, by contract. -/
import Derived.Test.YtnddplldkgphnabImplRl
import Derived.Test.YtnddplldkgphnabSpecA
import Derived.Test.YtnddplldkgphnabImplC
namespace Go.Proofs.Ytnddplldkgphnab
open Go.RowKit

def numL (n : Nat) : List Int := (List.range n).map fun k : Nat => (k : Int)
theorem numL_succ (k : Nat) : numL (k + 1) = numL k ++ [(k : Int)] := by simp [numL, List.range_succ]
theorem zero_succ (k : Nat) : List.replicate (k + 1) (0 : Int) = List.replicate k 0 ++ [0] := List.replicate_succ'
def baseOf (n : Int) : (List Int × List Int) × Bool := if inB n 0 8 then ((numL n.toNat, List.replicate n.toNat 0), true) else (([], []), false)
theorem base_yes {n : Nat} (h : inB (n : Int) 0 8 = true) : baseOf (n : Int) = ((numL n, List.replicate n 0), true) := by unfold baseOf; rw [if_pos h, Int.toNat_natCast]
theorem base_no {n : Int} (h : ¬ inB n 0 8 = true) : baseOf n = (([], []), false) := by unfold baseOf; rw [if_neg h]

theorem own_setNot {w : World} {B g i n cap : Nat} {a : Option Addr} {xs : List Int} (h : Own w B a n cap xs) (hg : g < B) (u : Value) : Own (w.setCell ⟨g, i, none⟩ u) B a n cap xs := h.setBelow hg u

theorem zero_base {n : Nat} (h : n ≤ 8) : (regF (List.replicate n 0) n).1 = numL n ∧ (regF (List.replicate n 0) n).2.1 = List.replicate n 0 := reg_zeros n h
set_option maxRecDepth 100000 in
set_option maxHeartbeats 2000000 in
theorem implRegionOf_any (a : Option Addr) (n cap : Nat) (xs : List Int) (w : World) (h : Has w a n cap xs) : Calls Try.prog 11 #[.slice a n cap] w (PostRgn w (regionOf xs)) := by
  have HL := hid h.len
  have BX := boxAt_new w (.slice none 0 0) (.slice none 0 0) 24
  have hb0 : Below w.heap.size w (w.alloc (.cells #[.slice none 0 0, .slice none 0 0] 24)) := (Below.refl _ _).alloc (Nat.le_refl _) _
  have hsz : (w.alloc (.cells #[.slice none 0 0, .slice none 0 0] 24)).heap.size = w.heap.size + 1 := by simp
  have h1 := h.below hb0 (Nat.le_refl _)
  obtain ⟨y1, y2, y3, y4⟩ := id BX
  by_cases hp : isPark xs = true
  · have HR : Hid (regionOf xs = (((regF xs n).1, (regF xs n).2.1), true)) := hid (by unfold regionOf; rw [if_pos hp, HL.out])
    have h8 : n ≤ 8 := by have := (isPark_iff.1 hp).1; have := HL.out; omega
    have HP := hid hp
    clear hp
    go_enter Try.func11, Try.ntmps11
    go_wp2_with (first | (go_at_call 35; refine (isParkingFunction_any _ _ _ _ _ h1).mono ?_; rintro e w1 ⟨rfl, hb1⟩; rw [HP.out]; have h2 := h1.below hb1 (Nat.le_refl _); have BX1 := BX.below hb1 (by rw [hsz]; exact Nat.lt_succ_self _); obtain ⟨q1, q2, q3, q4⟩ := id BX1) | (go_at_call 36; refine (regionOfLabel_any _ n _ _ _ h2 h8).mono ?_; rintro e w' ⟨a2, c2, a3, c3, rfl, o2, o3, ap, hb2⟩; have hs1 := hb1.size; have BX2 := BX1.below hb2 (Nat.lt_of_lt_of_le (by rw [hsz]; exact Nat.lt_succ_self _) hs1); obtain ⟨p1, p2, p3, p4⟩ := id BX2))
    have e1 := (BX2.set0 (z := .slice a2 n c2)).set1 (z := .slice a3 n c3)
    obtain ⟨x1, x2, x3, x4⟩ := id e1
    have hs1 := hb1.size
    have hbb := hb0.trans ((hb1.trans (hb2.mono hs1)).mono (by omega))
    refine bodyPost_ret (v := .tuple #[.agg #[.slice a2 n c2, .slice a3 n c3], .bool true]) (by simp [results, Try.results11, go_sem, *]) rfl (postRgn HR.out (((o2.setBelow (by omega) _).setBelow (by omega) _).mono (by omega)) (((o3.setBelow (by omega) _).setBelow (by omega) _).mono (by omega)) ap ((hbb.setCell (by simp) _).setCell (by simp) _))
  · have HR : Hid (regionOf xs = (([], []), false)) := hid (by unfold regionOf; rw [if_neg hp])
    have HP := hid (Bool.eq_false_iff.2 hp)
    clear hp
    go_enter Try.func11, Try.ntmps11
    go_wp2_with (go_at_call 35; refine (isParkingFunction_any _ _ _ _ _ h1).mono ?_; rintro e w1 ⟨rfl, hb1⟩; rw [HP.out]; have BX1 := BX.below hb1 (by rw [hsz]; exact Nat.lt_succ_self _); obtain ⟨q1, q2, q3, q4⟩ := id BX1)
    have e1 := (BX1.set0 (z := .slice none 0 0)).set1 (z := .slice none 0 0)
    obtain ⟨x1, x2, x3, x4⟩ := id e1
    exact bodyPost_ret (v := .tuple #[.agg #[.slice none 0 0, .slice none 0 0], .bool false]) (by simp [results, Try.results11, go_sem, *]) rfl (postRgn_no HR.out (((hb0.trans (hb1.mono (by rw [hsz]; exact Nat.le_succ _))).setCell (by simp) _).setCell (by simp) _))
end Go.Proofs.Ytnddplldkgphnab
