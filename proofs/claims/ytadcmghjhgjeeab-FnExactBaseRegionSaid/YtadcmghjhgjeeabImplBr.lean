/- The base region: both sides, by contract. -/
import Derived.Test.YtadcmghjhgjeeabImplRl
import Derived.Test.YtadcmghjhgjeeabSpecA
import Derived.Test.YtadcmghjhgjeeabImplC
namespace Go.Proofs.Ytadcmghjhgjeeab
open Go.RowKit

def numL (n : Nat) : List Int := (List.range n).map fun k : Nat => (k : Int)
theorem numL_succ (k : Nat) : numL (k + 1) = numL k ++ [(k : Int)] := by simp [numL, List.range_succ]
theorem zero_succ (k : Nat) : List.replicate (k + 1) (0 : Int) = List.replicate k 0 ++ [0] := List.replicate_succ'
def baseOf (n : Int) : (List Int × List Int) × Bool := if inB n 0 8 then ((numL n.toNat, List.replicate n.toNat 0), true) else (([], []), false)
theorem base_yes {n : Nat} (h : inB (n : Int) 0 8 = true) : baseOf (n : Int) = ((numL n, List.replicate n 0), true) := by unfold baseOf; rw [if_pos h, Int.toNat_natCast]
theorem base_no {n : Int} (h : ¬ inB n 0 8 = true) : baseOf n = (([], []), false) := by unfold baseOf; rw [if_neg h]

theorem own_setNot {w : World} {B g i n cap : Nat} {a : Option Addr} {xs : List Int} (h : Own w B a n cap xs) (hg : g < B) (u : Value) : Own (w.setCell ⟨g, i, none⟩ u) B a n cap xs := h.setBelow hg u

set_option maxRecDepth 100000 in
set_option maxHeartbeats 2000000 in
theorem specBase_any (n : Int) (w : World) : Calls Try.prog 29 #[.int .i64 n] w (PostRgn w (baseOf n)) := by
  have BX := boxAt_new w (.slice none 0 0) (.slice none 0 0) 45
  have hb0 : Below w.heap.size w (w.alloc (.cells #[.slice none 0 0, .slice none 0 0] 45)) := (Below.refl _ _).alloc (Nat.le_refl _) _
  have hsz : (w.alloc (.cells #[.slice none 0 0, .slice none 0 0] 45)).heap.size = w.heap.size + 1 := by simp
  by_cases hn : inB n 0 8 = true
  · have h2 := inB_iff.1 hn
    obtain ⟨m, rfl⟩ : ∃ m : Nat, n = (m : Int) := ⟨n.toNat, by omega⟩
    have HR := hid (base_yes hn)
    have HN := hid hn
    have hm : m ≤ 8 := by omega
    clear hn
    obtain ⟨y1, y2, y3, y4⟩ := id BX
    have BB := boxAt_new (w.alloc (.cells #[.slice none 0 0, .slice none 0 0] 45)) (.slice none 0 0) (.slice none 0 0) 45
    rw [hsz] at BB
    obtain ⟨z1, z2, z3, z4⟩ := id BB
    go_enter Try.func29, Try.ntmps29
    go_wp2_with (go_at_call 41; refine (l1In_any _ _ _ _).mono ?_; rintro e w' ⟨rfl, rfl⟩; rw [HN.out])
    have BX2 := BX.alloc (.cells #[.slice none 0 0, .slice none 0 0] 45)
    have hb1 := hb0.alloc (by simp) (.cells #[.slice none 0 0, .slice none 0 0] 45)
    have hsz2 : ((w.alloc (.cells #[.slice none 0 0, .slice none 0 0] 45)).alloc (.cells #[.slice none 0 0, .slice none 0 0] 45)).heap.size = w.heap.size + 2 := by simp
    clear y1 y2 y3 y4 z1 z2 z3 z4 BX hb0 hsz
    go_loopw [5] (fun ii wr => ∃ (k : Nat) (a1 a2 : Option Addr) (c1 c2 : Nat), k ≤ m ∧ ii = .int .i64 (k : Int) ∧ BoxAt wr w.heap.size (.slice none 0 0) (.slice none 0 0) ∧ BoxAt wr (w.heap.size + 1) (.slice a1 k c1) (.slice a2 k c2) ∧ Own wr (w.heap.size + 2) a1 k c1 (numL k) ∧ Own wr (w.heap.size + 2) a2 k c2 (List.replicate k 0) ∧ Apart a1 a2 ∧ Below w.heap.size w wr ∧ w.heap.size + 2 ≤ wr.heap.size) (fun ii _ => m - (intOf ii).toNat)
    case atStart => exact ⟨0, none, none, 0, 0, by omega, rfl, BX2, BB, Own.nil _ _, Own.nil _ _, Apart.noneL _, hb1, by omega⟩
    case round =>
      clear BX2 BB hb1 hsz2
      obtain ⟨k, a1, a2, c1, c2, hk, rfl, BX, BB, o1, o2, ap, hb, hsz⟩ := hrel
      obtain ⟨z1, z2, z3, z4⟩ := id BB
      by_cases hlt : k < m
      · have HS1 := hid (numL_succ k)
        have HS2 := hid (zero_succ k)
        go_wp2_with (first | (at_builtin; refine wpList_append_two _ rfl _ _ rfl (w.heap.size + 2) _ _ _ _ _ rfl (by simp [Act.eval]) (o2'.setBelow (Nat.lt_succ_self _) _) (by omega) (by simpa using hsz3) _ _ _ _ _ (o1'.setBelow (Nat.lt_succ_self _) _) ap'.symm ?_; intro a4 cap4 w4 o2'' o1'' ap'' hb4; have BB4 := BB3.set0.below hb4 (Nat.lt_succ_self _); obtain ⟨q1, q2, q3, q4⟩ := id BB4) | (at_builtin; refine wpList_append_two _ rfl _ _ rfl (w.heap.size + 2) _ _ _ _ _ rfl rfl o1 (by omega) hsz _ _ _ _ _ o2 ap ?_; intro a3 cap3 w3 o1' o2' ap' hb3; have hsz3 := Nat.le_trans hsz hb3.size; have BB3 := BB.below hb3 (Nat.lt_succ_self _); obtain ⟨p1, p2, p3, p4⟩ := id BB3))
        have hz4 : w.heap.size + 2 ≤ w4.heap.size := Nat.le_trans (by simpa using hsz3) hb4.size
        have BX4 := (((BX.below hb3 (by omega)).apart (i := 0) (z := .slice a3 (k + 1) cap3) (by omega : w.heap.size + 1 ≠ w.heap.size)).below hb4 (by omega)).apart (i := 1) (z := .slice a4 (k + 1) cap4) (by omega : w.heap.size + 1 ≠ w.heap.size)
        have hbe := ((((hb.trans (hb3.mono (by omega))).setCell (p := ⟨w.heap.size + 1, 0, none⟩) (by simp) (.slice a3 (k + 1) cap3)).trans (hb4.mono (by omega))).setCell (p := ⟨w.heap.size + 1, 1, none⟩) (by simp) (.slice a4 (k + 1) cap4))
        go_roundw
        case rel => exact ⟨k + 1, a3, a4, cap3, cap4, by omega, by go_num, BX4, BB4.set1, by rw [HS1.out]; exact o1''.setBelow (by omega) _, by rw [HS2.out]; exact o2''.setBelow (by omega) _, ap''.symm, hbe, by simpa using hz4⟩
        case measure => simp [intOf]; omega
      · obtain rfl : k = m := by omega
        obtain ⟨y1, y2, y3, y4⟩ := id BX
        go_wp2_with fail
        have e1 := (BX.set0 (z := .slice a1 k c1)).set1 (z := .slice a2 k c2)
        obtain ⟨x1, x2, x3, x4⟩ := id e1
        refine bodyPost_ret (v := .tuple #[.agg #[.slice a1 k c1, .slice a2 k c2], .bool true]) (by simp [results, Try.results29, go_sem, *]) rfl (postRgn HR.out (((o1.setBelow (by omega) _).setBelow (by omega) _).mono (by omega)) (((o2.setBelow (by omega) _).setBelow (by omega) _).mono (by omega)) ap ((hb.setCell (by simp) _).setCell (by simp) _))
  · have HR := hid (base_no hn)
    have HN := hid (Bool.eq_false_iff.2 hn)
    clear hn
    obtain ⟨y1, y2, y3, y4⟩ := id BX
    go_enter Try.func29, Try.ntmps29
    go_wp2_with (go_at_call 41; refine (l1In_any _ _ _ _).mono ?_; rintro e w' ⟨rfl, rfl⟩; rw [HN.out])
    exact bodyPost_ret (v := .tuple #[.agg #[.slice none 0 0, .slice none 0 0], .bool false]) (by simp [results, Try.results29, go_sem, *]) rfl (postRgn_no HR.out hb0)

theorem zero_base {n : Nat} (h : n ≤ 8) : (regF (List.replicate n 0) n).1 = numL n ∧ (regF (List.replicate n 0) n).2.1 = List.replicate n 0 := reg_zeros n h
set_option maxRecDepth 100000 in
set_option maxHeartbeats 2000000 in
theorem implBase_any (n : Int) (w : World) : Calls Try.prog 30 #[.int .i64 n] w (PostRgn w (baseOf n)) := by
  have BX := boxAt_new w (.slice none 0 0) (.slice none 0 0) 45
  have hb0 : Below w.heap.size w (w.alloc (.cells #[.slice none 0 0, .slice none 0 0] 45)) := (Below.refl _ _).alloc (Nat.le_refl _) _
  have hsz : (w.alloc (.cells #[.slice none 0 0, .slice none 0 0] 45)).heap.size = w.heap.size + 1 := by simp
  obtain ⟨y1, y2, y3, y4⟩ := id BX
  by_cases hn : inB n 0 8 = true
  · have h2 := inB_iff.1 hn
    obtain ⟨m, rfl⟩ : ∃ m : Nat, n = (m : Int) := ⟨n.toNat, by omega⟩
    have HR := hid (base_yes hn)
    have HN := hid hn
    have hm : m ≤ 8 := by omega
    have HZ := hid (zero_base hm)
    clear hn
    go_enter Try.func30, Try.ntmps30
    go_wp2_with (first | (go_at_call 43; refine (isCarNumber_any _ _).mono ?_; rintro e w' ⟨rfl, rfl⟩; rw [HN.out]) | (at_make; refine wpList_make_ints _ rfl _ _ rfl m rfl rfl (by omega) ?_; intro a1 c1 w1 own1 hb1) | (go_at_call 65; refine (regionOfLabel_any _ m _ _ _ own1.has hm).mono ?_; rintro e w' ⟨a2, c2, a3, c3, rfl, o2, o3, ap, hb2⟩; have hs1 := hb1.size; have BX2 := (BX.below hb1 (by rw [hsz]; exact Nat.lt_succ_self _)).below hb2 (Nat.lt_of_lt_of_le (by rw [hsz]; exact Nat.lt_succ_self _) hs1); obtain ⟨p1, p2, p3, p4⟩ := id BX2; rw [HZ.out.1] at o2; rw [HZ.out.2] at o3))
    have e1 := (BX2.set0 (z := .slice a2 m c2)).set1 (z := .slice a3 m c3)
    obtain ⟨x1, x2, x3, x4⟩ := id e1
    have hs1 := hb1.size
    have hbb := hb0.trans ((hb1.trans (hb2.mono hs1)).mono (by omega))
    refine bodyPost_ret (v := .tuple #[.agg #[.slice a2 m c2, .slice a3 m c3], .bool true]) (by simp [results, Try.results30, go_sem, *]) rfl (postRgn HR.out (((o2.setBelow (by omega) _).setBelow (by omega) _).mono (by omega)) (((o3.setBelow (by omega) _).setBelow (by omega) _).mono (by omega)) ap ((hbb.setCell (by simp) _).setCell (by simp) _))
  · have HR := hid (base_no hn)
    have HN := hid (Bool.eq_false_iff.2 hn)
    clear hn
    go_enter Try.func30, Try.ntmps30
    go_wp2_with (go_at_call 43; refine (isCarNumber_any _ _).mono ?_; rintro e w' ⟨rfl, rfl⟩; rw [HN.out])
    exact bodyPost_ret (v := .tuple #[.agg #[.slice none 0 0, .slice none 0 0], .bool false]) (by simp [results, Try.results30, go_sem, *]) rfl (postRgn_no HR.out hb0)

set_option maxRecDepth 100000 in
set_option maxHeartbeats 2000000 in
theorem implRegionOf_any (a : Option Addr) (n cap : Nat) (xs : List Int) (w : World) (h : Has w a n cap xs) : Calls Try.prog 35 #[.slice a n cap] w (PostRgn w (regionOf xs)) := by
  have HL := hid h.len
  have BX := boxAt_new w (.slice none 0 0) (.slice none 0 0) 45
  have hb0 : Below w.heap.size w (w.alloc (.cells #[.slice none 0 0, .slice none 0 0] 45)) := (Below.refl _ _).alloc (Nat.le_refl _) _
  have hsz : (w.alloc (.cells #[.slice none 0 0, .slice none 0 0] 45)).heap.size = w.heap.size + 1 := by simp
  have h1 := h.below hb0 (Nat.le_refl _)
  obtain ⟨y1, y2, y3, y4⟩ := id BX
  by_cases hp : isPark xs = true
  · have HR : Hid (regionOf xs = (((regF xs n).1, (regF xs n).2.1), true)) := hid (by unfold regionOf; rw [if_pos hp, HL.out])
    have h8 : n ≤ 8 := by have := (isPark_iff.1 hp).1; have := HL.out; omega
    have HP := hid hp
    clear hp
    go_enter Try.func35, Try.ntmps35
    go_wp2_with (first | (go_at_call 68; refine (isParkingFunction_any _ _ _ _ _ h1).mono ?_; rintro e w1 ⟨rfl, hb1⟩; rw [HP.out]; have h2 := h1.below hb1 (Nat.le_refl _); have BX1 := BX.below hb1 (by rw [hsz]; exact Nat.lt_succ_self _); obtain ⟨q1, q2, q3, q4⟩ := id BX1) | (go_at_call 65; refine (regionOfLabel_any _ n _ _ _ h2 h8).mono ?_; rintro e w' ⟨a2, c2, a3, c3, rfl, o2, o3, ap, hb2⟩; have hs1 := hb1.size; have BX2 := BX1.below hb2 (Nat.lt_of_lt_of_le (by rw [hsz]; exact Nat.lt_succ_self _) hs1); obtain ⟨p1, p2, p3, p4⟩ := id BX2))
    have e1 := (BX2.set0 (z := .slice a2 n c2)).set1 (z := .slice a3 n c3)
    obtain ⟨x1, x2, x3, x4⟩ := id e1
    have hs1 := hb1.size
    have hbb := hb0.trans ((hb1.trans (hb2.mono hs1)).mono (by omega))
    refine bodyPost_ret (v := .tuple #[.agg #[.slice a2 n c2, .slice a3 n c3], .bool true]) (by simp [results, Try.results35, go_sem, *]) rfl (postRgn HR.out (((o2.setBelow (by omega) _).setBelow (by omega) _).mono (by omega)) (((o3.setBelow (by omega) _).setBelow (by omega) _).mono (by omega)) ap ((hbb.setCell (by simp) _).setCell (by simp) _))
  · have HR : Hid (regionOf xs = (([], []), false)) := hid (by unfold regionOf; rw [if_neg hp])
    have HP := hid (Bool.eq_false_iff.2 hp)
    clear hp
    go_enter Try.func35, Try.ntmps35
    go_wp2_with (go_at_call 68; refine (isParkingFunction_any _ _ _ _ _ h1).mono ?_; rintro e w1 ⟨rfl, hb1⟩; rw [HP.out]; have BX1 := BX.below hb1 (by rw [hsz]; exact Nat.lt_succ_self _); obtain ⟨q1, q2, q3, q4⟩ := id BX1)
    have e1 := (BX1.set0 (z := .slice none 0 0)).set1 (z := .slice none 0 0)
    obtain ⟨x1, x2, x3, x4⟩ := id e1
    exact bodyPost_ret (v := .tuple #[.agg #[.slice none 0 0, .slice none 0 0], .bool false]) (by simp [results, Try.results35, go_sem, *]) rfl (postRgn_no HR.out (((hb0.trans (hb1.mono (by rw [hsz]; exact Nat.le_succ _))).setCell (by simp) _).setCell (by simp) _))
end Go.Proofs.Ytadcmghjhgjeeab
