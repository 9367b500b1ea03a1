/- The first desk: both sides, and the marks of desks. -/
import Derived.Test.YtnddplldkgphnaaDsk
import Derived.Test.YtnddplldkgphnaaImplEm
import Derived.Test.YtnddplldkgphnaaLawKit
namespace Go.Proofs.Ytnddplldkgphnaa
open Go.RowKit

/-- A desk's two lists, of the call's own, apart. -/
def PostDsk (w : World) (r : List Int × List Int) (e : Ending) (w' : World) : Prop := ∃ a n c b m d, e = .returned (.agg #[.slice a n c, .slice b m d]) ∧ Own w' w.heap.size a n c r.1 ∧ Own w' w.heap.size b m d r.2 ∧ Apart2 a b ∧ Below w.heap.size w w'
def firstD : List Int × List Int := ([0], emptyL 7)
theorem own_litD (w : World) (x : Int) : Own (w.alloc (.cells #[.int .i64 x] 3)) w.heap.size (some ⟨w.heap.size, 0, none⟩) 1 1 [x] := by
  have := World.ownsRow_lit (base := w.heap.size) (e := 3) (size := 1) w #[.int .i64 x] 1 (Nat.le_refl _) (by unfold maxLen; omega) (by simp)
  exact ⟨by simpa using this, rfl, by omega⟩
theorem empty7 : emptyOf 7 = (emptyL 7, true) := by decide
set_option maxRecDepth 100000 in
set_option maxHeartbeats 1600000 in
theorem specFirst_any (w : World) : Calls Try.prog 5 #[] w (PostDsk w firstD) := by
  have BX := boxAt_new w (.slice none 0 0) (.slice none 0 0) 26
  have hb0 : Below w.heap.size w (w.alloc (.cells #[.slice none 0 0, .slice none 0 0] 26)) := (Below.refl _ _).alloc (Nat.le_refl _) _
  have hs0 : (w.alloc (.cells #[.slice none 0 0, .slice none 0 0] 26)).heap.size = w.heap.size + 1 := by simp
  have BX2 := BX.alloc (.cells #[.int .i64 0] 3)
  have hb1 := hb0.alloc (by simp) (.cells #[.int .i64 0] 3)
  have oL := own_litD (w.alloc (.cells #[.slice none 0 0, .slice none 0 0] 26)) 0
  rw [hs0] at oL
  have hs1 : ((w.alloc (.cells #[.slice none 0 0, .slice none 0 0] 26)).alloc (.cells #[.int .i64 0] 3)).heap.size = w.heap.size + 2 := by simp
  go_enter Try.func5, Try.ntmps5
  go_wp2_with (go_at_call 14; refine (prEmpty_any 7 _ (by omega)).mono ?_; rintro e w1 ⟨a1, cap1, rfl, own, st⟩; have BX3 := BX2.below st (by rw [hs1]; omega); obtain ⟨z1, z2, z3, z4⟩ := id BX3)
  have oL2 := oL.below st (Nat.le_refl _)
  have hb2 := hb1.trans (st.mono (by rw [hs1]; omega))
  have e1 := (BX3.set0 (z := .slice (some ⟨w.heap.size + 1, 0, none⟩) 1 1)).set1 (z := .slice a1 7 cap1)
  obtain ⟨x1, x2, x3, x4⟩ := id e1
  rw [hs1] at own
  have ap : Apart2 (some ⟨w.heap.size + 1, 0, none⟩) a1 := fun p q hp hq => by cases hp; have := own.ge q hq; simp; omega
  refine bodyPost_ret (v := .agg #[.slice (some ⟨w.heap.size + 1, 0, none⟩) 1 1, .slice a1 7 cap1]) (by simp [results, Try.results5, go_sem, *]) rfl ⟨_, _, _, _, _, _, rfl, ((oL2.setBelow (by omega) _).setBelow (by omega) _).mono (by omega), ((own.setBelow (by omega) _).setBelow (by omega) _).mono (by omega), ap, (hb2.setCell (by simp) _).setCell (by simp) _⟩
set_option maxRecDepth 100000 in
set_option maxHeartbeats 1600000 in
theorem implFirst_any (w : World) : Calls Try.prog 6 #[] w (PostDsk w firstD) := by
  have BX := boxAt_new w (.slice none 0 0) (.slice none 0 0) 26
  have hb0 : Below w.heap.size w (w.alloc (.cells #[.slice none 0 0, .slice none 0 0] 26)) := (Below.refl _ _).alloc (Nat.le_refl _) _
  have hs0 : (w.alloc (.cells #[.slice none 0 0, .slice none 0 0] 26)).heap.size = w.heap.size + 1 := by simp
  have HE := hid empty7
  go_enter Try.func6, Try.ntmps6
  go_wp2_with fail
  refine (implEmpty_any 7 _).mono ?_
  rw [HE.out]
  rintro e w1 ⟨a1, n1, cap1, rfl, own, st⟩
  obtain rfl : n1 = 7 := by rw [← own.len]; rfl
  rw [hs0] at own
  have s1 := st.size
  rw [hs0] at s1
  have BX1 := BX.below st (by rw [hs0]; omega)
  have C1 := cellAt_new w1 (.slice a1 7 cap1) 24
  have hbT : Below w1.heap.size w1 (w1.alloc (.cells #[.slice a1 7 cap1] 24)) := (Below.refl _ _).alloc (Nat.le_refl _) _
  have hsT : (w1.alloc (.cells #[.slice a1 7 cap1] 24)).heap.size = w1.heap.size + 1 := by simp
  have BX2 := BX1.below hbT (by omega)
  have own2 := own.below hbT (Nat.le_refl _)
  have C2 := C1.alloc (.cells #[.int .i64 0] 3)
  have BX3 := BX2.alloc (.cells #[.int .i64 0] 3)
  have oL := own_litD (w1.alloc (.cells #[.slice a1 7 cap1] 24)) 0
  have hbL : Below (w1.alloc (.cells #[.slice a1 7 cap1] 24)).heap.size (w1.alloc (.cells #[.slice a1 7 cap1] 24)) ((w1.alloc (.cells #[.slice a1 7 cap1] 24)).alloc (.cells #[.int .i64 0] 3)) := (Below.refl _ _).alloc (Nat.le_refl _) _
  have own3 := own2.below hbL (Nat.le_refl _)
  have hb2 := ((hb0.trans (st.mono (by rw [hs0]; omega))).trans (hbT.mono (by omega))).trans (hbL.mono (by rw [hsT]; omega))
  rw [hsT] at oL
  have hlt := own.lt
  obtain ⟨c1, c2⟩ := id C2
  obtain ⟨z1, z2, z3, z4⟩ := id BX3
  have e1 := (BX3.set0 (z := .slice (some ⟨w1.heap.size + 1, 0, none⟩) 1 1)).set1 (z := .slice a1 7 cap1)
  obtain ⟨x1, x2, x3, x4⟩ := id e1
  go_wp2_with fail
  have ap : Apart2 (some ⟨w1.heap.size + 1, 0, none⟩) a1 := fun p q hp hq => by cases hp; have := hlt q hq; simp; omega
  refine bodyPost_ret (v := .agg #[.slice (some ⟨w1.heap.size + 1, 0, none⟩) 1 1, .slice a1 7 cap1]) (by simp [results, Try.results6, go_sem, *]) rfl ⟨_, _, _, _, _, _, rfl, ((oL.setBelow (by omega) _).setBelow (by omega) _).mono (by omega), ((own3.setBelow (by omega) _).setBelow (by omega) _).mono (by omega), ap, (hb2.setCell (by simp) _).setCell (by simp) _⟩

/-- The blocks of a desk's two lists are written. -/
def MarkedDsk (w w' : World) (a b : Option Addr) : Prop := ∃ w0 w1 w2, Below w.heap.size w w0 ∧ Marked w0 w1 a ∧ Below w1.heap.size w1 w2 ∧ Marked w2 w' b
set_option maxHeartbeats 400000 in
theorem markDesk_any (B : Nat) (a b : Option Addr) (n cap m cap' : Nat) (hs ls : List Int) (k0 : Int) (w : World) (h : Own w B a n cap hs) (h' : Own w B b m cap' ls) (hap : Apart2 a b) (hk0 : 0 ≤ k0) (hk1 : k0 ≤ 1099490000000) :
    Calls Try.prog 8 #[.agg #[.slice a n cap, .slice b m cap'], .int .i64 k0] w fun e w' => e = .returned (.int .i64 (k0 + (n : Int) + (m : Int))) ∧ Own w' B a n cap (marks k0 n) ∧ Own w' B b m cap' (marks (k0 + (n : Int)) m) ∧
      MarkedDsk w w' a b := by
  have hle := h.le
  go_enter Try.func8, Try.ntmps8
  go_wp2_with fail
  have hbW : Below w.heap.size w (w.alloc (.cells #[.slice a n cap, .slice b m cap'] 26)) := (Below.refl _ w).alloc (Nat.le_refl _) _
  have B1 := boxAt_new w (.slice a n cap) (.slice b m cap') 26
  have hsz : (w.alloc (.cells #[.slice a n cap, .slice b m cap'] 26)).heap.size = w.heap.size + 1 := by simp
  generalize w.alloc (.cells #[.slice a n cap, .slice b m cap'] 26) = W at *
  have oa := h.below hbW (Nat.le_refl _)
  have ob := h'.below hbW (Nat.le_refl _)
  refine (markIntS_any _ _ _ _ _ _ _ oa hk0 (by omega)).mono ?_
  rintro e w1 ⟨rfl, oa1, m1⟩
  have hlt := h.lt
  have hlt' := h'.lt
  obtain ⟨row, g1, g2⟩ := id m1
  have B1' : BoxAt w1 w.heap.size (.slice a n cap) (.slice b m cap') := B1.kept g1 fun e => by obtain ⟨p, hp, e'⟩ := g2 _ e; have := hlt p hp; omega
  have ob1 : Own w1 B b m cap' ls := ob.keptR g1 fun g e p hp => by obtain ⟨p', hp', e'⟩ := g2 _ e; have := hap p' p hp' hp; omega
  obtain ⟨_, _, _, _⟩ := B1'
  go_wp2_with fail
  refine (markTable_any _ _ _ _ _ _ _ ob1 (by omega) (by omega)).mono ?_
  rintro e w2 ⟨rfl, ob2, wq, st, m2⟩
  have oa1' := oa1.below st (Nat.le_refl _)
  obtain ⟨row', g1', g2'⟩ := id m2
  have oa2 : Own w2 B a n cap (marks k0 n) := oa1'.keptR g1' fun g e p hp => by obtain ⟨p', hp', e'⟩ := g2' _ e; have := hap p p' hp hp'; omega
  go_wp2_with fail
  go_ret
  exact ⟨rfl, oa2, ob2, ⟨_, _, _, hbW, m1, st, m2⟩⟩
set_option maxHeartbeats 400000 in
theorem heldDesk_any (a b : Option Addr) (n cap m cap' : Nat) (k0 : Int) (w : World) (h : Has w a n cap (marks k0 n)) (h' : Has w b m cap' (marks (k0 + (n : Int)) m)) (hk0 : 0 ≤ k0) (hk1 : k0 ≤ 1099490000000) :
    Calls Try.prog 9 #[.agg #[.slice a n cap, .slice b m cap'], .int .i64 k0] w fun e w' => e = .returned (.int .i64 (k0 + (n : Int) + (m : Int))) ∧ Below w.heap.size w w' := by
  have hle := h.le
  have hle' := h'.le
  have hbW : Below w.heap.size w (w.alloc (.cells #[.slice a n cap, .slice b m cap'] 26)) := (Below.refl _ w).alloc (Nat.le_refl _) _
  go_enter Try.func9, Try.ntmps9
  go_wp2_with fail
  refine (heldIntS_any _ _ _ _ _ (h.below hbW (Nat.le_refl _)) hk0 (by omega)).mono ?_
  rintro e w1 ⟨rfl, rfl⟩
  have hn : ¬ (k0 + (n : Int) < 0) := by omega
  go_wp2_with fail
  refine (heldTable_any _ _ _ _ _ (h'.below hbW (Nat.le_refl _)) (by omega) (by omega)).mono ?_
  rintro e w2 ⟨rfl, st⟩
  have hn2 : ¬ (k0 + (n : Int) + (m : Int) < 0) := by omega
  go_wp2_with fail
  go_ret
  exact ⟨rfl, hbW.trans (st.mono hbW.size)⟩
end Go.Proofs.Ytnddplldkgphnaa
