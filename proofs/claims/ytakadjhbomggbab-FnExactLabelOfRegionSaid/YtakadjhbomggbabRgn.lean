/- Structures of two slices of integers (regions), their copies, comparisons and marks: the text of walks, turned; never import both. -/
import Derived.Test.YtakadjhbomggbabHelp
import Derived.Test.YtakadjhbomggbabLawKit
namespace Go.Proofs.Ytakadjhbomggbab
open Go.RowKit

/-- Two slices lie in different blocks. -/
def Apart2 (a b : Option Addr) : Prop := ∀ p q, a = some p → b = some q → p.block ≠ q.block
theorem apart_lt {a b : Option Addr} {K : Nat} (h : BlkLt a K) (h' : BlkGe b K) : Apart2 a b := fun p q hp hq => by
  have := h p hp
  have := h' q hq
  omega
theorem Apart2.symm {a b : Option Addr} (h : Apart2 a b) : Apart2 b a := fun p q hp hq e => h q p hq hp e.symm
theorem apart_none (b : Option Addr) : Apart2 none b := fun p q hp => by cases hp

/-- A variable of two cells. -/
structure BoxAt (w : World) (g : Nat) (x y : Value) : Prop where
  c0 : w.cell? ⟨g, 0, none⟩ = some x
  c1 : w.cell? ⟨g, 1, none⟩ = some y
  f0 : w.frozen? ⟨g, 0, none⟩ = false
  f1 : w.frozen? ⟨g, 1, none⟩ = false
theorem BoxAt.below {w w' : World} {g K : Nat} {x y : Value} (h : BoxAt w g x y) (hb : Below K w w') (hg : g < K) : BoxAt w' g x y :=
  ⟨by rw [hb.cell (p := ⟨g, 0, none⟩) hg]; exact h.c0, by rw [hb.cell (p := ⟨g, 1, none⟩) hg]; exact h.c1, by rw [hb.frozen (p := ⟨g, 0, none⟩) hg]; exact h.f0, by rw [hb.frozen (p := ⟨g, 1, none⟩) hg]; exact h.f1⟩
theorem BoxAt.set0 {w : World} {g : Nat} {x y z : Value} (h : BoxAt w g x y) : BoxAt (w.setCell ⟨g, 0, none⟩ z) g z y :=
  ⟨World.cell?_setCell_same' _ _ _ (by rw [h.c0]; rfl), by rw [World.cell?_setCell_other _ _ _ _ (by intro hh; injection hh with _ h5 _; exact absurd h5 (by decide))]; exact h.c1, by rw [World.frozen?_setCell]; exact h.f0, by rw [World.frozen?_setCell]; exact h.f1⟩
theorem BoxAt.set1 {w : World} {g : Nat} {x y z : Value} (h : BoxAt w g x y) : BoxAt (w.setCell ⟨g, 1, none⟩ z) g x z :=
  ⟨by rw [World.cell?_setCell_other _ _ _ _ (by intro hh; injection hh with _ h5 _; exact absurd h5 (by decide))]; exact h.c0, World.cell?_setCell_same' _ _ _ (by rw [h.c1]; rfl), by rw [World.frozen?_setCell]; exact h.f0, by rw [World.frozen?_setCell]; exact h.f1⟩
theorem BoxAt.apart {w : World} {g g' i : Nat} {x y z : Value} (h : BoxAt w g x y) (hne : g' ≠ g) : BoxAt (w.setCell ⟨g', i, none⟩ z) g x y :=
  ⟨by rw [World.cell?_setCell_other _ _ _ _ (by intro hh; injection hh with h5; exact hne h5)]; exact h.c0, by rw [World.cell?_setCell_other _ _ _ _ (by intro hh; injection hh with h5; exact hne h5)]; exact h.c1, by rw [World.frozen?_setCell]; exact h.f0, by rw [World.frozen?_setCell]; exact h.f1⟩
theorem boxAt_new (w : World) (x y : Value) (t : TypeId) : BoxAt (w.alloc (.cells #[x, y] t)) w.heap.size x y :=
  ⟨by rw [World.cell?_alloc_at _ _ _ _ rfl]; rfl, by rw [World.cell?_alloc_at _ _ _ _ rfl]; rfl, World.frozen?_alloc_at _ _ _ _ rfl, World.frozen?_alloc_at _ _ _ _ rfl⟩
theorem boxAt_lt {w : World} {g : Nat} {x y : Value} (h : BoxAt w g x y) : g < w.heap.size := by
  have := h.c0
  unfold World.cell? at this
  by_cases hg : g < w.heap.size
  · exact hg
  · simp [Array.getElem?_eq_none (show w.heap.size ≤ g by omega)] at this
theorem BoxAt.alloc {w : World} {g : Nat} {x y : Value} (h : BoxAt w g x y) (o : Obj) : BoxAt (w.alloc o) g x y :=
  h.below ((Below.refl (g + 1) w).alloc (boxAt_lt h) o) (Nat.lt_succ_self g)

theorem BoxAt.kept {w w' : World} {g : Nat} {x y : Value} {row : Option Nat} (h : BoxAt w g x y) (hg : w.grownBy w' row) (hne : row ≠ some g) : BoxAt w' g x y := by
  have hlt := boxAt_lt h
  have hb : w'.heap[g]? = w.heap[g]? := hg.block g hlt (fun e => hne e.symm)
  refine ⟨?_, ?_, ?_, ?_⟩
  · have := h.c0; unfold World.cell? at this ⊢; rw [hb]; exact this
  · have := h.c1; unfold World.cell? at this ⊢; rw [hb]; exact this
  · have := h.f0; unfold World.frozen? at this ⊢; rw [hb]; exact this
  · have := h.f1; unfold World.frozen? at this ⊢; rw [hb]; exact this
theorem Own.keptR {w w' : World} {B : Nat} {a : Option Addr} {n cap : Nat} {xs : List Int} {row : Option Nat} (h : Own w B a n cap xs) (hg : w.grownBy w' row) (hne : ∀ g, row = some g → ∀ p, a = some p → p.block ≠ g) : Own w' B a n cap xs := by
  refine ⟨⟨by simpa using h.1.1, ?_⟩, h.2⟩
  rcases h.1.2 with h2 | ⟨k, cap', cur, hv, hk, hh, r⟩
  · exact .inl h2
  · refine .inr ⟨k, cap', cur, hv, hk, ?_, r⟩
    simp at hv
    rw [hg.block k (Array.getElem?_eq_some_iff.1 hh).1 (fun e => hne k e.symm _ hv.1 rfl)]
    exact hh
theorem Own.setBelow {w : World} {B g i n cap : Nat} {a : Option Addr} {xs : List Int} (h : Own w B a n cap xs) (hg : g < B) (u : Value) : Own (w.setCell ⟨g, i, none⟩ u) B a n cap xs :=
  ⟨ownsRow_setCell_below h.1 hg u, h.2⟩

theorem Own.setBelow' {w : World} {B g i n cap : Nat} {a : Option Addr} {xs : List Int} (h : Own w B a n cap xs) (hg : BlkGe a (g + 1)) (u : Value) : Own (w.setCell ⟨g, i, none⟩ u) B a n cap xs := by
  refine ⟨?_, h.2⟩
  have h1 := h.1
  refine ⟨by simpa using h1.1, ?_⟩
  rcases h1.2 with h2 | ⟨k, cap', cur, hv, hk, hh, r⟩
  · exact .inl h2
  · refine .inr ⟨k, cap', cur, hv, hk, ?_, r⟩
    simp at hv
    have := hg _ hv.1
    rw [Below.heap_setCell _ _ _ _ (by simp at this ⊢; omega)]
    exact hh

set_option maxHeartbeats 400000 in
theorem toWalk_any (a b : Option Addr) (n cap m cap' : Nat) (hs ls : List Int) (w : World) (h : Has w a n cap hs) (h' : Has w b m cap' ls) :
    Calls Try.prog 18 #[.agg #[.slice a n cap, .slice b m cap']] w fun e w' => ∃ a1 c1 b1 c2, e = .returned (.agg #[.slice a1 n c1, .slice b1 m c2]) ∧ Own w' w.heap.size a1 n c1 hs ∧ Own w' w.heap.size b1 m c2 ls ∧ Apart2 a1 b1 ∧ Below w.heap.size w w' := by
  go_enter Try.func18, Try.ntmps18
  go_wp2_with fail
  generalize hW : (((w.alloc (.cells #[.slice a n cap, .slice b m cap'] 33)).alloc (.cells #[.slice none 0 0, .slice none 0 0] 24)).alloc (.cells #[.slice none 0 0, .slice none 0 0] 24)) = W
  have hbW : Below w.heap.size w W := by rw [← hW]; exact (((Below.refl _ w).alloc (Nat.le_refl _) _).alloc (by simp) _).alloc (by simp; omega) _
  have hsz : W.heap.size = w.heap.size + 3 := by rw [← hW]; simp
  have B1 : BoxAt W w.heap.size (.slice a n cap) (.slice b m cap') := by rw [← hW]; exact ((boxAt_new _ _ _ _).alloc _).alloc _
  have B2 : BoxAt W (w.heap.size + 1) (.slice none 0 0) (.slice none 0 0) := by rw [← hW]; have := (boxAt_new (w.alloc (.cells #[.slice a n cap, .slice b m cap'] 33)) (.slice none 0 0) (.slice none 0 0) 24).alloc (.cells #[.slice none 0 0, .slice none 0 0] 24); simpa using this
  have B3 : BoxAt W (w.heap.size + 1 + 1) (.slice none 0 0) (.slice none 0 0) := by rw [← hW]; have := boxAt_new ((w.alloc (.cells #[.slice a n cap, .slice b m cap'] 33)).alloc (.cells #[.slice none 0 0, .slice none 0 0] 24)) (.slice none 0 0) (.slice none 0 0) 24; simpa using this
  clear hW
  refine (toIntS_any _ _ _ _ _ (h.below hbW (Nat.le_refl _))).mono ?_
  rintro e w1 ⟨a1, c1, rfl, own1, st⟩
  replace B1 := B1.below st (by omega)
  replace B2 := B2.below st (by omega)
  replace B3 := B3.below st (by omega)
  have hb1 : Below w.heap.size w w1 := hbW.trans (st.mono hbW.size)
  have lt1 := own1.lt
  have B1' : BoxAt (w1.setCell ⟨w.heap.size + 1 + 1, 0, none⟩ (.slice a1 n c1)) w.heap.size (.slice a n cap) (.slice b m cap') := B1.apart (by omega)
  have B2' : BoxAt (w1.setCell ⟨w.heap.size + 1 + 1, 0, none⟩ (.slice a1 n c1)) (w.heap.size + 1) (.slice none 0 0) (.slice none 0 0) := B2.apart (by omega)
  have B3' : BoxAt (w1.setCell ⟨w.heap.size + 1 + 1, 0, none⟩ (.slice a1 n c1)) (w.heap.size + 1 + 1) (.slice a1 n c1) (.slice none 0 0) := B3.set0
  have hb1' := hb1.setCell (p := ⟨w.heap.size + 1 + 1, 0, none⟩) (by simp; omega) (.slice a1 n c1)
  have own1' : Own (w1.setCell ⟨w.heap.size + 1 + 1, 0, none⟩ (.slice a1 n c1)) W.heap.size a1 n c1 hs := own1.setBelow (by omega) _
  have hVs : (w1.setCell ⟨w.heap.size + 1 + 1, 0, none⟩ (.slice a1 n c1)).heap.size = w1.heap.size := by simp
  clear B1 B2
  obtain ⟨_, _, _, _⟩ := B3
  obtain ⟨_, _, _, _⟩ := id B1'
  go_wp2_with fail
  generalize w1.setCell ⟨w.heap.size + 1 + 1, 0, none⟩ (.slice a1 n c1) = V at *
  refine (toIntS_any _ _ _ _ _ (h'.below hb1' (Nat.le_refl _))).mono ?_
  rintro e w2 ⟨b1, c2, rfl, own2, st2⟩
  have s1 := st.size
  have s2 := st2.size
  replace B3' := B3'.below st2 (by omega)
  have own1'' := own1'.below st2 (Nat.le_refl _)
  have hb2 : Below w.heap.size w w2 := hb1'.trans (st2.mono (by omega))
  have B3'' := B3'.set1 (z := .slice b1 m c2)
  have B2'' := (B2'.below st2 (by omega)).apart (g' := w.heap.size + 1 + 1) (i := 1) (z := .slice b1 m c2) (by omega)
  have o1 := (own1''.setBelow (g := w.heap.size + 1 + 1) (i := 1) (by omega) (.slice b1 m c2)).mono (B' := w.heap.size) (by omega)
  have o2 := (own2.setBelow (g := w.heap.size + 1 + 1) (i := 1) (by omega) (.slice b1 m c2)).mono (B' := w.heap.size) (by omega)
  have ap : Apart2 a1 b1 := apart_lt own1'.lt own2.ge
  have ap1 : BlkGe a1 (w.heap.size + 2) := own1''.ge.mono (by omega)
  have ap2 : BlkGe b1 (w.heap.size + 2) := own2.ge.mono (by omega)
  have hb3 := hb2.setCell (p := ⟨w.heap.size + 1 + 1, 1, none⟩) (by simp; omega) (.slice b1 m c2)
  generalize hU : w2.setCell ⟨w.heap.size + 1 + 1, 1, none⟩ (.slice b1 m c2) = U at B3'' B2'' o1 o2 hb3
  obtain ⟨_, _, _, _⟩ := B3'
  obtain ⟨_, _, _, _⟩ := B3''
  obtain ⟨_, _, _, _⟩ := id B2''
  go_wp2_with fail
  have B2f := (B2''.set0 (z := .slice a1 n c1)).set1 (z := .slice b1 m c2)
  have f1 := (o1.setBelow' (g := w.heap.size + 1) (i := 0) ap1 (.slice a1 n c1)).setBelow' (g := w.heap.size + 1) (i := 1) ap1 (.slice b1 m c2)
  have f2 := (o2.setBelow' (g := w.heap.size + 1) (i := 0) ap2 (.slice a1 n c1)).setBelow' (g := w.heap.size + 1) (i := 1) ap2 (.slice b1 m c2)
  have hb4 := (hb3.setCell (p := ⟨w.heap.size + 1, 0, none⟩) (by simp) (.slice a1 n c1)).setCell (p := ⟨w.heap.size + 1, 1, none⟩) (by simp) (.slice b1 m c2)
  obtain ⟨_, _, _, _⟩ := id B2f
  refine bodyPost_ret (v := .agg #[.slice a1 n c1, .slice b1 m c2]) (by simp [results, Try.results18, go_sem, *]) rfl ⟨a1, c1, b1, c2, rfl, f1, f2, ap, hb4⟩

theorem row_len {w : World} {a : Option Addr} {len cap : Nat} {zs : List Int}
    (h : (a = none ∧ len = 0 ∧ cap = 0 ∧ zs = []) ∨ ∃ x, a = some x ∧ len ≤ cap ∧ cap ≤ maxLen ∧ zs.length = cap ∧ (∀ i, i < zs.length → w.cell? (x.add i) = some (.int .i64 (zs.getD i 0))) ∧ ∀ n ∈ zs, (Lit.int .i64 n).wf = true) : (len : Int) ≤ 9223372036854775807 := by
  rcases h with ⟨_, rfl, _, _⟩ | ⟨x, _, h1, h2, _⟩
  · omega
  · unfold maxLen at h2
    omega
/-- How much may still be read. -/
def szLeft (n : Nat) (l : Int) : Int := if (n : Int) ≤ l then l - (n : Int) else -1
theorem szIntS_any (a : Option Addr) (n cap : Nat) (l : Int) (w : World) (hn : (n : Int) ≤ 9223372036854775807) (h0 : 0 ≤ l) (h1 : l ≤ 1048576) :
    Calls Try.prog 49 #[.slice a n cap, .int .i64 l] w fun e w' => e = .returned (.int .i64 (szLeft n l)) ∧ w = w' := by
  by_cases h : (n : Int) ≤ l
  · have HR : Hid (szLeft n l = l - (n : Int)) := hid (by unfold szLeft; rw [if_pos h])
    have h2 : ¬ (l - (n : Int) < 0) := by omega
    go_enter Try.func49, Try.ntmps49
    go_wp2_with fail
    go_ret
    exact ⟨ret_int HR.out.symm, rfl⟩
  · have HR : Hid (szLeft n l = -1) := hid (by unfold szLeft; rw [if_neg h])
    have h2 : l - (n : Int) < 0 := by omega
    go_enter Try.func49, Try.ntmps49
    go_wp2_with fail
    go_ret
    exact ⟨ret_int HR.out.symm, rfl⟩

def szTwo (n m : Nat) (l : Int) : Int := if (n : Int) + (m : Int) ≤ l then l - (n : Int) - (m : Int) else -1
set_option maxHeartbeats 400000 in
theorem szWalk_any (a b : Option Addr) (n cap m cap' : Nat) (l : Int) (w : World) (hn : (n : Int) ≤ 9223372036854775807) (hm : (m : Int) ≤ 9223372036854775807) (h0 : 0 ≤ l) (h1 : l ≤ 1048576) :
    Calls Try.prog 16 #[.agg #[.slice a n cap, .slice b m cap'], .int .i64 l] w fun e w' => e = .returned (.int .i64 (szTwo n m l)) ∧ Below w.heap.size w w' := by
  have hb1 : Below w.heap.size w (w.alloc (.cells #[.slice a n cap, .slice b m cap'] 33)) := (Below.refl _ _).alloc (Nat.le_refl _) _
  by_cases h : (n : Int) ≤ l
  · have HZ : Hid (szLeft n l = l - (n : Int)) := hid (by unfold szLeft; rw [if_pos h])
    have h2 : ¬ (l - (n : Int) < 0) := by omega
    have q0 : 0 ≤ l - (n : Int) := by omega
    have q1 : l - (n : Int) ≤ 1048576 := by omega
    by_cases h3 : (m : Int) ≤ l - (n : Int)
    · have HZ2 : Hid (szLeft m (l - (n : Int)) = l - (n : Int) - (m : Int)) := hid (by unfold szLeft; rw [if_pos h3])
      have h4 : ¬ (l - (n : Int) - (m : Int) < 0) := by omega
      have HR : Hid (szTwo n m l = l - (n : Int) - (m : Int)) := hid (by unfold szTwo; rw [if_pos (by omega)])
      go_enter Try.func16, Try.ntmps16
      go_wp2_with fail
      refine (szIntS_any a n cap l _ hn h0 h1).mono ?_
      rintro e w' ⟨rfl, rfl⟩
      rw [HZ.out]
      go_wp2_with fail
      refine (szIntS_any b m cap' (l - (n : Int)) _ hm q0 q1).mono ?_
      rintro e w' ⟨rfl, rfl⟩
      rw [HZ2.out]
      go_wp2_with fail
      go_ret
      exact ⟨ret_int HR.out.symm, hb1⟩
    · have HZ2 : Hid (szLeft m (l - (n : Int)) = -1) := hid (by unfold szLeft; rw [if_neg h3])
      have HR : Hid (szTwo n m l = -1) := hid (by unfold szTwo; rw [if_neg (by omega)])
      go_enter Try.func16, Try.ntmps16
      go_wp2_with fail
      refine (szIntS_any a n cap l _ hn h0 h1).mono ?_
      rintro e w' ⟨rfl, rfl⟩
      rw [HZ.out]
      go_wp2_with fail
      refine (szIntS_any b m cap' (l - (n : Int)) _ hm q0 q1).mono ?_
      rintro e w' ⟨rfl, rfl⟩
      rw [HZ2.out]
      go_wp2_with fail
      go_ret
      exact ⟨ret_int HR.out.symm, hb1⟩
  · have HZ : Hid (szLeft n l = -1) := hid (by unfold szLeft; rw [if_neg h])
    have HR : Hid (szTwo n m l = -1) := hid (by unfold szTwo; rw [if_neg (by omega)])
    go_enter Try.func16, Try.ntmps16
    go_wp2_with fail
    refine (szIntS_any a n cap l _ hn h0 h1).mono ?_
    rintro e w' ⟨rfl, rfl⟩
    rw [HZ.out]
    go_wp2_with fail
    go_ret
    exact ⟨ret_int HR.out.symm, hb1⟩

set_option maxHeartbeats 400000 in
theorem eqWalk_any (a b c d : Option Addr) (n cap m cap' n' cap1 m' cap2 : Nat) (hs ls hs' ls' : List Int) (w : World) (h : Has w a n cap hs) (h' : Has w b m cap' ls) (k : Has w c n' cap1 hs') (k' : Has w d m' cap2 ls') :
    Calls Try.prog 11 #[.agg #[.slice a n cap, .slice b m cap'], .agg #[.slice c n' cap1, .slice d m' cap2]] w fun e w' => e = .returned (.bool (same hs hs' && same ls ls')) ∧ Below w.heap.size w w' := by
  go_enter Try.func11, Try.ntmps11
  go_wp2_with fail
  generalize hW : ((w.alloc (.cells #[.slice a n cap, .slice b m cap'] 24)).alloc (.cells #[.slice c n' cap1, .slice d m' cap2] 24)) = W
  have hbW : Below w.heap.size w W := by rw [← hW]; exact ((Below.refl _ w).alloc (Nat.le_refl _) _).alloc (by simp) _
  have hsz : W.heap.size = w.heap.size + 2 := by rw [← hW]; simp
  have B1 : BoxAt W w.heap.size (.slice a n cap) (.slice b m cap') := by rw [← hW]; exact (boxAt_new _ _ _ _).alloc _
  have B2 : BoxAt W (w.heap.size + 1) (.slice c n' cap1) (.slice d m' cap2) := by rw [← hW]; have := boxAt_new (w.alloc (.cells #[.slice a n cap, .slice b m cap'] 24)) (.slice c n' cap1) (.slice d m' cap2) 24; simpa using this
  clear hW
  refine (eqIntS_any _ _ _ _ _ _ _ _ _ (h.below hbW (Nat.le_refl _)) (k.below hbW (Nat.le_refl _))).mono ?_
  rintro e w1 ⟨rfl, q, rfl⟩
  have B1' : BoxAt (W.drewN q) w.heap.size (.slice a n cap) (.slice b m cap') := ⟨B1.c0, B1.c1, B1.f0, B1.f1⟩
  have B2' : BoxAt (W.drewN q) (w.heap.size + 1) (.slice c n' cap1) (.slice d m' cap2) := ⟨B2.c0, B2.c1, B2.f0, B2.f1⟩
  have hb1 : Below w.heap.size w (W.drewN q) := below_drewN hbW _
  generalize W.drewN q = V at *
  obtain ⟨_, _, _, _⟩ := B1'
  obtain ⟨_, _, _, _⟩ := B2'
  by_cases hh : same hs hs' = true
  · rw [hh]
    go_wp2_with fail
    refine (eqIntS_any _ _ _ _ _ _ _ _ _ (h'.below hb1 (Nat.le_refl _)) (k'.below hb1 (Nat.le_refl _))).mono ?_
    rintro e w2 ⟨rfl, q2, rfl⟩
    have hb2 : Below w.heap.size w (V.drewN q2) := below_drewN hb1 _
    by_cases hl : same ls ls' = true
    · rw [hl]
      go_wp2_with fail
      go_ret
      exact ⟨ret_bool (by rw [hh, hl]; rfl), hb2⟩
    · rw [Bool.eq_false_iff.2 hl]
      go_wp2_with fail
      go_ret
      exact ⟨ret_bool (by rw [hh, Bool.eq_false_iff.2 hl]; rfl), hb2⟩
  · rw [Bool.eq_false_iff.2 hh]
    go_wp2_with fail
    go_ret
    exact ⟨ret_bool (by rw [Bool.eq_false_iff.2 hh]; rfl), hb1⟩

/-- The blocks of two slices are written. -/
def MarkedTwo (w w' : World) (a b : Option Addr) : Prop := ∃ w0 w1, Below w.heap.size w w0 ∧ Marked w0 w1 a ∧ Marked w1 w' b
set_option maxHeartbeats 400000 in
theorem markWalk_any (B : Nat) (a b : Option Addr) (n cap m cap' : Nat) (hs ls : List Int) (k0 : Int) (w : World) (h : Own w B a n cap hs) (h' : Own w B b m cap' ls) (hap : Apart2 a b) (hk0 : 0 ≤ k0) (hk1 : k0 ≤ 1099500000000) :
    Calls Try.prog 14 #[.agg #[.slice a n cap, .slice b m cap'], .int .i64 k0] w fun e w' => e = .returned (.int .i64 (k0 + (n : Int) + (m : Int))) ∧ Own w' B a n cap (marks k0 n) ∧ Own w' B b m cap' (marks (k0 + (n : Int)) m) ∧
      MarkedTwo w w' a b := by
  have hle := h.le
  go_enter Try.func14, Try.ntmps14
  go_wp2_with fail
  have hbW : Below w.heap.size w (w.alloc (.cells #[.slice a n cap, .slice b m cap'] 24)) := (Below.refl _ w).alloc (Nat.le_refl _) _
  have B1 := boxAt_new w (.slice a n cap) (.slice b m cap') 24
  have hsz : (w.alloc (.cells #[.slice a n cap, .slice b m cap'] 24)).heap.size = w.heap.size + 1 := by simp
  generalize w.alloc (.cells #[.slice a n cap, .slice b m cap'] 24) = W at *
  have oa := h.below hbW (Nat.le_refl _)
  have ob := h'.below hbW (Nat.le_refl _)
  refine (markIntS_any _ _ _ _ _ _ _ oa hk0 (by omega)).mono ?_
  rintro e w1 ⟨rfl, oa1, m1⟩
  have hlt := h.lt
  have hlt' := h'.lt
  obtain ⟨row, g1, g2⟩ := id m1
  have B1' : BoxAt w1 w.heap.size (.slice a n cap) (.slice b m cap') := B1.kept g1 fun e => by obtain ⟨p, hp, e'⟩ := g2 _ e; have := hlt p hp; omega
  have ob1 : Own w1 B b m cap' ls := ob.keptR g1 fun g e p hp => by obtain ⟨p', hp', e'⟩ := g2 _ e; have := hap p' p hp' hp; omega
  obtain ⟨_, _, _, _⟩ := B1'
  go_wp2_with fail
  refine (markIntS_any _ _ _ _ _ _ _ ob1 (by omega) (by omega)).mono ?_
  rintro e w2 ⟨rfl, ob2, m2⟩
  obtain ⟨row', g1', g2'⟩ := id m2
  have oa2 : Own w2 B a n cap (marks k0 n) := oa1.keptR g1' fun g e p hp => by obtain ⟨p', hp', e'⟩ := g2' _ e; have := hap p p' hp hp'; omega
  go_wp2_with fail
  go_ret
  exact ⟨rfl, oa2, ob2, ⟨_, _, hbW, m1, m2⟩⟩

set_option maxHeartbeats 400000 in
theorem heldWalk_any (a b : Option Addr) (n cap m cap' : Nat) (k0 : Int) (w : World) (h : Has w a n cap (marks k0 n)) (h' : Has w b m cap' (marks (k0 + (n : Int)) m)) (hk0 : 0 ≤ k0) (hk1 : k0 ≤ 1099500000000) :
    Calls Try.prog 15 #[.agg #[.slice a n cap, .slice b m cap'], .int .i64 k0] w fun e w' => e = .returned (.int .i64 (k0 + (n : Int) + (m : Int))) ∧ Below w.heap.size w w' := by
  have hle := h.le
  have hle' := h'.le
  have hbW : Below w.heap.size w (w.alloc (.cells #[.slice a n cap, .slice b m cap'] 24)) := (Below.refl _ w).alloc (Nat.le_refl _) _
  go_enter Try.func15, Try.ntmps15
  go_wp2_with fail
  refine (heldIntS_any _ _ _ _ _ (h.below hbW (Nat.le_refl _)) hk0 (by omega)).mono ?_
  rintro e w1 ⟨rfl, rfl⟩
  have hn : ¬ (k0 + (n : Int) < 0) := by omega
  go_wp2_with fail
  refine (heldIntS_any _ _ _ _ _ (h'.below hbW (Nat.le_refl _)) (by omega) (by omega)).mono ?_
  rintro e w2 ⟨rfl, rfl⟩
  have hn2 : ¬ (k0 + (n : Int) + (m : Int) < 0) := by omega
  go_wp2_with fail
  go_ret
  exact ⟨rfl, hbW⟩

/-- Behind a mark of another slice. -/
theorem Own.unmarked {w w' : World} {B : Nat} {a a' : Option Addr} {n cap : Nat} {xs : List Int} (h : Own w B a n cap xs) (hm : Marked w w' a') (hap : Apart2 a a') : Own w' B a n cap xs := by
  obtain ⟨row, hg, hr⟩ := hm
  refine h.keptR hg fun g e p hp => ?_
  obtain ⟨q, hq, e'⟩ := hr g e
  have := hap p q hp hq
  omega
theorem BoxAt.unmarked {w w' : World} {g : Nat} {x y : Value} {a' : Option Addr} (h : BoxAt w g x y) (hm : Marked w w' a') (hne : ∀ p, a' = some p → p.block ≠ g) : BoxAt w' g x y := by
  obtain ⟨row, hg, hr⟩ := hm
  refine h.kept hg fun e => ?_
  obtain ⟨q, hq, e'⟩ := hr g e
  exact hne q hq e'
theorem box_new {w : World} {g K : Nat} {x y : Value} {a : Option Addr} (h : BoxAt w g x y) (hg : BlkGe a K) (hK : w.heap.size ≤ K) : ∀ p, a = some p → p.block ≠ g := fun p hp e => by
  have := hg p hp
  have := boxAt_lt h
  omega
theorem box_old {a : Option Addr} {K : Nat} (h : BlkLt a K) : ∀ p, a = some p → p.block ≠ K := fun p hp e => by
  have := h p hp
  omega
theorem Marked.belowAt {w w' : World} {a : Option Addr} {B : Nat} (hm : Marked w w' a) (hg : BlkGe a B) (hB : B ≤ w.heap.size) : Below B w w' := hm.below hg hB

/-- A region and a bool. -/
def PostRgn (w : World) (r : (List Int × List Int) × Bool) (e : Ending) (w' : World) : Prop :=
  ∃ a n c b m d, e = .returned (.tuple #[.agg #[.slice a n c, .slice b m d], .bool r.2]) ∧ Own w' w.heap.size a n c r.1.1 ∧ Own w' w.heap.size b m d r.1.2 ∧ Apart2 a b ∧ Below w.heap.size w w'
theorem postRgn {w w' : World} {r : (List Int × List Int) × Bool} {xs ys : List Int} {ok : Bool} {a b : Option Addr} {n c m d : Nat} (hr : r = ((xs, ys), ok)) (h : Own w' w.heap.size a n c xs) (h' : Own w' w.heap.size b m d ys) (hap : Apart2 a b) (hb : Below w.heap.size w w') :
    PostRgn w r (.returned (.tuple #[.agg #[.slice a n c, .slice b m d], .bool ok])) w' := by subst hr; exact ⟨_, _, _, _, _, _, rfl, h, h', hap, hb⟩
theorem postRgn_no {w w' : World} {r : (List Int × List Int) × Bool} (hr : r = (([], []), false)) (hb : Below w.heap.size w w') : PostRgn w r (.returned (.tuple #[.agg #[.slice none 0 0, .slice none 0 0], .bool false])) w' :=
  postRgn hr (Own.nil _ _) (Own.nil _ _) (apart_none _) hb


end Go.Proofs.Ytakadjhbomggbab
