/- Tables as values: structures of one slice in memory, and the laws' helpers over them. -/
import Derived.Test.YtnddplldkgphnaaWlk
import Derived.Test.YtnddplldkgphnaaImplRd
import Derived.Lib.SmallJoins
namespace Go.Proofs.Ytnddplldkgphnaa
open Go.RowKit

theorem CellAt.kept {w w' : World} {g : Nat} {x : Value} {row : Option Nat} (h : CellAt w g x) (hg : w.grownBy w' row) (hne : row ≠ some g) : CellAt w' g x := by
  have hb : w'.heap[g]? = w.heap[g]? := hg.block g h.lt (fun e => hne e.symm)
  refine ⟨?_, ?_⟩
  · have := h.c0; unfold World.cell? at this ⊢; rw [hb]; exact this
  · have := h.f0; unfold World.frozen? at this ⊢; rw [hb]; exact this
theorem CellAt.unmarked {w w' : World} {g : Nat} {x : Value} {a' : Option Addr} (h : CellAt w g x) (hm : Marked w w' a') (hne : ∀ p, a' = some p → p.block ≠ g) : CellAt w' g x := by
  obtain ⟨row, hg, hr⟩ := hm
  refine h.kept hg fun e => ?_
  obtain ⟨q, hq, e'⟩ := hr g e
  exact hne q hq e'
theorem cell_new {w : World} {g K : Nat} {x : Value} {a : Option Addr} (h : CellAt w g x) (hg : BlkGe a K) (hK : w.heap.size ≤ K) : ∀ p, a = some p → p.block ≠ g := fun p hp e => by
  have := hg p hp
  have := h.lt
  omega

set_option maxHeartbeats 400000 in
theorem toTable_any (a : Option Addr) (n cap : Nat) (hs : List Int) (w : World) (h : Has w a n cap hs) :
    Calls Try.prog 26 #[.agg #[.slice a n cap]] w fun e w' => ∃ a1 c1, e = .returned (.agg #[.slice a1 n c1]) ∧ Own w' w.heap.size a1 n c1 hs ∧ Below w.heap.size w w' := by
  obtain ⟨W, hW, hbW, hsz, B1, B2, B3⟩ : ∃ W, (((w.alloc (.cells #[.slice a n cap] 31)).alloc (.cells #[.slice none 0 0] 24)).alloc (.cells #[.slice none 0 0] 24)) = W ∧ Below w.heap.size w W ∧ W.heap.size = w.heap.size + 3 ∧
      CellAt W w.heap.size (.slice a n cap) ∧ CellAt W (w.heap.size + 1) (.slice none 0 0) ∧ CellAt W (w.heap.size + 1 + 1) (.slice none 0 0) := by
    refine ⟨_, rfl, (((Below.refl _ w).alloc (Nat.le_refl _) _).alloc (by simp) _).alloc (by simp; omega) _, by simp, ((cellAt_new _ _ _).alloc _).alloc _, ?_, ?_⟩
    · have := (cellAt_new (w.alloc (.cells #[.slice a n cap] 31)) (.slice none 0 0) 24).alloc (.cells #[.slice none 0 0] 24)
      simpa using this
    · have := cellAt_new ((w.alloc (.cells #[.slice a n cap] 31)).alloc (.cells #[.slice none 0 0] 24)) (.slice none 0 0) 24
      simpa using this
  obtain ⟨y1, y2⟩ := id B1
  go_enter Try.func26, Try.ntmps26
  go_wp2_with fail
  refine (toIntS_any _ _ _ _ _ (h.below hbW (Nat.le_refl _))).mono ?_
  rintro e w1 ⟨a1, c1, rfl, own1, st⟩
  have s1 := st.size
  replace B2 := B2.below st (by omega)
  replace B3 := B3.below st (by omega)
  have hb1 : Below w.heap.size w w1 := hbW.trans (st.mono hbW.size)
  have B2' := B2.setOther' (g' := w.heap.size + 1 + 1) (i := 0) (z := .slice a1 n c1) (by omega)
  have B3' := B3.set (z := .slice a1 n c1)
  have own1' := own1.setBelow (g := w.heap.size + 1 + 1) (i := 0) (by omega) (.slice a1 n c1)
  have hb2 := hb1.setCell (p := ⟨w.heap.size + 1 + 1, 0, none⟩) (by simp; omega) (.slice a1 n c1)
  clear y1 y2 hW
  obtain ⟨_, _⟩ := id B3
  obtain ⟨_, _⟩ := id B3'
  obtain ⟨_, _⟩ := id B2'
  go_wp2_with fail
  have B2f := B2'.set (z := .slice a1 n c1)
  have f1 := (own1'.setBelow (g := w.heap.size + 1) (i := 0) (by omega) (.slice a1 n c1)).mono (B' := w.heap.size) (by omega)
  have hb3 := hb2.setCell (p := ⟨w.heap.size + 1, 0, none⟩) (by simp) (.slice a1 n c1)
  obtain ⟨_, _⟩ := id B2f
  refine bodyPost_ret (v := .agg #[.slice a1 n c1]) (by simp [results, Try.results26, go_sem, *]) rfl ⟨a1, c1, rfl, f1, hb3⟩

set_option maxHeartbeats 400000 in
theorem szTable_any (a : Option Addr) (n cap : Nat) (l : Int) (w : World) (hn : (n : Int) ≤ 9223372036854775807) (h0 : 0 ≤ l) (h1 : l ≤ 1048576) :
    Calls Try.prog 23 #[.agg #[.slice a n cap], .int .i64 l] w fun e w' => e = .returned (.int .i64 (szLeft n l)) ∧ Below w.heap.size w w' := by
  have hb1 : Below w.heap.size w (w.alloc (.cells #[.slice a n cap] 31)) := (Below.refl _ _).alloc (Nat.le_refl _) _
  by_cases h : (n : Int) ≤ l
  · have HZ : Hid (szLeft n l = l - (n : Int)) := hid (by unfold szLeft; rw [if_pos h])
    have h2 : ¬ (l - (n : Int) < 0) := by omega
    go_enter Try.func23, Try.ntmps23
    go_wp2_with fail
    refine (szIntS_any a n cap l _ hn h0 h1).mono ?_
    rintro e w' ⟨rfl, rfl⟩
    rw [HZ.out]
    go_wp2_with fail
    go_ret
    exact ⟨ret_int HZ.out.symm, hb1⟩
  · have HZ : Hid (szLeft n l = -1) := hid (by unfold szLeft; rw [if_neg h])
    go_enter Try.func23, Try.ntmps23
    go_wp2_with fail
    refine (szIntS_any a n cap l _ hn h0 h1).mono ?_
    rintro e w' ⟨rfl, rfl⟩
    rw [HZ.out]
    go_wp2_with fail
    go_ret
    exact ⟨ret_int HZ.out.symm, hb1⟩

set_option maxHeartbeats 400000 in
theorem eqTable_any (a c : Option Addr) (n cap n' cap1 : Nat) (hs hs' : List Int) (w : World) (h : Has w a n cap hs) (k : Has w c n' cap1 hs') :
    Calls Try.prog 17 #[.agg #[.slice a n cap], .agg #[.slice c n' cap1]] w fun e w' => e = .returned (.bool (same hs hs')) ∧ Below w.heap.size w w' := by
  have hbW : Below w.heap.size w ((w.alloc (.cells #[.slice a n cap] 24)).alloc (.cells #[.slice c n' cap1] 24)) := ((Below.refl _ w).alloc (Nat.le_refl _) _).alloc (by simp) _
  go_enter Try.func17, Try.ntmps17
  go_wp2_with fail
  refine (eqIntS_any _ _ _ _ _ _ _ _ _ (h.below hbW (Nat.le_refl _)) (k.below hbW (Nat.le_refl _))).mono ?_
  rintro e w1 ⟨rfl, q, rfl⟩
  have hb1 := below_drewN hbW q
  by_cases hh : same hs hs' = true
  · rw [hh]
    go_wp2_with fail
    go_ret
    exact ⟨ret_bool hh.symm, hb1⟩
  · rw [Bool.eq_false_iff.2 hh]
    go_wp2_with fail
    go_ret
    exact ⟨ret_bool (Bool.eq_false_iff.2 hh).symm, hb1⟩

set_option maxHeartbeats 400000 in
theorem markTable_any (B : Nat) (a : Option Addr) (n cap : Nat) (hs : List Int) (k0 : Int) (w : World) (h : Own w B a n cap hs) (hk0 : 0 ≤ k0) (hk1 : k0 ≤ 1099500000000) :
    Calls Try.prog 19 #[.agg #[.slice a n cap], .int .i64 k0] w fun e w' => e = .returned (.int .i64 (k0 + (n : Int))) ∧ Own w' B a n cap (marks k0 n) ∧ ∃ w1, Below w.heap.size w w1 ∧ Marked w1 w' a := by
  have hle := h.le
  have hbW : Below w.heap.size w (w.alloc (.cells #[.slice a n cap] 24)) := (Below.refl _ w).alloc (Nat.le_refl _) _
  go_enter Try.func19, Try.ntmps19
  go_wp2_with fail
  refine (markIntS_any _ _ _ _ _ _ _ (h.below hbW (Nat.le_refl _)) hk0 (by omega)).mono ?_
  rintro e w1 ⟨rfl, oa1, m1⟩
  go_wp2_with fail
  go_ret
  exact ⟨rfl, oa1, _, hbW, m1⟩

set_option maxHeartbeats 400000 in
theorem heldTable_any (a : Option Addr) (n cap : Nat) (k0 : Int) (w : World) (h : Has w a n cap (marks k0 n)) (hk0 : 0 ≤ k0) (hk1 : k0 ≤ 1099500000000) :
    Calls Try.prog 21 #[.agg #[.slice a n cap], .int .i64 k0] w fun e w' => e = .returned (.int .i64 (k0 + (n : Int))) ∧ Below w.heap.size w w' := by
  have hle := h.le
  have hbW : Below w.heap.size w (w.alloc (.cells #[.slice a n cap] 24)) := (Below.refl _ w).alloc (Nat.le_refl _) _
  go_enter Try.func21, Try.ntmps21
  go_wp2_with fail
  refine (heldIntS_any _ _ _ _ _ (h.below hbW (Nat.le_refl _)) hk0 (by omega)).mono ?_
  rintro e w1 ⟨rfl, rfl⟩
  have hn : ¬ (k0 + (n : Int) < 0) := by omega
  go_wp2_with fail
  go_ret
  exact ⟨rfl, hbW⟩

theorem array1 {α : Type} {cs : Array α} (h : cs.size = 1) : ∃ c0, cs = #[c0] := by
  obtain ⟨l⟩ := cs
  match l, h with
  | [c0], _ => exact ⟨c0, rfl⟩
/-- What comes of a table with a number: a table, a number, and whether there is one. -/
def PostTab (w : World) (r : List Int × Bool) (e : Ending) (w' : World) : Prop := ∃ a n cap, e = .returned (.tuple #[.agg #[.slice a n cap], .bool r.2]) ∧ Own w' w.heap.size a n cap r.1 ∧ Below w.heap.size w w'
def PostTabInt (w : World) (r : List Int × Int × Bool) (e : Ending) (w' : World) : Prop := ∃ a n cap, e = .returned (.tuple #[.agg #[.slice a n cap], .int .i64 r.2.1, .bool r.2.2]) ∧ Own w' w.heap.size a n cap r.1 ∧ Below w.heap.size w w'
def PostIntInt (w : World) (r : Int × Int × Bool) (e : Ending) (w' : World) : Prop := e = .returned (.tuple #[.int .i64 r.1, .int .i64 r.2.1, .bool r.2.2]) ∧ Below w.heap.size w w'
def PostStreet (w : World) (r : List Int × Int × Bool) (e : Ending) (w' : World) : Prop := ∃ a n cap, e = .returned (.tuple #[.slice a n cap, .int .i64 r.2.1, .bool r.2.2]) ∧ Own w' w.heap.size a n cap r.1 ∧ Below w.heap.size w w'
end Go.Proofs.Ytnddplldkgphnaa
