/- Desks as values: a list and a table, and the laws' helpers over them; IsDesk. -/
import Derived.Test.YtnddplldkgphnaaTbl
import Derived.Test.YtnddplldkgphnaaImplTt
import Derived.Test.YtnddplldkgphnaaImplC
import Derived.Test.YtnddplldkgphnaaSpecB
namespace Go.Proofs.Ytnddplldkgphnaa
open Go.RowKit

set_option maxHeartbeats 400000 in
theorem toDesk_any (a b : Option Addr) (n cap m cap' : Nat) (hs ls : List Int) (w : World) (h : Has w a n cap hs) (h' : Has w b m cap' ls) :
    Calls Try.prog 12 #[.agg #[.slice a n cap, .slice b m cap']] w fun e w' => ∃ a1 c1 b1 c2, e = .returned (.agg #[.slice a1 n c1, .slice b1 m c2]) ∧ Own w' w.heap.size a1 n c1 hs ∧ Own w' w.heap.size b1 m c2 ls ∧ Apart2 a1 b1 ∧ Below w.heap.size w w' := by
  go_enter Try.func12, Try.ntmps12
  go_wp2_with fail
  generalize hW : (((w.alloc (.cells #[.slice a n cap, .slice b m cap'] 33)).alloc (.cells #[.slice none 0 0, .slice none 0 0] 26)).alloc (.cells #[.slice none 0 0, .slice none 0 0] 26)) = W
  have hbW : Below w.heap.size w W := by rw [← hW]; exact (((Below.refl _ w).alloc (Nat.le_refl _) _).alloc (by simp) _).alloc (by simp; omega) _
  have hsz : W.heap.size = w.heap.size + 3 := by rw [← hW]; simp
  have B1 : BoxAt W w.heap.size (.slice a n cap) (.slice b m cap') := by rw [← hW]; exact ((boxAt_new _ _ _ _).alloc _).alloc _
  have B2 : BoxAt W (w.heap.size + 1) (.slice none 0 0) (.slice none 0 0) := by rw [← hW]; have := (boxAt_new (w.alloc (.cells #[.slice a n cap, .slice b m cap'] 33)) (.slice none 0 0) (.slice none 0 0) 26).alloc (.cells #[.slice none 0 0, .slice none 0 0] 26); simpa using this
  have B3 : BoxAt W (w.heap.size + 1 + 1) (.slice none 0 0) (.slice none 0 0) := by rw [← hW]; have := boxAt_new ((w.alloc (.cells #[.slice a n cap, .slice b m cap'] 33)).alloc (.cells #[.slice none 0 0, .slice none 0 0] 26)) (.slice none 0 0) (.slice none 0 0) 26; simpa using this
  clear hW
  refine (toIntS_any _ _ _ _ _ (h.below hbW (Nat.le_refl _))).mono ?_
  rintro e w1 ⟨a1, c1, rfl, own1, st⟩
  replace B1 := B1.below st (by omega)
  replace B2 := B2.below st (by omega)
  replace B3 := B3.below st (by omega)
  have hb1 : Below w.heap.size w w1 := hbW.trans (st.mono hbW.size)
  have lt1 := own1.lt
  have B1' : BoxAt (w1.setCell ⟨w.heap.size + 1 + 1, 0, none⟩ (.slice a1 n c1)) w.heap.size (.slice a n cap) (.slice b m cap') := B1.apart (by omega)
  have B2' : BoxAt (w1.setCell ⟨w.heap.size + 1 + 1, 0, none⟩ (.slice a1 n c1)) (w.heap.size + 1) (.slice none 0 0) (.slice none 0 0) := B2.apart (by omega)
  have B3' : BoxAt (w1.setCell ⟨w.heap.size + 1 + 1, 0, none⟩ (.slice a1 n c1)) (w.heap.size + 1 + 1) (.slice a1 n c1) (.slice none 0 0) := B3.set0
  have hb1' := hb1.setCell (p := ⟨w.heap.size + 1 + 1, 0, none⟩) (by simp; omega) (.slice a1 n c1)
  have own1' : Own (w1.setCell ⟨w.heap.size + 1 + 1, 0, none⟩ (.slice a1 n c1)) W.heap.size a1 n c1 hs := own1.setBelow (by omega) _
  have hVs : (w1.setCell ⟨w.heap.size + 1 + 1, 0, none⟩ (.slice a1 n c1)).heap.size = w1.heap.size := by simp
  clear B1 B2
  obtain ⟨_, _, _, _⟩ := B3
  obtain ⟨_, _, _, _⟩ := id B1'
  go_wp2_with fail
  generalize w1.setCell ⟨w.heap.size + 1 + 1, 0, none⟩ (.slice a1 n c1) = V at *
  refine (toTable_any _ _ _ _ _ (h'.below hb1' (Nat.le_refl _))).mono ?_
  rintro e w2 ⟨b1, c2, rfl, own2, st2⟩
  have s1 := st.size
  have s2 := st2.size
  replace B3' := B3'.below st2 (by omega)
  have own1'' := own1'.below st2 (Nat.le_refl _)
  have hb2 : Below w.heap.size w w2 := hb1'.trans (st2.mono (by omega))
  have B3'' := B3'.set1 (z := .slice b1 m c2)
  have B2'' := (B2'.below st2 (by omega)).apart (g' := w.heap.size + 1 + 1) (i := 1) (z := .slice b1 m c2) (by omega)
  have o1 := (own1''.setBelow (g := w.heap.size + 1 + 1) (i := 1) (by omega) (.slice b1 m c2)).mono (B' := w.heap.size) (by omega)
  have o2 := (own2.setBelow (g := w.heap.size + 1 + 1) (i := 1) (by omega) (.slice b1 m c2)).mono (B' := w.heap.size) (by omega)
  have ap : Apart2 a1 b1 := apart_lt own1'.lt own2.ge
  have ap1 : BlkGe a1 (w.heap.size + 2) := own1''.ge.mono (by omega)
  have ap2 : BlkGe b1 (w.heap.size + 2) := own2.ge.mono (by omega)
  have hb3 := hb2.setCell (p := ⟨w.heap.size + 1 + 1, 1, none⟩) (by simp; omega) (.slice b1 m c2)
  generalize hU : w2.setCell ⟨w.heap.size + 1 + 1, 1, none⟩ (.slice b1 m c2) = U at B3'' B2'' o1 o2 hb3
  obtain ⟨_, _, _, _⟩ := B3'
  obtain ⟨_, _, _, _⟩ := B3''
  obtain ⟨_, _, _, _⟩ := id B2''
  go_wp2_with fail
  have B2f := (B2''.set0 (z := .slice a1 n c1)).set1 (z := .slice b1 m c2)
  have f1 := (o1.setBelow' (g := w.heap.size + 1) (i := 0) ap1 (.slice a1 n c1)).setBelow' (g := w.heap.size + 1) (i := 1) ap1 (.slice b1 m c2)
  have f2 := (o2.setBelow' (g := w.heap.size + 1) (i := 0) ap2 (.slice a1 n c1)).setBelow' (g := w.heap.size + 1) (i := 1) ap2 (.slice b1 m c2)
  have hb4 := (hb3.setCell (p := ⟨w.heap.size + 1, 0, none⟩) (by simp) (.slice a1 n c1)).setCell (p := ⟨w.heap.size + 1, 1, none⟩) (by simp) (.slice b1 m c2)
  obtain ⟨_, _, _, _⟩ := id B2f
  refine bodyPost_ret (v := .agg #[.slice a1 n c1, .slice b1 m c2]) (by simp [results, Try.results12, go_sem, *]) rfl ⟨a1, c1, b1, c2, rfl, f1, f2, ap, hb4⟩

set_option maxHeartbeats 400000 in
theorem szDesk_any (a b : Option Addr) (n cap m cap' : Nat) (l : Int) (w : World) (hn : (n : Int) ≤ 9223372036854775807) (hm : (m : Int) ≤ 9223372036854775807) (h0 : 0 ≤ l) (h1 : l ≤ 1048576) :
    Calls Try.prog 10 #[.agg #[.slice a n cap, .slice b m cap'], .int .i64 l] w fun e w' => e = .returned (.int .i64 (szTwo n m l)) ∧ Below w.heap.size w w' := by
  have hb1 : Below w.heap.size w (w.alloc (.cells #[.slice a n cap, .slice b m cap'] 33)) := (Below.refl _ _).alloc (Nat.le_refl _) _
  by_cases h : (n : Int) ≤ l
  · have HZ : Hid (szLeft n l = l - (n : Int)) := hid (by unfold szLeft; rw [if_pos h])
    have h2 : ¬ (l - (n : Int) < 0) := by omega
    have q0 : 0 ≤ l - (n : Int) := by omega
    have q1 : l - (n : Int) ≤ 1048576 := by omega
    by_cases h3 : (m : Int) ≤ l - (n : Int)
    · have HZ2 : Hid (szLeft m (l - (n : Int)) = l - (n : Int) - (m : Int)) := hid (by unfold szLeft; rw [if_pos h3])
      have h4 : ¬ (l - (n : Int) - (m : Int) < 0) := by omega
      have HR : Hid (szTwo n m l = l - (n : Int) - (m : Int)) := hid (by unfold szTwo; rw [if_pos (by omega)])
      go_enter Try.func10, Try.ntmps10
      go_wp2_with fail
      refine (szIntS_any a n cap l _ hn h0 h1).mono ?_
      rintro e w' ⟨rfl, rfl⟩
      rw [HZ.out]
      go_wp2_with fail
      refine (szTable_any b m cap' (l - (n : Int)) _ hm q0 q1).mono ?_
      rintro e w' ⟨rfl, st⟩
      have hb1 := hb1.trans (st.mono hb1.size)
      rw [HZ2.out]
      go_wp2_with fail
      go_ret
      exact ⟨ret_int HR.out.symm, hb1⟩
    · have HZ2 : Hid (szLeft m (l - (n : Int)) = -1) := hid (by unfold szLeft; rw [if_neg h3])
      have HR : Hid (szTwo n m l = -1) := hid (by unfold szTwo; rw [if_neg (by omega)])
      go_enter Try.func10, Try.ntmps10
      go_wp2_with fail
      refine (szIntS_any a n cap l _ hn h0 h1).mono ?_
      rintro e w' ⟨rfl, rfl⟩
      rw [HZ.out]
      go_wp2_with fail
      refine (szTable_any b m cap' (l - (n : Int)) _ hm q0 q1).mono ?_
      rintro e w' ⟨rfl, st⟩
      have hb1 := hb1.trans (st.mono hb1.size)
      rw [HZ2.out]
      go_wp2_with fail
      go_ret
      exact ⟨ret_int HR.out.symm, hb1⟩
  · have HZ : Hid (szLeft n l = -1) := hid (by unfold szLeft; rw [if_neg h])
    have HR : Hid (szTwo n m l = -1) := hid (by unfold szTwo; rw [if_neg (by omega)])
    go_enter Try.func10, Try.ntmps10
    go_wp2_with fail
    refine (szIntS_any a n cap l _ hn h0 h1).mono ?_
    rintro e w' ⟨rfl, rfl⟩
    rw [HZ.out]
    go_wp2_with fail
    go_ret
    exact ⟨ret_int HR.out.symm, hb1⟩

set_option maxHeartbeats 400000 in
theorem eqDesk_any (a b c d : Option Addr) (n cap m cap' n' cap1 m' cap2 : Nat) (hs ls hs' ls' : List Int) (w : World) (h : Has w a n cap hs) (h' : Has w b m cap' ls) (k : Has w c n' cap1 hs') (k' : Has w d m' cap2 ls') :
    Calls Try.prog 7 #[.agg #[.slice a n cap, .slice b m cap'], .agg #[.slice c n' cap1, .slice d m' cap2]] w fun e w' => e = .returned (.bool (same hs hs' && same ls ls')) ∧ Below w.heap.size w w' := by
  go_enter Try.func7, Try.ntmps7
  go_wp2_with fail
  generalize hW : ((w.alloc (.cells #[.slice a n cap, .slice b m cap'] 26)).alloc (.cells #[.slice c n' cap1, .slice d m' cap2] 26)) = W
  have hbW : Below w.heap.size w W := by rw [← hW]; exact ((Below.refl _ w).alloc (Nat.le_refl _) _).alloc (by simp) _
  have hsz : W.heap.size = w.heap.size + 2 := by rw [← hW]; simp
  have B1 : BoxAt W w.heap.size (.slice a n cap) (.slice b m cap') := by rw [← hW]; exact (boxAt_new _ _ _ _).alloc _
  have B2 : BoxAt W (w.heap.size + 1) (.slice c n' cap1) (.slice d m' cap2) := by rw [← hW]; have := boxAt_new (w.alloc (.cells #[.slice a n cap, .slice b m cap'] 26)) (.slice c n' cap1) (.slice d m' cap2) 26; simpa using this
  clear hW
  refine (eqIntS_any _ _ _ _ _ _ _ _ _ (h.below hbW (Nat.le_refl _)) (k.below hbW (Nat.le_refl _))).mono ?_
  rintro e w1 ⟨rfl, q, rfl⟩
  have B1' : BoxAt (W.drewN q) w.heap.size (.slice a n cap) (.slice b m cap') := ⟨B1.c0, B1.c1, B1.f0, B1.f1⟩
  have B2' : BoxAt (W.drewN q) (w.heap.size + 1) (.slice c n' cap1) (.slice d m' cap2) := ⟨B2.c0, B2.c1, B2.f0, B2.f1⟩
  have hb1 : Below w.heap.size w (W.drewN q) := below_drewN hbW _
  generalize W.drewN q = V at *
  obtain ⟨_, _, _, _⟩ := B1'
  obtain ⟨_, _, _, _⟩ := B2'
  by_cases hh : same hs hs' = true
  · rw [hh]
    go_wp2_with fail
    refine (eqTable_any _ _ _ _ _ _ _ _ _ (h'.below hb1 (Nat.le_refl _)) (k'.below hb1 (Nat.le_refl _))).mono ?_
    rintro e w2 ⟨rfl, st⟩
    have hb2 : Below w.heap.size w w2 := hb1.trans (st.mono hb1.size)
    by_cases hl : same ls ls' = true
    · rw [hl]
      go_wp2_with fail
      go_ret
      exact ⟨ret_bool (by rw [hh, hl]; rfl), hb2⟩
    · rw [Bool.eq_false_iff.2 hl]
      go_wp2_with fail
      go_ret
      exact ⟨ret_bool (by rw [hh, Bool.eq_false_iff.2 hl]; rfl), hb2⟩
  · rw [Bool.eq_false_iff.2 hh]
    go_wp2_with fail
    go_ret
    exact ⟨ret_bool (by rw [Bool.eq_false_iff.2 hh]; rfl), hb1⟩


def deskB (xs cs : List Int) : Bool := isPark xs && tblB cs
set_option maxRecDepth 100000 in
set_option maxHeartbeats 800000 in
theorem coGood_any (a b : Option Addr) (n cap m capb : Nat) (xs cs : List Int) (w : World) (h : Has w a n cap xs) (h' : Has w b m capb cs) :
    Calls Try.prog 24 #[.agg #[.slice a n cap, .slice b m capb]] w (PostBool w (deskB xs cs)) := by
  have BX := boxAt_new w (.slice a n cap) (.slice b m capb) 26
  have hbW : Below w.heap.size w (w.alloc (.cells #[.slice a n cap, .slice b m capb] 26)) := (Below.refl _ _).alloc (Nat.le_refl _) _
  have hsW : (w.alloc (.cells #[.slice a n cap, .slice b m capb] 26)).heap.size = w.heap.size + 1 := by simp
  have h1 := h.below hbW (Nat.le_refl _)
  have h2 := h'.below hbW (Nat.le_refl _)
  obtain ⟨y1, y2, y3, y4⟩ := id BX
  by_cases hp : isPark xs = true
  · have HP := hid hp
    have HR : Hid (deskB xs cs = tblB cs) := hid (by simp [deskB, hp])
    clear hp
    go_enter Try.func24, Try.ntmps24
    go_wp2_with (first | (go_at_call 31; refine (paParking_any _ _ _ _ _ h1).mono ?_; rintro e w1 ⟨rfl, hb1⟩; rw [HP.out]; have BX1 := BX.below hb1 (by rw [hsW]; exact Nat.lt_succ_self _); obtain ⟨z1, z2, z3, z4⟩ := id BX1; have h3 := h2.below hb1 (Nat.le_refl _)) | (go_at_call 32; refine (prGood_any _ _ _ _ _ h3).mono ?_; rintro e w2 ⟨rfl, st⟩))
    go_ret
    exact postBool HR.out.symm ((hbW.trans (hb1.mono hbW.size)).trans (st.mono (Nat.le_trans hbW.size hb1.size)))
  · have HP := hid (Bool.eq_false_iff.2 hp)
    have HR : Hid (deskB xs cs = false) := hid (by simp [deskB, hp])
    clear hp
    go_enter Try.func24, Try.ntmps24
    go_wp2_with (go_at_call 31; refine (paParking_any _ _ _ _ _ h1).mono ?_; rintro e w1 ⟨rfl, hb1⟩; rw [HP.out])
    go_ret
    exact postBool HR.out.symm (hbW.trans (hb1.mono hbW.size))
set_option maxHeartbeats 400000 in
theorem specIsDesk_any (a b : Option Addr) (n cap m capb : Nat) (xs cs : List Int) (w : World) (h : Has w a n cap xs) (h' : Has w b m capb cs) :
    Calls Try.prog 11 #[.agg #[.slice a n cap, .slice b m capb]] w (PostBool w (deskB xs cs)) := by
  have BX := boxAt_new w (.slice a n cap) (.slice b m capb) 26
  have hbW : Below w.heap.size w (w.alloc (.cells #[.slice a n cap, .slice b m capb] 26)) := (Below.refl _ _).alloc (Nat.le_refl _) _
  have h1 := h.below hbW (Nat.le_refl _)
  have h2 := h'.below hbW (Nat.le_refl _)
  obtain ⟨y1, y2, y3, y4⟩ := id BX
  go_enter Try.func11, Try.ntmps11
  go_wp2_with (go_at_call 24; refine (coGood_any _ _ _ _ _ _ _ _ _ h1 h2).mono ?_; rintro e w1 ⟨rfl, hb1⟩)
  go_ret
  exact postBool rfl (hbW.trans (hb1.mono hbW.size))
set_option maxRecDepth 100000 in
set_option maxHeartbeats 800000 in
theorem implIsDesk_any (a b : Option Addr) (n cap m capb : Nat) (xs cs : List Int) (w : World) (h : Has w a n cap xs) (h' : Has w b m capb cs) :
    Calls Try.prog 13 #[.agg #[.slice a n cap, .slice b m capb]] w (PostBool w (deskB xs cs)) := by
  have BX := boxAt_new w (.slice a n cap) (.slice b m capb) 26
  have hbW : Below w.heap.size w (w.alloc (.cells #[.slice a n cap, .slice b m capb] 26)) := (Below.refl _ _).alloc (Nat.le_refl _) _
  have hsW : (w.alloc (.cells #[.slice a n cap, .slice b m capb] 26)).heap.size = w.heap.size + 1 := by simp
  have h1 := h.below hbW (Nat.le_refl _)
  have h2 := h'.below hbW (Nat.le_refl _)
  obtain ⟨y1, y2, y3, y4⟩ := id BX
  by_cases hp : isPark xs = true
  · have HP := hid hp
    have HR : Hid (deskB xs cs = tblB cs) := hid (by simp [deskB, hp])
    clear hp
    go_enter Try.func13, Try.ntmps13
    go_wp2_with (first | (go_at_call 27; refine (isParkingFunction_any _ _ _ _ _ h1).mono ?_; rintro e w1 ⟨rfl, hb1⟩; rw [HP.out]; have BX1 := BX.below hb1 (by rw [hsW]; exact Nat.lt_succ_self _); obtain ⟨z1, z2, z3, z4⟩ := id BX1; have h3 := h2.below hb1 (Nat.le_refl _)) | (go_at_call 28; refine (implIsTable_any _ _ _ _ _ h3).mono ?_; rintro e w2 ⟨rfl, st⟩))
    go_ret
    exact postBool HR.out.symm ((hbW.trans (hb1.mono hbW.size)).trans (st.mono (Nat.le_trans hbW.size hb1.size)))
  · have HP := hid (Bool.eq_false_iff.2 hp)
    have HR : Hid (deskB xs cs = false) := hid (by simp [deskB, hp])
    clear hp
    go_enter Try.func13, Try.ntmps13
    go_wp2_with (go_at_call 27; refine (isParkingFunction_any _ _ _ _ _ h1).mono ?_; rintro e w1 ⟨rfl, hb1⟩; rw [HP.out])
    go_ret
    exact postBool HR.out.symm (hbW.trans (hb1.mono hbW.size))
end Go.Proofs.Ytnddplldkgphnaa
