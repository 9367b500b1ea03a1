/- Chapter 4: parking functions of walks, by their contracts. -/
import Derived.Test.YtakadjhbomggbaaImplWk
namespace Go.Proofs.Ytakadjhbomggbaa
open Go.RowKit

/-- The first k numbers are the starts. -/
def StAt (hs ys : List Int) (k : Nat) : Prop := ∀ i, i < k → nth ys i = (i : Int) - nth hs i
theorem st_all {hs ys : List Int} {n : Nat} (h : StAt hs ys n) (hl : ys.length = n) : ys = startsTo hs n := ext_nth (by rw [hl, length_startsTo]) fun i hi => by rw [h i (by omega), nth_startsTo (by omega)]
theorem st_step {hs ys : List Int} {k n : Nat} (h : StAt hs ys k) (hl : ys.length = n) (hk : k < n) : StAt hs (ys.set k ((k : Int) - nth hs k)) (k + 1) := fun i hi => by
  rw [nth_set (by omega)]
  split
  · subst_vars; rfl
  · exact h i (by omega)

set_option maxHeartbeats 1000000 in
theorem starts_any (a : Option Addr) (n cap : Nat) (hs : List Int) (w : World) (h : Has w a n cap hs) (h8 : n ≤ 8) (hbd : ∀ i, i < n → 0 ≤ nth hs i ∧ nth hs i ≤ (i : Int)) :
    Calls Try.prog 60 #[.slice a n cap] w fun e w' => ∃ a' cap', e = .returned (.slice a' n cap') ∧ Own w' w.heap.size a' n cap' (startsTo hs n) ∧ Below w.heap.size w w' := by
  have HB := hid hbd
  clear hbd
  go_enter Try.func60, Try.ntmps60
  go_wp2_with (at_make; refine wpList_make_ints _ rfl _ _ rfl n rfl rfl (by omega) ?_; intro a' cap' w1 hown1 hb1)
  go_loopw [11] (fun i wr => ∃ (k : Nat) (ys : List Int), k ≤ n ∧ i = .int .i64 k ∧ Own wr w.heap.size a' n cap' ys ∧ Hid (StAt hs ys k) ∧ Below w.heap.size w wr) (fun i _ => n - (intOf i).toNat)
  case atStart => exact ⟨0, _, Nat.zero_le _, rfl, hown1, hid (fun i hi => by omega), hb1⟩
  case round =>
    obtain ⟨k, ys, hk, rfl, hown, HS, hb⟩ := hrel
    clear hown1 hb1
    by_cases hlt : k < n
    · obtain ⟨g, rfl, hg1, hg2, hg3, hg4⟩ := hown.opened (by omega)
      obtain ⟨b, off, rfl, hbb, hc⟩ := h.2.2.2.2 (by omega)
      have hck : wr.cell? ⟨b, off + k, none⟩ = some (.int .i64 (nth hs k)) := by rw [hb.cell (p := ⟨b, off + k, none⟩) hbb]; exact hc k hlt
      have hbn := HB.out k hlt
      have hgx := hg3 k hlt
      have hgf := hg4 k
      obtain ⟨s1, s2⟩ := hown.set k ((k : Int) - nth hs k)
      have HS2 := hid (st_step HS.out hown.len hlt)
      have hb2 := hb.setCell (p := ⟨g, k, none⟩) hg1 (.int .i64 ((k : Int) - nth hs k))
      clear hc hg3 hg4
      go_wp2_with fail
      go_roundw
      case rel => exact ⟨k + 1, _, by omega, by go_num, s1, HS2, hb2⟩
      case measure => simp [intOf]; omega
    · obtain rfl : k = n := by omega
      have HE := hid (st_all HS.out hown.len)
      go_wp2_with fail
      go_ret
      exact ⟨_, _, rfl, by rw [← HE.out]; exact hown, hb⟩
theorem powTo_step {hs ls : List Int} {k u : Nat} (hu : nth ls k = (u : Int)) : powTo hs ls (k + 1) = (powTo hs ls k).set u ((k : Int) - nth hs k) := by simp only [powTo]; rw [hu, Int.toNat_natCast]
theorem pow_zero {hs ls : List Int} {n : Nat} (hl : ls.length = n) : powTo hs ls 0 = List.replicate n 0 := by subst hl; rfl

set_option maxHeartbeats 1000000 in
theorem specParkW_any (a b : Option Addr) (n cap m cap' : Nat) (hs ls : List Int) (w : World) (h : Has w a n cap hs) (h' : Has w b m cap' ls) :
    Calls Try.prog 16 #[.agg #[.slice a n cap, .slice b m cap']] w (PostInts w (powOf hs ls)) := by
  have HL := hid h.len
  have HL' := hid h'.len
  have hle := h.le
  have hle' := h'.le
  go_enter Try.func16, Try.ntmps16
  go_wp2_with fail
  generalize hW : w.alloc (.cells #[.slice a n cap, .slice b m cap'] 27) = W
  have hbW : Below w.heap.size w W := by rw [← hW]; exact (Below.refl _ w).alloc (Nat.le_refl _) _
  have B1 : BoxAt W w.heap.size (.slice a n cap) (.slice b m cap') := by rw [← hW]; exact boxAt_new _ _ _ _
  clear hW
  refine (waGood_any _ _ _ _ _ _ _ _ _ (h.below hbW (Nat.le_refl _)) (h'.below hbW (Nat.le_refl _))).mono ?_
  rintro e w1 ⟨rfl, st⟩
  replace B1 := B1.below st (boxAt_lt B1)
  have hb1 := hbW.trans (st.mono hbW.size)
  clear st hbW
  have g1 := h.below hb1 (Nat.le_refl _)
  have g2 := h'.below hb1 (Nat.le_refl _)
  obtain ⟨x1, x2, x3, x4⟩ := id B1
  by_cases hw : walkB hs ls = true
  · rw [hw]
    have HR : Hid (powOf hs ls = (powTo hs ls ls.length, true)) := hid (by simp only [powOf]; rw [if_pos hw])
    have hnm : n = m := by have := (walkB_iff.1 hw).2.1; rw [HL.out, HL'.out] at this; exact this
    subst hnm
    have HW := hid (walkB_iff.1 hw)
    obtain ⟨h8, hbd⟩ := hgt_of HW.out.1 HL.out
    clear hw
    have G1 := hid h
    have G2 := hid h'
    have HO : Hid (∀ i, i < n → 0 ≤ nth ls i ∧ nth ls i < (n : Int)) := hid (fun i hi => by have := out_nth HW.out.2.2.1 (i := i) (by rw [HL'.out]; exact hi); rw [HL'.out] at this; exact this)
    have HBD := hid hbd
    clear hbd g1 g2 h h'
    go_wp2_with (at_make; refine wpList_make_ints _ rfl _ _ rfl n rfl rfl (by omega) ?_; intro a' c' w2 hown2 hb2; have B2 := B1.below hb2 (boxAt_lt B1); obtain ⟨z1, z2, z3, z4⟩ := id B2)
    have hlt1 := boxAt_lt B1
    have hbw := hb1.trans (hb2.mono hb1.size)
    have hs1 := hb1.size
    go_loopw [17] (fun i wr => ∃ k : Nat, k ≤ n ∧ i = .int .i64 k ∧ Own wr w1.heap.size a' n c' (powTo hs ls k) ∧ BoxAt wr w.heap.size (.slice a n cap) (.slice b n cap') ∧ Below w.heap.size w wr) (fun i _ => n - (intOf i).toNat)
    case atStart => exact ⟨0, Nat.zero_le _, rfl, by rw [pow_zero HL'.out]; exact hown2, B2, hbw⟩
    case round =>
      obtain ⟨k, hk, rfl, hown, BX, hb⟩ := hrel
      clear hown2 B2 B1 hbw z1 z2 z3 z4 x1 x2 x3 x4
      by_cases hlt : k < n
      · obtain ⟨b1, off1, rfl, hbb1, hc1⟩ := G1.out.2.2.2.2 (by omega)
        obtain ⟨b2, off2, rfl, hbb2, hc2⟩ := G2.out.2.2.2.2 (by omega)
        have hck1 : wr.cell? ⟨b1, off1 + k, none⟩ = some (.int .i64 (nth hs k)) := by rw [hb.cell (p := ⟨b1, off1 + k, none⟩) hbb1]; exact hc1 k hlt
        have hck2 : wr.cell? ⟨b2, off2 + k, none⟩ = some (.int .i64 (nth ls k)) := by rw [hb.cell (p := ⟨b2, off2 + k, none⟩) hbb2]; exact hc2 k hlt
        have ho := HO.out k hlt
        have hbn := HBD.out k hlt
        obtain ⟨u, hu⟩ : ∃ u : Nat, nth ls k = (u : Int) := ⟨(nth ls k).toNat, by omega⟩
        have HP := hid (powTo_step (hs := hs) hu)
        rw [hu] at hck2 ho
        have hun : u < n := by omega
        obtain ⟨g, rfl, hg1, hg2, hg3, hg4⟩ := hown.opened (by omega)
        have hgx := hg3 u hun
        have hgf := hg4 u
        obtain ⟨s1, s2⟩ := hown.set u ((k : Int) - nth hs k)
        have BX2 := BX.apart (g' := g) (i := u) (z := .int .i64 ((k : Int) - nth hs k)) (by omega)
        have hb3 := hb.setCell (p := ⟨g, u, none⟩) (by simp; omega) (.int .i64 ((k : Int) - nth hs k))
        obtain ⟨y1, y2, y3, y4⟩ := id BX
        clear hc1 hc2 hg3 hg4 hu
        go_wp2_with fail
        go_roundw
        case rel => exact ⟨k + 1, by omega, by go_num, by rw [HP.out]; exact s1, BX2, hb3⟩
        case measure => simp [intOf]; omega
      · obtain rfl : k = n := by omega
        go_wp2_with fail
        go_ret2
        exact postInts (HR.out.trans (by rw [HL'.out])) (hown.mono hs1) hb
  · rw [Bool.eq_false_iff.2 hw]
    have HR : Hid (powOf hs ls = ([], false)) := hid (by simp only [powOf]; rw [if_neg hw])
    go_wp2_with fail
    go_ret2
    exact postInts_no HR.out hb1

set_option maxHeartbeats 1000000 in
theorem implParkW_any (a b : Option Addr) (n cap m cap' : Nat) (hs ls : List Int) (w : World) (h : Has w a n cap hs) (h' : Has w b m cap' ls) :
    Calls Try.prog 15 #[.agg #[.slice a n cap, .slice b m cap']] w (PostInts w (powOf hs ls)) := by
  have HL := hid h.len
  have HL' := hid h'.len
  have hle := h.le
  have hle' := h'.le
  go_enter Try.func15, Try.ntmps15
  go_wp2_with fail
  generalize hW : w.alloc (.cells #[.slice a n cap, .slice b m cap'] 27) = W
  have hbW : Below w.heap.size w W := by rw [← hW]; exact (Below.refl _ w).alloc (Nat.le_refl _) _
  have B1 : BoxAt W w.heap.size (.slice a n cap) (.slice b m cap') := by rw [← hW]; exact boxAt_new _ _ _ _
  clear hW
  refine (rowsOf_any _ _ _ _ _ _ _ _ _ (h.below hbW (Nat.le_refl _)) (h'.below hbW (Nat.le_refl _))).mono ?_
  rintro e w1 ⟨⟨hw, rfl⟩ | ⟨hw, rfl⟩, st⟩
  · have hb1 := hbW.trans (st.mono hbW.size)
    clear st hbW B1
    have HR : Hid (powOf hs ls = (powTo hs ls ls.length, true)) := hid (by simp only [powOf]; rw [if_pos hw])
    have hnm : n = m := by have := (walkB_iff.1 hw).2.1; rw [HL.out, HL'.out] at this; exact this
    subst hnm
    have HW := hid (walkB_iff.1 hw)
    obtain ⟨h8, hbd⟩ := hgt_of HW.out.1 HL.out
    have C1 := boxAt_new w1 (.slice a n cap) (.slice b n cap') 64
    have hb2 := hb1.alloc hb1.size (.cells #[.slice a n cap, .slice b n cap'] 64)
    have g1 := h.below hb2 (Nat.le_refl _)
    have g2 := h'.below hb2 (Nat.le_refl _)
    have hsz : (w1.alloc (.cells #[.slice a n cap, .slice b n cap'] 64)).heap.size = w1.heap.size + 1 := by simp
    have hs1 := hb1.size
    clear hw
    have G1 := hid h
    have G2 := hid h'
    have HO : Hid (∀ i, i < n → 0 ≤ nth ls i ∧ nth ls i < (n : Int)) := hid (fun i hi => by have := out_nth HW.out.2.2.1 (i := i) (by rw [HL'.out]; exact hi); rw [HL'.out] at this; exact this)
    have HBD := hid hbd
    clear hbd h h'
    go_wp2_with (at_make; refine wpList_make_ints _ rfl _ _ rfl n rfl rfl (by omega) ?_; intro a' c' w2 hown2 hb3; have B2 := C1.below hb3 (boxAt_lt C1); obtain ⟨z1, z2, z3, z4⟩ := id B2)
    have hbw := hb2.trans (hb3.mono hb2.size)
    refine (starts_any _ _ _ _ _ (G1.out.below hbw (Nat.le_refl _)) h8 HBD.out).mono ?_
    rintro e w3 ⟨a3, c3, rfl, own3, st3⟩
    have hlt2 := hown2.lt
    have hown3 := hown2.below st3 (Nat.le_refl _)
    replace B2 := B2.below st3 (boxAt_lt B2)
    replace hbw := hbw.trans (st3.mono hbw.size)
    have hs3 := hb3.size
    clear g1 g2 C1 hb2 hb3 hown2 st3 z1 z2 z3 z4
    obtain ⟨z1, z2, z3, z4⟩ := id B2
    rw [hsz] at hown3 hs3
    clear hsz
    go_wp2_with fail
    go_loopw [24] (fun i wr => ∃ k : Nat, k ≤ n ∧ i = .int .i64 k ∧ Own wr (w1.heap.size + 1) a' n c' (powTo hs ls k) ∧ Own wr w2.heap.size a3 n c3 (startsTo hs n) ∧ BoxAt wr w1.heap.size (.slice a n cap) (.slice b n cap') ∧ Below w.heap.size w wr) (fun i _ => n - (intOf i).toNat)
    case atStart => exact ⟨0, Nat.zero_le _, rfl, by rw [pow_zero HL'.out]; exact hown3, own3, B2, hbw⟩
    case round =>
      obtain ⟨k, hk, rfl, hown, hst, BX, hb⟩ := hrel
      clear hown3 own3 B2 hbw z1 z2 z3 z4
      by_cases hlt : k < n
      · obtain ⟨b2, off2, rfl, hbb2, hc2⟩ := G2.out.2.2.2.2 (by omega)
        have hck2 : wr.cell? ⟨b2, off2 + k, none⟩ = some (.int .i64 (nth ls k)) := by rw [hb.cell (p := ⟨b2, off2 + k, none⟩) hbb2]; exact hc2 k hlt
        have ho := HO.out k hlt
        have hbn := HBD.out k hlt
        obtain ⟨u, hu⟩ : ∃ u : Nat, nth ls k = (u : Int) := ⟨(nth ls k).toNat, by omega⟩
        have HP := hid (powTo_step (hs := hs) hu)
        rw [hu] at hck2 ho
        have hun : u < n := by omega
        obtain ⟨q, rfl, hq1, hq2, hq3, hq4⟩ := hst.opened (by omega)
        have hqk := hq3 k hlt
        rw [nth_startsTo hlt] at hqk
        obtain ⟨g, rfl, hg1, hg2, hg3, hg4⟩ := hown.opened (by omega)
        have hgw := hlt2 _ rfl
        have hgx := hg3 u hun
        have hgf := hg4 u
        obtain ⟨s1, s2⟩ := hown.set u ((k : Int) - nth hs k)
        have hst2 := hst.setBelow (g := g) (i := u) (by simpa using hgw) (.int .i64 ((k : Int) - nth hs k))
        have BX2 := BX.apart (g' := g) (i := u) (z := .int .i64 ((k : Int) - nth hs k)) (by omega)
        have hb4 := hb.setCell (p := ⟨g, u, none⟩) (by simp; omega) (.int .i64 ((k : Int) - nth hs k))
        obtain ⟨y1, y2, y3, y4⟩ := id BX
        clear hc2 hg3 hg4 hq3 hq4 hu
        go_wp2_with fail
        go_roundw
        case rel => exact ⟨k + 1, by omega, by go_num, by rw [HP.out]; exact s1, hst2, BX2, hb4⟩
        case measure => simp [intOf]; omega
      · obtain rfl : k = n := by omega
        go_wp2_with fail
        go_ret2
        exact postInts (HR.out.trans (by rw [HL'.out])) (hown.mono (by omega)) hb
  · have hb1 := hbW.trans (st.mono hbW.size)
    clear st hbW B1
    have HR : Hid (powOf hs ls = ([], false)) := hid (by simp only [powOf]; rw [if_neg (by rw [hw]; decide)])
    go_wp2_with fail
    go_ret2
    exact postInts_no HR.out (hb1.alloc hb1.size _)
end Go.Proofs.Ytakadjhbomggbaa
