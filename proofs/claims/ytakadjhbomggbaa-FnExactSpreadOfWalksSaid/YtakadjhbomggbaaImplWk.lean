/- Chapter 4: walks, the program's functions that tell them, by their contracts. -/
import Derived.Test.YtakadjhbomggbaaSpecWk
namespace Go.Proofs.Ytakadjhbomggbaa
open Go.RowKit

/-- What 'rowsOf' comes to. -/
def RowsPost (w : World) (hs ls : List Int) (a b : Option Addr) (n cap m cap' : Nat) (e : Ending) (w' : World) : Prop :=
  ((walkB hs ls = true ∧ e = .returned (.tuple #[.agg #[.slice a n cap, .slice b m cap'], .bool true])) ∨ (walkB hs ls = false ∧ e = .returned (.tuple #[.agg #[.slice none 0 0, .slice none 0 0], .bool false]))) ∧ Below w.heap.size w w'
theorem rowsPost_no {w w' : World} {hs ls : List Int} {a b : Option Addr} {n cap m cap' : Nat} (h : walkB hs ls = false) (hb : Below w.heap.size w w') : RowsPost w hs ls a b n cap m cap' (.returned (.tuple #[.agg #[.slice none 0 0, .slice none 0 0], .bool false])) w' := ⟨.inr ⟨h, rfl⟩, hb⟩
theorem rowsPost_yes {w w' : World} {hs ls : List Int} {a b : Option Addr} {n cap m cap' : Nat} (h : walkB hs ls = true) (hb : Below w.heap.size w w') : RowsPost w hs ls a b n cap m cap' (.returned (.tuple #[.agg #[.slice a n cap, .slice b m cap'], .bool true])) w' := ⟨.inl ⟨h, rfl⟩, hb⟩

set_option maxHeartbeats 2000000 in
theorem rowsOf_any (a b : Option Addr) (n cap m cap' : Nat) (hs ls : List Int) (w : World) (h : Has w a n cap hs) (h' : Has w b m cap' ls) :
    Calls Try.prog 59 #[.agg #[.slice a n cap, .slice b m cap']] w (RowsPost w hs ls a b n cap m cap') := by
  have HL := hid h.len
  have HL' := hid h'.len
  have hle := h.le
  have hle' := h'.le
  by_cases hg : hgtB hs = true
  · have HG := hid hg
    have h8 := (hgt_of hg h.len).1
    have HBD := hid (hgt_of hg h.len).2
    clear hg
    by_cases hnm : n = m
    · have hbe : ((n : Int) != (m : Int)) = false := by simp [hnm]
      subst hnm
      go_enter Try.func59, Try.ntmps59
      go_wp2_with fail
      generalize hW : ((((w.alloc (.cells #[.slice a n cap, .slice b n cap'] 27)).alloc (.cells #[.slice none 0 0, .slice none 0 0] 64)).alloc (.cells #[.slice a n cap, .slice b n cap'] 64))) = W
      have hbW : Below w.heap.size w W := by rw [← hW]; exact (((Below.refl _ w).alloc (Nat.le_refl _) _).alloc (by simp) _).alloc (by simp; omega) _
      have hsz : W.heap.size = w.heap.size + 3 := by rw [← hW]; simp
      have B1 : BoxAt W w.heap.size (.slice a n cap) (.slice b n cap') := by rw [← hW]; exact ((boxAt_new _ _ _ _).alloc _).alloc _
      have B2 : BoxAt W (w.heap.size + 1) (.slice none 0 0) (.slice none 0 0) := by rw [← hW]; have := (boxAt_new (w.alloc (.cells #[.slice a n cap, .slice b n cap'] 27)) (.slice none 0 0) (.slice none 0 0) 64).alloc (.cells #[.slice a n cap, .slice b n cap'] 64); simpa using this
      have B3 : BoxAt W (w.heap.size + 1 + 1) (.slice a n cap) (.slice b n cap') := by rw [← hW]; have := boxAt_new ((w.alloc (.cells #[.slice a n cap, .slice b n cap'] 27)).alloc (.cells #[.slice none 0 0, .slice none 0 0] 64)) (.slice a n cap) (.slice b n cap') 64; simpa using this
      have hW1 := h.below hbW (Nat.le_refl _)
      have hW2 := h'.below hbW (Nat.le_refl _)
      clear hW
      obtain ⟨_, _, _, _⟩ := id B3
      obtain ⟨_, _, _, _⟩ := id B1
      refine (areHeights_any _ _ _ _ _ hW1).mono ?_
      rintro e w' ⟨rfl, rfl⟩
      rw [HG.out]
      go_wp2_with fail
      refine (isOutcome_any _ _ _ _ _ hW2).mono ?_
      rintro e w1 ⟨rfl, st⟩
      have s1 := st.size
      replace B2 := B2.below st (by omega)
      replace B3 := B3.below st (by omega)
      replace hW1 := hW1.below st (Nat.le_refl _)
      replace hW2 := hW2.below st (Nat.le_refl _)
      replace hbW := hbW.trans (st.mono (by omega))
      clear st hsz B1
      by_cases ho : outB ls = true
      · rw [ho]
        have HO := hid ho
        clear ho h h'
        obtain ⟨_, _, _, _⟩ := id B3
        go_wp2_with fail
        go_loopw [35] (fun i wr => ∃ k : Nat, k ≤ n ∧ i = .int .i64 k ∧ Hid (riseTo hs ls k = true) ∧ Quiet w1 wr) (fun i _ => n - (intOf i).toNat)
        case atStart => exact ⟨0, Nat.zero_le _, rfl, hid rfl, ⟨0, rfl⟩⟩
        case round =>
          obtain ⟨k, hk, rfl, HR, HQ⟩ := hrel
          have hbq : Below w.heap.size w wr := by obtain ⟨q, hq⟩ := HQ; rw [hq]; exact below_drewN hbW _
          have hq1 : Has wr a n cap hs := by obtain ⟨q, hq⟩ := HQ; rw [hq]; exact hW1
          have hq2 : Has wr b n cap' ls := by obtain ⟨q, hq⟩ := HQ; rw [hq]; exact hW2
          have C3 : BoxAt wr (w.heap.size + 1 + 1) (.slice a n cap) (.slice b n cap') := by obtain ⟨q, hq⟩ := HQ; rw [hq]; exact ⟨B3.c0, B3.c1, B3.f0, B3.f1⟩
          have C2 : BoxAt wr (w.heap.size + 1) (.slice none 0 0) (.slice none 0 0) := by obtain ⟨q, hq⟩ := HQ; rw [hq]; exact ⟨B2.c0, B2.c1, B2.f0, B2.f1⟩
          by_cases hlt : k < n
          · obtain ⟨b2, off2, rfl, hbb2, hc2⟩ := hq2.2.2.2.2 (by omega)
            have hck : wr.cell? ⟨b2, off2 + k, none⟩ = some (.int .i64 (nth ls k)) := hc2 k hlt
            obtain ⟨_, _, _, _⟩ := id C3
            go_wp2_with fail
            refine (isRaised_any _ _ _ _ k _ hq1 hlt (fun i hi => by have := HBD.out i hi; omega)).mono ?_
            rintro e w2 ⟨rfl, HQ2⟩
            have HQ3 : Quiet w1 w2 := by obtain ⟨q, hq⟩ := HQ; obtain ⟨q2, hq2⟩ := HQ2; rw [hq2, hq]; exact ⟨_, by rw [World.drewN_drewN]⟩
            have D3 : BoxAt w2 (w.heap.size + 1 + 1) (.slice a n cap) (.slice (some ⟨b2, off2, none⟩) n cap') := by obtain ⟨q, hq⟩ := HQ2; rw [hq]; exact ⟨C3.c0, C3.c1, C3.f0, C3.f1⟩
            have D2 : BoxAt w2 (w.heap.size + 1) (.slice none 0 0) (.slice none 0 0) := by obtain ⟨q, hq⟩ := HQ2; rw [hq]; exact ⟨C2.c0, C2.c1, C2.f0, C2.f1⟩
            have hb2 : Below w.heap.size w w2 := by obtain ⟨q, hq⟩ := HQ2; rw [hq]; exact below_drewN hbq _
            have hc2' : ∀ i, i < n → w2.cell? ⟨b2, off2 + i, none⟩ = some (.int .i64 (nth ls i)) := by obtain ⟨q, hq⟩ := HQ2; rw [hq]; exact hc2
            clear hc2 hck hq1 hq2 hbq C2 HQ HQ2
            by_cases hr : raisedB hs k = true
            · rw [hr]
              have hk0 : 0 < k := by simp [raisedB] at hr; omega
              have he : (k : Int) - 1 = ((k - 1 : Nat) : Int) := by omega
              have c1 := hc2' (k - 1) (by omega)
              obtain ⟨_, _, _, _⟩ := id D3
              by_cases hd : nth ls k < nth ls (k - 1)
              · have HN : Hid (walkB hs ls = false) := hid (walk_no4 HL'.out (riseTo_no hlt (by simp [riseOk, hr, hd])))
                clear hr hc2'
                have B2f := (D2.set0 (z := .slice none 0 0)).set1 (z := .slice none 0 0)
                obtain ⟨_, _, _, _⟩ := id D2
                go_wp2_with fail
                obtain ⟨_, _, _, _⟩ := id B2f
                refine bodyPost_ret (v := .tuple #[.agg #[.slice none 0 0, .slice none 0 0], .bool false]) (by simp [results, Try.results59, go_sem, *]) rfl (rowsPost_no HN.out ((hb2.setCell (by simp) _).setCell (by simp) _))
              · have HR2 : Hid (riseTo hs ls (k + 1) = true) := hid (by rw [riseTo_succ, HR.out]; simp [riseOk, hd])
                clear hr hc2'
                go_wp2_with fail
                go_roundw
                case rel => exact ⟨k + 1, by omega, by go_num, HR2, HQ3⟩
                case measure => simp [intOf]; omega
            · rw [Bool.eq_false_iff.2 hr]
              have HR2 : Hid (riseTo hs ls (k + 1) = true) := hid (by rw [riseTo_succ, HR.out]; simp [riseOk, hr])
              clear hr hc2'
              go_wp2_with fail
              go_roundw
              case rel => exact ⟨k + 1, by omega, by go_num, HR2, HQ3⟩
              case measure => simp [intOf]; omega
          · obtain rfl : k = n := by omega
            have HY : Hid (walkB hs ls = true) := hid (walk_yes HL.out HL'.out HG.out HO.out HR.out)
            have C2f := (C2.set0 (z := .slice a k cap)).set1 (z := .slice b k cap')
            obtain ⟨_, _, _, _⟩ := id C2
            obtain ⟨_, _, _, _⟩ := id C3
            go_wp2_with fail
            obtain ⟨_, _, _, _⟩ := id C2f
            refine bodyPost_ret (v := .tuple #[.agg #[.slice a k cap, .slice b k cap'], .bool true]) (by simp [results, Try.results59, go_sem, *]) rfl (rowsPost_yes HY.out ((hbq.setCell (by simp) _).setCell (by simp) _))
      · rw [Bool.eq_false_iff.2 ho]
        have HN := hid (walk_no3 (hs := hs) (Bool.eq_false_iff.2 ho))
        clear ho
        obtain ⟨_, _, _, _⟩ := id B3
        have B2f := (B2.set0 (z := .slice none 0 0)).set1 (z := .slice none 0 0)
        obtain ⟨_, _, _, _⟩ := id B2
        go_wp2_with fail
        obtain ⟨_, _, _, _⟩ := id B2f
        refine bodyPost_ret (v := .tuple #[.agg #[.slice none 0 0, .slice none 0 0], .bool false]) (by simp [results, Try.results59, go_sem, *]) rfl (rowsPost_no HN.out ((hbW.setCell (by simp) _).setCell (by simp) _))
    · have HN := hid (walk_no2 (hs := hs) (ls := ls) HL.out HL'.out hnm)
      have hbe : ((n : Int) != (m : Int)) = true := by simp; omega
      go_enter Try.func59, Try.ntmps59
      go_wp2_with fail
      generalize hW : ((((w.alloc (.cells #[.slice a n cap, .slice b m cap'] 27)).alloc (.cells #[.slice none 0 0, .slice none 0 0] 64)).alloc (.cells #[.slice a n cap, .slice b m cap'] 64))) = W
      have hbW : Below w.heap.size w W := by rw [← hW]; exact (((Below.refl _ w).alloc (Nat.le_refl _) _).alloc (by simp) _).alloc (by simp; omega) _
      have hsz : W.heap.size = w.heap.size + 3 := by rw [← hW]; simp
      have B1 : BoxAt W w.heap.size (.slice a n cap) (.slice b m cap') := by rw [← hW]; exact ((boxAt_new _ _ _ _).alloc _).alloc _
      have B2 : BoxAt W (w.heap.size + 1) (.slice none 0 0) (.slice none 0 0) := by rw [← hW]; have := (boxAt_new (w.alloc (.cells #[.slice a n cap, .slice b m cap'] 27)) (.slice none 0 0) (.slice none 0 0) 64).alloc (.cells #[.slice a n cap, .slice b m cap'] 64); simpa using this
      have B3 : BoxAt W (w.heap.size + 1 + 1) (.slice a n cap) (.slice b m cap') := by rw [← hW]; have := boxAt_new ((w.alloc (.cells #[.slice a n cap, .slice b m cap'] 27)).alloc (.cells #[.slice none 0 0, .slice none 0 0] 64)) (.slice a n cap) (.slice b m cap') 64; simpa using this
      have hW1 := h.below hbW (Nat.le_refl _)
      have hW2 := h'.below hbW (Nat.le_refl _)
      clear hW
      obtain ⟨_, _, _, _⟩ := id B3
      obtain ⟨_, _, _, _⟩ := id B1
      refine (areHeights_any _ _ _ _ _ hW1).mono ?_
      rintro e w' ⟨rfl, rfl⟩
      rw [HG.out]
      have B2f := (B2.set0 (z := .slice none 0 0)).set1 (z := .slice none 0 0)
      obtain ⟨_, _, _, _⟩ := id B2
      go_wp2_with fail
      obtain ⟨_, _, _, _⟩ := id B2f
      refine bodyPost_ret (v := .tuple #[.agg #[.slice none 0 0, .slice none 0 0], .bool false]) (by simp [results, Try.results59, go_sem, *]) rfl (rowsPost_no HN.out ((hbW.setCell (by simp) _).setCell (by simp) _))
  · have HG := hid (Bool.eq_false_iff.2 hg)
    have HN := hid (walk_no1 (ls := ls) (Bool.eq_false_iff.2 hg))
    clear hg
    go_enter Try.func59, Try.ntmps59
    go_wp2_with fail
    generalize hW : ((((w.alloc (.cells #[.slice a n cap, .slice b m cap'] 27)).alloc (.cells #[.slice none 0 0, .slice none 0 0] 64)).alloc (.cells #[.slice a n cap, .slice b m cap'] 64))) = W
    have hbW : Below w.heap.size w W := by rw [← hW]; exact (((Below.refl _ w).alloc (Nat.le_refl _) _).alloc (by simp) _).alloc (by simp; omega) _
    have hsz : W.heap.size = w.heap.size + 3 := by rw [← hW]; simp
    have B1 : BoxAt W w.heap.size (.slice a n cap) (.slice b m cap') := by rw [← hW]; exact ((boxAt_new _ _ _ _).alloc _).alloc _
    have B2 : BoxAt W (w.heap.size + 1) (.slice none 0 0) (.slice none 0 0) := by rw [← hW]; have := (boxAt_new (w.alloc (.cells #[.slice a n cap, .slice b m cap'] 27)) (.slice none 0 0) (.slice none 0 0) 64).alloc (.cells #[.slice a n cap, .slice b m cap'] 64); simpa using this
    have B3 : BoxAt W (w.heap.size + 1 + 1) (.slice a n cap) (.slice b m cap') := by rw [← hW]; have := boxAt_new ((w.alloc (.cells #[.slice a n cap, .slice b m cap'] 27)).alloc (.cells #[.slice none 0 0, .slice none 0 0] 64)) (.slice a n cap) (.slice b m cap') 64; simpa using this
    have hW1 := h.below hbW (Nat.le_refl _)
    have hW2 := h'.below hbW (Nat.le_refl _)
    clear hW
    obtain ⟨_, _, _, _⟩ := id B3
    obtain ⟨_, _, _, _⟩ := id B1
    refine (areHeights_any _ _ _ _ _ hW1).mono ?_
    rintro e w' ⟨rfl, rfl⟩
    rw [HG.out]
    have B2f := (B2.set0 (z := .slice none 0 0)).set1 (z := .slice none 0 0)
    obtain ⟨_, _, _, _⟩ := id B2
    go_wp2_with fail
    obtain ⟨_, _, _, _⟩ := id B2f
    refine bodyPost_ret (v := .tuple #[.agg #[.slice none 0 0, .slice none 0 0], .bool false]) (by simp [results, Try.results59, go_sem, *]) rfl (rowsPost_no HN.out ((hbW.setCell (by simp) _).setCell (by simp) _))

set_option maxHeartbeats 400000 in
theorem implIsWalk_any (a b : Option Addr) (n cap m cap' : Nat) (hs ls : List Int) (w : World) (h : Has w a n cap hs) (h' : Has w b m cap' ls) :
    Calls Try.prog 18 #[.agg #[.slice a n cap, .slice b m cap']] w (PostBool w (walkB hs ls)) := by
  have hbW : Below w.heap.size w (w.alloc (.cells #[.slice a n cap, .slice b m cap'] 27)) := (Below.refl _ w).alloc (Nat.le_refl _) _
  go_enter Try.func18, Try.ntmps18
  go_wp2_with fail
  refine (rowsOf_any _ _ _ _ _ _ _ _ _ (h.below hbW (Nat.le_refl _)) (h'.below hbW (Nat.le_refl _))).mono ?_
  rintro e w1 ⟨⟨hy, rfl⟩ | ⟨hy, rfl⟩, hb1⟩
  · have HY := hid hy
    have hb2 := hbW.trans (hb1.mono hbW.size)
    clear hy
    go_wp2_with fail
    go_ret
    exact postBool HY.out.symm (hb2.alloc hb2.size _)
  · have HY := hid hy
    have hb2 := hbW.trans (hb1.mono hbW.size)
    clear hy
    go_wp2_with fail
    go_ret
    exact postBool HY.out.symm (hb2.alloc hb2.size _)
end Go.Proofs.Ytakadjhbomggbaa
