/- Robin hood tables of keys, as the model makes them. -/
import Derived.Test.YtbmghpgnakbnjabImplRo
namespace Go.Proofs.Ytbmghpgnakbnjab
open Go.RowKit

set_option maxRecDepth 100000 in
set_option maxHeartbeats 4000000 in
theorem prRobin_any (a : Option Addr) (m cap p : Nat) (ks : List Int) (w : World) (h : Has w a m cap ks) (hk : keysB p ks = true) :
    Calls Try.prog 53 #[.int .i64 (p : Int), .slice a m cap] w fun e w' => ∃ a' cap', e = .returned (.agg #[.slice a' p cap']) ∧ Own w' w.heap.size a' p cap' (robL p ks) ∧ Below w.heap.size w w' := by
  obtain rfl := h.len
  have hk2 := keysB_iff.1 hk
  have HK := hid hk
  have hlt := hk2.2.1
  have hp := hk2.1
  have HB := hid hk2.2.2.1
  clear hk hk2
  obtain ⟨W, hW, C, hbW, hsW⟩ := boxed w (.slice none 0 0) 28
  have hH := h.below hbW (Nat.le_refl _)
  have hle := h.le
  go_enter Try.func53, Try.ntmps53
  go_wp2_with fail
  refine (prEmpty_any p _ (by omega)).mono ?_
  rintro e w1 ⟨a1, cap1, rfl, own, st⟩
  have s1 := st.size
  have D := cellAt_new w1 (.slice none 0 0) 28
  obtain ⟨V, hV, DV, hbV, hsV⟩ : ∃ V, (w1.alloc (.cells #[.slice none 0 0] 28)).setCell ⟨w1.heap.size, 0, none⟩ (.slice a1 p cap1) = V ∧ CellAt V w1.heap.size (.slice a1 p cap1) ∧ Below w1.heap.size w1 V ∧ V.heap.size = w1.heap.size + 1 :=
    ⟨_, rfl, D.set, ((Below.refl _ w1).alloc (Nat.le_refl _) _).setCell (Nat.le_refl _) _, by simp⟩
  have C2 := (C.below st (by omega)).below hbV (by omega)
  have hH2 := (hH.below st (Nat.le_refl _)).below hbV (Nat.le_refl _)
  have own2 := (own.below hbV (Nat.le_refl _)).mono (B' := w.heap.size + 1) (by omega)
  have hb2 := (hbW.trans (st.mono (by omega))).trans (hbV.mono (by omega))
  have hlA := own.lt
  obtain ⟨y1, y2⟩ := id D
  clear st hbV hbW hW C own hH
  go_wp2_with fail
  clear y1 y2 D hV
  go_loopw [17] (fun i wr => ∃ k : Nat, i = .int .i64 k ∧ k ≤ ks.length ∧ Own wr (w.heap.size + 1) a1 p cap1 (robL p (ks.take k)) ∧ Has wr a ks.length cap ks ∧ CellAt wr w1.heap.size (.slice a1 p cap1) ∧ CellAt wr w.heap.size (.slice none 0 0) ∧ Below w.heap.size w wr) (fun i _ => ks.length - (intOf i).toNat)
  case atStart => exact ⟨0, rfl, by omega, own2, hH2, DV, C2, hb2⟩
  case round =>
    clear own2 hH2 DV C2 hb2
    obtain ⟨k, rfl, hk, own, hH, D, C, hb⟩ := hrel
    have hbs := hb.size
    have hDl := D.lt
    obtain ⟨y1, y2⟩ := id D
    by_cases hlt2 : k < ks.length
    · obtain ⟨b, off, rfl, hbb, hcc⟩ := hH.2.2.2.2 (by omega)
      have hck := hcc k hlt2
      clear hcc
      have h0 : 0 ≤ nth ks k := (HB.out _ (nth_mem hlt2)).1
      obtain ⟨q, hq⟩ := (pt_rob (n := p) HK.out k hk).free (by rw [List.length_take]; omega)
      have HQ := hid hq
      have HT := hid (robL_succ (n := p) hlt2)
      clear hq
      have hPt := pt_rob (n := p) HK.out k hk
      have hlen0 := hPt.len
      have hbd : ∀ i, i < p → -1 ≤ nth (robL p (ks.take k)) i := fun i hi => by
        rcases hPt.from_ _ (nth_mem (show i < (robL p (ks.take k)).length by omega)) with e | e
        · omega
        · have := HB.out _ (List.mem_of_mem_take e); omega
      have HRB := hid (Rb.start (n := p) hlen0 HQ.out h0 hbd)
      have hz : ¬ ((p : Int) = 0) := by omega
      have hot : (nth ks k).tmod (p : Int) = nth ks k % (p : Int) := Int.tmod_eq_emod_of_nonneg h0
      have HOE := hid (own_emod (n := p) h0)
      clear hPt hlen0 hbd
      obtain ⟨wo, hwo⟩ : ∃ wo : World, wo = wr := ⟨_, rfl⟩
      subst hwo
      go_wp2_with fail
      rw [HOE.out]
      go_loopw [8, 9] (fun s t wr => ∃ (cs' : List Int) (hand : Int) (c : Nat), s = .int .i64 hand ∧ t = .int .i64 (c : Int) ∧ Hid (Rb p q (robIn (robL p (ks.take k)) (nth ks k)) cs' hand c) ∧ Own wr (w.heap.size + 1) a1 p cap1 cs' ∧ CellAt wr w1.heap.size (.slice a1 p cap1) ∧ CellAt wr w.heap.size (.slice none 0 0) ∧ Below w.heap.size w wr) (fun _ t _ => wayN p (intOf t).toNat q)
      case atStart => exact ⟨_, _, _, rfl, rfl, HRB, own, D, C, hb⟩
      case round =>
        clear own D C hb hbs hDl y1 y2 hH hck
        obtain ⟨cs', hand, c, rfl, rfl, HRB, own, D, C, hb⟩ := hrel
        have hlen := HRB.out.len
        have hc := HRB.out.lt
        have hh0 := HRB.out.h0
        have hbs := hb.size
        obtain ⟨y1, y2⟩ := id D
        obtain ⟨g, hag, hg1, hg2, hcc, hff⟩ := own.opened (by omega)
        have hbl : g < w1.heap.size := hlA _ hag
        subst hag
        have hcell := hcc c hc
        have hfr := hff c
        clear hcc hff
        have hcI : (c : Int) < (p : Int) := by omega
        have hcI0 : (0 : Int) ≤ (c : Int) := by omega
        by_cases he : nth cs' c = -1
        · have hb1 : (nth cs' c != -1) = false := by simp [he]
          have hset := HRB.out.stop he
          have own2 := (own.set c hand).1
          rw [hset, ← HT.out] at own2
          have D2 := D.setOther' (g' := g) (i := c) (z := .int .i64 hand) (by omega)
          have C2 := C.setOther' (g' := g) (i := c) (z := .int .i64 hand) (by omega)
          have hb2 := hb.setCell (p := ⟨g, c, none⟩) (by show w.heap.size ≤ g; omega) (.int .i64 hand)
          clear he hset hlen
          go_wp2_with fail
          go_roundw
          case rel => exact ⟨k + 1, by go_num, by omega, own2, h.beyond hb2, D2, C2, hb2⟩
          case measure => simp [intOf]; omega
        · have hb1 : (nth cs' c != -1) = true := by simp [he]
          have hy : 0 ≤ nth cs' c := by have := HRB.out.bd c hc; omega
          have hst := HRB.out.step he
          have HE := hid he
          obtain ⟨x, hx⟩ : ∃ x, costN p hand c = x := ⟨_, rfl⟩
          obtain ⟨y, hy2⟩ : ∃ y, costN p (nth cs' c) c = y := ⟨_, rfl⟩
          have HX := hid hx
          have HY := hid hy2
          have hbi := before_iff (n := p) (a := hand) (b := nth cs' c) (c := c)
          rw [hx, hy2] at hbi
          have HBI := hid hbi
          clear he hlen hx hy2 hbi
          by_cases hbf : before p hand (nth cs' c) c = true
          · have HS := hid (HRB.out.swap HE.out hbf)
            have own2 := (own.set c hand).1
            have D2 := D.setOther' (g' := g) (i := c) (z := .int .i64 hand) (by omega)
            have C2 := C.setOther' (g' := g) (i := c) (z := .int .i64 hand) (by omega)
            have hb2 := hb.setCell (p := ⟨g, c, none⟩) (by show w.heap.size ≤ g; omega) (.int .i64 hand)
            have hcmp := HBI.out.1 hbf
            have HC := hid hcmp
            clear hbf hcmp
            by_cases hgt : (y : Int) < (x : Int)
            · go_wp2_with (first | (go_at_call 66; refine (prCost_any _ c p _ (by first | exact hh0 | exact hy) (by omega) (by omega) (by omega)).mono ?_; (first | rw [HX.out] | rw [HY.out]); rintro e w' ⟨rfl, rfl⟩))
              go_roundw
              case rel => exact ⟨_, _, _, rfl, rfl, HS, own2, D2, C2, hb2⟩
              case measure => simp only [intOf, Int.toNat_natCast, next_toNat]; omega
            · have h2 : x = y ∧ nth cs' c < hand := by rcases HC.out with h | h; omega; exact h
              obtain ⟨rfl, h3⟩ := h2
              go_wp2_with (first | (go_at_call 66; refine (prCost_any _ c p _ (by first | exact hh0 | exact hy) (by omega) (by omega) (by omega)).mono ?_; (first | rw [HX.out] | rw [HY.out]); rintro e w' ⟨rfl, rfl⟩))
              go_roundw
              case rel => exact ⟨_, _, _, rfl, rfl, HS, own2, D2, C2, hb2⟩
              case measure => simp only [intOf, Int.toNat_natCast, next_toNat]; omega
          · have HS := hid (HRB.out.keep HE.out (Bool.eq_false_iff.2 hbf))
            have HC : Hid (¬ (y < x ∨ x = y ∧ nth cs' c < hand)) := hid (fun hh => hbf (HBI.out.2 hh))
            have hgt : ¬ ((y : Int) < (x : Int)) := fun hh => HC.out (.inl (by omega))
            clear hbf
            by_cases hxy : x = y
            · obtain rfl := hxy
              have h3 : ¬ nth cs' c < hand := fun hh => HC.out (.inr ⟨rfl, hh⟩)
              go_wp2_with (first | (go_at_call 66; refine (prCost_any _ c p _ (by first | exact hh0 | exact hy) (by omega) (by omega) (by omega)).mono ?_; (first | rw [HX.out] | rw [HY.out]); rintro e w' ⟨rfl, rfl⟩))
              go_roundw
              case rel => exact ⟨_, _, _, rfl, rfl, HS, own, D, C, hb⟩
              case measure => simp only [intOf, Int.toNat_natCast, next_toNat]; omega
            · have h4 : ((x : Int) == (y : Int)) = false := by simp; omega
              go_wp2_with (first | (go_at_call 66; refine (prCost_any _ c p _ (by first | exact hh0 | exact hy) (by omega) (by omega) (by omega)).mono ?_; (first | rw [HX.out] | rw [HY.out]); rintro e w' ⟨rfl, rfl⟩))
              go_roundw
              case rel => exact ⟨_, _, _, rfl, rfl, HS, own, D, C, hb⟩
              case measure => simp only [intOf, Int.toNat_natCast, next_toNat]; omega
    · obtain rfl : k = ks.length := by omega
      rw [List.take_length] at own
      obtain ⟨x1, x2⟩ := id C
      go_wp2_with fail
      refine bodyPost_ret (v := .agg #[.slice a1 p cap1]) (results_tab1 rfl _ _ _ _ rfl (C.set (z := .slice a1 p cap1))) rfl ⟨_, _, rfl, (own.cellSet (by omega) _).mono (by omega), hb.setCell (Nat.le_refl _) _⟩
end Go.Proofs.Ytbmghpgnakbnjab
