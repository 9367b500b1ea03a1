/- Chapter 4: labels of heights, by their contracts. -/
import Derived.Test.YtakadjhbomggbaaWkQ
import Derived.Test.YtakadjhbomggbaaSpecTw
import Derived.Test.YtakadjhbomggbaaSpecO
import Derived.Test.YtakadjhbomggbaaRows2
import Derived.Test.YtakadjhbomggbaaSrt
namespace Go.Proofs.Ytakadjhbomggbaa
open Go.RowKit

theorem run_up2 {hs : List Int} {k : Nat} (h0 : 0 < k) (h : nth hs k = nth hs (k - 1) + 1) : runAt hs (k + 1) = runAt hs k + 1 := by simp [runAt, raisedB, h, h0]
theorem run_flat2 {hs : List Int} {k : Nat} (_h0 : 0 < k) (h : ¬ nth hs k = nth hs (k - 1) + 1) : runAt hs (k + 1) = 1 := by simp [runAt, raisedB, h]

/-- A walk and a bool. -/
def PostWalk (w : World) (r : (List Int × List Int) × Bool) (e : Ending) (w' : World) : Prop :=
  ∃ a n c b m d, e = .returned (.tuple #[.agg #[.slice a n c, .slice b m d], .bool r.2]) ∧ Own w' w.heap.size a n c r.1.1 ∧ Own w' w.heap.size b m d r.1.2 ∧ Apart2 a b ∧ Below w.heap.size w w'
theorem postWalk {w w' : World} {r : (List Int × List Int) × Bool} {xs ys : List Int} {ok : Bool} {a b : Option Addr} {n c m d : Nat} (hr : r = ((xs, ys), ok)) (h : Own w' w.heap.size a n c xs) (h' : Own w' w.heap.size b m d ys) (hap : Apart2 a b) (hb : Below w.heap.size w w') :
    PostWalk w r (.returned (.tuple #[.agg #[.slice a n c, .slice b m d], .bool ok])) w' := by subst hr; exact ⟨_, _, _, _, _, _, rfl, h, h', hap, hb⟩
theorem postWalk_no {w w' : World} {r : (List Int × List Int) × Bool} (hr : r = (([], []), false)) (hb : Below w.heap.size w w') : PostWalk w r (.returned (.tuple #[.agg #[.slice none 0 0, .slice none 0 0], .bool false])) w' :=
  postWalk hr (Own.nil _ _) (Own.nil _ _) (apart_none _) hb

/-- The first k numbers are their indices. -/
def IxAt (ys : List Int) (k : Nat) : Prop := ∀ i, i < k → nth ys i = (i : Int)
theorem ix_all {ys : List Int} {n : Nat} (h : IxAt ys n) (hl : ys.length = n) : ys = upto n := ext_nth (by rw [hl, length_upto]) fun i hi => by rw [h i (by omega), nth_upto (by omega)]
theorem ix_step {ys : List Int} {k n : Nat} (h : IxAt ys k) (hl : ys.length = n) (hk : k < n) : IxAt (ys.set k (k : Int)) (k + 1) := fun i hi => by
  rw [nth_set (by omega)]
  split
  · subst_vars; rfl
  · exact h i (by omega)
set_option maxHeartbeats 1000000 in
theorem indicesOf_any (n : Nat) (w : World) (hn : n ≤ 1000) :
    Calls Try.prog 68 #[.int .i64 n] w fun e w' => ∃ a' cap', e = .returned (.slice a' n cap') ∧ Own w' w.heap.size a' n cap' (upto n) ∧ Below w.heap.size w w' := by
  go_enter Try.func68, Try.ntmps68
  go_wp2_with (at_make; refine wpList_make_ints _ rfl _ _ rfl n rfl rfl (by omega) ?_; intro a' cap' w1 hown1 hb1)
  go_loopw [9] (fun i wr => ∃ (k : Nat) (ys : List Int), k ≤ n ∧ i = .int .i64 k ∧ Own wr w.heap.size a' n cap' ys ∧ Hid (IxAt ys k) ∧ Below w.heap.size w wr) (fun i _ => n - (intOf i).toNat)
  case atStart => exact ⟨0, _, Nat.zero_le _, rfl, hown1, hid (fun i hi => by omega), hb1⟩
  case round =>
    obtain ⟨k, ys, hk, rfl, hown, HS, hb⟩ := hrel
    clear hown1 hb1
    by_cases hlt : k < n
    · obtain ⟨g, rfl, hg1, hg2, hg3, hg4⟩ := hown.opened (by omega)
      have hgx := hg3 k hlt
      have hgf := hg4 k
      obtain ⟨s1, s2⟩ := hown.set k (k : Int)
      have HS2 := hid (ix_step HS.out hown.len hlt)
      have hb2 := hb.setCell (p := ⟨g, k, none⟩) hg1 (.int .i64 (k : Int))
      clear hg3 hg4
      go_wp2_with fail
      go_roundw
      case rel => exact ⟨k + 1, _, by omega, by go_num, s1, HS2, hb2⟩
      case measure => simp [intOf]; omega
    · obtain rfl : k = n := by omega
      have HE := hid (ix_all HS.out hown.len)
      go_wp2_with fail
      go_ret
      exact ⟨_, _, rfl, by rw [← HE.out]; exact hown, hb⟩

set_option maxHeartbeats 1000000 in
theorem implFirstW_any (a : Option Addr) (n cap : Nat) (hs : List Int) (w : World) (h : Has w a n cap hs) :
    Calls Try.prog 37 #[.slice a n cap] w (PostWalk w (firstOfW hs)) := by
  have HL := hid h.len
  have hle := h.le
  have hbW : Below w.heap.size w (w.alloc (.cells #[.slice none 0 0, .slice none 0 0] 27)) := (Below.refl _ w).alloc (Nat.le_refl _) _
  have B1 := boxAt_new w (.slice none 0 0) (.slice none 0 0) 27
  by_cases hg : hgtB hs = true
  · have HR : Hid (firstOfW hs = ((hs, upto n), true)) := hid (by simp only [firstOfW]; rw [if_pos hg, HL.out])
    have HG := hid hg
    obtain ⟨h8, hbd⟩ := hgt_of hg h.len
    clear hg hbd
    go_enter Try.func37, Try.ntmps37
    go_wp2_with fail
    generalize w.alloc (.cells #[.slice none 0 0, .slice none 0 0] 27) = W at *
    refine (implAreHeights_any _ _ _ _ _ (h.below hbW (Nat.le_refl _))).mono ?_
    rintro e w1 ⟨rfl, st⟩
    rw [HG.out]
    replace B1 := B1.below st (boxAt_lt B1)
    have hb1 := hbW.trans (st.mono hbW.size)
    clear st
    have B1w := B1
    go_wp2_with fail
    refine (clone_any _ _ _ _ _ (h.below hb1 (Nat.le_refl _))).mono ?_
    rintro e w2 ⟨a2, c2, rfl, own2, st⟩
    replace B1 := B1.below st (boxAt_lt B1)
    have hb2 := hb1.trans (st.mono hb1.size)
    have hs1 := hb1.size
    have hlt1 := boxAt_lt B1w
    have hs2 := st.size
    clear st
    go_wp2_with fail
    refine (indicesOf_any n _ (by omega)).mono ?_
    rintro e w3 ⟨a3, c3, rfl, own3, st⟩
    have ap := apart_lt own2.lt own3.ge
    have hs3 := st.size
    have own2' := own2.below st (Nat.le_refl _)
    have hb3 := hb2.trans (st.mono hb2.size)
    replace B1 := B1.below st (boxAt_lt B1)
    have hge2 := own2'.ge.mono (show w.heap.size + 1 ≤ w1.heap.size by omega)
    have hge3 := own3.ge.mono (show w.heap.size + 1 ≤ w2.heap.size by omega)
    have B2 := (B1.set0 (z := .slice a2 n c2)).set1 (z := .slice a3 n c3)
    have f1 := ((own2'.mono (show w.heap.size ≤ w1.heap.size by omega)).setBelow' (g := w.heap.size) (i := 0) hge2 (.slice a2 n c2)).setBelow' (g := w.heap.size) (i := 1) hge2 (.slice a3 n c3)
    have f2 := ((own3.mono (show w.heap.size ≤ w2.heap.size by omega)).setBelow' (g := w.heap.size) (i := 0) hge3 (.slice a2 n c2)).setBelow' (g := w.heap.size) (i := 1) hge3 (.slice a3 n c3)
    have hb4 := (hb3.setCell (p := ⟨w.heap.size, 0, none⟩) (by simp) (.slice a2 n c2)).setCell (p := ⟨w.heap.size, 1, none⟩) (by simp) (.slice a3 n c3)
    obtain ⟨x1, x2, x3, x4⟩ := id B1
    go_wp2_with fail
    obtain ⟨y1, y2, y3, y4⟩ := id B2
    refine bodyPost_ret (v := .tuple #[.agg #[.slice a2 n c2, .slice a3 n c3], .bool true]) (by simp [results, Try.results37, go_sem, *]) rfl (postWalk HR.out f1 f2 ap hb4)
  · have HR : Hid (firstOfW hs = (([], []), false)) := hid (by simp only [firstOfW]; rw [if_neg hg])
    have HG := hid (Bool.eq_false_iff.2 hg)
    clear hg
    go_enter Try.func37, Try.ntmps37
    go_wp2_with fail
    generalize w.alloc (.cells #[.slice none 0 0, .slice none 0 0] 27) = W at *
    refine (implAreHeights_any _ _ _ _ _ (h.below hbW (Nat.le_refl _))).mono ?_
    rintro e w1 ⟨rfl, st⟩
    rw [HG.out]
    replace B1 := B1.below st (boxAt_lt B1)
    have hb1 := hbW.trans (st.mono hbW.size)
    have B2 := (B1.set0 (z := .slice none 0 0)).set1 (z := .slice none 0 0)
    obtain ⟨x1, x2, x3, x4⟩ := id B1
    clear st
    go_wp2_with fail
    obtain ⟨y1, y2, y3, y4⟩ := id B2
    refine bodyPost_ret (v := .tuple #[.agg #[.slice none 0 0, .slice none 0 0], .bool false]) (by simp [results, Try.results37, go_sem, *]) rfl (postWalk_no HR.out ((hb1.setCell (by simp) _).setCell (by simp) _))

theorem Own.setNe {w : World} {B g i n cap : Nat} {a : Option Addr} {xs : List Int} (h : Own w B a n cap xs) (hg : ∀ p, a = some p → p.block ≠ g) (u : Value) : Own (w.setCell ⟨g, i, none⟩ u) B a n cap xs := by
  refine ⟨?_, h.2⟩
  have h1 := h.1
  refine ⟨by simpa using h1.1, ?_⟩
  rcases h1.2 with h2 | ⟨k, cap', cur, hv, hk, hh, r⟩
  · exact .inl h2
  · refine .inr ⟨k, cap', cur, hv, hk, ?_, r⟩
    simp at hv
    have := hg _ hv.1
    rw [Below.heap_setCell _ _ _ _ (by simpa using this)]
    exact hh
theorem BlkLt.mono {a : Option Addr} {K K' : Nat} (h : BlkLt a K) (hK : K ≤ K') : BlkLt a K' := fun p hp => Nat.lt_of_lt_of_le (h p hp) hK
theorem BlkLt.ne {a : Option Addr} {K g : Nat} (h : BlkLt a K) (hg : K ≤ g) : ∀ p, a = some p → p.block ≠ g := fun p hp e => by have := h p hp; omega
theorem BlkGe.ne {a : Option Addr} {K g : Nat} (h : BlkGe a K) (hg : g < K) : ∀ p, a = some p → p.block ≠ g := fun p hp e => by have := h p hp; omega

set_option maxHeartbeats 2000000 in
theorem specFirstW_any (a : Option Addr) (n cap : Nat) (hs : List Int) (w : World) (h : Has w a n cap hs) :
    Calls Try.prog 38 #[.slice a n cap] w (PostWalk w (firstOfW hs)) := by
  have HL := hid h.len
  have hle := h.le
  have hbW : Below w.heap.size w (w.alloc (.cells #[.slice none 0 0, .slice none 0 0] 27)) := (Below.refl _ w).alloc (Nat.le_refl _) _
  have B1 := boxAt_new w (.slice none 0 0) (.slice none 0 0) 27
  by_cases hg : hgtB hs = true
  · have HR : Hid (firstOfW hs = ((hs, upto n), true)) := hid (by simp only [firstOfW]; rw [if_pos hg, HL.out])
    have HG := hid hg
    obtain ⟨h8, hbd⟩ := hgt_of hg h.len
    clear hg hbd
    go_enter Try.func38, Try.ntmps38
    go_wp2_with fail
    generalize w.alloc (.cells #[.slice none 0 0, .slice none 0 0] 27) = W at *
    refine (waHeights_any _ _ _ _ _ (h.below hbW (Nat.le_refl _))).mono ?_
    rintro e w' ⟨rfl, rfl⟩
    rw [HG.out]
    go_wp2_with fail
    refine (l1Own_any _ _ _ _ _ (h.below hbW (Nat.le_refl _))).mono ?_
    rintro e w2 ⟨a2, c2, rfl, own2, st⟩
    have hltW := boxAt_lt B1
    replace B1 := B1.below st hltW
    have hb2 := hbW.trans (st.mono hbW.size)
    have hs2 := st.size
    have lt2 := own2.lt
    clear st
    have B2 := boxAt_new w2 (.slice a2 n c2) (.slice none 0 0) 27
    have st : Below w2.heap.size w2 (w2.alloc (.cells #[.slice a2 n c2, .slice none 0 0] 27)) := (Below.refl _ _).alloc (Nat.le_refl _) _
    have own2' := own2.below st (Nat.le_refl _)
    have B1' := B1.below st (boxAt_lt B1)
    have hb3 := hb2.trans (st.mono hb2.size)
    clear st own2
    go_wp2_with fail
    go_loopw [15] (fun i wr => ∃ (k : Nat) (a' : Option Addr) (c' : Nat), k ≤ n ∧ i = .int .i64 k ∧ Own wr W.heap.size a2 n c2 hs ∧ Own wr (w2.heap.size + 1) a' k c' (upto k) ∧ BoxAt wr w.heap.size (.slice none 0 0) (.slice none 0 0) ∧ BoxAt wr w2.heap.size (.slice a2 n c2) (.slice a' k c') ∧ Below w.heap.size w wr) (fun i _ => n - (intOf i).toNat)
    case atStart => exact ⟨0, none, 0, Nat.zero_le _, rfl, own2', Own.nil _ _, B1', B2, hb3⟩
    case round =>
      obtain ⟨k, a', c', hk, rfl, oh, ol, X1, X2, hb⟩ := hrel
      clear own2' B1 B1' B2 hb3
      by_cases hlt : k < n
      · have HU := hid (upto_succ k)
        have hsz := boxAt_lt X2
        obtain ⟨x1, x2, x3, x4⟩ := id X2
        go_wp2_with (at_builtin; refine wpList_append_int _ rfl _ _ rfl (w2.heap.size + 1) _ _ _ _ _ rfl rfl ol (by omega) hsz ?_; intro a3 c3 w3 ol3 st; have X3 := X2.below st (Nat.lt_succ_self _); obtain ⟨z1, z2, z3, z4⟩ := id X3)
        have oh3 := (oh.belowB st (lt2.mono (Nat.le_succ _))).setNe (g := w2.heap.size) (i := 1) (lt2.ne (Nat.le_refl _)) (.slice a3 (k + 1) c3)
        have ol4 := ol3.setNe (g := w2.heap.size) (i := 1) (ol3.ge.ne (Nat.lt_succ_self _)) (.slice a3 (k + 1) c3)
        have X1' := (X1.below st (by omega)).apart (g' := w2.heap.size) (i := 1) (z := .slice a3 (k + 1) c3) (by omega)
        have X2' := X3.set1 (z := .slice a3 (k + 1) c3)
        have hb4 := (hb.trans (st.mono (by omega))).setCell (p := ⟨w2.heap.size, 1, none⟩) (by simp; omega) (.slice a3 (k + 1) c3)
        go_roundw
        case rel => exact ⟨k + 1, a3, c3, by omega, by go_num, oh3, by rw [HU.out]; exact ol4, X1', X2', hb4⟩
        case measure => simp [intOf]; omega
      · obtain rfl : k = n := by omega
        have ap := apart_lt lt2 (ol.ge.mono (Nat.le_succ _))
        have f1 := ((oh.mono (show w.heap.size ≤ W.heap.size by omega)).setNe (g := w.heap.size) (i := 0) (oh.ge.ne (by omega)) (.slice a2 k c2)).setNe (g := w.heap.size) (i := 1) (oh.ge.ne (by omega)) (.slice a' k c')
        have f2 := ((ol.mono (show w.heap.size ≤ w2.heap.size + 1 by omega)).setNe (g := w.heap.size) (i := 0) (ol.ge.ne (by omega)) (.slice a2 k c2)).setNe (g := w.heap.size) (i := 1) (ol.ge.ne (by omega)) (.slice a' k c')
        have B2f := (X1.set0 (z := .slice a2 k c2)).set1 (z := .slice a' k c')
        have hb4 := (hb.setCell (p := ⟨w.heap.size, 0, none⟩) (by simp) (.slice a2 k c2)).setCell (p := ⟨w.heap.size, 1, none⟩) (by simp) (.slice a' k c')
        obtain ⟨x1, x2, x3, x4⟩ := id X2
        obtain ⟨t1, t2, t3, t4⟩ := id X1
        go_wp2_with fail
        obtain ⟨y1, y2, y3, y4⟩ := id B2f
        refine bodyPost_ret (v := .tuple #[.agg #[.slice a2 k c2, .slice a' k c'], .bool true]) (by simp [results, Try.results38, go_sem, *]) rfl (postWalk HR.out f1 f2 ap hb4)
  · have HR : Hid (firstOfW hs = (([], []), false)) := hid (by simp only [firstOfW]; rw [if_neg hg])
    have HG := hid (Bool.eq_false_iff.2 hg)
    clear hg
    go_enter Try.func38, Try.ntmps38
    go_wp2_with fail
    generalize w.alloc (.cells #[.slice none 0 0, .slice none 0 0] 27) = W at *
    refine (waHeights_any _ _ _ _ _ (h.below hbW (Nat.le_refl _))).mono ?_
    rintro e w' ⟨rfl, rfl⟩
    rw [HG.out]
    have B2 := (B1.set0 (z := .slice none 0 0)).set1 (z := .slice none 0 0)
    obtain ⟨x1, x2, x3, x4⟩ := id B1
    go_wp2_with fail
    obtain ⟨y1, y2, y3, y4⟩ := id B2
    refine bodyPost_ret (v := .tuple #[.agg #[.slice none 0 0, .slice none 0 0], .bool false]) (by simp [results, Try.results38, go_sem, *]) rfl (postWalk_no HR.out ((hbW.setCell (by simp) _).setCell (by simp) _))
end Go.Proofs.Ytakadjhbomggbaa
