/- TableText: the program's function. -/
import Derived.Test.YtadcmghjhgjeeacDoorSpecTx
import Derived.Test.YtadcmghjhgjeeacDoorAtoi
import Derived.Test.YtadcmghjhgjeeacDoorLib
namespace Go.Proofs.YtadcmghjhgjeeacDoor
open Go.RowKit

/-- The one library's variable that a number's writer asks for. -/
structure TabAt (w : World) : Prop where
  tab : Lib.TabIs Tryd.prog w "internal/strconv.uint64pow10" .u64 Lib.pow10Tab
theorem TabAt.below {w w' : World} {K : Nat} (h : TabAt w) (hb : Below K w w') (hK : w.heap.size ≤ K) : TabAt w' := ⟨var_below h.tab hb hK⟩
theorem itoa_tab (n : Int) (w : World) (h : TabAt w) (h0 : -9223372036854775808 ≤ n) (h1 : n ≤ 9223372036854775807) :
    Calls Tryd.prog 19 #[.int .i64 n] w fun e w' => e = .returned (.string ⟨(Lib.itoa n).toArray⟩) ∧ Below w.heap.size w w' := by
  refine (Tryd.strconv_Itoa n h0 h1 w h.tab).mono ?_
  rintro e w' ⟨rfl, k, os, rfl⟩
  exact ⟨rfl, Lib.below_grow _ w (Nat.le_refl _) k os⟩
theorem tabAt_of {l : List (String × DataW Unit)} {W : World} (h : laidMetH Tryd.prog l W)
    (f1 : (l.filter fun x => x.1 == "internal/strconv.uint64pow10") = [("internal/strconv.uint64pow10", Lib.tabData .u64 Lib.pow10Tab)]) : TabAt W :=
  ⟨tab_of_laid (by kernel_rfl) (laid_one h f1 rfl)⟩
/-- The words of a table's text, as far as they are made. -/
def WordsT (xs : List Int) (ss : List ByteArray) (k : Nat) : Prop := ∀ i, i < k → nthS ss i = bs (celT (nth xs i))
theorem wordsT_join {xs : List Int} {ss : List ByteArray} (hl : ss.length = xs.length) (h : WordsT xs ss xs.length) : Go.Lib.join (ss.map (·.data.toList)) [32] = tabT xs := by
  unfold tabT
  congr 1
  apply List.ext_getElem (by simp [hl])
  intro i h1 h2
  have := h i (by simpa using h2)
  simp at h1 h2
  simp only [nthS, nth, List.getD_eq_getElem?_getD, h1, h2, List.getElem?_eq_getElem, Option.getD_some] at this
  simp [this, bs]
theorem wordsT_set {xs : List Int} {ss : List ByteArray} {k : Nat} (hk : k < ss.length) (h : WordsT xs ss k) : WordsT xs (ss.set k (bs (celT (nth xs k)))) (k + 1) := by
  intro i hi
  rw [nth_setS hk]
  split
  · subst_vars; rfl
  · exact h i (by omega)
theorem itoa_dig {n : Int} (h0 : 0 ≤ n) : (⟨(Lib.itoa n).toArray⟩ : ByteArray) = bs (dig n) := by
  unfold bs dig Lib.itoa
  split
  · omega
  · rfl

set_option maxRecDepth 100000 in
set_option maxHeartbeats 2000000 in
theorem implTableText_any (a : Option Addr) (n cap : Nat) (cs : List Int) (w : World) (h : Has w a n cap cs) (hlib : TabAt w) :
    Calls Tryd.prog 8 #[.agg #[.slice a n cap]] w (PostText w (tableTxt cs)) := by
  obtain rfl := h.len
  obtain ⟨W, hW, C, hbW, hsW⟩ := boxed w (.slice a cs.length cap) 28
  have hH := h.below hbW (Nat.le_refl _)
  obtain ⟨y1, y2⟩ := id C
  by_cases hg : tblB cs = true
  · have HG := hid hg
    have HR := hid (tableTxt_yes hg)
    have ht := tb_iff.1 hg
    have h12 := ht.hi
    have HD := hid ht.cells9
    clear hg
    go_enter Tryd.func8, Tryd.ntmps8
    go_wp2_with fail
    refine (implIsTable_any _ _ _ _ _ hH).mono ?_
    rintro e w1 ⟨rfl, hb1⟩
    rw [HG.out]
    have C1 := C.below hb1 (by omega)
    have hH1 := hH.below hb1 (Nat.le_refl _)
    have hbw := hbW.trans (hb1.mono (by omega))
    have s1 := hb1.size
    clear y1 y2 hH C hW
    obtain ⟨y1, y2⟩ := id C1
    go_wp2_with (at_make; refine wpList_make_intsS _ rfl _ _ rfl _ rfl rfl (by omega) ?_; intro a3 cap3 w3 hown3 hb3; have C3 := C1.below hb3 (by omega); obtain ⟨z1, z2⟩ := id C3)
    go_loopw [17] (fun i wr => ∃ (k : Nat) (ss : List ByteArray), k ≤ cs.length ∧ i = .int .i64 k ∧ OwnS wr w1.heap.size a3 cs.length cap3 ss ∧ Hid (WordsT cs ss k) ∧ Below w1.heap.size w1 wr) (fun i _ => cs.length - (intOf i).toNat)
    case atStart => exact ⟨0, _, Nat.zero_le _, rfl, hown3, hid (fun i hi => by omega), hb3⟩
    case round =>
      obtain ⟨k, ss, hk, rfl, hown, hwd, hb⟩ := hrel
      have hsr := hb.size
      have hbr := hbw.trans (hb.mono (by omega))
      by_cases hlt : k < cs.length
      · obtain ⟨b1, off1, rfl, hbb1, hc1⟩ := (hH1.below hb (Nat.le_refl _)).2.2.2.2 (by omega)
        obtain ⟨g, rfl, hg1, hg2, hg3, hg4⟩ := hown.opened (by omega)
        have hck := hc1 k hlt
        have hgk := hg3 k hlt
        have hgf := hg4 k
        obtain ⟨hv0, hv1⟩ := HD.out k hlt
        have HW := hid (wordsT_set (by rw [hown.len]; exact hlt) hwd.out)
        clear hc1 hg3 hg4 hwd
        by_cases hf : nth cs k = -1
        · have hb1' : (nth cs k == -1) = true := by simp [hf]
          have HC := hid (celT_free hf)
          clear hf
          go_wp2_with fail
          go_roundw
          case rel =>
            obtain ⟨t1, t2⟩ := hown.set k (bs (celT (nth cs k)))
            rw [HC.out] at t1
            have t3 := HW.out
            rw [HC.out] at t3
            exact ⟨k + 1, _, by omega, by go_num, t1, hid t3, hb.setCell hg1 _⟩
          case measure => simp [intOf]; omega
        · have hb1' : (nth cs k == -1) = false := by simp [hf]
          have HC := hid (celT_key hf)
          have hv2 : 0 ≤ nth cs k := by omega
          have HI := hid (itoa_dig hv2)
          have hLr := hlib.below hbr (Nat.le_refl _)
          clear hf
          go_wp2_with (go_at_call 19; refine (itoa_tab (nth cs k) _ hLr (by omega) (by omega)).mono ?_; rw [HI.out]; rintro e w5 ⟨rfl, hb5⟩; have own5 := hown.below hb5 (Nat.le_refl _); obtain ⟨g', e', -, -, hg5, hg6⟩ := own5.opened (by omega); cases e'; have hk5 := hg5 k hlt; have hf5 := hg6 k; clear hg5 hg6)
          go_roundw
          case rel =>
            obtain ⟨t1, t2⟩ := own5.set k (bs (celT (nth cs k)))
            rw [HC.out] at t1
            have t3 := HW.out
            rw [HC.out] at t3
            exact ⟨k + 1, _, by omega, by go_num, t1, hid t3, (hb.trans (hb5.mono hsr)).setCell hg1 _⟩
          case measure => simp [intOf]; omega
      · obtain rfl : k = cs.length := by omega
        have HJ : Hid (Go.Lib.join (ss.map (·.data.toList)) [32] = tabT cs) := hid (wordsT_join hown.len hwd.out)
        have hz : (tabT cs).length ≤ 4 * cs.length := by
          have := tabT_len HD.out cs.length (Nat.le_refl _)
          rw [List.take_length, bs_size] at this
          exact this
        clear hwd
        go_wp2_with fail
        refine (join_any _ _ _ ss ⟨#[32]⟩ _ hown.has (by show (Go.Lib.join _ [32]).length ≤ _; rw [HJ.out]; omega)).mono ?_
        rintro e w4 ⟨rfl, hb4⟩
        rw [show (⟨#[32]⟩ : ByteArray).data.toList = [32] from rfl, HJ.out]
        go_wp2_with fail
        go_ret2
        exact postText HR.out (hbr.trans (hb4.mono hbr.size))
  · have HG := hid (Bool.eq_false_iff.2 hg)
    have HR := hid (tableTxt_no (Bool.eq_false_iff.2 hg))
    clear hg
    go_enter Tryd.func8, Tryd.ntmps8
    go_wp2_with (go_at_call 18; refine (implIsTable_any _ _ _ _ _ hH).mono ?_; rintro e w1 ⟨rfl, hb1⟩; rw [HG.out])
    go_ret2
    exact postText_no HR.out (hbW.trans (hb1.mono (by omega)))
end Go.Proofs.YtadcmghjhgjeeacDoor
