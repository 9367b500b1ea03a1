/- The next list under bounds, and the next one that does not fall: the program's functions, by their contracts. -/
import Derived.Test.YtakadjhbomggbaaGreatUnd
import Derived.Test.YtakadjhbomggbaaGreatCopy
import Derived.Test.YtakadjhbomggbaaGreatSpecS
import Derived.BigQuiet
namespace Go.Proofs.YtakadjhbomggbaaGreat
open Go.RowKit

theorem over0_candU {xs : List Int} {n c : Nat} (hn : xs.length = n) (hc : c < n) : (over0 (List.replicate n 0) (xs.take (c + 1))).set c (nth xs c + 1) = cand xs c := by
  refine ext_nth (by rw [List.length_set, length_over0, length_cand (by omega)]; simp [hn]) fun i hi => ?_
  rw [List.length_set, length_over0, List.length_replicate] at hi
  rw [nth_set (by rw [length_over0, List.length_replicate]; omega), over0_nth (by simp; omega)]
  have hl : (xs.take c).length = c := by simp; omega
  unfold cand
  by_cases e : c = i
  · subst e
    rw [if_pos rfl]
    simp only [nth, List.getD_eq_getElem?_getD]
    rw [List.getElem?_append_right (by omega)]
    simp [hl]
  · rw [if_neg e]
    by_cases h : i < c
    · rw [if_pos (by simp; omega), nth_take (by omega), nth_append_left (by omega), nth_take h]
    · rw [if_neg (by simp; omega)]
      simp only [nth, List.getD_eq_getElem?_getD]
      rw [List.getElem?_append_right (by omega), hl]
      obtain ⟨d, hd⟩ : ∃ d, i - c = d + 1 := ⟨i - c - 1, by omega⟩
      rw [hd]
      simp only [List.getElem?_cons_succ, List.getElem?_replicate]
      split <;> split <;> rfl

set_option maxRecDepth 100000 in
set_option maxHeartbeats 2000000 in
theorem nextU_any (a b : Option Addr) (n cap capb : Nat) (xs bs : List Int) (w : World) (h : Has w a n cap xs) (h' : Has w b n capb bs) (h8 : n ≤ 8) (hx : ∀ i, i < n → 0 ≤ nth xs i ∧ nth xs i ≤ 13) :
    Calls Tryz.prog 64 #[.slice a n cap, .slice b n capb] w (PostInts w (nextU bs xs n)) := by
  have HLEN := hid h.len
  have HX := hid hx
  have hcap := h.2.1
  have hmx : cap ≤ maxLen := h.2.2.1
  have hcapb := h'.2.1
  clear hx
  go_enter Tryz.func64, Tryz.ntmps64
  go_wp2_with fail
  go_loopw [6] (fun i wr => ∃ c : Nat, c ≤ n ∧ i = .int .i64 ((c : Int) - 1) ∧ Hid (nextU bs xs n = nextU bs xs c) ∧ Below w.heap.size w wr) (fun i _ => (intOf i + 1).toNat)
  case atStart => exact ⟨n, Nat.le_refl _, rfl, hid rfl, Below.refl _ _⟩
  case round =>
    obtain ⟨c, hc, rfl, HN, hb⟩ := hrel
    match c, hc, HN with
    | 0, hc, HN =>
      go_wp2_with fail
      go_ret2
      exact postInts_no (by rw [HN.out]; rfl) hb
    | c + 1, hc, HN =>
      have e : ((c + 1 : Nat) : Int) - 1 = (c : Int) := by omega
      rw [e]
      have hsz := hb.size
      have ht := (h.take (k := c + 1) (by omega)).below hb (Nat.le_refl _)
      have ht' := h'.below hb (Nat.le_refl _)
      obtain ⟨bk, off, rfl, hbb, hcc⟩ := h.2.2.2.2 (by omega)
      obtain ⟨x0, x1⟩ := HX.out c (by omega)
      have HC := hid (over0_candU HLEN.out (show c < n by omega))
      have HS : Hid (nextU bs xs (c + 1) = if und bs (cand xs c) then (cand xs c, true) else nextU bs xs c) := hid rfl
      have HUN : Hid (undTo (insSort (cand xs c)) bs n = und bs (cand xs c)) := hid (by unfold und; rw [length_cand (by rw [HLEN.out]; omega), HLEN.out])
      have hcn : (c : Int) < (n : Int) := by omega
      have hnth : nth (over0 (List.replicate n 0) (xs.take (c + 1))) c = nth xs c := by
        rw [over0_nth (by simp; omega), if_pos (by simp [HLEN.out]; omega), nth_take (by omega)]
      have HNTH := hid hnth
      clear e hcc hnth
      go_wp2_with (first
        | (at_make; refine wpList_make_ints _ rfl _ _ rfl n rfl rfl (by omega) ?_; intro a1 cap1 w1 hown1 hb1)
        | (with_reducible refine wpList_copy_ints _ rfl _ _ rfl wr.heap.size _ _ _ _ _ _ _ _ rfl rfl hown1 (ht.below hb1 (Nat.le_refl _)) (by omega) ?_; intro w2 hown2 hb2; obtain ⟨g1, rfl, hg1, hg2, hg3, hg4⟩ := hown2.opened (by omega); have hgk := hg3 c (by omega); rw [HNTH.out] at hgk; have hgf := hg4 c; clear hg3 hg4))
      obtain ⟨s1, s2⟩ := hown2.set c (nth xs c + 1)
      rw [HC.out] at s1
      have hb3 := (hb1.trans hb2).setCell (p := ⟨g1, c, none⟩) hg1 (.int .i64 (nth xs c + 1))
      clear hown1 hown2 hb1 hb2 s2 hgk hgf
      refine (isUnder_any _ _ _ _ _ _ _ _ _ s1.has (ht'.below hb3 (Nat.le_refl _)) (Nat.le_refl _)).mono ?_
      rw [HUN.out]
      rintro e w4 ⟨rfl, hb4⟩
      have s4 := s1.below hb4 (Nat.le_refl _)
      have hb5 := hb3.trans (hb4.mono hb3.size)
      have hbw := hb.trans (hb5.mono hsz)
      by_cases hp : und bs (cand xs c) = true
      · have HR : Hid (nextU bs xs n = (cand xs c, true)) := hid (by rw [HN.out, HS.out, if_pos hp])
        rw [hp]
        clear hp
        go_wp2_with fail
        go_ret2
        exact postInts HR.out (s4.mono hsz) hbw
      · have HR : Hid (nextU bs xs n = nextU bs xs c) := hid (by rw [HN.out, HS.out, if_neg hp])
        rw [Bool.eq_false_iff.2 hp]
        clear hp
        go_wp2_with fail
        go_roundw
        case rel => exact ⟨c, by omega, by go_num, HR, hbw⟩
        case measure => simp [intOf]

/-- The list behind, as far as laid out: from c on, those before i are new. -/
def SPartU (xs : List Int) (c i : Nat) (zs : List Int) : Prop := ∀ j, j < xs.length → nth zs j = if c ≤ j ∧ j < i then nth xs c + 1 else nth xs j
theorem spartU_step {xs zs : List Int} {c i : Nat} (h : SPartU xs c i zs) (hl : zs.length = xs.length) (hi : i < xs.length) (hc : c ≤ i) : SPartU xs c (i + 1) (zs.set i (nth xs c + 1)) := fun j hj => by
  rw [nth_set (by omega)]
  by_cases e : i = j
  · subst e; rw [if_pos rfl, if_pos ⟨hc, by omega⟩]
  · rw [if_neg e, h j hj]
    have : (c ≤ j ∧ j < i) = (c ≤ j ∧ j < i + 1) := by apply propext; omega
    simp only [this]
theorem spartU_done {xs zs : List Int} {c : Nat} (h : SPartU xs c xs.length zs) (hl : zs.length = xs.length) (hc : c < xs.length) : xs.take c ++ List.replicate (xs.length - c) (nth xs c + 1) = zs := by
  have hlt : (xs.take c).length = c := by simp; omega
  refine ext_nth (by simp; omega) fun j hj => ?_
  simp at hj
  rw [h j (by omega)]
  by_cases e : j < c
  · rw [nth_append_left (by omega), nth_take e, if_neg (by omega)]
  · rw [if_pos ⟨by omega, by omega⟩]
    simp only [nth, List.getD_eq_getElem?_getD]
    rw [List.getElem?_append_right (by omega), hlt, List.getElem?_replicate, if_pos (by omega)]
    rfl

end Go.Proofs.YtakadjhbomggbaaGreat
