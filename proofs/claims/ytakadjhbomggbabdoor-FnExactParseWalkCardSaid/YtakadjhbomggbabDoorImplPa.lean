/- The program's readers of texts. -/
import Derived.Test.YtakadjhbomggbabDoorMathRd
import Derived.Test.YtakadjhbomggbabDoorSpecPa
import Derived.Test.YtakadjhbomggbabDoorImplTr
import Derived.Test.YtakadjhbomggbabDoorImplC
namespace Go.Proofs.YtakadjhbomggbabDoor
open Go.RowKit

def canV (p : ByteArray) : Int := (canI p).getD 0
theorem read_both {Q : List Int → Bool} (hQ : ∀ l, Q l = true → ∀ x ∈ l, 0 ≤ x ∧ x ≤ 9) (ps : List ByteArray) :
    (Q (ps.map readB) = true ↔ (ps.all fun p => (canI p).isSome) = true ∧ Q (ps.map canV) = true) ∧ (Q (ps.map readB) = true → ps.map canV = ps.map readB) := by
  have h1 : Q (ps.map readB) = true → (ps.all fun p => (canI p).isSome) = true ∧ ps.map canV = ps.map readB := fun h => by
    have hb := hQ _ h
    have hc : ∀ p ∈ ps, canI p = some (readB p) := fun p hp => can_read (hb _ (List.mem_map.2 ⟨p, hp, rfl⟩)).1
    refine ⟨List.all_eq_true.2 fun p hp => by rw [hc p hp]; rfl, List.map_congr_left fun p hp => ?_⟩
    unfold canV
    rw [hc p hp]
    rfl
  have h2 : (ps.all fun p => (canI p).isSome) = true → Q (ps.map canV) = true → ps.map canV = ps.map readB := fun ha hq => by
    have hb := hQ _ hq
    refine List.map_congr_left fun p hp => ?_
    obtain ⟨v, hv⟩ := Option.isSome_iff_exists.1 (List.all_eq_true.1 ha p hp)
    have := hb _ (List.mem_map.2 ⟨p, hp, rfl⟩)
    unfold canV at this ⊢
    rw [hv] at this ⊢
    simp only [Option.getD_some] at this ⊢
    exact (read_can hv this.1 this.2).symm
  refine ⟨⟨fun h => ?_, fun ⟨ha, hq⟩ => ?_⟩, fun h => (h1 h).2⟩
  · obtain ⟨a, b⟩ := h1 h
    exact ⟨a, by rw [b]; exact h⟩
  · rw [← h2 ha hq]; exact hq
theorem tree_small (l : List Int) (h : treeB l = true) : ∀ x ∈ l, 0 ≤ x ∧ x ≤ 9 := fun x hx => by
  obtain ⟨h1, h2, _⟩ := treeB_iff.1 h
  have := h2 x hx
  omega
theorem park_small (l : List Int) (h : isPark l = true) : ∀ x ∈ l, 0 ≤ x ∧ x ≤ 9 := fun x hx => by
  obtain ⟨h1, h2, _⟩ := isPark_iff.1 h
  have := h2 x hx
  omega
/-- A tree's text, by the library's words. -/
theorem treeRead_eq {s : ByteArray} (h : ¬ s.toList = [45]) : (∃ l, splitR s ⟨#[44]⟩ = (l, true) ∧ treeRead s = if treeB l then (l, true) else ([], false)) ∨ (splitR s ⟨#[44]⟩ = ([], false) ∧ treeRead s = ([], false)) := by
  obtain ⟨h1, h2⟩ := read_both (Q := treeB) tree_small (cutL s 44)
  unfold splitR
  rw [words_cut]
  by_cases ha : ((cutL s 44).all fun p => (canI p).isSome) = true
  · refine .inl ⟨_, by rw [if_pos ha], ?_⟩
    unfold treeRead
    rw [if_neg h]
    by_cases ht : treeB ((cutL s 44).map readB) = true
    · have e := h2 ht
      have ht' := (h1.1 ht).2
      rw [if_pos ht]
      show _ = if treeB ((cutL s 44).map canV) = true then ((cutL s 44).map canV, true) else ([], false)
      rw [if_pos ht', e]
    · have ht' : ¬ treeB ((cutL s 44).map canV) = true := fun hh => ht (h1.2 ⟨ha, hh⟩)
      rw [if_neg ht]
      show _ = if treeB ((cutL s 44).map canV) = true then ((cutL s 44).map canV, true) else ([], false)
      rw [if_neg ht']
  · refine .inr ⟨by rw [if_neg ha], ?_⟩
    have ht : ¬ treeB ((cutL s 44).map readB) = true := fun hh => ha (h1.1 hh).1
    unfold treeRead
    rw [if_neg h, if_neg ht]

/-- What a text of numbers with commas, or -, reads as. -/
def listR (s : ByteArray) : List Int × Bool := if s.toList = [45] then ([], true) else splitR s ⟨#[44]⟩

set_option maxHeartbeats 800000 in
theorem parseList_any (s : ByteArray) (w : World) (h : LibAt w) (hs : s.size ≤ 1048576) :
    Calls Tryd.prog 14 #[.string s] w (PostInts w (listR s)) := by
  by_cases he : s.toList = [45]
  · have HR : Hid (listR s = ([], true)) := hid (by unfold listR; rw [if_pos he])
    have hbe : (s.toList == [45]) = true := by rw [he]; rfl
    clear he
    go_enter Tryd.func14, Tryd.ntmps14
    go_wp2_with fail
    go_ret2
    exact postInts HR.out (Own.nil _ _) (Below.refl _ _)
  · have hne : (s.toList == [45]) = false := by simp [he]
    have HR : Hid (listR s = splitR s ⟨#[44]⟩) := hid (by unfold listR; rw [if_neg he])
    clear he
    obtain ⟨⟨l, ok⟩, hl⟩ : ∃ r, splitR s ⟨#[44]⟩ = r := ⟨_, rfl⟩
    have HS := hid hl
    clear hl
    go_enter Tryd.func14, Tryd.ntmps14
    go_wp2_with fail
    refine (splitNumbers_any s ⟨#[44]⟩ _ h hs (by decide)).mono ?_
    rw [HS.out]
    rintro e w1 ⟨a1, n1, cap1, rfl, hown1, hb1⟩
    go_wp2_with fail
    go_ret2
    exact postInts (HR.out.trans HS.out) hown1 hb1

theorem treeRead_list (s : ByteArray) : (∃ l, listR s = (l, true) ∧ treeRead s = if treeB l then (l, true) else ([], false)) ∨ (listR s = ([], false) ∧ treeRead s = ([], false)) := by
  by_cases he : s.toList = [45]
  · refine .inl ⟨[], by unfold listR; rw [if_pos he], ?_⟩
    unfold treeRead
    rw [if_pos he]
    rfl
  · have h := treeRead_eq he
    unfold listR
    rw [if_neg he]
    exact h

/-! ### Texts of parking functions -/
theorem join_pre (b c : UInt8) (x : List (List UInt8)) (h : x ≠ []) : Lib.join (pre [c] x) [b] = c :: Lib.join x [b] := by
  cases x with
  | nil => exact absurd rfl h
  | cons y z => simp only [pre]; rw [Lib.join_cons, Lib.join_cons]; simp
theorem join_sp (b : UInt8) : ∀ l, Lib.join (sp b l) [b] = l
  | [] => by simp [sp, Lib.join_one]
  | c :: r => by
    by_cases e : c = b
    · subst e
      rw [sp_yes, Lib.join_cons]
      have ih := join_sp c r
      cases h : sp c r with
      | nil => exact absurd h (sp_ne _ _)
      | cons y z =>
        rw [h, Lib.join_cons] at ih
        simp only [Lib.joinTail, List.map_cons, List.flatten_cons, List.nil_append] at ih ⊢
        simp only [List.cons_append, List.nil_append]
        rw [List.cons.injEq]
        exact ⟨rfl, ih⟩
    · rw [sp_no r e, join_pre _ _ _ (sp_ne _ _), join_sp b r]
theorem dig_read {p : ByteArray} (h : 0 ≤ readB p) : dig (readB p) = p.data.toList := by
  have hc := can_read h
  unfold canI at hc
  split at hc
  · next v hv =>
    split at hc
    · next hi =>
      simp only [Option.some.injEq] at hc
      rw [hc, toList_data, Lib.itoa, if_neg (by omega)] at hi
      exact hi
    · cases hc
  · cases hc
theorem txt_cut {s : ByteArray} (h : ∀ x ∈ (cutL s 32).map readB, 0 ≤ x) : (bs (txt ((cutL s 32).map readB))).toList = s.toList := by
  rw [toList_data, toList_data, bs_data]
  unfold txt
  have e : ((cutL s 32).map readB).map dig = (cutL s 32).map (·.data.toList) := by
    rw [List.map_map]
    exact List.map_congr_left fun p hp => dig_read (h _ (List.mem_map.2 ⟨p, hp, rfl⟩))
  rw [e, cutL_sp, join_sp]
/-- A parking function's text, by the library's words. -/
theorem parkRead_eq {s : ByteArray} (h : ¬ s.toList.isEmpty = true) : (∃ l, splitR s ⟨#[32]⟩ = (l, true) ∧ parkRead s = if isPark l then (l, true) else ([], false)) ∨ (splitR s ⟨#[32]⟩ = ([], false) ∧ parkRead s = ([], false)) := by
  obtain ⟨h1, h2⟩ := read_both (Q := isPark) park_small (cutL s 32)
  unfold splitR
  rw [words_cut]
  by_cases ha : ((cutL s 32).all fun p => (canI p).isSome) = true
  · refine .inl ⟨_, by rw [if_pos ha], ?_⟩
    unfold parkRead
    rw [if_neg h]
    by_cases ht : isPark ((cutL s 32).map readB) = true
    · have e := h2 ht
      have ht' := (h1.1 ht).2
      rw [if_pos ⟨ht, txt_cut fun x hx => (park_small _ ht x hx).1⟩]
      show _ = if isPark ((cutL s 32).map canV) = true then ((cutL s 32).map canV, true) else ([], false)
      rw [if_pos ht', e]
    · have ht' : ¬ isPark ((cutL s 32).map canV) = true := fun hh => ht (h1.2 ⟨ha, hh⟩)
      rw [if_neg (fun hh => ht hh.1)]
      show _ = if isPark ((cutL s 32).map canV) = true then ((cutL s 32).map canV, true) else ([], false)
      rw [if_neg ht']
  · refine .inr ⟨by rw [if_neg ha], ?_⟩
    have ht : ¬ isPark ((cutL s 32).map readB) = true := fun hh => ha (h1.1 hh).1
    unfold parkRead
    rw [if_neg h, if_neg (fun hh => ht hh.1)]

end Go.Proofs.YtakadjhbomggbabDoor
