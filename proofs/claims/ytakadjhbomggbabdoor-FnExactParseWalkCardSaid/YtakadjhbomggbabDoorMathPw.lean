/- Texts of walks: the model's and the program's ways to read them agree. -/
import Derived.Test.YtakadjhbomggbabDoorWkY
import Derived.Test.YtakadjhbomggbabDoorImplPa
namespace Go.Proofs.YtakadjhbomggbabDoor
open Go.RowKit

theorem index_sp (b : UInt8) : ∀ l : List UInt8, (b ∉ l ∧ Lib.index l [b] = -1 ∧ sp b l = [l]) ∨ ∃ x y, b ∉ x ∧ l = x ++ b :: y ∧ Lib.index l [b] = (x.length : Int) ∧ sp b l = x :: sp b y
  | [] => .inl ⟨by simp, by simp [Lib.index], by simp [sp]⟩
  | c :: r => by
    by_cases e : c = b
    · subst e
      exact .inr ⟨[], r, by simp, rfl, by simp [Lib.index], by rw [sp_yes]⟩
    · have e' : ¬ b = c := fun h => e h.symm
      rcases index_sp b r with ⟨h1, h2, h3⟩ | ⟨x, y, h1, h2, h3, h4⟩
      · exact .inl ⟨by simp [e', h1], by simp [Lib.index, e', h2], by rw [sp_no r e, h3]; simp [pre]⟩
      · refine .inr ⟨c :: x, y, by simp [e', h1], by rw [h2]; rfl, ?_, by rw [sp_no r e, h4]; simp [pre]⟩
        have hix : Lib.index r [b] ≠ -1 := by rw [h3]; omega
        have : Lib.index (c :: r) [b] = Lib.index r [b] + 1 := by simp [Lib.index, e', hix]
        rw [this, h3, List.length_cons]
        omega
theorem cut_cases (b : UInt8) (l : List UInt8) : (b ∉ l ∧ Lib.cut l [b] = (l, [], false) ∧ sp b l = [l]) ∨ ∃ x y, b ∉ x ∧ l = x ++ b :: y ∧ Lib.cut l [b] = (x, y, true) ∧ sp b l = x :: sp b y := by
  rcases index_sp b l with ⟨h1, h2, h3⟩ | ⟨x, y, h1, h2, h3, h4⟩
  · exact .inl ⟨h1, by unfold Lib.cut; rw [h2, if_neg (by decide)], h3⟩
  · refine .inr ⟨x, y, h1, h2, ?_, h4⟩
    unfold Lib.cut
    rw [h3, if_pos (by omega), Int.toNat_natCast, h2]
    simp
theorem sp_plain {b : UInt8} {l : List UInt8} (h : b ∉ l) : sp b l = [l] := by
  rcases index_sp b l with ⟨_, _, h3⟩ | ⟨x, y, _, h2, _, _⟩
  · exact h3
  · exact absurd (by rw [h2]; simp) h
theorem mem_pre {c : UInt8} {l : List UInt8} : ∀ {x : List (List UInt8)}, x ≠ [] → (c ∈ l ∨ ∃ p ∈ x, c ∈ p) → ∃ p ∈ pre l x, c ∈ p
  | [], h, _ => absurd rfl h
  | y :: z, _, h => by
    simp only [pre]
    rcases h with h | ⟨p, hp, hc⟩
    · exact ⟨l ++ y, by simp, by simp [h]⟩
    · rcases List.mem_cons.1 hp with rfl | hp
      · exact ⟨l ++ p, by simp, by simp [hc]⟩
      · exact ⟨p, by simp [hp], hc⟩
theorem mem_sp {b c : UInt8} (hcb : c ≠ b) : ∀ {l : List UInt8}, c ∈ l → ∃ p ∈ sp b l, c ∈ p
  | [], h => by cases h
  | d :: r, h => by
    by_cases e : d = b
    · subst e
      rw [sp_yes]
      rcases List.mem_cons.1 h with rfl | h
      · exact absurd rfl hcb
      · obtain ⟨p, hp, hc⟩ := mem_sp hcb h
        exact ⟨p, by simp [hp], hc⟩
    · rw [sp_no r e]
      refine mem_pre (sp_ne _ _) ?_
      rcases List.mem_cons.1 h with rfl | h
      · exact .inl (by simp)
      · exact .inr (mem_sp hcb h)

theorem small9 (l : List Int) (h : allB l 0 9 = true) : ∀ x ∈ l, 0 ≤ x ∧ x ≤ 9 := allB_iff.1 h
theorem listR_waR {s : ByteArray} (h : allB (waR s) 0 9 = true) : listR s = (waR s, true) := by
  unfold listR
  unfold waR at h ⊢
  by_cases he : s.toList = [45]
  · rw [if_pos he, if_pos he]
  · rw [if_neg he] at h ⊢
    rw [if_neg he]
    obtain ⟨h1, h2⟩ := read_both (Q := fun l => allB l 0 9) small9 (cutL s 44)
    unfold splitR
    rw [words_cut, if_pos (h1.1 h).1]
    have := h2 h
    show ((cutL s 44).map canV, true) = _
    rw [this]
theorem waR_listR {s : ByteArray} {l : List Int} (h : listR s = (l, true)) (h9 : allB l 0 9 = true) : waR s = l := by
  unfold listR at h
  unfold waR
  by_cases he : s.toList = [45]
  · rw [if_pos he] at h ⊢
    simp only [Prod.mk.injEq] at h
    exact h.1
  · rw [if_neg he] at h ⊢
    unfold splitR at h
    rw [words_cut] at h
    by_cases ha : ((cutL s 44).all fun p => (canI p).isSome) = true
    · rw [if_pos ha] at h
      simp only [Prod.mk.injEq] at h
      have hl : (cutL s 44).map canV = l := h.1
      obtain ⟨h1, h2⟩ := read_both (Q := fun l => allB l 0 9) small9 (cutL s 44)
      have hq : allB ((cutL s 44).map readB) 0 9 = true := h1.2 ⟨ha, by rw [hl]; exact h9⟩
      rw [← h2 hq, hl]
    · rw [if_neg ha] at h
      simp at h
theorem trTxt_waR {s : ByteArray} (h : allB (waR s) 0 9 = true) : trTxt (waR s) = s.data.toList := by
  unfold waR at h ⊢
  by_cases he : s.toList = [45]
  · rw [if_pos he, ← toList_data, he]
    rfl
  · rw [if_neg he] at h ⊢
    unfold trTxt
    have hne : ¬ ((cutL s 44).map readB).length = 0 := by
      have := congrArg List.length (cutL_sp s 44)
      rw [List.length_map] at this
      rw [List.length_map, this]
      intro h0
      exact sp_ne 44 s.data.toList (List.eq_nil_of_length_eq_zero h0)
    rw [if_neg hne]
    unfold txtS
    have e : ((cutL s 44).map readB).map dig = (cutL s 44).map (·.data.toList) := by
      rw [List.map_map]
      exact List.map_congr_left fun p hp => dig_read (small9 _ h _ (List.mem_map.2 ⟨p, hp, rfl⟩)).1
    rw [e, cutL_sp, join_sp]
theorem no_colon {s : ByteArray} (h : allB (waR s) 0 9 = true) : (58 : UInt8) ∉ s.data.toList := by
  intro hc
  unfold waR at h
  by_cases he : s.toList = [45]
  · rw [toList_data] at he
    rw [he] at hc
    simp at hc
  · rw [if_neg he] at h
    obtain ⟨p, hp, hcp⟩ := mem_sp (b := 44) (c := 58) (by decide) hc
    rw [← cutL_sp] at hp
    obtain ⟨q, hq, rfl⟩ := List.mem_map.1 hp
    have hb := small9 _ h _ (List.mem_map.2 ⟨q, hq, rfl⟩)
    have hd := dig_read hb.1
    rw [← hd, dig_small hb.1 (by omega)] at hcp
    simp at hcp
    have := congrArg UInt8.toNat hcp
    simp at this
    omega
theorem bs_of (p : ByteArray) : p = bs p.data.toList := by cases p; simp [bs]
theorem bs_list (l : List UInt8) : (bs l).toList = l := by rw [toList_data, bs_data]
theorem cutL_bs (s : ByteArray) (b : UInt8) : cutL s b = (sp b s.data.toList).map bs := by
  rw [← cutL_sp, List.map_map]
  conv => lhs; rw [← List.map_id (cutL s b)]
  exact List.map_congr_left fun p _ => bs_of p
theorem digits_allB {l : List Int} (h : Digits l) : allB l 0 9 = true := allB_iff.2 fun x hx => by
  obtain ⟨i, hi, rfl⟩ := List.mem_iff_getElem.1 hx
  have := h i hi
  unfold nth at this
  rw [List.getD_eq_getElem?_getD, List.getElem?_eq_getElem hi, Option.getD_some] at this
  omega
theorem walk_nine {hs ls : List Int} (h : walkB hs ls = true) : allB hs 0 9 = true ∧ allB ls 0 9 = true :=
  ⟨digits_allB (hgt_digits (walkB_iff.1 h).1), digits_allB (out_digits (walkB_iff.1 h).2.2.1)⟩
/-- What a text reads as a walk, by the model. -/
def walkRd (s : ByteArray) : (List Int × List Int) × Bool :=
  if (cutL s 58).length = 2 ∧ walkB (waR (nthS (cutL s 58) 0)) (waR (nthS (cutL s 58) 1)) = true ∧ (bs (walkTx (waR (nthS (cutL s 58) 0)) (waR (nthS (cutL s 58) 1)))).toList = s.toList then
    ((waR (nthS (cutL s 58) 0), waR (nthS (cutL s 58) 1)), true) else (([], []), false)
/-- What a text reads as a walk, by the program. -/
def walkCt (s : ByteArray) : (List Int × List Int) × Bool :=
  if (listR (bs (Lib.cut s.data.toList [58]).1)).2 = true ∧ (listR (bs (Lib.cut s.data.toList [58]).2.1)).2 = true ∧ walkB (listR (bs (Lib.cut s.data.toList [58]).1)).1 (listR (bs (Lib.cut s.data.toList [58]).2.1)).1 = true then
      (((listR (bs (Lib.cut s.data.toList [58]).1)).1, (listR (bs (Lib.cut s.data.toList [58]).2.1)).1), true) else (([], []), false)
theorem listR_empty : (listR (bs [])).2 = false := by
  unfold listR
  rw [if_neg (by rw [bs_list]; decide)]
  unfold splitR
  have : wordsB (bs []) ⟨#[44]⟩ = [bs []] := by rw [words_cut, cutL_bs, bs_data]; rfl
  rw [this]
  have : canI (bs []) = none := by rfl
  simp [this]
/-- Both ways come to the same. -/
theorem walk_cut (s : ByteArray) : walkRd s = walkCt s := by
  have hs : s.toList = s.data.toList := toList_data s
  rcases cut_cases 58 s.data.toList with ⟨_, h2, h3⟩ | ⟨x, y, _, h2, h3, h4⟩
  · have hc : cutL s 58 = [s] := by rw [cutL_bs, h3, List.map_cons, List.map_nil, ← bs_of]
    unfold walkRd walkCt
    rw [hc, h2, if_neg (by simp), if_neg (by simp [listR_empty])]
  · by_cases hy : (58 : UInt8) ∈ y
    · have hl : ¬ (cutL s 58).length = 2 := by
        rw [cutL_bs, h4, List.length_map, List.length_cons]
        rcases cut_cases 58 y with ⟨h, _, _⟩ | ⟨u, v, _, _, _, h'⟩
        · exact absurd hy h
        · rw [h', List.length_cons]
          have := List.length_pos_iff.2 (sp_ne 58 v)
          omega
      unfold walkRd walkCt
      rw [h3, if_neg (by simp [hl]), if_neg]
      rintro ⟨_, h, hw⟩
      have h9 := (walk_nine hw).2
      have hr := waR_listR (s := bs y) (l := (listR (bs y)).1) (by rw [← h]) h9
      rw [← hr] at h9
      have := no_colon h9
      rw [bs_data] at this
      exact this hy
    · have hc : cutL s 58 = [bs x, bs y] := by rw [cutL_bs, h4, sp_plain hy]; rfl
      have e0 : nthS (cutL s 58) 0 = bs x := by rw [hc]; rfl
      have e1 : nthS (cutL s 58) 1 = bs y := by rw [hc]; rfl
      unfold walkRd walkCt
      rw [e0, e1, h3]
      by_cases hw : walkB (waR (bs x)) (waR (bs y)) = true
      · obtain ⟨ha, hb⟩ := walk_nine hw
        rw [listR_waR ha, listR_waR hb, if_pos, if_pos ⟨rfl, rfl, hw⟩]
        refine ⟨by rw [hc]; rfl, hw, ?_⟩
        rw [bs_list, hs, h2]
        unfold walkTx
        rw [trTxt_waR ha, trTxt_waR hb, bs_data, bs_data]
        simp
      · rw [if_neg (fun h => hw h.2.1), if_neg]
        rintro ⟨hp, hq, h⟩
        obtain ⟨ha, hb⟩ := walk_nine h
        apply hw
        rw [waR_listR (s := bs x) (l := (listR (bs x)).1) (by rw [← hp]) ha, waR_listR (s := bs y) (l := (listR (bs y)).1) (by rw [← hq]) hb]
        exact h
end Go.Proofs.YtakadjhbomggbabDoor
