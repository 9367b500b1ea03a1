/- TableText: the model's function. -/
import Derived.Test.YtadcmghjhgjeeacDoorNumA
import Derived.Test.YtadcmghjhgjeeacDoorParkText
import Derived.Test.YtadcmghjhgjeeacDoorImplTt
namespace Go.Proofs.YtadcmghjhgjeeacDoor
open Go.RowKit

/-- A cell, as a text has it. -/
def celT (x : Int) : List UInt8 := if x = -1 then [46] else dig x
def tabT (xs : List Int) : List UInt8 := Go.Lib.join (xs.map celT) [32]
theorem celT_free {x : Int} (h : x = -1) : celT x = [46] := if_pos h
theorem celT_key {x : Int} (h : x ≠ -1) : celT x = dig x := if_neg h
theorem tabT_nil : tabT [] = [] := rfl
theorem tabT_snoc {xs : List Int} (h : 0 < xs.length) (x : Int) : tabT (xs ++ [x]) = tabT xs ++ [32] ++ celT x := by
  cases xs with
  | nil => simp at h
  | cons y r => simp [tabT, Go.Lib.join_cons, Go.Lib.joinTail]
theorem tabT_succ {xs : List Int} {k : Nat} (hk : k < xs.length) (h0 : 0 < k) : tabT (xs.take (k + 1)) = tabT (xs.take k) ++ [32] ++ celT (nth xs k) := by
  rw [take_succ_nth hk, tabT_snoc (by simp; omega)]
theorem tabT_first {xs : List Int} (hk : 0 < xs.length) : tabT (xs.take 1) = celT (nth xs 0) := by
  rw [take_succ_nth hk]; simp [tabT, Go.Lib.join_one]
theorem dig_len6 {x : Int} (h0 : 0 ≤ x) (h1 : x ≤ 999) : (dig x).length ≤ 3 := dig_size 2 x h0 (by simp; omega)
/-- What cells hold. -/
def Cells9 (xs : List Int) : Prop := ∀ i, i < xs.length → -1 ≤ nth xs i ∧ nth xs i ≤ 999
theorem celT_len {x : Int} (h0 : -1 ≤ x) (h1 : x ≤ 999) : (celT x).length ≤ 3 := by
  unfold celT
  split
  · simp
  · exact dig_len6 (by omega) h1
theorem tabT_len {xs : List Int} (hd : Cells9 xs) : ∀ k, k ≤ xs.length → (bs (tabT (xs.take k))).size ≤ 4 * k
  | 0, _ => by simp [tabT_nil, bs_size]
  | k + 1, hk => by
    obtain ⟨h0, h1⟩ := hd k (by omega)
    have h2 := celT_len h0 h1
    have ih := tabT_len hd k (by omega)
    rw [bs_size] at ih ⊢
    by_cases hz : k = 0
    · subst hz; rw [tabT_first (by omega)]; omega
    · rw [tabT_succ (by omega) (by omega)]; simp; omega

set_option maxRecDepth 100000 in
set_option maxHeartbeats 2000000 in
theorem prText_any (a : Option Addr) (n cap : Nat) (cs : List Int) (w : World) (h : Has w a n cap cs) (hd : Cells9 cs) (h12 : n ≤ 12) :
    Calls Tryd.prog 16 #[.agg #[.slice a n cap]] w fun e w' => e = .returned (.string (bs (tabT cs))) ∧ Below w.heap.size w w' := by
  obtain rfl := h.len
  obtain ⟨W, hW, C, hbW, hsW⟩ := boxed w (.slice a cs.length cap) 28
  have hH := h.below hbW (Nat.le_refl _)
  obtain ⟨y1, y2⟩ := id C
  have HD := hid hd
  clear hd
  go_enter Tryd.func16, Tryd.ntmps16
  go_wp2_with fail
  clear hW
  go_loopw [3, 9] (fun t i wr => ∃ k : Nat, k ≤ cs.length ∧ i = .int .i64 k ∧ t = .string (bs (tabT (cs.take k))) ∧ Below W.heap.size W wr) (fun _ i _ => cs.length - (intOf i).toNat)
  case atStart => exact ⟨0, Nat.zero_le _, rfl, rfl, Below.refl _ _⟩
  case round =>
    obtain ⟨k, hk, rfl, rfl, hb⟩ := hrel
    by_cases hlt : k < cs.length
    · obtain ⟨b, off, rfl, hbb, hc⟩ := (hH.below hb (Nat.le_refl _)).2.2.2.2 (by omega)
      have hck := hc k hlt
      obtain ⟨hv0, hv1⟩ := HD.out k hlt
      have hz1 := tabT_len HD.out k hk
      have hz12 : (bs (tabT (cs.take k))).size ≤ 48 := by omega
      clear hc
      by_cases h0 : k = 0
      · have hkn' : ¬ (0 : Int) < (k : Int) := by omega
        by_cases hf : nth cs k = -1
        · have HS : Hid (tabT (cs.take (k + 1)) = tabT (cs.take k) ++ [46]) := hid (by subst h0; rw [tabT_first hlt, celT_free hf]; simp [tabT_nil])
          have hb1 : (nth cs k == -1) = true := by simp [hf]
          clear h0 hf
          go_wp2_with fail
          go_roundw
          case rel => exact ⟨k + 1, by omega, by go_num, by rw [HS.out, ← bs_append]; rfl, hb⟩
          case measure => simp [intOf]; omega
        · have HS : Hid (tabT (cs.take (k + 1)) = tabT (cs.take k) ++ dig (nth cs k)) := hid (by subst h0; rw [tabT_first hlt, celT_key hf]; simp [tabT_nil])
          have hb1 : (nth cs k == -1) = false := by simp [hf]
          have hz2 : (bs (dig (nth cs k))).size ≤ 3 := by rw [bs_size]; exact dig_len6 (by omega) hv1
          have hv2 : 0 ≤ nth cs k := by omega
          have hv3 : nth cs k < (10 : Int) ^ (5 + 1) := by simp; omega
          have HV3 := hid hv3
          clear h0 hf hv3
          go_wp2_with (go_at_call 33; refine (l1Num_any 5 (by omega) _ _ hv2 HV3.out).mono ?_; rintro e w1 ⟨rfl, hb1'⟩)
          go_roundw
          case rel => exact ⟨k + 1, by omega, by go_num, by rw [HS.out, ← bs_append], hb.trans (hb1'.mono hb.size)⟩
          case measure => simp [intOf]; omega
      · have hkp' : (0 : Int) < (k : Int) := by omega
        have hkp : 0 < k := by omega
        by_cases hf : nth cs k = -1
        · have HS : Hid (tabT (cs.take (k + 1)) = tabT (cs.take k) ++ [32] ++ [46]) := hid (by rw [tabT_succ hlt hkp, celT_free hf])
          have hb1 : (nth cs k == -1) = true := by simp [hf]
          clear h0 hf
          go_wp2_with fail
          go_roundw
          case rel => exact ⟨k + 1, by omega, by go_num, by rw [HS.out, ← bs_append, ← bs_append]; rfl, hb⟩
          case measure => simp [intOf]; omega
        · have HS : Hid (tabT (cs.take (k + 1)) = tabT (cs.take k) ++ [32] ++ dig (nth cs k)) := hid (by rw [tabT_succ hlt hkp, celT_key hf])
          have hb1 : (nth cs k == -1) = false := by simp [hf]
          have hz2 : (bs (dig (nth cs k))).size ≤ 3 := by rw [bs_size]; exact dig_len6 (by omega) hv1
          have hv2 : 0 ≤ nth cs k := by omega
          have hv3 : nth cs k < (10 : Int) ^ (5 + 1) := by simp; omega
          have HV3 := hid hv3
          clear h0 hf hv3
          go_wp2_with (go_at_call 33; refine (l1Num_any 5 (by omega) _ _ hv2 HV3.out).mono ?_; rintro e w1 ⟨rfl, hb1'⟩)
          go_roundw
          case rel => exact ⟨k + 1, by omega, by go_num, by rw [HS.out, ← bs_append, ← bs_append]; rfl, hb.trans (hb1'.mono hb.size)⟩
          case measure => simp [intOf]; omega
    · obtain rfl : k = cs.length := by omega
      go_wp2_with fail
      go_ret
      exact ⟨by rw [List.take_length]; rfl, hbW.trans (hb.mono hbW.size)⟩

def tableTxt (cs : List Int) : List UInt8 × Bool := if tblB cs then (tabT cs, true) else ([], false)
theorem tableTxt_yes {cs : List Int} (h : tblB cs = true) : tableTxt cs = (tabT cs, true) := if_pos h
theorem tableTxt_no {cs : List Int} (h : tblB cs = false) : tableTxt cs = ([], false) := if_neg (by simp [h])
theorem Tb.cells9 {cs : List Int} (h : Tb cs) : Cells9 cs := fun i hi => by have := h.bd i hi; omega

set_option maxRecDepth 100000 in
set_option maxHeartbeats 2000000 in
theorem specTableText_any (a : Option Addr) (n cap : Nat) (cs : List Int) (w : World) (h : Has w a n cap cs) :
    Calls Tryd.prog 6 #[.agg #[.slice a n cap]] w (PostText w (tableTxt cs)) := by
  obtain rfl := h.len
  obtain ⟨W, hW, C, hbW, hsW⟩ := boxed w (.slice a cs.length cap) 28
  have hH := h.below hbW (Nat.le_refl _)
  obtain ⟨y1, y2⟩ := id C
  by_cases hg : tblB cs = true
  · have HG := hid hg
    have HR := hid (tableTxt_yes hg)
    have ht := tb_iff.1 hg
    have h12 := ht.hi
    have HD := hid ht.cells9
    clear hg
    go_enter Tryd.func6, Tryd.ntmps6
    go_wp2_with (first | (go_at_call 15; refine (prGood_any _ _ _ _ _ hH).mono ?_; rintro e w' ⟨rfl, st⟩; rw [HG.out]; have C2 := C.below st (by omega); have hH2 := hH.below st (Nat.le_refl _); have hb2 := hbW.trans (st.mono hbW.size); clear y1 y2 hH C; obtain ⟨z1, z2⟩ := id C2) | (go_at_call 16; refine (prText_any _ _ _ _ _ hH2 HD.out h12).mono ?_; rintro e w' ⟨rfl, st2⟩))
    go_ret2
    exact postText HR.out (hb2.trans (st2.mono hb2.size))
  · have HG := hid (Bool.eq_false_iff.2 hg)
    have HR := hid (tableTxt_no (Bool.eq_false_iff.2 hg))
    clear hg
    go_enter Tryd.func6, Tryd.ntmps6
    go_wp2_with (go_at_call 15; refine (prGood_any _ _ _ _ _ hH).mono ?_; rintro e w' ⟨rfl, st⟩; rw [HG.out])
    go_ret2
    exact postText_no HR.out (hbW.trans (st.mono hbW.size))
end Go.Proofs.YtadcmghjhgjeeacDoor
