/- The model's functions of tables, by their contracts: used cells, costs, keys. -/
import Derived.Test.YtbmghpgnakbnjabSpecPr
import Derived.Test.YtbmghpgnakbnjabPut
import Derived.Test.YtbmghpgnakbnjabImplRf
namespace Go.Proofs.Ytbmghpgnakbnjab
open Go.RowKit

theorem prSize_any (x : Int) (w : World) : Calls Try.prog 76 #[.int .i64 x] w fun e w' => e = .returned (.bool (inB x 2 12)) ∧ w = w' := by
  go_enter Try.func76, Try.ntmps76
  go_wp2_with (go_at_call 60; refine (l1In_any _ _ _ _).mono ?_; rintro e w' ⟨rfl, rfl⟩)
  go_ret
  exact ⟨rfl, rfl⟩

/-- The used cells, if it is a table. -/
def usedOf (cs : List Int) : List Int × Bool := if tblB cs then (usedL cs, true) else ([], false)
theorem usedOf_yes {cs : List Int} (h : tblB cs = true) : usedOf cs = (usedL cs, true) := if_pos h
theorem usedOf_no {cs : List Int} (h : tblB cs = false) : usedOf cs = ([], false) := if_neg (by simp [h])

set_option maxRecDepth 100000 in
set_option maxHeartbeats 2000000 in
theorem prCosts_any (a : Option Addr) (n cap : Nat) (cs : List Int) (w : World) (h : Has w a n cap cs) (ht : Tb cs) :
    Calls Try.prog 39 #[.agg #[.slice a n cap]] w fun e w' => ∃ a' m cap', e = .returned (.slice a' m cap') ∧ Own w' w.heap.size a' m cap' (costsL cs) ∧ Below w.heap.size w w' := by
  obtain rfl := h.len
  obtain ⟨W, hW, C, hbW, hsW⟩ := boxed w (.slice a cs.length cap) 28
  have hH := h.below hbW (Nat.le_refl _)
  obtain ⟨y1, y2⟩ := id C
  have h12 := ht.hi
  have hlo := ht.lo
  have HB := hid ht.bd
  go_enter Try.func39, Try.ntmps39
  go_wp2_with fail
  clear hW y1 y2
  go_loopw [3, 9] (fun o i wr => ∃ (k m : Nat) (a' : Option Addr) (cap' : Nat), i = .int .i64 k ∧ o = .slice a' m cap' ∧ k ≤ cs.length ∧ m ≤ k ∧ Own wr W.heap.size a' m cap' (coll (isUsed cs) (fun c => (costN cs.length (nth cs c) c : Int)) k) ∧ Below W.heap.size W wr) (fun _ i _ => cs.length - (intOf i).toNat)
  case atStart => exact ⟨0, 0, none, 0, rfl, rfl, by omega, by omega, Own.nil _ _, Below.refl _ _⟩
  case round =>
    obtain ⟨k, m, a', cap', rfl, rfl, hk, hmk, own, hb⟩ := hrel
    have hbs := hb.size
    replace hH := hH.below hb (Nat.le_refl _)
    have C := C.below hb (by omega)
    by_cases hlt : k < cs.length
    · obtain ⟨b, off, rfl, hbb, hcc⟩ := hH.2.2.2.2 (by omega)
      have hck := hcc k hlt
      clear hcc
      have hm12 : m ≤ 12 := by omega
      obtain ⟨y1, y2⟩ := id C
      by_cases he : nth cs k = -1
      · have hb1 : (nth cs k != -1) = false := by simp [he]
        have HC := hid (coll_no (f := fun c => (costN cs.length (nth cs c) c : Int)) (isUsed_not.2 he))
        clear he
        go_wp2_with fail
        go_roundw
        case rel => exact ⟨k + 1, m, a', cap', by go_num, rfl, by omega, by omega, by rw [HC.out]; exact own, hb⟩
        case measure => simp [intOf]; omega
      · have hb1 : (nth cs k != -1) = true := by simp [he]
        have HC := hid (coll_yes (f := fun c => (costN cs.length (nth cs c) c : Int)) (isUsed_iff.2 he))
        have hk0 : 0 ≤ nth cs k := by have := HB.out k hlt; omega
        clear he
        go_wp2_with (first | (go_at_call 66; refine (prCost_any (nth cs k) k cs.length _ hk0 (by omega) (by omega) (by omega)).mono ?_; rintro e w' ⟨rfl, rfl⟩) | (at_builtin; refine wpList_append_int _ rfl _ _ rfl W.heap.size _ _ _ _ _ rfl rfl own (by omega) hbs ?_; intro a2 cap2 w2 own2 hb2))
        go_roundw
        case rel => exact ⟨k + 1, m + 1, a2, cap2, by go_num, rfl, by omega, by omega, by rw [HC.out]; exact own2, hb.trans hb2⟩
        case measure => simp [intOf]; omega
    · obtain rfl : k = cs.length := by omega
      go_wp2_with fail
      go_ret
      exact ⟨_, _, _, rfl, own.mono (by omega), hbW.trans (hb.mono (by omega))⟩

theorem keys_none {cs : List Int} {k : Nat} (h : nth cs k = -1) : insSort (coll (isUsed cs) (fun c => nth cs c) (k + 1)) = insSort (coll (isUsed cs) (fun c => nth cs c) k) := by rw [coll_no (isUsed_not.2 h)]
theorem Tb.keys_next {cs : List Int} (ht : Tb cs) {k : Nat} (hk : k < cs.length) (h : nth cs k ≠ -1) : putL (insSort (coll (isUsed cs) (fun c => nth cs c) k)) (nth cs k) = insSort (coll (isUsed cs) (fun c => nth cs c) (k + 1)) :=
  put_next (f := fun c => nth cs c) (isUsed_iff.2 h) fun c hc hp e => by
    have := ht.one c k (by omega) hk e (isUsed_iff.1 hp)
    omega

set_option maxRecDepth 100000 in
set_option maxHeartbeats 2000000 in
theorem prSorted_any (a : Option Addr) (n cap : Nat) (cs : List Int) (w : World) (h : Has w a n cap cs) (ht : Tb cs) :
    Calls Try.prog 58 #[.agg #[.slice a n cap]] w fun e w' => ∃ a' m cap', e = .returned (.slice a' m cap') ∧ Own w' w.heap.size a' m cap' (keysL cs) ∧ Below w.heap.size w w' := by
  obtain rfl := h.len
  obtain ⟨W, hW, C, hbW, hsW⟩ := boxed w (.slice a cs.length cap) 28
  have hH := h.below hbW (Nat.le_refl _)
  obtain ⟨y1, y2⟩ := id C
  have h12 := ht.hi
  have hlo := ht.lo
  have HB := hid ht.bd
  go_enter Try.func58, Try.ntmps58
  go_wp2_with fail
  clear hW y1 y2
  go_loopw [3, 9] (fun o i wr => ∃ (k m : Nat) (a' : Option Addr) (cap' : Nat), i = .int .i64 k ∧ o = .slice a' m cap' ∧ k ≤ cs.length ∧ m ≤ k ∧ Own wr W.heap.size a' m cap' (insSort (coll (isUsed cs) (fun c => nth cs c) k)) ∧ Below W.heap.size W wr) (fun _ i _ => cs.length - (intOf i).toNat)
  case atStart => exact ⟨0, 0, none, 0, rfl, rfl, by omega, by omega, Own.nil _ _, Below.refl _ _⟩
  case round =>
    obtain ⟨k, m, a', cap', rfl, rfl, hk, hmk, own, hb⟩ := hrel
    have hbs := hb.size
    replace hH := hH.below hb (Nat.le_refl _)
    have C := C.below hb (by omega)
    by_cases hlt : k < cs.length
    · obtain ⟨b, off, rfl, hbb, hcc⟩ := hH.2.2.2.2 (by omega)
      have hck := hcc k hlt
      clear hcc
      have hm12 : m ≤ 12 := by omega
      obtain ⟨y1, y2⟩ := id C
      by_cases he : nth cs k = -1
      · have hb1 : (nth cs k != -1) = false := by simp [he]
        have HC := hid (keys_none he)
        clear he
        go_wp2_with fail
        go_roundw
        case rel => exact ⟨k + 1, m, a', cap', by go_num, rfl, by omega, by omega, by rw [HC.out]; exact own, hb⟩
        case measure => simp [intOf]; omega
      · have hb1 : (nth cs k != -1) = true := by simp [he]
        have HC := hid (ht.keys_next hlt he)
        have hk0 : 0 ≤ nth cs k := by have := HB.out k hlt; omega
        clear he
        go_wp2_with (go_at_call 80; refine (l1Put_any _ _ _ _ _ _ _ own (by omega) hbs).mono ?_; rintro e w' ⟨a2, m2, cap2, rfl, own2, hb2⟩)
        go_roundw
        case rel => exact ⟨k + 1, m2, a2, cap2, by go_num, rfl, by omega, (by have h5 := own2.len; rw [HC.out, length_insSort] at h5; have := length_coll (isUsed cs) (fun c => nth cs c) (k + 1); omega), by rw [← HC.out]; exact own2, hb.trans (hb2.mono hbs)⟩
        case measure => simp [intOf]; omega
    · obtain rfl : k = cs.length := by omega
      go_wp2_with fail
      go_ret
      exact ⟨_, _, _, rfl, own.mono (by omega), hbW.trans (hb.mono (by omega))⟩

theorem used_count (cs : List Int) {k : Nat} (hk : k < cs.length) : usedN (cs.take (k + 1)) = usedN (cs.take k) + if nth cs k = -1 then 0 else 1 := by
  rw [take_succ_nth hk]
  unfold usedN
  rw [List.countP_append]
  by_cases e : nth cs k = -1 <;> simp [e]
set_option maxRecDepth 100000 in
set_option maxHeartbeats 2000000 in
theorem prMany_any (a : Option Addr) (n cap : Nat) (cs : List Int) (w : World) (h : Has w a n cap cs) (hn : n ≤ 12) :
    Calls Try.prog 47 #[.agg #[.slice a n cap]] w fun e w' => e = .returned (.int .i64 (usedN cs : Nat)) ∧ Below w.heap.size w w' := by
  obtain rfl := h.len
  obtain ⟨W, hW, C, hbW, hsW⟩ := boxed w (.slice a cs.length cap) 28
  have hH := h.below hbW (Nat.le_refl _)
  obtain ⟨y1, y2⟩ := id C
  go_enter Try.func47, Try.ntmps47
  go_wp2_with fail
  go_loopw [3, 9] (fun o i wr => ∃ k : Nat, i = .int .i64 k ∧ o = .int .i64 (usedN (cs.take k) : Nat) ∧ k ≤ cs.length ∧ W = wr) (fun _ i _ => cs.length - (intOf i).toNat)
  case atStart => exact ⟨0, rfl, rfl, by omega, rfl⟩
  case round =>
    obtain ⟨k, rfl, rfl, hk, rfl⟩ := hrel
    by_cases hlt : k < cs.length
    · obtain ⟨b, off, rfl, hbb, hcc⟩ := hH.2.2.2.2 (by omega)
      have hck := hcc k hlt
      clear hcc
      have HC := hid (used_count cs hlt)
      have hu := usedN_le (cs.take k)
      rw [List.length_take] at hu
      by_cases he : nth cs k = -1
      · have hb1 : (nth cs k != -1) = false := by simp [he]
        have HD : Hid (usedN (cs.take (k + 1)) = usedN (cs.take k)) := hid (by rw [HC.out, if_pos he]; rfl)
        clear he
        go_wp2_with fail
        go_roundw
        case rel => exact ⟨k + 1, by go_num, by rw [HD.out], by omega, trivial⟩
        case measure => simp [intOf]; omega
      · have hb1 : (nth cs k != -1) = true := by simp [he]
        have HD : Hid (usedN (cs.take (k + 1)) = usedN (cs.take k) + 1) := hid (by rw [HC.out, if_neg he])
        clear he
        go_wp2_with fail
        go_roundw
        case rel => exact ⟨k + 1, by go_num, by rw [HD.out]; go_num, by omega, trivial⟩
        case measure => simp [intOf]; omega
    · obtain rfl : k = cs.length := by omega
      have HT : Hid (cs.take cs.length = cs) := hid List.take_length
      go_wp2_with fail
      go_ret
      exact ⟨ret_int (by rw [HT.out]), hbW⟩

/-- Where a key is, or -1. -/
def placeI (cs : List Int) (key : Int) : Int := if key ∈ cs then (findL cs key : Int) else -1
theorem placeI_yes {cs : List Int} {key : Int} (h : key ∈ cs) : placeI cs key = (findL cs key : Int) := if_pos h
theorem placeI_no {cs : List Int} {key : Int} (h : key ∉ cs) : placeI cs key = -1 := if_neg h
set_option maxRecDepth 100000 in
set_option maxHeartbeats 2000000 in
theorem prPlace_any (a : Option Addr) (n cap : Nat) (cs : List Int) (key : Int) (w : World) (h : Has w a n cap cs) :
    Calls Try.prog 72 #[.agg #[.slice a n cap], .int .i64 key] w fun e w' => e = .returned (.int .i64 (placeI cs key)) ∧ Below w.heap.size w w' := by
  obtain rfl := h.len
  obtain ⟨W, hW, C, hbW, hsW⟩ := boxed w (.slice a cs.length cap) 28
  have hH := h.below hbW (Nat.le_refl _)
  obtain ⟨y1, y2⟩ := id C
  have hle := h.le
  go_enter Try.func72, Try.ntmps72
  go_wp2_with fail
  go_loopw [10] (fun i wr => ∃ k : Nat, i = .int .i64 k ∧ Hid (∀ j, j < k → nth cs j ≠ key) ∧ k ≤ cs.length ∧ W = wr) (fun i _ => cs.length - (intOf i).toNat)
  case atStart => exact ⟨0, rfl, hid (fun j hj => by omega), by omega, rfl⟩
  case round =>
    obtain ⟨k, rfl, HN, hk, rfl⟩ := hrel
    by_cases hlt : k < cs.length
    · obtain ⟨b, off, rfl, hbb, hcc⟩ := hH.2.2.2.2 (by omega)
      have hck := hcc k hlt
      clear hcc
      by_cases he : nth cs k = key
      · have hb1 : (nth cs k == key) = true := by simp [he]
        have HR : Hid ((placeI cs key) = (k : Int)) := hid (by
          have hm : key ∈ cs := he ▸ nth_mem hlt
          obtain ⟨f1, f2, f3⟩ := findL_spec hm
          unfold placeI
          rw [if_pos hm]
          have h1 : ¬ findL cs key < k := fun hh => HN.out _ hh f2
          have h2 : ¬ k < findL cs key := fun hh => f3 _ hh he
          omega)
        clear he
        go_wp2_with fail
        go_ret
        exact ⟨ret_int (by rw [HR.out]), hbW⟩
      · have hb1 : (nth cs k == key) = false := by simp [he]
        have HN2 : Hid (∀ j, j < k + 1 → nth cs j ≠ key) := hid (fun j hj => by
          rcases Nat.lt_succ_iff_lt_or_eq.1 hj with h1 | rfl
          · exact HN.out j h1
          · exact he)
        clear he
        go_wp2_with fail
        go_roundw
        case rel => exact ⟨k + 1, by go_num, HN2, by omega, trivial⟩
        case measure => simp [intOf]; omega
    · obtain rfl : k = cs.length := by omega
      have HR : Hid ((placeI cs key) = -1) := hid (by
        unfold placeI
        rw [if_neg]
        intro hm
        obtain ⟨i, hi, e⟩ := mem_nth hm
        exact HN.out i hi e)
      go_wp2_with fail
      go_ret
      exact ⟨ret_int (by rw [HR.out]), hbW⟩
end Go.Proofs.Ytbmghpgnakbnjab
