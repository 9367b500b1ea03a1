/- The model's functions of tables, by their contracts: used cells, costs, keys. -/
import Derived.Test.YtadcmghjhgjeeabSpecPr
import Derived.Test.YtadcmghjhgjeeabPut
import Derived.Test.YtadcmghjhgjeeabImplRf
namespace Go.Proofs.Ytadcmghjhgjeeab
open Go.RowKit

/-- The used cells, if it is a table. -/
def usedOf (cs : List Int) : List Int × Bool := if tblB cs then (usedL cs, true) else ([], false)
theorem usedOf_yes {cs : List Int} (h : tblB cs = true) : usedOf cs = (usedL cs, true) := if_pos h
theorem usedOf_no {cs : List Int} (h : tblB cs = false) : usedOf cs = ([], false) := if_neg (by simp [h])

theorem keys_none {cs : List Int} {k : Nat} (h : nth cs k = -1) : insSort (coll (isUsed cs) (fun c => nth cs c) (k + 1)) = insSort (coll (isUsed cs) (fun c => nth cs c) k) := by rw [coll_no (isUsed_not.2 h)]
theorem Tb.keys_next {cs : List Int} (ht : Tb cs) {k : Nat} (hk : k < cs.length) (h : nth cs k ≠ -1) : putL (insSort (coll (isUsed cs) (fun c => nth cs c) k)) (nth cs k) = insSort (coll (isUsed cs) (fun c => nth cs c) (k + 1)) :=
  put_next (f := fun c => nth cs c) (isUsed_iff.2 h) fun c hc hp e => by
    have := ht.one c k (by omega) hk e (isUsed_iff.1 hp)
    omega

theorem used_count (cs : List Int) {k : Nat} (hk : k < cs.length) : usedN (cs.take (k + 1)) = usedN (cs.take k) + if nth cs k = -1 then 0 else 1 := by
  rw [take_succ_nth hk]
  unfold usedN
  rw [List.countP_append]
  by_cases e : nth cs k = -1 <;> simp [e]
set_option maxRecDepth 100000 in
set_option maxHeartbeats 2000000 in
theorem prMany_any (a : Option Addr) (n cap : Nat) (cs : List Int) (w : World) (h : Has w a n cap cs) (hn : n ≤ 12) :
    Calls Try.prog 56 #[.agg #[.slice a n cap]] w fun e w' => e = .returned (.int .i64 (usedN cs : Nat)) ∧ Below w.heap.size w w' := by
  obtain rfl := h.len
  obtain ⟨W, hW, C, hbW, hsW⟩ := boxed w (.slice a cs.length cap) 35
  have hH := h.below hbW (Nat.le_refl _)
  obtain ⟨y1, y2⟩ := id C
  go_enter Try.func56, Try.ntmps56
  go_wp2_with fail
  go_loopw [3, 9] (fun o i wr => ∃ k : Nat, i = .int .i64 k ∧ o = .int .i64 (usedN (cs.take k) : Nat) ∧ k ≤ cs.length ∧ W = wr) (fun _ i _ => cs.length - (intOf i).toNat)
  case atStart => exact ⟨0, rfl, rfl, by omega, rfl⟩
  case round =>
    obtain ⟨k, rfl, rfl, hk, rfl⟩ := hrel
    by_cases hlt : k < cs.length
    · obtain ⟨b, off, rfl, hbb, hcc⟩ := hH.2.2.2.2 (by omega)
      have hck := hcc k hlt
      clear hcc
      have HC := hid (used_count cs hlt)
      have hu := usedN_le (cs.take k)
      rw [List.length_take] at hu
      by_cases he : nth cs k = -1
      · have hb1 : (nth cs k != -1) = false := by simp [he]
        have HD : Hid (usedN (cs.take (k + 1)) = usedN (cs.take k)) := hid (by rw [HC.out, if_pos he]; rfl)
        clear he
        go_wp2_with fail
        go_roundw
        case rel => exact ⟨k + 1, by go_num, by rw [HD.out], by omega, trivial⟩
        case measure => simp [intOf]; omega
      · have hb1 : (nth cs k != -1) = true := by simp [he]
        have HD : Hid (usedN (cs.take (k + 1)) = usedN (cs.take k) + 1) := hid (by rw [HC.out, if_neg he])
        clear he
        go_wp2_with fail
        go_roundw
        case rel => exact ⟨k + 1, by go_num, by rw [HD.out]; go_num, by omega, trivial⟩
        case measure => simp [intOf]; omega
    · obtain rfl : k = cs.length := by omega
      have HT : Hid (cs.take cs.length = cs) := hid List.take_length
      go_wp2_with fail
      go_ret
      exact ⟨ret_int (by rw [HT.out]), hbW⟩

/-- Where a key is, or -1. -/
def placeI (cs : List Int) (key : Int) : Int := if key ∈ cs then (findL cs key : Int) else -1
theorem placeI_yes {cs : List Int} {key : Int} (h : key ∈ cs) : placeI cs key = (findL cs key : Int) := if_pos h
theorem placeI_no {cs : List Int} {key : Int} (h : key ∉ cs) : placeI cs key = -1 := if_neg h
set_option maxRecDepth 100000 in
set_option maxHeartbeats 2000000 in
theorem prPlace_any (a : Option Addr) (n cap : Nat) (cs : List Int) (key : Int) (w : World) (h : Has w a n cap cs) :
    Calls Try.prog 86 #[.agg #[.slice a n cap], .int .i64 key] w fun e w' => e = .returned (.int .i64 (placeI cs key)) ∧ Below w.heap.size w w' := by
  obtain rfl := h.len
  obtain ⟨W, hW, C, hbW, hsW⟩ := boxed w (.slice a cs.length cap) 35
  have hH := h.below hbW (Nat.le_refl _)
  obtain ⟨y1, y2⟩ := id C
  have hle := h.le
  go_enter Try.func86, Try.ntmps86
  go_wp2_with fail
  go_loopw [10] (fun i wr => ∃ k : Nat, i = .int .i64 k ∧ Hid (∀ j, j < k → nth cs j ≠ key) ∧ k ≤ cs.length ∧ W = wr) (fun i _ => cs.length - (intOf i).toNat)
  case atStart => exact ⟨0, rfl, hid (fun j hj => by omega), by omega, rfl⟩
  case round =>
    obtain ⟨k, rfl, HN, hk, rfl⟩ := hrel
    by_cases hlt : k < cs.length
    · obtain ⟨b, off, rfl, hbb, hcc⟩ := hH.2.2.2.2 (by omega)
      have hck := hcc k hlt
      clear hcc
      by_cases he : nth cs k = key
      · have hb1 : (nth cs k == key) = true := by simp [he]
        have HR : Hid ((placeI cs key) = (k : Int)) := hid (by
          have hm : key ∈ cs := he ▸ nth_mem hlt
          obtain ⟨f1, f2, f3⟩ := findL_spec hm
          unfold placeI
          rw [if_pos hm]
          have h1 : ¬ findL cs key < k := fun hh => HN.out _ hh f2
          have h2 : ¬ k < findL cs key := fun hh => f3 _ hh he
          omega)
        clear he
        go_wp2_with fail
        go_ret
        exact ⟨ret_int (by rw [HR.out]), hbW⟩
      · have hb1 : (nth cs k == key) = false := by simp [he]
        have HN2 : Hid (∀ j, j < k + 1 → nth cs j ≠ key) := hid (fun j hj => by
          rcases Nat.lt_succ_iff_lt_or_eq.1 hj with h1 | rfl
          · exact HN.out j h1
          · exact he)
        clear he
        go_wp2_with fail
        go_roundw
        case rel => exact ⟨k + 1, by go_num, HN2, by omega, trivial⟩
        case measure => simp [intOf]; omega
    · obtain rfl : k = cs.length := by omega
      have HR : Hid ((placeI cs key) = -1) := hid (by
        unfold placeI
        rw [if_neg]
        intro hm
        obtain ⟨i, hi, e⟩ := mem_nth hm
        exact HN.out i hi e)
      go_wp2_with fail
      go_ret
      exact ⟨ret_int (by rw [HR.out]), hbW⟩
end Go.Proofs.Ytadcmghjhgjeeab
