/- A ring's keys and costs. -/
import Derived.Test.YtadcmghjhgjeeabImplRf
import Derived.Test.YtadcmghjhgjeeabSrt
import Derived.Test.YtadcmghjhgjeeabReg
namespace Go.Proofs.Ytadcmghjhgjeeab
open Go.RowKit

/-- A list of which the first k numbers are told anew. -/
def mixK (g : Int → Int) (us : List Int) (k : Nat) : List Int := (us.map g).take k ++ us.drop k
theorem mixK_zero (g : Int → Int) (us : List Int) : mixK g us 0 = us := by simp [mixK]
theorem mixK_all (g : Int → Int) (us : List Int) : mixK g us us.length = us.map g := by simp [mixK, List.take_of_length_le]
theorem length_mixK {g : Int → Int} {us : List Int} {k : Nat} (h : k ≤ us.length) : (mixK g us k).length = us.length := by simp [mixK]; omega
theorem nth_mixK {g : Int → Int} {us : List Int} {k : Nat} (h : k < us.length) : nth (mixK g us k) k = nth us k := by
  unfold mixK nth
  rw [List.getD_eq_getElem?_getD, List.getD_eq_getElem?_getD, List.getElem?_append_right (by simp; omega), List.length_take, List.length_map, Nat.min_eq_left (by omega), List.getElem?_drop]
  congr 2
  omega
theorem mixK_set {g : Int → Int} {us : List Int} {k : Nat} (h : k < us.length) : (mixK g us k).set k (g (nth us k)) = mixK g us (k + 1) := by
  unfold mixK
  have hl : ((us.map g).take k).length = k := by simp; omega
  rw [List.set_append_right _ _ (by omega), hl, Nat.sub_self, List.drop_eq_getElem_cons h, List.set_cons_zero, List.take_succ_eq_append_getElem (by simpa using h)]
  simp [nth, h]
theorem used_at {cs : List Int} {k : Nat} (hk : k < (usedL cs).length) : ∃ c : Nat, nth (usedL cs) k = (c : Int) ∧ c < cs.length ∧ nth cs c ≠ -1 := by
  obtain ⟨c, h1, h2, h3⟩ := mem_used.1 (nth_mem hk)
  exact ⟨c, h3.symm, h1, h2⟩

set_option maxRecDepth 100000 in
set_option maxHeartbeats 2000000 in
theorem keys_any (cs : List Int) (w : World) (hr : Rg cs) :
    Calls Try.prog 108 #[.agg (ivals (ringL cs))] w fun e w' => ∃ a' m cap', e = .returned (.slice a' m cap') ∧ Own w' w.heap.size a' m cap' (keysL cs) ∧ Below w.heap.size w w' := by
  have h12 := hr.hi
  have R := ringAt_new w hr.all
  have hb := (Below.refl w.heap.size w).alloc (Nat.le_refl _) (.cells (ivals (ringL cs)) 69)
  have hsz : (w.alloc (.cells (ivals (ringL cs)) 69)).heap.size = w.heap.size + 1 := by simp
  obtain ⟨W, hW⟩ : ∃ W, w.alloc (.cells (ivals (ringL cs)) 69) = W := ⟨_, rfl⟩
  rw [hW] at R hb hsz
  go_enter Try.func108, Try.ntmps108
  go_wp2_with (first | (refine wpList_load_ring rfl _ rfl _ _ rfl R ?_) | (go_at_call 59; refine (usedCells_any cs _ hr).mono ?_; rintro e w' ⟨a1, m, cap1, rfl, own, st⟩))
  have s1 := st.size
  have R1 := R.below st R.lt
  have hb1 := hb.trans (st.mono (by omega))
  have hm : (usedL cs).length = m := own.len
  have hm12 : m ≤ 12 := by rw [← hm, length_usedL]; exact Nat.le_trans (usedN_le cs) h12
  have HM := hid hm
  clear hm R hb st hW
  go_loopw [10] (fun i wr => ∃ k : Nat, i = .int .i64 k ∧ k ≤ m ∧ Own wr W.heap.size a1 m cap1 (mixK (fun c => nth cs c.toNat) (usedL cs) k) ∧ RingAt wr w.heap.size (ringL cs) ∧ Below w.heap.size w wr) (fun i _ => m - (intOf i).toNat)
  case atStart => exact ⟨0, rfl, by omega, by rw [mixK_zero]; exact own, R1, hb1⟩
  case round =>
    clear own R1 hb1
    obtain ⟨k, rfl, hk, own, R, hb⟩ := hrel
    by_cases hlt : k < m
    · obtain ⟨g, rfl, hg1, hg2, hcc, hff⟩ := own.opened (by omega)
      obtain ⟨c, HC1, hc2, hc3⟩ := used_at (cs := cs) (k := k) (by rw [HM.out]; exact hlt)
      have hck := hcc k hlt
      have hfk := hff k
      rw [nth_mixK (by rw [HM.out]; exact hlt), HC1] at hck
      have hcell := ring_cell R hc2 h12
      have hc0 : (0 : Int) ≤ (c : Int) := by omega
      have hc12 : (c : Int) < 12 := by omega
      have own2 := own.set k (nth cs c)
      have e1 : (mixK (fun c => nth cs c.toNat) (usedL cs) k).set k (nth cs c) = mixK (fun c => nth cs c.toNat) (usedL cs) (k + 1) := by
        have := mixK_set (g := fun c => nth cs c.toNat) (us := usedL cs) (k := k) (by rw [HM.out]; exact hlt)
        rw [HC1] at this
        exact this
      rw [e1] at own2
      have R2 := R.setOther (a := ⟨g, k, none⟩) (by show w.heap.size ≠ g; omega) (.int .i64 (nth cs c))
      have hb2 := hb.setCell (p := ⟨g, k, none⟩) (by show w.heap.size ≤ g; omega) (.int .i64 (nth cs c))
      have H1 := hid HC1
      clear HC1 e1 hcc hff
      go_wp2_with fail
      go_roundw
      case rel => exact ⟨k + 1, by go_num, by omega, own2.1, R2, hb2⟩
      case measure => simp [intOf]; omega
    · obtain rfl : k = m := by omega
      have HA : Hid (insSort (mixK (fun c => nth cs c.toNat) (usedL cs) k) = keysL cs) := hid (by
        rw [← HM.out, mixK_all, used_taken]
        rfl)
      go_wp2_with (go_at_call 116; refine (sort_any _ _ _ _ _ _ own).mono ?_; rintro e w' ⟨rfl, own2, hm2⟩)
      go_ret
      exact ⟨_, _, _, rfl, by rw [← HA.out]; exact own2.mono (by omega), hb.trans (hm2.below (own.ge.mono (by omega)) hb.size)⟩
end Go.Proofs.Ytadcmghjhgjeeab
