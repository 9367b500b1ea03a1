/- The model's sand, by contract. -/
import Derived.Test.YtclpbccmgfclcaaSpecC
import Derived.Test.YtclpbccmgfclcaaSpecO
import Derived.Test.YtclpbccmgfclcaaApp2
import Derived.Test.YtclpbccmgfclcaaMathSa
import Derived.Deep.LoopGhost
namespace Go.Proofs.Ytclpbccmgfclcaa
open Go.RowKit

theorem sand_nth {xs : List Int} {n : Nat} (h : sandB xs = true) (hn : xs.length = n) : n ≤ 8 ∧ ∀ i, i < n → 0 ≤ nth xs i ∧ nth xs i ≤ 60 := by
  obtain ⟨h1, h2⟩ := sandB_iff.1 h
  exact ⟨by omega, fun i hi => h2 _ (nth_mem (by omega))⟩

set_option maxHeartbeats 400000 in
theorem reSand_any (a : Option Addr) (n cap : Nat) (xs : List Int) (w : World) (h : Has w a n cap xs) :
    Calls Try.prog 43 #[.slice a n cap] w fun e w' => e = .returned (.bool (sandB xs)) ∧ w = w' := by
  have hlen := h.len
  by_cases h8 : n ≤ 8
  · go_enter Try.func43, Try.ntmps43
    go_wp2_with (go_at_call 72; refine (l1All_any _ _ _ _ _ _ _ h).mono ?_; rintro e w' ⟨rfl, rfl⟩)
    go_ret
    exact ⟨ret_bool (by simp [sandB, hlen, h8]), rfl⟩
  · go_enter Try.func43, Try.ntmps43
    go_wp2_with fail
    go_ret
    exact ⟨ret_bool (by simp [sandB, hlen, h8]), rfl⟩

/-- The least node that can topple, or -1. -/
def fstI (xs : List Int) : Int := if firstN xs < xs.length then (firstN xs : Int) else -1
theorem fstI_yes {xs : List Int} (h : firstN xs < xs.length) : fstI xs = (firstN xs : Int) := by unfold fstI; rw [if_pos h]
theorem fstI_no {xs : List Int} (h : ¬ firstN xs < xs.length) : fstI xs = -1 := by unfold fstI; rw [if_neg h]

set_option maxHeartbeats 400000 in
theorem reFirst_any (a : Option Addr) (n cap : Nat) (xs : List Int) (w : World) (h : Has w a n cap xs) :
    Calls Try.prog 45 #[.slice a n cap] w fun e w' => e = .returned (.int .i64 (fstI xs)) ∧ w = w' := by
  have HL := hid h.len
  have hle := h.le
  go_enter Try.func45, Try.ntmps45
  go_wp2_with fail
  go_loop [7] (fun i => ∃ k : Nat, k ≤ n ∧ i = .int .i64 k ∧ Hid (∀ j, j < k → nth xs j < xs.length)) (fun i => n - (intOf i).toNat)
  case atStart => exact ⟨0, by omega, rfl, hid (fun j hj => by omega)⟩
  case round =>
    obtain ⟨k, hk, rfl, HJ⟩ := hrel
    by_cases hlt : k < n
    · obtain ⟨b0, off, rfl, hbb, hc⟩ := h.2.2.2.2 (by omega)
      have hck := hc k hlt
      by_cases hx : (n : Int) ≤ nth xs k
      · have HR : Hid (fstI xs = (k : Int)) := hid (by
          have e := first_of HJ.out (by rw [HL.out]; exact hlt) (by rw [HL.out]; exact hx)
          rw [fstI_yes (by rw [e, HL.out]; exact hlt), e])
        clear hc
        go_wp2_with fail
        go_ret
        exact ⟨ret_int HR.out.symm, rfl⟩
      · have HN : Hid (∀ j, j < k + 1 → nth xs j < xs.length) := hid (fun j hj => by
          rcases Nat.lt_succ_iff_lt_or_eq.1 hj with h1 | rfl
          · exact HJ.out j h1
          · rw [HL.out]; omega)
        clear hc
        go_wp2_with fail
        go_round
        case rel => exact ⟨k + 1, by omega, by go_num, HN⟩
        case measure => simp [intOf]; omega
    · obtain rfl : k = n := by omega
      have HR : Hid (fstI xs = -1) := hid (fstI_no (by rw [first_none fun j hj => HJ.out j (by rw [← HL.out]; exact hj)]; omega))
      go_wp2_with fail
      go_ret
      exact ⟨ret_int HR.out.symm, rfl⟩

set_option maxHeartbeats 1000000 in
theorem reTopple_any (a : Option Addr) (n cap : Nat) (xs : List Int) (t : Nat) (w : World) (h : Has w a n cap xs) (h8 : n ≤ 8) (ht : t < n) (hb : ∀ i, i < n → 0 ≤ nth xs i ∧ nth xs i ≤ 5000) :
    Calls Try.prog 49 #[.slice a n cap, .int .i64 (t : Int)] w fun e w' => ∃ a' cap', e = .returned (.slice a' n cap') ∧ Own w' w.heap.size a' n cap' (topL xs t) ∧ Below w.heap.size w w' := by
  have HL := hid h.len
  have HB := hid hb
  clear hb
  go_enter Try.func49, Try.ntmps49
  go_wp2_with fail
  go_loopw [5, 10] (fun o i wr => ∃ (k : Nat) (a' : Option Addr) (cap' : Nat), k ≤ n ∧ i = .int .i64 k ∧ o = .slice a' k cap' ∧ Own wr w.heap.size a' k cap' ((topL xs t).take k) ∧ Below w.heap.size w wr) (fun _ i _ => n - (intOf i).toNat)
  case atStart => exact ⟨0, none, 0, by omega, rfl, rfl, Own.nil _ _, Below.refl _ _⟩
  case round =>
    obtain ⟨k, a', cap', hk, rfl, rfl, hown, hb⟩ := hrel
    by_cases hlt : k < n
    · obtain ⟨b0, off, rfl, hbb, hc⟩ := h.2.2.2.2 (by omega)
      have hck : wr.cell? ⟨b0, off + k, none⟩ = some (.int .i64 (nth xs k)) := by rw [hb.cell (p := ⟨b0, off + k, none⟩) hbb]; exact hc k hlt
      have hbd := HB.out k hlt
      have HS := hid (take_succ_nth (xs := topL xs t) (k := k) (by rw [length_topL, HL.out]; exact hlt))
      have HT := hid (nth_topL (c := xs) (i := t) (k := k) (by rw [HL.out]; exact ht) (by rw [HL.out]; exact hlt))
      obtain ⟨hb0, hb1⟩ := hbd
      clear hc
      by_cases e : t = k
      · subst e
        have HX : Hid (nth (topL xs t) t = nth xs t - (n : Int)) := hid (by rw [HT.out, if_pos rfl, HL.out])
        go_wp2_with (at_builtin; refine wpList_append_int _ rfl _ _ rfl w.heap.size _ _ _ _ _ rfl rfl hown (by omega) hb.size ?_; intro a3 cap3 w3 hown3 hb3)
        go_roundw
        case rel => exact ⟨t + 1, a3, cap3, by omega, by go_num, rfl, by rw [HS.out, HX.out]; exact hown3, hb.trans hb3⟩
        case measure => simp [intOf]; omega
      · have HX : Hid (nth (topL xs t) k = nth xs k + 1) := hid (by rw [HT.out, if_neg e])
        have e1 : ¬ (k : Int) = (t : Int) := by omega
        have e2 : ((k : Int) == (t : Int)) = false := by simp; omega
        go_wp2_with (at_builtin; refine wpList_append_int _ rfl _ _ rfl w.heap.size _ _ _ _ _ rfl rfl hown (by omega) hb.size ?_; intro a3 cap3 w3 hown3 hb3)
        go_roundw
        case rel => exact ⟨k + 1, a3, cap3, by omega, by go_num, rfl, by rw [HS.out, HX.out]; exact hown3, hb.trans hb3⟩
        case measure => simp [intOf]; omega
    · obtain rfl : k = n := by omega
      go_wp2_with fail
      go_ret
      exact ⟨_, _, rfl, by rw [List.take_of_length_le (by rw [length_topL, HL.out]; omega)] at hown; exact hown, hb⟩

/-- What is left of settling. -/
structure SettleAt (cs xs os : List Int) (n q : Nat) : Prop where
  len : xs.length = n
  pile : Pile xs
  eq : settle cs = ((settle xs).1, os ++ (settle xs).2)
  left : q = (settle xs).2.length
  tot : total xs ≤ 4000
  cnt : os.length + q ≤ 4000
theorem SettleAt.next {cs xs os : List Int} {n q : Nat} (h : SettleAt cs xs os n q) (hf : firstN xs < xs.length) : 0 < q ∧ SettleAt cs (topL xs (firstN xs)) (os ++ [(firstN xs : Int)]) n (q - 1) := by
  have hs := settle_step h.pile hf
  have h1 := h.left
  have h2 := h.eq
  have h3 := h.cnt
  have h4 := h.tot
  rw [hs] at h1 h2
  simp only [List.length_cons] at h1
  refine ⟨by omega, ⟨by rw [length_topL]; exact h.len, pile_topL h.pile hf (first_at hf), by rw [h2]; simp, by omega, by rw [total_topL hf]; omega, by simp; omega⟩⟩
theorem SettleAt.end {cs xs os : List Int} {n q : Nat} (h : SettleAt cs xs os n q) (hf : ¬ firstN xs < xs.length) : settle cs = (xs, os) := by
  have := first_le xs
  rw [h.eq, settle_done (by omega)]
  simp
theorem SettleAt.bound {cs xs os : List Int} {n q : Nat} (h : SettleAt cs xs os n q) : ∀ i, i < n → 0 ≤ nth xs i ∧ nth xs i ≤ 5000 := fun i hi => by
  have h1 := h.pile.nth (k := i) (by rw [h.len]; exact hi)
  have h2 := (pile_total h.pile).2 _ (nth_mem (xs := xs) (i := i) (by rw [h.len]; exact hi))
  have := h.tot
  omega
theorem settle_start {cs : List Int} {n : Nat} (hl : cs.length = n) (hp : Pile cs) (ht : total cs ≤ 4000) : SettleAt cs cs [] n (settle cs).2.length :=
  ⟨hl, hp, by simp, rfl, ht, by have := (settled hp).cnt; simp; omega⟩

/-- What settling comes to: the sand and the nodes that topple. -/
def PostSettle (w : World) (n : Nat) (r : List Int × List Int) (e : Ending) (w' : World) : Prop :=
  ∃ a c b m d, e = .returned (.tuple #[.slice a n c, .slice b m d]) ∧ Own w' w.heap.size a n c r.1 ∧ Own w' w.heap.size b m d r.2 ∧ Below w.heap.size w w'

set_option maxHeartbeats 1000000 in
theorem reSettle_any (a : Option Addr) (n cap : Nat) (cs : List Int) (w : World) (h : Has w a n cap cs) (h8 : n ≤ 8) (hp : Pile cs) (ht : total cs ≤ 4000) :
    Calls Try.prog 44 #[.slice a n cap] w (PostSettle w n (settle cs)) := by
  have ST := settle_start h.len hp ht
  go_enter Try.func44, Try.ntmps44
  go_wp2_with (first | (go_at_call 73; refine (l1Own_any _ _ _ _ _ h).mono ?_; rintro e w' ⟨a1, c1, rfl, own1, hb1⟩) | (go_at_call 45; refine (reFirst_any _ _ _ _ _ own1.has).mono ?_; rintro e w' ⟨rfl, rfl⟩))
  go_loopg [4, 5, 6] (settle cs).2.length (fun q nw nd i wr => ∃ (xs os : List Int) (m : Nat) (b1 b2 : Option Addr) (d1 d2 : Nat), nw = .slice b1 n d1 ∧ nd = .slice b2 m d2 ∧ i = .int .i64 (fstI xs) ∧ Own wr w.heap.size b1 n d1 xs ∧ Own wr w.heap.size b2 m d2 os ∧ SettleAt cs xs os n q ∧ Below w.heap.size w wr)
  case atStart => exact ⟨cs, [], 0, a1, none, c1, 0, rfl, rfl, rfl, own1, Own.nil _ _, ST, hb1⟩
  case round =>
    clear own1 ST hb1
    obtain ⟨xs, os, m, b1, b2, d1, d2, rfl, rfl, rfl, o1, o2, ST, hb⟩ := hrel
    by_cases hf : firstN xs < xs.length
    · have HF := hid (fstI_yes hf)
      obtain ⟨q0, ST2⟩ := ST.next hf
      have hm : m ≤ 4000 := by have := ST.cnt; have := o2.len; omega
      have hfn : firstN xs < n := by rw [← ST.len]; exact hf
      have HBD := ST.bound
      rw [HF.out]
      clear hf ST
      go_wp2_with (first | (go_at_call 49; refine (reTopple_any _ _ _ _ _ _ o1.has h8 hfn HBD).mono ?_; rintro e w' ⟨a3, c3, rfl, own3, hb3⟩; have o2' := o2.below hb3 (Nat.le_refl _); have hb' := hb.trans (hb3.mono hb.size); have ap3 := apart_of o2.lt own3.ge) | (at_builtin; refine wpList_append_two _ rfl _ _ rfl w.heap.size _ _ _ _ _ rfl rfl o2' (by omega) hb'.size _ _ _ _ _ own3 ap3 ?_; intro a4 cap4 w4 hown4 own3' ap4 hb4) | (go_at_call 45; refine (reFirst_any _ _ _ _ _ own3'.has).mono ?_; rintro e w' ⟨rfl, rfl⟩))
      go_roundg (gk - 1)
      case measure => omega
      case rel => exact ⟨topL xs (firstN xs), os ++ [(firstN xs : Int)], m + 1, a3, a4, c3, cap4, rfl, rfl, rfl, own3'.mono hb.size, hown4, ST2, hb'.trans hb4⟩
    · have HF := hid (fstI_no hf)
      have HE := hid (ST.end hf)
      rw [HF.out]
      clear hf ST
      go_wp2_with fail
      go_ret2
      exact ⟨_, _, _, _, _, rfl, by rw [HE.out]; exact o1, by rw [HE.out]; exact o2, hb⟩
end Go.Proofs.Ytclpbccmgfclcaa
