/- The model's functions of chapter 3, by their contracts: degrees, leaves, depths, numbers below. -/
import Derived.Test.YtochmifhhigfhacSpecTu
namespace Go.Proofs.Ytochmifhhigfhac
open Go.RowKit

theorem trAbove_at (a : Option Addr) (n cap : Nat) (xs : List Int) (v : Nat) (V : Int) (w : World) (hV : V = (v : Int)) (h : Has w a n cap xs) (ht : Tree xs n) (hv : v ≤ n) :
    Calls Try.prog 44 #[.slice a n cap, .int .i64 V] w fun e w' => ∃ a' m cap', e = .returned (.slice a' m cap') ∧ Own w' w.heap.size a' m cap' (abv xs v) ∧ Below w.heap.size w w' := by
  subst hV
  exact trAbove_any a n cap xs v w h ht hv

theorem degL_succ {xs : List Int} {v : Nat} (h : v ≤ xs.length) : (degL xs).take (v + 1) = (degL xs).take v ++ [(deg xs v : Int)] := by
  rw [take_succ_nth (by rw [length_degL]; omega), nth_degL h]
theorem deg_le {xs : List Int} (v : Nat) (h : xs.length ≤ 8) : deg xs v ≤ 9 := by
  unfold deg
  have : xs.count (v : Int) ≤ xs.length := List.count_le_length
  split <;> omega

theorem leaves_nth {xs : List Int} {k : Nat} (h : k < xs.length) : nth (List.drop 1 (degL xs)) k = (deg xs (k + 1) : Int) := by
  rw [nth_dropP, Nat.add_comm, nth_degL (by omega)]

set_option maxHeartbeats 1000000 in
theorem specParkOf_any (a : Option Addr) (n cap : Nat) (xs : List Int) (w : World) (h : Has w a n cap xs) :
    Calls Try.prog 13 #[.slice a n cap] w (PostInts w (potOf xs)) := by
  have HL := hid h.len
  by_cases hg : treeB xs = true
  · have HR : Hid (potOf xs = (potL xs, true)) := hid (by simp [potOf, hg])
    have ht := tree_of hg h.len
    have h8 := ht.le
    have HI : Hid (∀ i, i < n → nth xs i ∈ brOrder xs) := hid (fun i hi => by have := ht.nthB i hi; exact br_all ht _ _ this.1 this.2 rfl)
    have HBL := hid (br_length ht)
    have HG := hid hg
    clear hg ht
    go_enter Try.func13, Try.ntmps13
    go_wp2_with (first | (go_at_call 35; refine (trGood_any _ _ _ _ _ h).mono ?_; rintro e w' ⟨rfl, rfl⟩; rw [HG.out]) | (go_at_call 36; refine (trBreadth_any _ _ _ _ _ h h8).mono ?_; rintro e w1 ⟨a1, m1, cap1, rfl, hown1, hb1⟩))
    have hs1 := hb1.size
    go_loopw [5, 15] (fun o i wr => ∃ (k : Nat) (a' : Option Addr) (cap' : Nat), k ≤ n ∧ i = .int .i64 k ∧ o = .slice a' k cap' ∧ Own wr w1.heap.size a' k cap' ((potL xs).take k) ∧ Below w1.heap.size w1 wr) (fun _ i _ => n - (intOf i).toNat)
    case atStart => exact ⟨0, none, 0, by omega, rfl, rfl, Own.nil _ _, Below.refl _ _⟩
    case round =>
      obtain ⟨k, a', cap', hk, rfl, rfl, hown, hb⟩ := hrel
      by_cases hlt : k < n
      · obtain ⟨b, off, rfl, hbb, hc⟩ := ((h.below hb1 (Nat.le_refl _)).below hb (Nat.le_refl _)).2.2.2.2 (by omega)
        have hck := hc k hlt
        have HS := hid (potL_succ (ps := xs) (k := k) (by rw [HL.out]; exact hlt)) 
        have HP : Hid (plc (brOrder xs) (nth xs k) ≤ 9) := hid (by have := (plc_mem (HI.out k hlt)).1; rw [HBL.out] at this; omega)
        have hp9 := HP.out
        clear hc
        go_wp2_with fail
        refine (trPlace_any _ _ _ _ _ _ (hown1.has.below hb (Nat.le_refl _)) (HI.out k hlt)).mono ?_
        rintro e _ ⟨rfl, rfl⟩
        go_wp2_with (at_builtin; refine wpList_append_int _ rfl _ _ rfl w1.heap.size _ _ _ _ _ rfl rfl hown (by omega) hb.size ?_; intro a3 cap3 w3 hown3 hb3)
        go_roundw
        case rel => exact ⟨k + 1, a3, cap3, by omega, by go_num, rfl, by rw [HS.out]; exact hown3, hb.trans hb3⟩
        case measure => simp [intOf]; omega
      · obtain rfl : k = n := by omega
        go_wp2_with fail
        go_ret2
        exact postInts HR.out (by rw [List.take_of_length_le (by rw [length_potL, HL.out]; omega)] at hown; exact hown.mono hs1) (hb1.trans (hb.mono hs1))
  · have HR : Hid (potOf xs = ([], false)) := hid (by simp [potOf, hg])
    have HG := hid (Bool.eq_false_iff.2 hg)
    clear hg
    go_enter Try.func13, Try.ntmps13
    go_wp2_with (go_at_call 35; refine (trGood_any _ _ _ _ _ h).mono ?_; rintro e w' ⟨rfl, rfl⟩; rw [HG.out])
    go_ret2
    exact postInts_no HR.out (Below.refl _ _)
end Go.Proofs.Ytochmifhhigfhac
