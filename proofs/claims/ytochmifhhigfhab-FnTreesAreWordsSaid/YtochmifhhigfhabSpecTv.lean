/- The model's functions of chapter 3, by their contracts: degrees, leaves, depths, numbers below. -/
import Derived.Test.YtochmifhhigfhabSpecTu
namespace Go.Proofs.Ytochmifhhigfhab
open Go.RowKit

theorem trAbove_at (a : Option Addr) (n cap : Nat) (xs : List Int) (v : Nat) (V : Int) (w : World) (hV : V = (v : Int)) (h : Has w a n cap xs) (ht : Tree xs n) (hv : v ≤ n) :
    Calls Try.prog 81 #[.slice a n cap, .int .i64 V] w fun e w' => ∃ a' m cap', e = .returned (.slice a' m cap') ∧ Own w' w.heap.size a' m cap' (abv xs v) ∧ Below w.heap.size w w' := by
  subst hV
  exact trAbove_any a n cap xs v w h ht hv

set_option maxHeartbeats 1000000 in
theorem trNear_any (a : Option Addr) (n cap : Nat) (xs : List Int) (v : Nat) (V : Int) (w : World) (hV : V = (v : Int)) (h : Has w a n cap xs) (hv : v ≤ n) (h8 : n ≤ 8) :
    Calls Try.prog 92 #[.slice a n cap, .int .i64 V] w fun e w' => ∃ a' m cap', e = .returned (.slice a' m cap') ∧ Own w' w.heap.size a' m cap' (nearP xs v) ∧ Below w.heap.size w w' := by
  subst hV
  have HL := hid h.len
  by_cases hv0 : v = 0
  · have HN : Hid (nearTo xs v 0 = []) := hid (by subst hv0; simp [nearTo])
    have hv0' : ¬ (0 : Int) < (v : Int) := by omega
    have HV := hid hv0
    clear hv0
    go_enter Try.func92, Try.ntmps92
    go_wp2_with fail
    go_loopw [5, 20] (fun o i wr => ∃ (k m : Nat) (a' : Option Addr) (cap' : Nat), k ≤ n ∧ i = .int .i64 k ∧ o = .slice a' m cap' ∧ Own wr w.heap.size a' m cap' (nearTo xs v k) ∧ Below w.heap.size w wr) (fun _ i _ => n - (intOf i).toNat)
    case atStart => exact ⟨0, 0, none, 0, Nat.zero_le _, rfl, rfl, by rw [HN.out]; exact Own.nil _ _, Below.refl _ _⟩
    case round =>
      obtain ⟨k, m, a', cap', hk, rfl, rfl, hown, hb⟩ := hrel
      have hm : m ≤ k + 1 := by have := length_nearTo xs v k; rw [hown.len] at this; exact this
      by_cases hlt : k < n
      · obtain ⟨b, off, rfl, hbb, hc⟩ := h.2.2.2.2 (by omega)
        have hck : wr.cell? ⟨b, off + k, none⟩ = some (.int .i64 (nth xs k)) := by rw [hb.cell (p := ⟨b, off + k, none⟩) hbb]; exact hc k hlt
        clear hc
        by_cases he : nth xs k = (v : Int)
        · have HE : Hid (nearTo xs v (k + 1) = putL (nearTo xs v k) ((k : Int) + 1)) := hid (by simp [nearTo, he])
          rw [he] at hck
          clear he
          go_wp2_with fail
          refine (l1Put_any _ _ _ _ _ _ _ hown (by omega) hb.size).mono ?_
          rintro e w2 ⟨a2, m2, cap2, rfl, hown2, hb2⟩
          go_wp2_with fail
          go_roundw
          case rel => exact ⟨k + 1, m2, a2, cap2, by omega, by go_num, rfl, by rw [HE.out]; exact hown2, hb.trans (hb2.mono hb.size)⟩
          case measure => simp [intOf]; omega
        · have HE : Hid (nearTo xs v (k + 1) = nearTo xs v k) := hid (by simp [nearTo, he])
          have hbe : (nth xs k == (v : Int)) = false := by simp [he]
          clear he
          go_wp2_with fail
          go_roundw
          case rel => exact ⟨k + 1, m, a', cap', by omega, by go_num, rfl, by rw [HE.out]; exact hown, hb⟩
          case measure => simp [intOf]; omega
      · obtain rfl : k = n := by omega
        have HN2 : Hid (nearTo xs v k = nearP xs v) := hid (by unfold nearP; rw [HL.out])
        go_wp2_with fail
        go_ret
        exact ⟨_, _, _, rfl, by rw [← HN2.out]; exact hown, hb⟩
  · obtain ⟨t, rfl⟩ : ∃ t : Nat, v = t + 1 := ⟨v - 1, by omega⟩
    have HN : Hid (nearTo xs ((t + 1 : Nat) : Int) 0 = [nth xs t]) := hid (by
      have : ¬ ((t + 1 : Nat) : Int) = 0 := by omega
      simp only [nearTo, if_neg this]
      unfold par
      rw [show ((t + 1 : Nat) : Int).toNat - 1 = t by omega])
    obtain ⟨b0, off0, rfl, hbb0, hc0⟩ := h.2.2.2.2 (by omega)
    have hct := hc0 t (by omega)
    have hcn := h.2.1
    clear hc0 hv0
    go_enter Try.func92, Try.ntmps92
    go_wp2_with (at_builtin; refine wpList_append_int _ rfl _ _ rfl w.heap.size _ _ _ _ _ rfl rfl (Own.nil w w.heap.size) (by omega) (Nat.le_refl _) ?_; intro a1 cap1 w1 hown1 hb1)
    go_loopw [5, 20] (fun o i wr => ∃ (k m : Nat) (a' : Option Addr) (cap' : Nat), k ≤ n ∧ i = .int .i64 k ∧ o = .slice a' m cap' ∧ Own wr w.heap.size a' m cap' (nearTo xs ((t + 1 : Nat) : Int) k) ∧ Below w.heap.size w wr) (fun _ i _ => n - (intOf i).toNat)
    case atStart => exact ⟨0, 1, a1, cap1, Nat.zero_le _, rfl, rfl, by rw [HN.out]; exact hown1, hb1⟩
    case round =>
      obtain ⟨k, m, a', cap', hk, rfl, rfl, hown, hb⟩ := hrel
      clear hown1 hb1
      have hm : m ≤ k + 1 := by have := length_nearTo xs ((t + 1 : Nat) : Int) k; rw [hown.len] at this; exact this
      by_cases hlt : k < n
      · have hck : wr.cell? ⟨b0, off0 + k, none⟩ = some (.int .i64 (nth xs k)) := by
          obtain ⟨b, off, hbo, hbb, hc⟩ := h.2.2.2.2 (by omega)
          cases hbo
          rw [hb.cell (p := ⟨b0, off0 + k, none⟩) hbb]; exact hc k hlt
        by_cases he : nth xs k = ((t + 1 : Nat) : Int)
        · have HE : Hid (nearTo xs ((t + 1 : Nat) : Int) (k + 1) = putL (nearTo xs ((t + 1 : Nat) : Int) k) ((k : Int) + 1)) := hid (by simp only [nearTo, if_pos he])
          rw [he] at hck
          clear he
          go_wp2_with fail
          refine (l1Put_any _ _ _ _ _ _ _ hown (by omega) hb.size).mono ?_
          rintro e w2 ⟨a2, m2, cap2, rfl, hown2, hb2⟩
          go_wp2_with fail
          go_roundw
          case rel => exact ⟨k + 1, m2, a2, cap2, by omega, by go_num, rfl, by rw [HE.out]; exact hown2, hb.trans (hb2.mono hb.size)⟩
          case measure => simp [intOf]; omega
        · have HE : Hid (nearTo xs ((t + 1 : Nat) : Int) (k + 1) = nearTo xs ((t + 1 : Nat) : Int) k) := hid (by simp only [nearTo, if_neg he])
          have hbe : (nth xs k == (t : Int) + 1) = false := by simp; omega
          clear he
          go_wp2_with fail
          go_roundw
          case rel => exact ⟨k + 1, m, a', cap', by omega, by go_num, rfl, by rw [HE.out]; exact hown, hb⟩
          case measure => simp [intOf]; omega
      · obtain rfl : k = n := by omega
        have HN2 : Hid (nearTo xs ((t + 1 : Nat) : Int) k = nearP xs ((t + 1 : Nat) : Int)) := hid (by unfold nearP; rw [HL.out])
        go_wp2_with fail
        go_ret
        exact ⟨_, _, _, rfl, by rw [← HN2.out]; exact hown, hb⟩

theorem degL_succ {xs : List Int} {v : Nat} (h : v ≤ xs.length) : (degL xs).take (v + 1) = (degL xs).take v ++ [(deg xs v : Int)] := by
  rw [take_succ_nth (by rw [length_degL]; omega), nth_degL h]
theorem deg_le {xs : List Int} (v : Nat) (h : xs.length ≤ 8) : deg xs v ≤ 9 := by
  unfold deg
  have : xs.count (v : Int) ≤ xs.length := List.count_le_length
  split <;> omega

theorem leaves_nth {xs : List Int} {k : Nat} (h : k < xs.length) : nth (List.drop 1 (degL xs)) k = (deg xs (k + 1) : Int) := by
  rw [nth_dropP, Nat.add_comm, nth_degL (by omega)]

end Go.Proofs.Ytochmifhhigfhab
