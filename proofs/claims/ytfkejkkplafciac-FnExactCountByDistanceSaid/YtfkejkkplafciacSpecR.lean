/- The model's ranks, by their contracts. -/
import Derived.Test.YtfkejkkplafciacSpecW
import Derived.Test.YtfkejkkplafciacMathV
namespace Go.Proofs.Ytfkejkkplafciac
open Go.RowKit

/-- A list and one number more. -/
theorem nth_snoc_nonneg {ys : List Int} {k j : Nat} (hl : ys.length = k) (h : ∀ i, i < k → 0 ≤ nth ys i) : ∀ i, i < k + 1 → 0 ≤ nth (ys ++ [(j : Int)]) i := by
  intro i hi
  by_cases e : i < k
  · rw [nth_append_left (by omega)]; exact h i e
  · obtain rfl : i = ys.length := by omega
    rw [nth_append_at]; omega

set_option maxHeartbeats 2000000 in
theorem specRank_any (a : Option Addr) (n cap : Nat) (xs : List Int) (w : World) (h : Has w a n cap xs) :
    Calls Try.prog 11 #[.slice a n cap] w (PostInt w (rankOf xs)) := by
  by_cases hg : isPark xs = true
  · have HR : Hid (rankOf xs = ((rkTo xs n n : Int), true)) := hid (by rw [rankOf_yes hg, h.len])
    obtain ⟨h8, hx, hx2⟩ := parks_nth hg h.len
    have HLE := hid (rkTo_le h8 hx2)
    have HLEN := hid h.len
    have HX := hid hx
    have HX2 := hid hx2
    have HG := hid hg
    have hcap := h.2.1
    have hmx : cap ≤ maxLen := h.2.2.1
    clear hg hx hx2
    go_enter Try.func11, Try.ntmps11
    go_wp2_with (go_at_call 34; refine (paParking_any _ _ _ _ _ h).mono ?_; rintro e w0 ⟨rfl, hb0⟩; rw [HG.out])
    go_loopw [4, 13] (fun r i wr => ∃ k : Nat, k ≤ n ∧ i = .int .i64 (k : Int) ∧ r = .int .i64 (rkTo xs n k : Int) ∧ Below w.heap.size w wr) (fun _ i _ => n - (intOf i).toNat)
    case atStart => exact ⟨0, Nat.zero_le _, rfl, rfl, hb0⟩
    case round =>
      obtain ⟨k, hk, rfl, rfl, hb⟩ := hrel
      obtain ⟨wo, hwo⟩ : ∃ wo : World, wo = wr := ⟨_, rfl⟩
      subst hwo
      have hr := HLE.out k (by rw [HLEN.out]; omega)
      clear hb0
      by_cases hlt : k < n
      · obtain ⟨b, off, rfl, hbb, hc⟩ := h.2.2.2.2 (by omega)
        have hck : wo.cell? ⟨b, off + k, none⟩ = some (.int .i64 (nth xs k)) := by rw [hb.cell (p := ⟨b, off + k, none⟩) hbb]; exact hc k hlt
        obtain ⟨x0, x1, x2⟩ := HX.out k hlt
        obtain ⟨x, hxx⟩ : ∃ x : Nat, nth xs k = (x : Int) := ⟨(nth xs k).toNat, by omega⟩
        have HS := hid (rkTo_succ (n := n) (fun y hy => (HX2.out y hy).1) (by rw [HLEN.out]; omega) hxx)
        rw [hxx] at hck x0 x1 x2
        have HXX := hid hxx
        have ht := (h.take (k := k) (by omega)).below hb (Nat.le_refl _)
        clear hc hxx
        go_wp2_with fail
        go_loopw [4, 7] (fun r y wr => ∃ j : Nat, j ≤ x ∧ y = .int .i64 (j : Int) ∧ r = .int .i64 ((rkTo xs n k : Int) + (rkAt xs n k j : Int)) ∧ Below w.heap.size w wr ∧ Below wo.heap.size wo wr) (fun _ y _ => x - (intOf y).toNat)
        case atStart => exact ⟨0, Nat.zero_le _, rfl, by simp [rkAt, sumTo], hb, Below.refl _ _⟩
        case round =>
          clear hb hck
          obtain ⟨j, hj, rfl, rfl, hb, hbo⟩ := hrel
          have ha := rkAt_le (xs := xs) (n := n) (k := k) h8 j (by omega)
          by_cases hjx : j < x
          · have ha2 := rkAt_le (xs := xs) (n := n) (k := k) h8 (j + 1) (by omega)
            have HA := hid (rkAt_succ xs n k j)
            rw [HA.out] at ha2
            have hnn := nth_snoc_nonneg (ys := xs.take k) (k := k) (j := j) (by simp [HLEN.out]; omega) (fun i hi => by rw [nth_take hi]; exact (HX.out i (by omega)).1)
            have HNN := hid hnn
            have ht2 := ht.below hbo (Nat.le_refl _)
            clear hnn
            go_wp2_with fail
            refine (l1Own_any _ _ _ _ _ ht2).mono ?_
            rintro e w3 ⟨a3, cap3, rfl, hown3, hb3⟩
            go_wp2_with (at_builtin; refine wpList_append_int _ rfl _ _ rfl wr.heap.size _ _ _ _ _ rfl rfl hown3 (by omega) hb3.size ?_; intro a4 cap4 w4 hown4 hb4)
            have hb34 := hb3.trans hb4
            refine (cnWith_any _ _ _ _ n _ hown4.has h8 (by omega) HNN.out).mono ?_
            rintro e w5 ⟨rfl, hb5⟩
            have hb35 := hb34.trans (hb5.mono hb34.size)
            clear hown3 hown4 hb3 hb4 hb5 hb34
            go_wp2_with fail
            go_roundw
            case rel => exact ⟨j + 1, by omega, by go_num, by rw [HA.out]; go_num, hb.trans (hb35.mono hb.size), hbo.trans (hb35.mono hbo.size)⟩
            case measure => simp [intOf]; omega
          · obtain rfl : x = j := by omega
            go_wp2_with fail
            go_roundw
            case rel => exact ⟨k + 1, by omega, by go_num, by rw [HS.out]; go_num, hb⟩
            case measure => simp [intOf]; omega
      · obtain rfl : n = k := by omega
        go_wp2_with fail
        go_ret2
        exact postInt HR.out hb
  · have HR := hid (rankOf_no hg)
    have HG := hid hg
    clear hg
    go_enter Try.func11, Try.ntmps11
    go_wp2_with (go_at_call 34; refine (paParking_any _ _ _ _ _ h).mono ?_; rintro e w0 ⟨rfl, hb0⟩; rw [Bool.eq_false_iff.2 HG.out])
    go_ret2
    exact postInt HR.out hb0
end Go.Proofs.Ytfkejkkplafciac
