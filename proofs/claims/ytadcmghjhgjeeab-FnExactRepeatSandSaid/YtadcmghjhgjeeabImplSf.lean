/- The program's topplings, sums and settled sand, by contract. -/
import Derived.Test.YtadcmghjhgjeeabImplSe
import Derived.Test.YtadcmghjhgjeeabSpecSf
namespace Go.Proofs.Ytadcmghjhgjeeab
open Go.RowKit

/-- A sum told so far, and the first list behind it. -/
def sumAt (xs ys : List Int) (k : Nat) : List Int := (plusL xs ys).take k ++ xs.drop k
theorem sum_zero (xs ys : List Int) : sumAt xs ys 0 = xs := by simp [sumAt]
theorem sum_all {xs ys : List Int} (h : xs.length = ys.length) : sumAt xs ys xs.length = plusL xs ys := by
  unfold sumAt
  rw [List.take_of_length_le (by rw [length_plusL h]; omega)]
  simp
theorem nth_sumAt {xs ys : List Int} {k : Nat} (h : xs.length = ys.length) (hk : k < xs.length) : nth (sumAt xs ys k) k = nth xs k := by
  unfold sumAt nth
  rw [List.getD_eq_getElem?_getD, List.getD_eq_getElem?_getD, List.getElem?_append_right (by simp [length_plusL h]; omega), List.length_take, length_plusL h, Nat.min_eq_left (by omega), List.getElem?_drop]
  congr 2
  omega
theorem sum_next {xs ys : List Int} {k : Nat} (h : xs.length = ys.length) (hk : k < xs.length) : (sumAt xs ys k).set k (nth xs k + nth ys k) = sumAt xs ys (k + 1) := by
  unfold sumAt
  have hl : ((plusL xs ys).take k).length = k := by simp [length_plusL h]; omega
  rw [plus_succ hk (by omega) h, List.set_append_right _ _ (by omega), hl, Nat.sub_self, List.drop_eq_getElem_cons hk, List.set_cons_zero, List.append_assoc]
  rfl

set_option maxRecDepth 100000 in
set_option maxHeartbeats 1000000 in
theorem sum_any (a b : Option Addr) (n cap capb : Nat) (xs ys : List Int) (w : World) (h : Has w a n cap xs) (h' : Has w b n capb ys) (h8 : n ≤ 8) (hb : ∀ i, i < n → 0 ≤ nth xs i ∧ nth xs i ≤ 5000 ∧ 0 ≤ nth ys i ∧ nth ys i ≤ 5000) (hp : Pile (plusL xs ys)) (ht : total (plusL xs ys) ≤ 4000) :
    Calls Try.prog 50 #[.slice a n cap, .slice b n capb] w fun e w' => ∃ a' cap', e = .returned (.slice a' n cap') ∧ Own w' w.heap.size a' n cap' (settle (plusL xs ys)).1 ∧ Below w.heap.size w w' := by
  have HL := hid h.len
  have HL2 := hid h'.len
  have HB := hid hb
  have hxy := HL.out.trans HL2.out.symm
  have HX := hid hxy
  clear hb hxy
  go_enter Try.func50, Try.ntmps50
  go_wp2_with (go_at_call 81; refine (cloneS_any _ _ _ _ _ h).mono ?_; rintro e w' ⟨a1, c1, rfl, own1, hb1⟩)
  have hge := own1.ge
  go_loopw [11] (fun i wr => ∃ k : Nat, k ≤ n ∧ i = .int .i64 k ∧ Own wr w.heap.size a1 n c1 (sumAt xs ys k) ∧ Below w.heap.size w wr) (fun i _ => n - (intOf i).toNat)
  case atStart => exact ⟨0, by omega, rfl, by rw [sum_zero]; exact own1, hb1⟩
  case round =>
    clear own1 hb1
    obtain ⟨k, hk, rfl, hown, hb⟩ := hrel
    by_cases hlt : k < n
    · obtain ⟨g, rfl, hg1, hg2, hg3, hg4⟩ := hown.opened (by omega)
      have hck := hg3 k hlt
      have hfk := hg4 k
      rw [nth_sumAt HX.out (by rw [HL.out]; exact hlt)] at hck
      obtain ⟨b1, off1, rfl, hbb1, hc1⟩ := h'.2.2.2.2 (by omega)
      have hdk : wr.cell? ⟨b1, off1 + k, none⟩ = some (.int .i64 (nth ys k)) := by rw [hb.cell (p := ⟨b1, off1 + k, none⟩) hbb1]; exact hc1 k hlt
      obtain ⟨u0, u1, u2, u3⟩ := HB.out k hlt
      obtain ⟨s1, s2⟩ := hown.set k (nth xs k + nth ys k)
      rw [sum_next HX.out (by rw [HL.out]; exact hlt)] at s1
      have hb2 := (hb.setCell (p := ⟨g, k, none⟩) (by show w.heap.size ≤ g; omega) (.int .i64 (nth xs k + nth ys k))).drew
      have hkk : (k : Int) < (n : Int) := by omega
      have hkz : (0 : Int) ≤ (k : Int) := by omega
      clear hg3 hg4 hc1
      go_wp2_with fail
      go_still_tail 10, (by kernel_rfl)
      change wpList _ _ _ _ _ wr.drew
      go_wp2_with fail
      go_roundw
      case rel => exact ⟨k + 1, by omega, by go_num, s1, hb2⟩
      case measure => simp [intOf]; omega
    · obtain rfl : k = n := by omega
      have e1 : sumAt xs ys k = plusL xs ys := by
        conv => lhs; rw [← HL.out]
        exact sum_all HX.out
      rw [e1] at hown
      clear e1
      go_wp2_with (go_at_call 82; refine (settle_any _ _ _ _ _ _ hown h8 hp ht).mono ?_; rintro e w' ⟨b2, m2, d2, rfl, own2, own3, mk⟩)
      go_ret
      exact ⟨_, _, rfl, own2, hb.trans (mk.below hge hb.size)⟩

end Go.Proofs.Ytadcmghjhgjeeab
