/- Chapter 9: the order by favourites and the least greatest distance: the program's functions, by their contracts. -/
import Derived.Test.YtehdccfkkfkciacSpecFr
import Derived.Test.YtehdccfkkfkciacImplGd
import Derived.Test.YtehdccfkkfkciacWkF
namespace Go.Proofs.Ytehdccfkkfkciac
open Go.RowKit

theorem fairOf_yes {xs : List Int} {p : Int} (h : (good xs p && allPark p xs) = true) : fairOf xs p = (fairL xs, true) := by simp only [fairOf, if_pos h]
theorem fairOf_no {xs : List Int} {p : Int} (h : ¬ (good xs p && allPark p xs) = true) : fairOf xs p = ([], false) := by simp only [fairOf, if_neg h]
set_option maxHeartbeats 800000 in
theorem implFair_any (a : Option Addr) (n cap : Nat) (xs : List Int) (p : Int) (w : World) (h : Has w a n cap xs) :
    Calls Try.prog 10 #[.slice a n cap, .int .i64 p] w (PostInts w (fairOf xs p)) := by
  by_cases hg : (good xs p && allPark p xs) = true
  · have HR := hid (fairOf_yes hg)
    have HD := hid (drive_yes hg)
    obtain ⟨g1, g12⟩ := good12 (Bool.and_eq_true_iff.1 hg).1 h.len
    clear hg
    go_enter Try.func10, Try.ntmps10
    go_wp2_with fail
    refine (driveCars_any _ _ _ _ _ _ h).mono ?_
    rw [HD.out]
    rintro e w1 ⟨a1, m, cap1, rfl, hown, hb⟩
    go_wp2_with fail
    refine (carsByP_any 12 _ _ _ _ _ (h.below hb (Nat.le_refl _)) g1 g12).mono ?_
    rintro e w2 ⟨a2, c2, rfl, hown2, hb2⟩
    go_wp2_with fail
    go_ret2
    exact postInts HR.out (hown2.mono hb.size) (hb.trans (hb2.mono hb.size))
  · have HR := hid (fairOf_no hg)
    have HD := hid (drive_no hg)
    clear hg
    go_enter Try.func10, Try.ntmps10
    go_wp2_with fail
    refine (driveCars_any _ _ _ _ _ _ h).mono ?_
    rw [HD.out]
    rintro e w1 ⟨a1, m, cap1, rfl, hown, hb⟩
    go_wp2_with fail
    go_ret2
    exact postInts_no HR.out hb
set_option maxHeartbeats 800000 in
theorem reordered_any (a b : Option Addr) (n m cap cap' : Nat) (xs os : List Int) (w : World) (h : Has w a n cap xs) (h' : Has w b m cap' os) (ho : ∀ i, i < m → ∃ c : Nat, c < n ∧ nth os i = (c : Int)) :
    Calls Try.prog 46 #[.slice a n cap, .slice b m cap'] w fun e w' => ∃ a' cap', e = .returned (.slice a' m cap') ∧ Own w' w.heap.size a' m cap' (reordL xs os) ∧ Below w.heap.size w w' := by
  have HO := hid ho
  have HLO := hid h'.len
  have hle := h'.le
  have HN := hid (fun k (hk : k < m) => nth_reord (xs := xs) (os := os) (k := k) (by rw [HLO.out]; exact hk))
  clear ho
  go_enter Try.func46, Try.ntmps46
  go_wp2_with (at_make; refine wpList_make_ints _ rfl _ _ rfl m rfl rfl (by omega) ?_; intro a1 cap1 w1 hown1 hb1)
  go_loopw [13] (fun i wr => ∃ (k : Nat) (zs : List Int), k ≤ m ∧ i = .int .i64 (k : Int) ∧ Own wr w.heap.size a1 m cap1 zs ∧ Hid (FromTo (reordL xs os) zs k) ∧ Below w.heap.size w wr) (fun i _ => m - (intOf i).toNat)
  case atStart => exact ⟨0, _, Nat.zero_le _, rfl, hown1, hid (fun i hi => by omega), hb1⟩
  case round =>
    clear hown1 hb1
    obtain ⟨k, zs, hk, rfl, hz, HF, hb⟩ := hrel
    by_cases hlt : k < m
    · obtain ⟨c, hc1, hc2⟩ := HO.out k hlt
      obtain ⟨b1, off1, rfl, hbb1, hx1⟩ := h.2.2.2.2 (by omega)
      obtain ⟨b2, off2, rfl, hbb2, hx2⟩ := h'.2.2.2.2 (by omega)
      have hck : wr.cell? ⟨b1, off1 + c, none⟩ = some (.int .i64 (nth xs c)) := by rw [hb.cell (p := ⟨b1, off1 + c, none⟩) hbb1]; exact hx1 c hc1
      have hdk : wr.cell? ⟨b2, off2 + k, none⟩ = some (.int .i64 (c : Int)) := by rw [hb.cell (p := ⟨b2, off2 + k, none⟩) hbb2, hx2 k hlt, hc2]
      have z1 : (c : Int) < (n : Int) := by omega
      have z0 : (0 : Int) ≤ (c : Int) := by omega
      obtain ⟨g1, rfl, hg1, hg2, hg3, hg4⟩ := hz.opened (by omega)
      have hgk := hg3 k hlt
      have hgf := hg4 k
      obtain ⟨s1, s2⟩ := hz.set k (nth xs c)
      have HF2 : Hid (FromTo (reordL xs os) (zs.set k (nth xs c)) (k + 1)) := hid (by
        intro i hi
        rw [nth_set (by rw [hz.len]; exact hlt)]
        by_cases e : k = i
        · subst e; rw [if_pos rfl, HN.out _ hlt, hc2, Int.toNat_natCast]
        · rw [if_neg e]; exact HF.out i (by omega))
      have hb2 := hb.setCell (p := ⟨g1, k, none⟩) hg1 (.int .i64 (nth xs c))
      clear hx1 hx2 hc2 hg3 hg4
      go_wp2_with fail
      go_roundw
      case rel => exact ⟨k + 1, _, by omega, by go_num, s1, HF2, hb2⟩
      case measure => simp [intOf]; omega
    · obtain rfl : k = m := by omega
      have HE : Hid (zs = reordL xs os) := hid (ext_nth (by rw [hz.len, length_reord, HLO.out]) fun i hi => by rw [hz.len] at hi; exact HF.out i hi)
      go_wp2_with fail
      go_ret
      exact ⟨_, _, rfl, by rw [← HE.out]; exact hz, hb⟩
theorem great_at {xs os : List Int} {p : Int} (h : (good xs p && allPark p xs) = true) (ho : os.Perm (upto xs.length)) : greatOf (reordL xs os) p = (greatL (dists p (reordL xs os)), true) := by
  simp only [greatOf, if_pos (reord_park h ho)]
set_option maxHeartbeats 800000 in
theorem implLeast9_any (a : Option Addr) (n cap : Nat) (xs : List Int) (p : Int) (w : World) (h : Has w a n cap xs) :
    Calls Try.prog 17 #[.slice a n cap, .int .i64 p] w (PostInt w (leastGr xs p)) := by
  by_cases hg : (good xs p && allPark p xs) = true
  · have HR : Hid (leastGr xs p = (greatL (dists p (reordL xs (fairL xs))), true)) := hid (by simp only [leastGr, if_pos hg])
    have HD := hid (fairOf_yes hg)
    obtain ⟨g1, g12⟩ := good12 (Bool.and_eq_true_iff.1 hg).1 h.len
    have HG : Hid (greatOf (reordL xs (fairL xs)) p = (greatL (dists p (reordL xs (fairL xs))), true)) := hid (great_at hg (by rw [h.len]; exact carsP_perm h.len (by omega) g12))
    have HN := hid (fun k (hk : k < n) => fair_cars h.len g1 g12 hk)
    have HLF : Hid ((fairL xs).length = n) := hid (length_carsP h.len (by omega) g12)
    clear hg
    go_enter Try.func17, Try.ntmps17
    go_wp2_with fail
    refine (implFair_any _ _ _ _ _ _ h).mono ?_
    rw [HD.out]
    rintro e w1 ⟨a1, m, cap1, rfl, hown, hb⟩
    obtain rfl : n = m := by rw [← HLF.out]; exact hown.len
    go_wp2_with fail
    refine (reordered_any _ _ _ _ _ _ _ _ _ (h.below hb (Nat.le_refl _)) hown.has HN.out).mono ?_
    rintro e w2 ⟨a2, c2, rfl, hown2, hb2⟩
    have hb12 := hb.trans (hb2.mono hb.size)
    go_wp2_with fail
    refine (greatest_any _ _ _ _ _ _ hown2.has).mono ?_
    rw [HG.out]
    rintro e w3 ⟨rfl, hb3⟩
    go_wp2_with fail
    go_ret2
    exact postInt HR.out (hb12.trans (hb3.mono hb12.size))
  · have HR : Hid (leastGr xs p = (0, false)) := hid (by simp only [leastGr, if_neg hg])
    have HD := hid (fairOf_no hg)
    clear hg
    go_enter Try.func17, Try.ntmps17
    go_wp2_with fail
    refine (implFair_any _ _ _ _ _ _ h).mono ?_
    rw [HD.out]
    rintro e w1 ⟨a1, m, cap1, rfl, hown, hb⟩
    go_wp2_with fail
    go_ret2
    exact postInt HR.out hb
end Go.Proofs.Ytehdccfkkfkciac
