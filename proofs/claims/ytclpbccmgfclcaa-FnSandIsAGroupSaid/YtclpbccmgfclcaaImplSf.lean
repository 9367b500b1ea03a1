/- The program's topplings, sums and settled sand, by contract. -/
import Derived.Test.YtclpbccmgfclcaaImplSe
import Derived.Test.YtclpbccmgfclcaaSpecSf
namespace Go.Proofs.Ytclpbccmgfclcaa
open Go.RowKit

set_option maxHeartbeats 400000 in
theorem cloneI_any (a : Option Addr) (n cap : Nat) (xs : List Int) (w : World) (h : Has w a n cap xs) :
    Calls Try.prog 41 #[.slice a n cap] w fun e w' => ∃ a' cap', e = .returned (.slice a' n cap') ∧ Own w' w.heap.size a' n cap' xs ∧ Below w.heap.size w w' := by
  have hle := h.le
  have hb0 : Below w.heap.size w (w.alloc (.cells #[] 3)) := (Below.refl _ _).alloc (Nat.le_refl _) _
  have qn : ∀ (w : World) (a : Option Addr) (n c n' c' : Nat), (binOp .eql 24 (.slice a n c) (.slice none n' c')).run Try.prog w = .ok (.bool a.isNone) w := fun w a n c n' c' => Lib.run_eql_slice_nil w _ _ a n c n' c' Try.underlying24
  cases a with
  | none =>
    have hn : n = 0 := by
      apply Classical.byContradiction
      intro hne
      obtain ⟨b, off, hbo, _⟩ := h.2.2.2.2 (by omega)
      cases hbo
    subst hn
    have hx : xs = [] := List.eq_nil_of_length_eq_zero h.len
    subst hx
    go_enter Try.func41, Try.ntmps41
    go_wp2_with fail
    go_ret
    exact ⟨_, _, rfl, Own.nil _ _, Below.refl _ _⟩
  | some p =>
    go_enter Try.func41, Try.ntmps41
    go_wp2_with (at_builtin; refine wpList_append_ints _ rfl _ _ rfl w.heap.size _ _ _ _ _ _ [] xs rfl rfl (own_lit0 w _ (Nat.le_refl _)) (h.below hb0 (Nat.le_refl _)) (by omega) (by simp) ?_; intro a2 n2 cap2 w2 hn2 hown2 hb2)
    go_ret
    obtain rfl : n2 = n := by omega
    exact ⟨_, _, rfl, by simpa using hown2, hb0.trans hb2⟩

/-- A sum told so far, and the first list behind it. -/
def sumAt (xs ys : List Int) (k : Nat) : List Int := (plusL xs ys).take k ++ xs.drop k
theorem sum_zero (xs ys : List Int) : sumAt xs ys 0 = xs := by simp [sumAt]
theorem sum_all {xs ys : List Int} (h : xs.length = ys.length) : sumAt xs ys xs.length = plusL xs ys := by
  unfold sumAt
  rw [List.take_of_length_le (by rw [length_plusL h]; omega)]
  simp
theorem nth_sumAt {xs ys : List Int} {k : Nat} (h : xs.length = ys.length) (hk : k < xs.length) : nth (sumAt xs ys k) k = nth xs k := by
  unfold sumAt nth
  rw [List.getD_eq_getElem?_getD, List.getD_eq_getElem?_getD, List.getElem?_append_right (by simp [length_plusL h]; omega), List.length_take, length_plusL h, Nat.min_eq_left (by omega), List.getElem?_drop]
  congr 2
  omega
theorem sum_next {xs ys : List Int} {k : Nat} (h : xs.length = ys.length) (hk : k < xs.length) : (sumAt xs ys k).set k (nth xs k + nth ys k) = sumAt xs ys (k + 1) := by
  unfold sumAt
  have hl : ((plusL xs ys).take k).length = k := by simp [length_plusL h]; omega
  rw [plus_succ hk (by omega) h, List.set_append_right _ _ (by omega), hl, Nat.sub_self, List.drop_eq_getElem_cons hk, List.set_cons_zero, List.append_assoc]
  rfl

set_option maxRecDepth 100000 in
set_option maxHeartbeats 1000000 in
theorem sum_any (a b : Option Addr) (n cap capb : Nat) (xs ys : List Int) (w : World) (h : Has w a n cap xs) (h' : Has w b n capb ys) (h8 : n ≤ 8) (hb : ∀ i, i < n → 0 ≤ nth xs i ∧ nth xs i ≤ 5000 ∧ 0 ≤ nth ys i ∧ nth ys i ≤ 5000) (hp : Pile (plusL xs ys)) (ht : total (plusL xs ys) ≤ 4000) :
    Calls Try.prog 64 #[.slice a n cap, .slice b n capb] w fun e w' => ∃ a' cap', e = .returned (.slice a' n cap') ∧ Own w' w.heap.size a' n cap' (settle (plusL xs ys)).1 ∧ Below w.heap.size w w' := by
  have HL := hid h.len
  have HL2 := hid h'.len
  have HB := hid hb
  have hxy := HL.out.trans HL2.out.symm
  have HX := hid hxy
  clear hb hxy
  go_enter Try.func64, Try.ntmps64
  go_wp2_with (go_at_call 76; refine (cloneS_any _ _ _ _ _ h).mono ?_; rintro e w' ⟨a1, c1, rfl, own1, hb1⟩)
  have hge := own1.ge
  go_loopw [11] (fun i wr => ∃ k : Nat, k ≤ n ∧ i = .int .i64 k ∧ Own wr w.heap.size a1 n c1 (sumAt xs ys k) ∧ Below w.heap.size w wr) (fun i _ => n - (intOf i).toNat)
  case atStart => exact ⟨0, by omega, rfl, by rw [sum_zero]; exact own1, hb1⟩
  case round =>
    clear own1 hb1
    obtain ⟨k, hk, rfl, hown, hb⟩ := hrel
    by_cases hlt : k < n
    · obtain ⟨g, rfl, hg1, hg2, hg3, hg4⟩ := hown.opened (by omega)
      have hck := hg3 k hlt
      have hfk := hg4 k
      rw [nth_sumAt HX.out (by rw [HL.out]; exact hlt)] at hck
      obtain ⟨b1, off1, rfl, hbb1, hc1⟩ := h'.2.2.2.2 (by omega)
      have hdk : wr.cell? ⟨b1, off1 + k, none⟩ = some (.int .i64 (nth ys k)) := by rw [hb.cell (p := ⟨b1, off1 + k, none⟩) hbb1]; exact hc1 k hlt
      obtain ⟨u0, u1, u2, u3⟩ := HB.out k hlt
      obtain ⟨s1, s2⟩ := hown.set k (nth xs k + nth ys k)
      rw [sum_next HX.out (by rw [HL.out]; exact hlt)] at s1
      have hb2 := (hb.setCell (p := ⟨g, k, none⟩) (by show w.heap.size ≤ g; omega) (.int .i64 (nth xs k + nth ys k))).drew
      have hkk : (k : Int) < (n : Int) := by omega
      have hkz : (0 : Int) ≤ (k : Int) := by omega
      clear hg3 hg4 hc1
      go_wp2_with fail
      go_still_tail 10, (by kernel_rfl)
      change wpList _ _ _ _ _ wr.drew
      go_wp2_with fail
      go_roundw
      case rel => exact ⟨k + 1, by omega, by go_num, s1, hb2⟩
      case measure => simp [intOf]; omega
    · obtain rfl : k = n := by omega
      have e1 : sumAt xs ys k = plusL xs ys := by
        conv => lhs; rw [← HL.out]
        exact sum_all HX.out
      rw [e1] at hown
      clear e1
      go_wp2_with (go_at_call 42; refine (settle_any _ _ _ _ _ _ hown h8 hp ht).mono ?_; rintro e w' ⟨b2, m2, d2, rfl, own2, own3, mk⟩)
      go_ret
      exact ⟨_, _, rfl, own2, hb.trans (mk.below hge hb.size)⟩

set_option maxRecDepth 100000 in
set_option maxHeartbeats 1000000 in
theorem implAdd_any (a b : Option Addr) (n cap m capb : Nat) (xs ys : List Int) (w : World) (h : Has w a n cap xs) (h' : Has w b m capb ys) :
    Calls Try.prog 29 #[.slice a n cap, .slice b m capb] w (PostInts w (addOf xs ys)) := by
  by_cases hs : sandB xs = true
  · have HS := hid hs
    by_cases hs' : sandB ys = true
    · have HS' := hid hs'
      by_cases hnm : n = m
      · subst hnm
        have hbe : ((n : Int) != (n : Int)) = false := by simp
        have h8 := (sand_nth hs h.len).1
        have hbd := both_wide (sand_wide hs h.len) (sand_wide hs' h'.len)
        have U := sumS h.len h'.len hs hs'
        have HR := hid (add_yes hs hs' (h.len.trans h'.len.symm))
        clear hs hs'
        go_enter Try.func29, Try.ntmps29
        go_wp2_with (first | (go_at_call 40; first | (with_reducible refine (isSand_any _ _ _ _ _ h).mono ?_; rintro e w' ⟨rfl, rfl⟩; rw [HS.out]) | (with_reducible refine (isSand_any _ _ _ _ _ h').mono ?_; rintro e w' ⟨rfl, rfl⟩; rw [HS'.out])) | (go_at_call 64; refine (sum_any _ _ _ _ _ _ _ _ h h' h8 hbd U.pile U.tot).mono ?_; rintro e w' ⟨a2, c2, rfl, own2, hb2⟩))
        go_ret2
        exact postInts HR.out own2 hb2
      · have hbe : ((n : Int) != (m : Int)) = true := by simp; omega
        have HR := hid (add_no (xs := xs) (ys := ys) (fun e => hnm (by rw [← h.len, ← h'.len]; exact e.2.2)))
        clear hs hs'
        go_enter Try.func29, Try.ntmps29
        go_wp2_with (go_at_call 40; first | (with_reducible refine (isSand_any _ _ _ _ _ h).mono ?_; rintro e w' ⟨rfl, rfl⟩; rw [HS.out]) | (with_reducible refine (isSand_any _ _ _ _ _ h').mono ?_; rintro e w' ⟨rfl, rfl⟩; rw [HS'.out]))
        go_ret2
        exact postInts_no HR.out (Below.refl _ _)
    · have HS' := hid (Bool.eq_false_iff.2 hs')
      have HR := hid (add_no (xs := xs) (ys := ys) (fun e => hs' e.2.1))
      clear hs hs'
      go_enter Try.func29, Try.ntmps29
      go_wp2_with (go_at_call 40; first | (with_reducible refine (isSand_any _ _ _ _ _ h).mono ?_; rintro e w' ⟨rfl, rfl⟩; rw [HS.out]) | (with_reducible refine (isSand_any _ _ _ _ _ h').mono ?_; rintro e w' ⟨rfl, rfl⟩; rw [HS'.out]))
      go_ret2
      exact postInts_no HR.out (Below.refl _ _)
  · have HR := hid (add_no (xs := xs) (ys := ys) (fun e => hs e.1))
    have HS := hid (Bool.eq_false_iff.2 hs)
    clear hs
    go_enter Try.func29, Try.ntmps29
    go_wp2_with (go_at_call 40; refine (isSand_any _ _ _ _ _ h).mono ?_; rintro e w' ⟨rfl, rfl⟩; rw [HS.out])
    go_ret2
    exact postInts_no HR.out (Below.refl _ _)

set_option maxRecDepth 100000 in
set_option maxHeartbeats 1000000 in
theorem implTopple_any (a : Option Addr) (n cap : Nat) (xs : List Int) (i : Int) (w : World) (h : Has w a n cap xs) :
    Calls Try.prog 12 #[.slice a n cap, .int .i64 i] w (PostInts w (toppleOf xs i)) := by
  have hle := h.le
  by_cases hs : sandB xs = true
  · obtain ⟨h8, hbd⟩ := sand_nth hs h.len
    have hwd := sand_wide hs h.len
    have HS := hid hs
    by_cases hi : inB i 0 ((n : Int) - 1) = true
    · have hi2 := inB_iff.1 hi
      obtain ⟨t, rfl⟩ : ∃ t : Nat, i = (t : Int) := ⟨i.toNat, by omega⟩
      have ht : t < n := by omega
      clear hi
      by_cases hx : nth xs t < (n : Int)
      · have HR : Hid (toppleOf xs (t : Int) = ([], false)) := hid (topple_no (by rintro ⟨-, -, -, e, -⟩; rw [h.len, Int.toNat_natCast] at e; omega))
        have HX : Hid (decide ((n : Int) ≤ nth xs t) = false) := hid (decide_eq_false (by omega))
        clear hs
        go_enter Try.func12, Try.ntmps12
        go_wp2_with (first | (go_at_call 40; refine (isSand_any _ _ _ _ _ h).mono ?_; rintro e w' ⟨rfl, rfl⟩; rw [HS.out]) | (go_at_call 46; refine (canTopple_any _ _ _ _ t _ h ht).mono ?_; rintro e w' ⟨rfl, rfl⟩; rw [HX.out]))
        go_ret2
        exact postInts_no HR.out (Below.refl _ _)
      · have HX : Hid (decide ((n : Int) ≤ nth xs t) = true) := hid (decide_eq_true (by omega))
        by_cases h4 : sandB (topL xs t) = true
        · have HR := hid (topple_yes h.len hs ht (by omega) h4)
          have H4 := hid h4
          clear hs h4
          go_enter Try.func12, Try.ntmps12
          go_wp2_with (first | (go_at_call 41; refine (cloneI_any _ _ _ _ _ h).mono ?_; rintro e w' ⟨a1, c1, rfl, own1, hb1⟩; have hge := own1.ge) | (go_at_call 47; refine (topple_any _ _ _ _ _ _ _ own1 h8 ht hwd).mono ?_; rintro e w' ⟨rfl, own2, mk⟩; have hb2 := hb1.trans (mk.below hge hb1.size)) | (go_at_call 46; refine (canTopple_any _ _ _ _ t _ h ht).mono ?_; rintro e w' ⟨rfl, rfl⟩; rw [HX.out]) | (go_at_call 40; first | (with_reducible refine (isSand_any _ _ _ _ _ own2.has).mono ?_; rintro e w' ⟨rfl, rfl⟩; rw [H4.out]) | (with_reducible refine (isSand_any _ _ _ _ _ h).mono ?_; rintro e w' ⟨rfl, rfl⟩; rw [HS.out])))
          go_ret2
          exact postInts HR.out own2 hb2
        · have HR : Hid (toppleOf xs (t : Int) = ([], false)) := hid (topple_no (by rintro ⟨-, -, -, -, e⟩; rw [Int.toNat_natCast] at e; exact h4 e))
          have H4 := hid (Bool.eq_false_iff.2 h4)
          clear hs h4
          go_enter Try.func12, Try.ntmps12
          go_wp2_with (first | (go_at_call 41; refine (cloneI_any _ _ _ _ _ h).mono ?_; rintro e w' ⟨a1, c1, rfl, own1, hb1⟩; have hge := own1.ge) | (go_at_call 47; refine (topple_any _ _ _ _ _ _ _ own1 h8 ht hwd).mono ?_; rintro e w' ⟨rfl, own2, mk⟩; have hb2 := hb1.trans (mk.below hge hb1.size)) | (go_at_call 46; refine (canTopple_any _ _ _ _ t _ h ht).mono ?_; rintro e w' ⟨rfl, rfl⟩; rw [HX.out]) | (go_at_call 40; first | (with_reducible refine (isSand_any _ _ _ _ _ own2.has).mono ?_; rintro e w' ⟨rfl, rfl⟩; rw [H4.out]) | (with_reducible refine (isSand_any _ _ _ _ _ h).mono ?_; rintro e w' ⟨rfl, rfl⟩; rw [HS.out])))
          go_ret2
          exact postInts_no HR.out hb2
    · have HR : Hid (toppleOf xs i = ([], false)) := hid (topple_no (by rintro ⟨-, e1, e2, -⟩; rw [h.len] at e2; exact hi (inB_iff.2 ⟨e1, by omega⟩)))
      have hi' := inB_not.1 (Bool.eq_false_iff.2 hi)
      clear hi hs
      by_cases h0 : i < 0
      · go_enter Try.func12, Try.ntmps12
        go_wp2_with (go_at_call 40; refine (isSand_any _ _ _ _ _ h).mono ?_; rintro e w' ⟨rfl, rfl⟩; rw [HS.out])
        go_ret2
        exact postInts_no HR.out (Below.refl _ _)
      · have h1 : (n : Int) ≤ i := by omega
        go_enter Try.func12, Try.ntmps12
        go_wp2_with (go_at_call 40; refine (isSand_any _ _ _ _ _ h).mono ?_; rintro e w' ⟨rfl, rfl⟩; rw [HS.out])
        go_ret2
        exact postInts_no HR.out (Below.refl _ _)
  · have HR : Hid (toppleOf xs i = ([], false)) := hid (topple_no (fun e => hs e.1))
    have HS := hid (Bool.eq_false_iff.2 hs)
    clear hs
    go_enter Try.func12, Try.ntmps12
    go_wp2_with (go_at_call 40; refine (isSand_any _ _ _ _ _ h).mono ?_; rintro e w' ⟨rfl, rfl⟩; rw [HS.out])
    go_ret2
    exact postInts_no HR.out (Below.refl _ _)

set_option maxRecDepth 100000 in
set_option maxHeartbeats 1000000 in
theorem implStabilize_any (a : Option Addr) (n cap : Nat) (xs : List Int) (w : World) (h : Has w a n cap xs) :
    Calls Try.prog 8 #[.slice a n cap] w (PostTwo w (settleOf xs)) := by
  by_cases hs : sandB xs = true
  · have HS := hid hs
    have h8 := (sand_nth hs h.len).1
    have hp := Pile.sand hs
    have ht : total xs ≤ 4000 := by have := sand_tot hs; omega
    have TL := tally h.len hp ht
    have HR : Hid (settleOf xs = ((settle xs).1, bump (List.replicate n 0) (settle xs).2, true)) := hid (by simp [settleOf, hs, h.len])
    clear hs
    go_enter Try.func8, Try.ntmps8
    go_wp2_with (first | (go_at_call 40; refine (isSand_any _ _ _ _ _ h).mono ?_; rintro e w' ⟨rfl, rfl⟩; rw [HS.out]) | (go_at_call 41; refine (cloneI_any _ _ _ _ _ h).mono ?_; rintro e w' ⟨a1, c1, rfl, own1, hb1⟩) | (at_make; refine wpList_make_ints _ rfl _ _ rfl n rfl rfl (by omega) ?_; intro a2 cap2 w2 own2 hb2; have ap := apart_of own1.lt own2.ge; have lt1 := own1.lt; have ge1 := own1.ge; have o1 := own1.below hb2 (Nat.le_refl _); have sz2 := hb2.size; have sz1 := hb1.size; have hb12 := hb1.trans (hb2.mono sz1)) | (go_at_call 42; refine (settle_any _ _ _ _ _ _ o1 h8 hp ht).mono ?_; rintro e w' ⟨b3, m3, d3, rfl, own3, own4, mk⟩))
    obtain ⟨os, hos⟩ : ∃ os, (settle xs).2 = os := ⟨_, rfl⟩
    rw [hos] at TL own4 HR
    have hm3 : m3 ≤ 4000 := by have := TL.small; have := own4.len; omega
    have HLO := hid own4.len
    have hw3 := hb12.trans (mk.below ge1 hb12.size)
    have o2 := own2.marked_gt mk lt1
    have lt2 := own2.lt
    have ge2 := own2.ge
    clear hos own2 o1 own1 hb2 hb12
    go_loopw [20] (fun i wr => ∃ k : Nat, k ≤ m3 ∧ i = .int .i64 k ∧ (∃ K, w.heap.size ≤ K ∧ Own wr K a2 n cap2 (bump (List.replicate n 0) (os.take k))) ∧ Marked w' wr a2) (fun i _ => m3 - (intOf i).toNat)
    case atStart => exact ⟨0, by omega, rfl, ⟨_, sz1, o2⟩, Marked.same _ _⟩
    case round =>
      clear o2
      obtain ⟨k, hk, rfl, ⟨K, hK, hown⟩, hm⟩ := hrel
      by_cases hlt : k < m3
      · have o4 := own4.marked_gt hm lt2
        obtain ⟨b0, off, rfl, hbb, hc⟩ := o4.has.2.2.2.2 (by omega)
        obtain ⟨t, ht1, ht2⟩ := TL.rng k (by rw [HLO.out]; exact hlt)
        have hck : wr.cell? ⟨b0, off + k, none⟩ = some (.int .i64 (t : Int)) := by rw [← ht1]; exact hc k hlt
        obtain ⟨g, rfl, hg1, hg2, hg3, hg4⟩ := hown.opened (by omega)
        have hgt := hg3 t ht2
        have hft := hg4 t
        have HBT := bump_take (is := os) (t := List.replicate n 0) (k := k) (by rw [HLO.out]; exact hlt)
        rw [ht1, Int.toNat_natCast] at HBT
        obtain ⟨u0, u1⟩ := tally_bound (n := n) (k := k) (t := t) TL.small
        obtain ⟨s1, s2⟩ := hown.set t (nth (bump (List.replicate n 0) (os.take k)) t + 1)
        rw [← HBT] at s1
        have hm2 := hm.then (marked_of s2)
        have htn : (t : Int) < (n : Int) := by omega
        clear hc hg3 hg4 HBT ht1 o4
        go_wp2_with fail
        go_roundw
        case rel => exact ⟨k + 1, by omega, by go_num, ⟨K, hK, s1⟩, hm2⟩
        case measure => simp [intOf]; omega
      · obtain rfl : k = m3 := by omega
        have HT : Hid (os.take k = os) := hid (List.take_of_length_le (by rw [HLO.out]; omega))
        rw [HT.out] at hown
        have o3 := own3.marked_lt hm lt1 ge2
        have hbe := hw3.trans (hm.below (ge2.mono sz1) hw3.size)
        go_wp2_with fail
        go_ret3
        exact postTwo HR.out o3 (hown.mono hK) ap hbe
  · have HR : Hid (settleOf xs = ([], [], false)) := hid (by simp [settleOf, hs])
    have HS := hid (Bool.eq_false_iff.2 hs)
    clear hs
    go_enter Try.func8, Try.ntmps8
    go_wp2_with (go_at_call 40; refine (isSand_any _ _ _ _ _ h).mono ?_; rintro e w' ⟨rfl, rfl⟩; rw [HS.out])
    go_ret3
    exact postTwo_no HR.out (Below.refl _ _)
end Go.Proofs.Ytclpbccmgfclcaa
