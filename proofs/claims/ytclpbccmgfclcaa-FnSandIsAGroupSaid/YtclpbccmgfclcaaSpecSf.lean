/- The model's topplings, sums and settled sand, by contract. -/
import Derived.Test.YtclpbccmgfclcaaSpecSe
namespace Go.Proofs.Ytclpbccmgfclcaa
open Go.RowKit

theorem topple_yes {xs : List Int} {t n : Nat} (hl : xs.length = n) (h1 : sandB xs = true) (h2 : t < n) (h3 : (n : Int) ≤ nth xs t) (h4 : sandB (topL xs t) = true) : toppleOf xs (t : Int) = (topL xs t, true) := by
  subst hl
  unfold toppleOf
  rw [if_pos]
  · rw [Int.toNat_natCast]
  · simp [h1, h2, h3, h4]
theorem topple_no {xs : List Int} {i : Int} (h : ¬ (sandB xs = true ∧ 0 ≤ i ∧ i < (xs.length : Int) ∧ (xs.length : Int) ≤ nth xs i.toNat ∧ sandB (topL xs i.toNat) = true)) : toppleOf xs i = ([], false) := by
  unfold toppleOf
  rw [if_neg]
  simp only [Bool.and_eq_true, decide_eq_true_eq]
  exact fun e => h ⟨e.1.1.1.1, e.1.1.1.2, e.1.1.2, e.1.2, e.2⟩

set_option maxHeartbeats 1000000 in
theorem specTopple_any (a : Option Addr) (n cap : Nat) (xs : List Int) (i : Int) (w : World) (h : Has w a n cap xs) :
    Calls Try.prog 13 #[.slice a n cap, .int .i64 i] w (PostInts w (toppleOf xs i)) := by
  have hle := h.le
  by_cases hs : sandB xs = true
  · obtain ⟨h8, hbd⟩ := sand_nth hs h.len
    have hwd := sand_wide hs h.len
    have HS := hid hs
    by_cases hi : inB i 0 ((n : Int) - 1) = true
    · have hi2 := inB_iff.1 hi
      obtain ⟨t, rfl⟩ : ∃ t : Nat, i = (t : Int) := ⟨i.toNat, by omega⟩
      have ht : t < n := by omega
      have HI := hid hi
      obtain ⟨b0, off, rfl, hbb, hc⟩ := h.2.2.2.2 (by omega)
      have hck := hc t ht
      clear hi hc
      by_cases hx : nth xs t < (n : Int)
      · have HR : Hid (toppleOf xs (t : Int) = ([], false)) := hid (topple_no (by rintro ⟨-, -, -, e, -⟩; rw [h.len, Int.toNat_natCast] at e; omega))
        clear hs
        go_enter Try.func13, Try.ntmps13
        go_wp2_with (first | (go_at_call 43; refine (reSand_any _ _ _ _ _ h).mono ?_; rintro e w' ⟨rfl, rfl⟩; rw [HS.out]) | (go_at_call 48; refine (l1In_any _ _ _ _).mono ?_; rintro e w' ⟨rfl, rfl⟩; rw [HI.out]))
        go_ret2
        exact postInts_no HR.out (Below.refl _ _)
      · by_cases h4 : sandB (topL xs t) = true
        · have HR := hid (topple_yes h.len hs ht (by omega) h4)
          have H4 := hid h4
          clear hs h4
          go_enter Try.func13, Try.ntmps13
          go_wp2_with (first | (go_at_call 48; refine (l1In_any _ _ _ _).mono ?_; rintro e w' ⟨rfl, rfl⟩; rw [HI.out]) | (go_at_call 43; first | (with_reducible refine (reSand_any _ _ _ _ _ own1.has).mono ?_; rintro e w' ⟨rfl, rfl⟩; rw [H4.out]) | (with_reducible refine (reSand_any _ _ _ _ _ h).mono ?_; rintro e w' ⟨rfl, rfl⟩; rw [HS.out])) | (go_at_call 49; first | (with_reducible refine (reTopple_any _ _ _ _ t _ (h.below hb1 (Nat.le_refl _)) h8 ht hwd).mono ?_; rintro e w2 ⟨a2, c2, rfl, own2, hb2⟩) | (with_reducible refine (reTopple_any _ _ _ _ t _ h h8 ht hwd).mono ?_; rintro e w1 ⟨a1, c1, rfl, own1, hb1⟩)))
          go_ret2
          exact postInts HR.out (own2.mono hb1.size) (hb1.trans (hb2.mono hb1.size))
        · have HR : Hid (toppleOf xs (t : Int) = ([], false)) := hid (topple_no (by rintro ⟨-, -, -, -, e⟩; rw [Int.toNat_natCast] at e; exact h4 e))
          have H4 := hid (Bool.eq_false_iff.2 h4)
          clear hs h4
          go_enter Try.func13, Try.ntmps13
          go_wp2_with (first | (go_at_call 48; refine (l1In_any _ _ _ _).mono ?_; rintro e w' ⟨rfl, rfl⟩; rw [HI.out]) | (go_at_call 43; first | (with_reducible refine (reSand_any _ _ _ _ _ own1.has).mono ?_; rintro e w' ⟨rfl, rfl⟩; rw [H4.out]) | (with_reducible refine (reSand_any _ _ _ _ _ h).mono ?_; rintro e w' ⟨rfl, rfl⟩; rw [HS.out])) | (go_at_call 49; refine (reTopple_any _ _ _ _ t _ h h8 ht hwd).mono ?_; rintro e w1 ⟨a1, c1, rfl, own1, hb1⟩))
          go_ret2
          exact postInts_no HR.out hb1
    · have HR : Hid (toppleOf xs i = ([], false)) := hid (topple_no (by rintro ⟨-, e1, e2, -⟩; rw [h.len] at e2; exact hi (inB_iff.2 ⟨e1, by omega⟩)))
      have HI := hid (Bool.eq_false_iff.2 hi)
      clear hi hs
      go_enter Try.func13, Try.ntmps13
      go_wp2_with (first | (go_at_call 43; refine (reSand_any _ _ _ _ _ h).mono ?_; rintro e w' ⟨rfl, rfl⟩; rw [HS.out]) | (go_at_call 48; refine (l1In_any _ _ _ _).mono ?_; rintro e w' ⟨rfl, rfl⟩; rw [HI.out]))
      go_ret2
      exact postInts_no HR.out (Below.refl _ _)
  · have HR : Hid (toppleOf xs i = ([], false)) := hid (topple_no (fun e => hs e.1))
    have HS := hid (Bool.eq_false_iff.2 hs)
    clear hs
    go_enter Try.func13, Try.ntmps13
    go_wp2_with (go_at_call 43; refine (reSand_any _ _ _ _ _ h).mono ?_; rintro e w' ⟨rfl, rfl⟩; rw [HS.out])
    go_ret2
    exact postInts_no HR.out (Below.refl _ _)

/-- The sum of two lists of grains. -/
structure SumS (xs ys : List Int) (n : Nat) : Prop where
  pile : Pile (plusL xs ys)
  tot : total (plusL xs ys) ≤ 4000
  len : (plusL xs ys).length = n
theorem sumS {xs ys : List Int} {n : Nat} (hx : xs.length = n) (hy : ys.length = n) (h : sandB xs = true) (h' : sandB ys = true) : SumS xs ys n := by
  have hl : xs.length = ys.length := by omega
  refine ⟨pile_plus (Pile.sand h) (Pile.sand h') hl, ?_, by rw [length_plusL hl]; exact hx⟩
  rw [total_plus hl]
  have := sand_tot h
  have := sand_tot h'
  omega
theorem both_wide {xs ys : List Int} {n : Nat} (hx : ∀ i, i < n → 0 ≤ nth xs i ∧ nth xs i ≤ 5000) (hy : ∀ i, i < n → 0 ≤ nth ys i ∧ nth ys i ≤ 5000) : ∀ i, i < n → 0 ≤ nth xs i ∧ nth xs i ≤ 5000 ∧ 0 ≤ nth ys i ∧ nth ys i ≤ 5000 := fun i hi => ⟨(hx i hi).1, (hx i hi).2, hy i hi⟩

theorem add_yes {xs ys : List Int} (h1 : sandB xs = true) (h2 : sandB ys = true) (h3 : xs.length = ys.length) : addOf xs ys = ((settle (plusL xs ys)).1, true) := by
  unfold addOf
  rw [if_pos]
  rw [h1, h2, decide_eq_true h3]
  rfl
theorem add_no {xs ys : List Int} (h : ¬ (sandB xs = true ∧ sandB ys = true ∧ xs.length = ys.length)) : addOf xs ys = ([], false) := by
  unfold addOf
  rw [if_neg]
  intro e
  rw [Bool.and_eq_true, Bool.and_eq_true, decide_eq_true_eq] at e
  exact h ⟨e.1.1, e.1.2, e.2⟩
set_option maxHeartbeats 1000000 in
theorem specAdd_any (a b : Option Addr) (n cap m capb : Nat) (xs ys : List Int) (w : World) (h : Has w a n cap xs) (h' : Has w b m capb ys) :
    Calls Try.prog 30 #[.slice a n cap, .slice b m capb] w (PostInts w (addOf xs ys)) := by
  by_cases hs : sandB xs = true
  · have HS := hid hs
    by_cases hs' : sandB ys = true
    · have HS' := hid hs'
      by_cases hnm : n = m
      · subst hnm
        have hbe : ((n : Int) != (n : Int)) = false := by simp
        have h8 := (sand_nth hs h.len).1
        have hbd := both_wide (sand_wide hs h.len) (sand_wide hs' h'.len)
        have U := sumS h.len h'.len hs hs'
        have HR := hid (add_yes hs hs' (h.len.trans h'.len.symm))
        clear hs hs'
        go_enter Try.func30, Try.ntmps30
        go_wp2_with (first | (go_at_call 43; first | (with_reducible refine (reSand_any _ _ _ _ _ h).mono ?_; rintro e w' ⟨rfl, rfl⟩; rw [HS.out]) | (with_reducible refine (reSand_any _ _ _ _ _ h').mono ?_; rintro e w' ⟨rfl, rfl⟩; rw [HS'.out])) | (go_at_call 58; refine (rePlus_any _ _ _ _ _ _ _ _ h h' h8 hbd).mono ?_; rintro e w' ⟨a2, c2, rfl, own2, hb2⟩) | (go_at_call 44; refine (reSettle_any _ _ _ _ _ own2.has h8 U.pile U.tot).mono ?_; rintro e w' ⟨a3, c3, b3, m3, d3, rfl, own3, own4, hb3⟩))
        go_ret2
        exact postInts HR.out (own3.mono hb2.size) (hb2.trans (hb3.mono hb2.size))
      · have hbe : ((n : Int) != (m : Int)) = true := by simp; omega
        have HR := hid (add_no (xs := xs) (ys := ys) (fun e => hnm (by rw [← h.len, ← h'.len]; exact e.2.2)))
        clear hs hs'
        go_enter Try.func30, Try.ntmps30
        go_wp2_with (go_at_call 43; first | (with_reducible refine (reSand_any _ _ _ _ _ h).mono ?_; rintro e w' ⟨rfl, rfl⟩; rw [HS.out]) | (with_reducible refine (reSand_any _ _ _ _ _ h').mono ?_; rintro e w' ⟨rfl, rfl⟩; rw [HS'.out]))
        go_ret2
        exact postInts_no HR.out (Below.refl _ _)
    · have HS' := hid (Bool.eq_false_iff.2 hs')
      have HR := hid (add_no (xs := xs) (ys := ys) (fun e => hs' e.2.1))
      clear hs hs'
      go_enter Try.func30, Try.ntmps30
      go_wp2_with (go_at_call 43; first | (with_reducible refine (reSand_any _ _ _ _ _ h).mono ?_; rintro e w' ⟨rfl, rfl⟩; rw [HS.out]) | (with_reducible refine (reSand_any _ _ _ _ _ h').mono ?_; rintro e w' ⟨rfl, rfl⟩; rw [HS'.out]))
      go_ret2
      exact postInts_no HR.out (Below.refl _ _)
  · have HR := hid (add_no (xs := xs) (ys := ys) (fun e => hs e.1))
    have HS := hid (Bool.eq_false_iff.2 hs)
    clear hs
    go_enter Try.func30, Try.ntmps30
    go_wp2_with (go_at_call 43; refine (reSand_any _ _ _ _ _ h).mono ?_; rintro e w' ⟨rfl, rfl⟩; rw [HS.out])
    go_ret2
    exact postInts_no HR.out (Below.refl _ _)

/-- Two slices of the call's own, apart, and a bool. -/
def PostTwo (w : World) (r : List Int × List Int × Bool) (e : Ending) (w' : World) : Prop :=
  ∃ a n c b m d, e = .returned (.tuple #[.slice a n c, .slice b m d, .bool r.2.2]) ∧ Own w' w.heap.size a n c r.1 ∧ Own w' w.heap.size b m d r.2.1 ∧ Apart a b ∧ Below w.heap.size w w'
theorem postTwo {w w' : World} {r : List Int × List Int × Bool} {xs ys : List Int} {ok : Bool} {a b : Option Addr} {n c m d : Nat} (hr : r = (xs, ys, ok)) (h : Own w' w.heap.size a n c xs) (h' : Own w' w.heap.size b m d ys) (hap : Apart a b) (hb : Below w.heap.size w w') :
    PostTwo w r (.returned (.tuple #[.slice a n c, .slice b m d, .bool ok])) w' := by subst hr; exact ⟨_, _, _, _, _, _, rfl, h, h', hap, hb⟩
theorem postTwo_no {w w' : World} {r : List Int × List Int × Bool} (hr : r = ([], [], false)) (hb : Below w.heap.size w w') : PostTwo w r (.returned (.tuple #[.slice none 0 0, .slice none 0 0, .bool false])) w' :=
  postTwo hr (Own.nil _ _) (Own.nil _ _) (Apart.noneL _) hb

theorem bump_take {is t : List Int} {k : Nat} (h : k < is.length) : bump t (is.take (k + 1)) = (bump t (is.take k)).set (nth is k).toNat (nth (bump t (is.take k)) (nth is k).toNat + 1) := by
  rw [take_succ_nth h, bump_snoc]
/-- The topplings so far: what a round of counting wants. -/
structure Tally (os : List Int) (n : Nat) : Prop where
  rng : ∀ k, k < os.length → ∃ t : Nat, nth os k = (t : Int) ∧ t < n
  small : os.length ≤ 4000
theorem tally {cs : List Int} {n : Nat} (hl : cs.length = n) (hp : Pile cs) (ht : total cs ≤ 4000) : Tally (settle cs).2 n := by
  have S := settled hp
  refine ⟨fun k hk => ?_, by have := S.cnt; omega⟩
  have := S.ord _ (nth_mem hk)
  exact ⟨(nth (settle cs).2 k).toNat, by omega, by omega⟩
theorem tally_bound {os : List Int} {n k t : Nat} (hs : os.length ≤ 4000) : 0 ≤ nth (bump (List.replicate n 0) (os.take k)) t ∧ nth (bump (List.replicate n 0) (os.take k)) t ≤ 4000 := by
  have hb := bump_bounds (os.take k) (List.replicate n 0) 0 (fun x hx => by obtain ⟨-, rfl⟩ := List.mem_replicate.1 hx; omega) (by omega)
  by_cases e : t < n
  · have := hb _ (nth_mem (xs := bump (List.replicate n 0) (os.take k)) (i := t) (by simpa using e))
    rw [List.length_take] at this
    omega
  · have : nth (bump (List.replicate n 0) (os.take k)) t = 0 := by simp [nth, Nat.not_lt.1 e]
    omega

set_option maxHeartbeats 1000000 in
theorem specStabilize_any (a : Option Addr) (n cap : Nat) (xs : List Int) (w : World) (h : Has w a n cap xs) :
    Calls Try.prog 9 #[.slice a n cap] w (PostTwo w (settleOf xs)) := by
  by_cases hs : sandB xs = true
  · have HS := hid hs
    have h8 := (sand_nth hs h.len).1
    have hp := Pile.sand hs
    have ht : total xs ≤ 4000 := by have := sand_tot hs; omega
    have TL := tally h.len hp ht
    have HR : Hid (settleOf xs = ((settle xs).1, bump (List.replicate n 0) (settle xs).2, true)) := hid (by simp [settleOf, hs, h.len])
    clear hs
    go_enter Try.func9, Try.ntmps9
    go_wp2_with (first | (go_at_call 43; refine (reSand_any _ _ _ _ _ h).mono ?_; rintro e w' ⟨rfl, rfl⟩; rw [HS.out]) | (go_at_call 44; refine (reSettle_any _ _ _ _ _ h h8 hp ht).mono ?_; rintro e w' ⟨a3, c3, b3, m3, d3, rfl, own3, own4, hb3⟩) | (at_make; refine wpList_make_ints _ rfl _ _ rfl n rfl rfl (by omega) ?_; intro a2 cap2 w2 hown2 hb2))
    obtain ⟨os, hos⟩ : ∃ os, (settle xs).2 = os := ⟨_, rfl⟩
    rw [hos] at TL own4 HR
    have hm3 : m3 ≤ 4000 := by have := TL.small; have := own4.len; omega
    have HLO := hid own4.len
    have h4 := own4.has
    have ap : Apart a3 a2 := apart_of own3.lt hown2.ge
    have hsz := hb3.size
    clear hos own4
    go_loopw [23] (fun i wr => ∃ k : Nat, k ≤ m3 ∧ i = .int .i64 k ∧ Own wr w'.heap.size a2 n cap2 (bump (List.replicate n 0) (os.take k)) ∧ Below w'.heap.size w' wr) (fun i _ => m3 - (intOf i).toNat)
    case atStart => exact ⟨0, by omega, rfl, hown2, hb2⟩
    case round =>
      clear hown2 hb2
      obtain ⟨k, hk, rfl, hown, hb⟩ := hrel
      by_cases hlt : k < m3
      · obtain ⟨b0, off, rfl, hbb, hc⟩ := h4.2.2.2.2 (by omega)
        obtain ⟨t, ht1, ht2⟩ := TL.rng k (by rw [HLO.out]; exact hlt)
        have hck : wr.cell? ⟨b0, off + k, none⟩ = some (.int .i64 (t : Int)) := by rw [hb.cell (p := ⟨b0, off + k, none⟩) hbb, ← ht1]; exact hc k hlt
        obtain ⟨g, rfl, hg1, hg2, hg3, hg4⟩ := hown.opened (by omega)
        have hgt := hg3 t ht2
        have hft := hg4 t
        have HBT := bump_take (is := os) (t := List.replicate n 0) (k := k) (by rw [HLO.out]; exact hlt)
        rw [ht1, Int.toNat_natCast] at HBT
        obtain ⟨u0, u1⟩ := tally_bound (n := n) (k := k) (t := t) TL.small
        have s1 := (hown.set t (nth (bump (List.replicate n 0) (os.take k)) t + 1)).1
        rw [← HBT] at s1
        have hb2 := hb.setCell (p := ⟨g, t, none⟩) (by show w'.heap.size ≤ g; omega) (.int .i64 (nth (bump (List.replicate n 0) (os.take k)) t + 1))
        have htn : (t : Int) < (n : Int) := by omega
        clear hc hg3 hg4 HBT ht1
        go_wp2_with fail
        go_roundw
        case rel => exact ⟨k + 1, by omega, by go_num, s1, hb2⟩
        case measure => simp [intOf]; omega
      · obtain rfl : k = m3 := by omega
        have HT : Hid (os.take k = os) := hid (List.take_of_length_le (by rw [HLO.out]; omega))
        rw [HT.out] at hown
        go_wp2_with fail
        go_ret3
        exact postTwo HR.out (own3.below hb (Nat.le_refl _)) (hown.mono hsz) ap (hb3.trans (hb.mono hsz))
  · have HR : Hid (settleOf xs = ([], [], false)) := hid (by simp [settleOf, hs])
    have HS := hid (Bool.eq_false_iff.2 hs)
    clear hs
    go_enter Try.func9, Try.ntmps9
    go_wp2_with (go_at_call 43; refine (reSand_any _ _ _ _ _ h).mono ?_; rintro e w' ⟨rfl, rfl⟩; rw [HS.out])
    go_ret3
    exact postTwo_no HR.out (Below.refl _ _)
end Go.Proofs.Ytclpbccmgfclcaa
