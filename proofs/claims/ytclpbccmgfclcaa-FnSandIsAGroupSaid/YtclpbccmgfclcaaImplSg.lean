/- The rest sand and repeated sand: both sides, by contract. -/
import Derived.Test.YtclpbccmgfclcaaImplSf
import Derived.Test.YtclpbccmgfclcaaRepS
import Derived.Test.YtclpbccmgfclcaaImplN
namespace Go.Proofs.Ytclpbccmgfclcaa
open Go.RowKit

/-- What the model's way to the rest sand comes to, step by step. -/
theorem rest_way : ∀ n : Nat, n ≤ 8 → turnL (List.replicate n 0) = restL n ∧ (settle (plusL (restL n) (restL n))).1 = restL n ∧ total (plusL (restL n) (restL n)) ≤ 4000 ∧ List.zipWith (· - ·) (plusL (restL n) (restL n)) (restL n) = restL n ∧ (settle (restL n)).1 = restL n ∧ total (restL n) ≤ 4000 := by decide +kernel
theorem nth_rest {n k : Nat} (h : k < n) : nth (restL n) k = (n : Int) - 1 := by simp [nth, restL, h]
@[simp] theorem length_restL (n : Nat) : (restL n).length = n := by simp [restL]
theorem pile_restL (n : Nat) : Pile (restL n) := fun x hx => by
  obtain ⟨h1, rfl⟩ := List.mem_replicate.1 hx
  omega
theorem rest_succ {n k : Nat} (h : k < n) : (restL n).take (k + 1) = (restL n).take k ++ [(n : Int) - 1] := by rw [take_succ_nth (by simpa using h), nth_rest h]

set_option maxRecDepth 100000 in
set_option maxHeartbeats 1000000 in
theorem reRest_any (n : Nat) (w : World) (h8 : n ≤ 8) :
    Calls Try.prog 67 #[.int .i64 (n : Int)] w fun e w' => ∃ a' cap', e = .returned (.slice a' n cap') ∧ Own w' w.heap.size a' n cap' (restL n) ∧ Below w.heap.size w w' := by
  obtain ⟨r1, r2, r3, r4, r5, r6⟩ := rest_way n h8
  have R1 := hid r1
  have R2 := hid r2
  have R5 := hid r5
  have hz : ∀ i, i < n → 0 ≤ nth (List.replicate n 0) i ∧ nth (List.replicate n 0) i ≤ 5000 := fun i hi => by simp [nth, hi]
  have hr : ∀ i, i < n → 0 ≤ nth (restL n) i ∧ nth (restL n) i ≤ 5000 ∧ 0 ≤ nth (restL n) i ∧ nth (restL n) i ≤ 5000 := fun i hi => by rw [nth_rest hi]; omega
  have hpp := pile_plus (pile_restL n) (pile_restL n) rfl
  have hpr := pile_restL n
  clear r1 r2 r4 r5
  go_enter Try.func67, Try.ntmps67
  go_wp2_with (first | (at_make; refine wpList_make_ints _ rfl _ _ rfl n rfl rfl (by omega) ?_; intro a1 c1 w1 own1 hb1) | (go_at_call 56; refine (reTurned_any _ _ _ _ _ own1.has h8 hz).mono ?_; rintro e w' ⟨a2, c2, rfl, own2, hb2⟩; rw [R1.out] at own2; have hb12 := hb1.trans (hb2.mono hb1.size)) | (go_at_call 58; refine (rePlus_any _ _ _ _ _ _ _ _ own2.has own2.has h8 hr).mono ?_; rintro e w' ⟨a3, c3, rfl, own3, hb3⟩; have hb13 := hb12.trans (hb3.mono hb12.size)) | (go_at_call 44; refine (reSettle_any _ _ _ _ _ own3.has h8 hpp r3).mono ?_; rintro e w' ⟨a4, c4, b4, m4, d4, rfl, own4, own5, hb4⟩; rw [R2.out] at own4; have hb14 := hb13.trans (hb4.mono hb13.size); have h3' := own3.has.below hb4 (Nat.le_refl _)))
  have h4 := own4.has
  have B0 := hid hb14
  have HW := hid hb14.size
  clear own1 own2 own3 own4 own5 hb1 hb2 hb3 hb4 hb12 hb13 hb14
  have HP := hid (fun k (hk : k < n) => nth_plusL (c := restL n) (d := restL n) (k := k) (by simpa using hk) (by simpa using hk))
  go_loopw [7, 25] (fun o i wr => ∃ (k : Nat) (a' : Option Addr) (cap' : Nat), k ≤ n ∧ i = .int .i64 k ∧ o = .slice a' k cap' ∧ Own wr w'.heap.size a' k cap' ((restL n).take k) ∧ Below w'.heap.size w' wr) (fun _ i _ => n - (intOf i).toNat)
  case atStart => exact ⟨0, none, 0, by omega, rfl, rfl, Own.nil _ _, Below.refl _ _⟩
  case round =>
    obtain ⟨k, a', cap', hk, rfl, rfl, hown, hb⟩ := hrel
    by_cases hlt : k < n
    · obtain ⟨b0, off, rfl, hbb, hc⟩ := h3'.2.2.2.2 (by omega)
      obtain ⟨b1, off1, rfl, hbb1, hc1⟩ := h4.2.2.2.2 (by omega)
      have hck : wr.cell? ⟨b0, off + k, none⟩ = some (.int .i64 ((n : Int) - 1 + ((n : Int) - 1))) := by
        rw [hb.cell (p := ⟨b0, off + k, none⟩) hbb]
        have := hc k hlt
        rw [HP.out k hlt, nth_rest hlt] at this
        exact this
      have hdk : wr.cell? ⟨b1, off1 + k, none⟩ = some (.int .i64 ((n : Int) - 1)) := by
        rw [hb.cell (p := ⟨b1, off1 + k, none⟩) hbb1]
        have := hc1 k hlt
        rw [nth_rest hlt] at this
        exact this
      have HS := hid (rest_succ hlt)
      clear hc hc1
      go_wp2_with (at_builtin; refine wpList_append_int _ rfl _ _ rfl w'.heap.size _ _ _ _ _ rfl rfl hown (by omega) hb.size ?_; intro a5 cap5 w5 hown5 hb5)
      go_roundw
      case rel => exact ⟨k + 1, a5, cap5, by omega, by go_num, rfl, by rw [HS.out]; exact hown5, hb.trans hb5⟩
      case measure => simp [intOf]; omega
    · obtain rfl : k = n := by omega
      have HT : Hid ((restL k).take k = restL k) := hid (List.take_of_length_le (by simp))
      rw [HT.out] at hown
      go_wp2_with (go_at_call 44; refine (reSettle_any _ _ _ _ _ hown.has h8 hpr r6).mono ?_; rintro e w' ⟨a6, c6, b6, m6, d6, rfl, own6, own7, hb6⟩; rw [R5.out] at own6)
      go_ret
      exact ⟨_, _, rfl, own6.mono (Nat.le_trans HW.out hb.size), (B0.out.trans (hb.mono HW.out)).trans (hb6.mono (Nat.le_trans HW.out hb.size))⟩

theorem rest_yes {n : Nat} (h : inB (n : Int) 0 8 = true) : restOf (n : Int) = (restL n, true) := by unfold restOf; rw [if_pos h, Int.toNat_natCast]
theorem rest_no {n : Int} (h : ¬ inB n 0 8 = true) : restOf n = ([], false) := by unfold restOf; rw [if_neg h]
set_option maxHeartbeats 400000 in
theorem specRest_any (n : Int) (w : World) : Calls Try.prog 36 #[.int .i64 n] w (PostInts w (restOf n)) := by
  by_cases hn : inB n 0 8 = true
  · have h2 := inB_iff.1 hn
    obtain ⟨m, rfl⟩ : ∃ m : Nat, n = (m : Int) := ⟨n.toNat, by omega⟩
    have HR := hid (rest_yes hn)
    have HN := hid hn
    clear hn
    go_enter Try.func36, Try.ntmps36
    go_wp2_with (first | (go_at_call 48; refine (l1In_any _ _ _ _).mono ?_; rintro e w' ⟨rfl, rfl⟩; rw [HN.out]) | (go_at_call 67; refine (reRest_any m _ (by omega)).mono ?_; rintro e w' ⟨a1, c1, rfl, own1, hb1⟩))
    go_ret2
    exact postInts HR.out own1 hb1
  · have HR := hid (rest_no hn)
    have HN := hid (Bool.eq_false_iff.2 hn)
    clear hn
    go_enter Try.func36, Try.ntmps36
    go_wp2_with (go_at_call 48; refine (l1In_any _ _ _ _).mono ?_; rintro e w' ⟨rfl, rfl⟩; rw [HN.out])
    go_ret2
    exact postInts_no HR.out (Below.refl _ _)

set_option maxRecDepth 100000 in
set_option maxHeartbeats 400000 in
theorem restSand_any (n : Nat) (w : World) (h8 : n ≤ 8) :
    Calls Try.prog 66 #[.int .i64 (n : Int)] w fun e w' => ∃ a' cap', e = .returned (.slice a' n cap') ∧ Own w' w.heap.size a' n cap' (restL n) ∧ Below w.heap.size w w' := by
  have hb0 : Below w.heap.size w (w.alloc (.cells #[.int .i64 ((n : Int) - 1)] 3)) := (Below.refl _ _).alloc (Nat.le_refl _) _
  have HO : Has (w.alloc (.cells #[.int .i64 ((n : Int) - 1)] 3)) (some ⟨w.heap.size, 0, none⟩) 1 1 [(n : Int) - 1] :=
    Own.has (B := w.heap.size) ⟨World.ownsRow_lit w #[.int .i64 ((n : Int) - 1)] 1 (Nat.le_refl _) (by unfold maxLen; omega) (by simp), by simp⟩
  have HR : Hid (restL n = List.replicate n ((n : Int) - 1)) := hid rfl
  go_enter Try.func66, Try.ntmps66
  go_wp2_with (go_at_call 80; refine (repeatS_any _ _ n ((n : Int) - 1) _ HO h8).mono ?_; rintro e w' ⟨a1, c1, rfl, own1, hb1⟩)
  go_ret
  exact ⟨_, _, rfl, by rw [HR.out]; exact own1.mono (by simp), hb0.trans (hb1.mono (by simp))⟩

set_option maxHeartbeats 400000 in
theorem implRest_any (n : Int) (w : World) : Calls Try.prog 35 #[.int .i64 n] w (PostInts w (restOf n)) := by
  by_cases hn : inB n 0 8 = true
  · have h2 := inB_iff.1 hn
    obtain ⟨m, rfl⟩ : ∃ m : Nat, n = (m : Int) := ⟨n.toNat, by omega⟩
    have HR := hid (rest_yes hn)
    have HN := hid hn
    clear hn
    go_enter Try.func35, Try.ntmps35
    go_wp2_with (first | (go_at_call 69; refine (isCarNumber_any _ _).mono ?_; rintro e w' ⟨rfl, rfl⟩; rw [HN.out]) | (go_at_call 66; refine (restSand_any m _ (by omega)).mono ?_; rintro e w' ⟨a1, c1, rfl, own1, hb1⟩))
    go_ret2
    exact postInts HR.out own1 hb1
  · have HR := hid (rest_no hn)
    have HN := hid (Bool.eq_false_iff.2 hn)
    clear hn
    go_enter Try.func35, Try.ntmps35
    go_wp2_with (go_at_call 69; refine (isCarNumber_any _ _).mono ?_; rintro e w' ⟨rfl, rfl⟩; rw [HN.out])
    go_ret2
    exact postInts_no HR.out (Below.refl _ _)

theorem repeat_yes {xs : List Int} {k : Nat} (h : (sandB xs && recB xs) = true) (hk : k ≤ 1000) : repeatOf xs (k : Int) = (repL xs k, true) := by
  unfold repeatOf
  have : inB (k : Int) 0 1000 = true := inB_iff.2 ⟨by omega, by omega⟩
  rw [h, this, Int.toNat_natCast]
  rfl
theorem repeat_no {xs : List Int} {k : Int} (h : ¬ ((sandB xs && recB xs) = true ∧ inB k 0 1000 = true)) : repeatOf xs k = ([], false) := by
  unfold repeatOf
  rw [if_neg]
  intro e
  rw [Bool.and_eq_true] at e
  exact h e
/-- What a round of repeating wants. -/
structure RepS (xs : List Int) (n k : Nat) : Prop where
  len : (repL xs k).length = n
  bd : ∀ i, i < n → 0 ≤ nth (repL xs k) i ∧ nth (repL xs k) i ≤ 5000 ∧ 0 ≤ nth xs i ∧ nth xs i ≤ 5000
  pile : Pile (plusL (repL xs k) xs)
  tot : total (plusL (repL xs k) xs) ≤ 4000
theorem repS {xs : List Int} {n : Nat} (hn : xs.length = n) (hs : sandB xs = true) (k : Nat) : RepS xs n k := by
  obtain ⟨h1, h2, h3⟩ := length_repL (Pile.sand hs) k
  have h8 := (sandB_iff.1 hs).1
  have ht : total (repL xs k) ≤ 8 * (repL xs k).length := total_le (fun x hx => by have := h3 x hx; omega)
  have ht2 := sand_tot hs
  refine ⟨by omega, fun i hi => ?_, pile_plus h2 (Pile.sand hs) h1, by rw [total_plus h1]; omega⟩
  have e1 := h2.nth (k := i) (by omega)
  have e2 := h3 _ (nth_mem (xs := repL xs k) (i := i) (by omega))
  have := sand_wide hs hn i hi
  omega

set_option maxRecDepth 100000 in
set_option maxHeartbeats 1000000 in
theorem specRepeat_any (a : Option Addr) (n cap : Nat) (xs : List Int) (k0 : Int) (w : World) (h : Has w a n cap xs) :
    Calls Try.prog 33 #[.slice a n cap, .int .i64 k0] w (PostInts w (repeatOf xs k0)) := by
  by_cases hs : sandB xs = true
  · have HS := hid hs
    by_cases hr : recB xs = true
    · have HC := hid hr
      by_cases hk : inB k0 0 1000 = true
      · have hk2 := inB_iff.1 hk
        obtain ⟨K, rfl⟩ : ∃ K : Nat, k0 = (K : Int) := ⟨k0.toNat, by omega⟩
        have hK : K ≤ 1000 := by omega
        have HR := hid (repeat_yes (xs := xs) (by rw [hs, hr]; rfl) hK)
        have HK := hid hk
        have h8 := (sand_nth hs h.len).1
        have RS := hid (repS h.len hs)
        clear hs hr hk
        go_enter Try.func33, Try.ntmps33
        go_wp2_with (first | (go_at_call 43; refine (reSand_any _ _ _ _ _ h).mono ?_; rintro e w' ⟨rfl, rfl⟩; rw [HS.out]) | (go_at_call 53; refine (reAgain_any _ _ _ _ _ h HS.out).mono ?_; rintro e w0 ⟨rfl, hb0⟩; rw [HC.out]) | (go_at_call 48; refine (l1In_any _ _ _ _).mono ?_; rintro e w' ⟨rfl, rfl⟩; rw [HK.out]) | (go_at_call 67; refine (reRest_any n _ h8).mono ?_; rintro e w' ⟨a1, c1, rfl, own1, hb1⟩))
        have e0 : restL n = repL xs 0 := by have := h.len; subst this; rfl
        rw [e0] at own1
        have hb01 := hb0.trans (hb1.mono hb0.size)
        have own1' := own1.mono hb0.size
        clear e0 own1 hb1
        go_loopg [6, 1] K (fun q o i wr => ∃ (j : Nat) (a' : Option Addr) (cap' : Nat), j + q = K ∧ i = .int .i64 (q : Int) ∧ o = .slice a' n cap' ∧ Own wr w.heap.size a' n cap' (repL xs j) ∧ Below w.heap.size w wr)
        case atStart => exact ⟨0, a1, c1, by omega, rfl, rfl, own1', hb01⟩
        case round =>
          clear own1' hb01
          obtain ⟨j, a', cap', hj, rfl, rfl, hown, hb⟩ := hrel
          by_cases hq : 0 < gk
          · have U := RS.out j
            have HE : Hid ((settle (plusL (repL xs j) xs)).1 = repL xs (j + 1)) := hid rfl
            have hb1 := U.bd
            have hpl := U.pile
            have htt := U.tot
            have hsz := hb.size
            clear U
            go_wp2_with (first | (go_at_call 58; refine (rePlus_any _ _ _ _ _ _ _ _ hown.has (h.below hb (Nat.le_refl _)) h8 hb1).mono ?_; rintro e w' ⟨a3, c3, rfl, own3, hb3⟩) | (go_at_call 44; refine (reSettle_any _ _ _ _ _ own3.has h8 hpl htt).mono ?_; rintro e w' ⟨a4, c4, b4, m4, d4, rfl, own4, own5, hb4⟩; rw [HE.out] at own4))
            go_roundg (gk - 1)
            case measure => omega
            case rel => exact ⟨j + 1, a4, c4, by omega, by go_num, rfl, own4.mono (Nat.le_trans hsz hb3.size), (hb.trans (hb3.mono hsz)).trans (hb4.mono (Nat.le_trans hsz hb3.size))⟩
          · obtain rfl : gk = 0 := by omega
            obtain rfl : j = K := by omega
            go_wp2_with fail
            go_ret2
            exact postInts HR.out hown hb
      · have HR := hid (repeat_no (xs := xs) (k := k0) (fun e => hk e.2))
        have HK := hid (Bool.eq_false_iff.2 hk)
        clear hs hr hk
        go_enter Try.func33, Try.ntmps33
        go_wp2_with (first | (go_at_call 43; refine (reSand_any _ _ _ _ _ h).mono ?_; rintro e w' ⟨rfl, rfl⟩; rw [HS.out]) | (go_at_call 53; refine (reAgain_any _ _ _ _ _ h HS.out).mono ?_; rintro e w0 ⟨rfl, hb0⟩; rw [HC.out]) | (go_at_call 48; refine (l1In_any _ _ _ _).mono ?_; rintro e w' ⟨rfl, rfl⟩; rw [HK.out]))
        go_ret2
        exact postInts_no HR.out hb0
    · have HR := hid (repeat_no (xs := xs) (k := k0) (fun e => by rw [hs, Bool.eq_false_iff.2 hr] at e; exact absurd e.1 (by simp)))
      have HC := hid (Bool.eq_false_iff.2 hr)
      clear hs hr
      go_enter Try.func33, Try.ntmps33
      go_wp2_with (first | (go_at_call 43; refine (reSand_any _ _ _ _ _ h).mono ?_; rintro e w' ⟨rfl, rfl⟩; rw [HS.out]) | (go_at_call 53; refine (reAgain_any _ _ _ _ _ h HS.out).mono ?_; rintro e w0 ⟨rfl, hb0⟩; rw [HC.out]))
      go_ret2
      exact postInts_no HR.out hb0
  · have HR := hid (repeat_no (xs := xs) (k := k0) (fun e => by rw [Bool.eq_false_iff.2 hs] at e; exact absurd e.1 (by simp)))
    have HS := hid (Bool.eq_false_iff.2 hs)
    clear hs
    go_enter Try.func33, Try.ntmps33
    go_wp2_with (go_at_call 43; refine (reSand_any _ _ _ _ _ h).mono ?_; rintro e w' ⟨rfl, rfl⟩; rw [HS.out])
    go_ret2
    exact postInts_no HR.out (Below.refl _ _)

set_option maxRecDepth 100000 in
set_option maxHeartbeats 1000000 in
theorem implRepeat_any (a : Option Addr) (n cap : Nat) (xs : List Int) (k0 : Int) (w : World) (h : Has w a n cap xs) :
    Calls Try.prog 32 #[.slice a n cap, .int .i64 k0] w (PostInts w (repeatOf xs k0)) := by
  by_cases hr : (sandB xs && recB xs) = true
  · have hs : sandB xs = true := by simp at hr; exact hr.1
    have HC := hid hr
    by_cases hk : inB k0 0 1000 = true
    · have hk2 := inB_iff.1 hk
      obtain ⟨K, rfl⟩ : ∃ K : Nat, k0 = (K : Int) := ⟨k0.toNat, by omega⟩
      have hK : K ≤ 1000 := by omega
      have HR := hid (repeat_yes (xs := xs) hr hK)
      have h8 := (sand_nth hs h.len).1
      have RS := hid (repS h.len hs)
      clear hs hr hk
      go_enter Try.func32, Try.ntmps32
      go_wp2_with (first | (go_at_call 54; refine (isRecurrentSand_any _ _ _ _ _ h).mono ?_; rintro e w0 ⟨rfl, hb0⟩; rw [HC.out]) | (go_at_call 66; refine (restSand_any n _ h8).mono ?_; rintro e w' ⟨a1, c1, rfl, own1, hb1⟩))
      have e0 : restL n = repL xs 0 := by have := h.len; subst this; rfl
      rw [e0] at own1
      have hb01 := hb0.trans (hb1.mono hb0.size)
      have own1' := own1.mono hb0.size
      clear e0 own1 hb1
      go_loopw [6, 22] (fun o i wr => ∃ (j : Nat) (a' : Option Addr) (cap' : Nat), j ≤ K ∧ i = .int .i64 (j : Int) ∧ o = .slice a' n cap' ∧ Own wr w.heap.size a' n cap' (repL xs j) ∧ Below w.heap.size w wr) (fun _ i _ => K - (intOf i).toNat)
      case atStart => exact ⟨0, a1, c1, by omega, rfl, rfl, own1', hb01⟩
      case round =>
        clear own1' hb01
        obtain ⟨j, a', cap', hj, rfl, rfl, hown, hb⟩ := hrel
        by_cases hq : j < K
        · have U := RS.out j
          have HE : Hid ((settle (plusL (repL xs j) xs)).1 = repL xs (j + 1)) := hid rfl
          have hb1 := U.bd
          have hpl := U.pile
          have htt := U.tot
          have hsz := hb.size
          clear U
          go_wp2_with (go_at_call 64; refine (sum_any _ _ _ _ _ _ _ _ hown.has (h.below hb (Nat.le_refl _)) h8 hb1 hpl htt).mono ?_; rintro e w' ⟨a3, c3, rfl, own3, hb3⟩; rw [HE.out] at own3)
          go_roundw
          case rel => exact ⟨j + 1, a3, c3, by omega, by go_num, rfl, own3.mono hsz, hb.trans (hb3.mono hsz)⟩
          case measure => simp [intOf]; omega
        · obtain rfl : j = K := by omega
          go_wp2_with fail
          go_ret2
          exact postInts HR.out hown hb
    · have HR := hid (repeat_no (xs := xs) (k := k0) (fun e => hk e.2))
      have hk' := inB_not.1 (Bool.eq_false_iff.2 hk)
      clear hs hr hk
      by_cases h0 : k0 < 0
      · go_enter Try.func32, Try.ntmps32
        go_wp2_with (go_at_call 54; refine (isRecurrentSand_any _ _ _ _ _ h).mono ?_; rintro e w0 ⟨rfl, hb0⟩; rw [HC.out])
        go_ret2
        exact postInts_no HR.out hb0
      · have h1 : 1000 < k0 := by omega
        go_enter Try.func32, Try.ntmps32
        go_wp2_with (go_at_call 54; refine (isRecurrentSand_any _ _ _ _ _ h).mono ?_; rintro e w0 ⟨rfl, hb0⟩; rw [HC.out])
        go_ret2
        exact postInts_no HR.out hb0
  · have HR := hid (repeat_no (xs := xs) (k := k0) (fun e => hr e.1))
    have HC := hid (Bool.eq_false_iff.2 hr)
    clear hr
    go_enter Try.func32, Try.ntmps32
    go_wp2_with (go_at_call 54; refine (isRecurrentSand_any _ _ _ _ _ h).mono ?_; rintro e w0 ⟨rfl, hb0⟩; rw [HC.out])
    go_ret2
    exact postInts_no HR.out hb0
end Go.Proofs.Ytclpbccmgfclcaa
