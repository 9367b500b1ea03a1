/- The model's functions of sand, by contract. -/
import Derived.Test.YtclpbccmgfclcaaSpecSd
import Derived.Test.YtclpbccmgfclcaaSam
import Derived.Test.YtclpbccmgfclcaaSpecB
namespace Go.Proofs.Ytclpbccmgfclcaa
open Go.RowKit

theorem plus_succ {xs ys : List Int} {k : Nat} (h : k < xs.length) (h' : k < ys.length) (hl : xs.length = ys.length) : (plusL xs ys).take (k + 1) = (plusL xs ys).take k ++ [nth xs k + nth ys k] := by
  rw [take_succ_nth (by rw [length_plusL hl]; exact h), nth_plusL h h']

set_option maxHeartbeats 1000000 in
theorem rePlus_any (a b : Option Addr) (n cap capb : Nat) (xs ys : List Int) (w : World) (h : Has w a n cap xs) (h' : Has w b n capb ys) (h8 : n ≤ 8) (hb : ∀ i, i < n → 0 ≤ nth xs i ∧ nth xs i ≤ 5000 ∧ 0 ≤ nth ys i ∧ nth ys i ≤ 5000) :
    Calls Try.prog 58 #[.slice a n cap, .slice b n capb] w fun e w' => ∃ a' cap', e = .returned (.slice a' n cap') ∧ Own w' w.heap.size a' n cap' (plusL xs ys) ∧ Below w.heap.size w w' := by
  have HL := hid h.len
  have HL2 := hid h'.len
  have HB := hid hb
  clear hb
  go_enter Try.func58, Try.ntmps58
  go_wp2_with fail
  go_loopw [5, 10] (fun o i wr => ∃ (k : Nat) (a' : Option Addr) (cap' : Nat), k ≤ n ∧ i = .int .i64 k ∧ o = .slice a' k cap' ∧ Own wr w.heap.size a' k cap' ((plusL xs ys).take k) ∧ Below w.heap.size w wr) (fun _ i _ => n - (intOf i).toNat)
  case atStart => exact ⟨0, none, 0, by omega, rfl, rfl, Own.nil _ _, Below.refl _ _⟩
  case round =>
    obtain ⟨k, a', cap', hk, rfl, rfl, hown, hb⟩ := hrel
    by_cases hlt : k < n
    · obtain ⟨b0, off, rfl, hbb, hc⟩ := h.2.2.2.2 (by omega)
      obtain ⟨b1, off1, rfl, hbb1, hc1⟩ := h'.2.2.2.2 (by omega)
      have hck : wr.cell? ⟨b0, off + k, none⟩ = some (.int .i64 (nth xs k)) := by rw [hb.cell (p := ⟨b0, off + k, none⟩) hbb]; exact hc k hlt
      have hdk : wr.cell? ⟨b1, off1 + k, none⟩ = some (.int .i64 (nth ys k)) := by rw [hb.cell (p := ⟨b1, off1 + k, none⟩) hbb1]; exact hc1 k hlt
      obtain ⟨u0, u1, u2, u3⟩ := HB.out k hlt
      have HS := hid (plus_succ (xs := xs) (ys := ys) (k := k) (by rw [HL.out]; exact hlt) (by rw [HL2.out]; exact hlt) (by rw [HL.out, HL2.out]))
      clear hc hc1
      go_wp2_with (at_builtin; refine wpList_append_int _ rfl _ _ rfl w.heap.size _ _ _ _ _ rfl rfl hown (by omega) hb.size ?_; intro a3 cap3 w3 hown3 hb3)
      go_roundw
      case rel => exact ⟨k + 1, a3, cap3, by omega, by go_num, rfl, by rw [HS.out]; exact hown3, hb.trans hb3⟩
      case measure => simp [intOf]; omega
    · obtain rfl : k = n := by omega
      go_wp2_with fail
      go_ret
      exact ⟨_, _, rfl, by rw [List.take_of_length_le (by rw [length_plusL (by rw [HL.out, HL2.out]), HL.out]; omega)] at hown; exact hown, hb⟩

set_option maxHeartbeats 400000 in
theorem reOnes_any (n : Nat) (w : World) (h8 : n ≤ 8) :
    Calls Try.prog 59 #[.int .i64 (n : Int)] w fun e w' => ∃ a' cap', e = .returned (.slice a' n cap') ∧ Own w' w.heap.size a' n cap' (List.replicate n 1) ∧ Below w.heap.size w w' := by
  go_enter Try.func59, Try.ntmps59
  go_wp2_with fail
  go_loopw [3, 4] (fun o i wr => ∃ (k : Nat) (a' : Option Addr) (cap' : Nat), k ≤ n ∧ i = .int .i64 k ∧ o = .slice a' k cap' ∧ Own wr w.heap.size a' k cap' (List.replicate k 1) ∧ Below w.heap.size w wr) (fun _ i _ => n - (intOf i).toNat)
  case atStart => exact ⟨0, none, 0, by omega, rfl, rfl, Own.nil _ _, Below.refl _ _⟩
  case round =>
    obtain ⟨k, a', cap', hk, rfl, rfl, hown, hb⟩ := hrel
    by_cases hlt : k < n
    · have HS : Hid (List.replicate (k + 1) (1 : Int) = List.replicate k 1 ++ [1]) := hid List.replicate_succ'
      go_wp2_with (at_builtin; refine wpList_append_int _ rfl _ _ rfl w.heap.size _ _ _ _ _ rfl rfl hown (by omega) hb.size ?_; intro a3 cap3 w3 hown3 hb3)
      go_roundw
      case rel => exact ⟨k + 1, a3, cap3, by omega, by go_num, rfl, by rw [HS.out]; exact hown3, hb.trans hb3⟩
      case measure => simp [intOf]; omega
    · obtain rfl : k = n := by omega
      go_wp2_with fail
      go_ret
      exact ⟨_, _, rfl, hown, hb⟩

theorem turn_succ {xs : List Int} {k n : Nat} (hn : xs.length = n) (h : k < n) : (turnL xs).take (k + 1) = (turnL xs).take k ++ [(n : Int) - 1 - nth xs k] := by
  subst hn
  rw [take_succ_nth (by simpa [turnL] using h)]
  simp [turnL, nth, h]
set_option maxHeartbeats 1000000 in
theorem reTurned_any (a : Option Addr) (n cap : Nat) (xs : List Int) (w : World) (h : Has w a n cap xs) (h8 : n ≤ 8) (hb : ∀ i, i < n → 0 ≤ nth xs i ∧ nth xs i ≤ 5000) :
    Calls Try.prog 56 #[.slice a n cap] w fun e w' => ∃ a' cap', e = .returned (.slice a' n cap') ∧ Own w' w.heap.size a' n cap' (turnL xs) ∧ Below w.heap.size w w' := by
  have HL := hid h.len
  have HB := hid hb
  clear hb
  go_enter Try.func56, Try.ntmps56
  go_wp2_with fail
  go_loopw [3, 8] (fun o i wr => ∃ (k : Nat) (a' : Option Addr) (cap' : Nat), k ≤ n ∧ i = .int .i64 k ∧ o = .slice a' k cap' ∧ Own wr w.heap.size a' k cap' ((turnL xs).take k) ∧ Below w.heap.size w wr) (fun _ i _ => n - (intOf i).toNat)
  case atStart => exact ⟨0, none, 0, by omega, rfl, rfl, Own.nil _ _, Below.refl _ _⟩
  case round =>
    obtain ⟨k, a', cap', hk, rfl, rfl, hown, hb⟩ := hrel
    by_cases hlt : k < n
    · obtain ⟨b0, off, rfl, hbb, hc⟩ := h.2.2.2.2 (by omega)
      have hck : wr.cell? ⟨b0, off + k, none⟩ = some (.int .i64 (nth xs k)) := by rw [hb.cell (p := ⟨b0, off + k, none⟩) hbb]; exact hc k hlt
      obtain ⟨u0, u1⟩ := HB.out k hlt
      have HS := hid (turn_succ (k := k) HL.out hlt)
      clear hc
      go_wp2_with (at_builtin; refine wpList_append_int _ rfl _ _ rfl w.heap.size _ _ _ _ _ rfl rfl hown (by omega) hb.size ?_; intro a3 cap3 w3 hown3 hb3)
      go_roundw
      case rel => exact ⟨k + 1, a3, cap3, by omega, by go_num, rfl, by rw [HS.out]; exact hown3, hb.trans hb3⟩
      case measure => simp [intOf]; omega
    · obtain rfl : k = n := by omega
      go_wp2_with fail
      go_ret
      exact ⟨_, _, rfl, by rw [List.take_of_length_le (by simp [turnL, HL.out])] at hown; exact hown, hb⟩

theorem sand_tot {xs : List Int} (h : sandB xs = true) : total xs ≤ 480 := by
  obtain ⟨h1, h2⟩ := sandB_iff.1 h
  have := total_le (M := 60) (c := xs) (fun x hx => (h2 x hx).2)
  omega
theorem ones_bound {xs : List Int} {n : Nat} (h : ∀ i, i < n → 0 ≤ nth xs i ∧ nth xs i ≤ 60) : ∀ i, i < n → 0 ≤ nth xs i ∧ nth xs i ≤ 5000 ∧ 0 ≤ nth (List.replicate n 1) i ∧ nth (List.replicate n 1) i ≤ 5000 := fun i hi => by
  have := h i hi
  have e : nth (List.replicate n 1) i = 1 := by simp [nth, hi]
  rw [e]
  omega
/-- Sand with a grain more on each node. -/
structure UpS (xs : List Int) (n : Nat) : Prop where
  eq : plusL xs (List.replicate n 1) = xs.map (· + 1)
  pile : Pile (xs.map (· + 1))
  tot : total (xs.map (· + 1)) ≤ 4000
  len : (xs.map (· + 1)).length = n
theorem upS {xs : List Int} {n : Nat} (hn : xs.length = n) (h : sandB xs = true) : UpS xs n := by
  subst hn
  refine ⟨plus_ones xs, pile_succ (Pile.sand h), ?_, by simp⟩
  rw [total_map_succ]
  have := sand_tot h
  have := (sandB_iff.1 h).1
  omega

set_option maxHeartbeats 1000000 in
theorem reAgain_any (a : Option Addr) (n cap : Nat) (xs : List Int) (w : World) (h : Has w a n cap xs) (hs : sandB xs = true) :
    Calls Try.prog 53 #[.slice a n cap] w (PostBool w (recB xs)) := by
  obtain ⟨h8, hb⟩ := sand_nth hs h.len
  have U := upS h.len hs
  have HL := hid h.len
  have hob := ones_bound hb
  have HS := hid hs
  have hps := Pile.sand hs
  have hup : Hid (∀ c : List Int, c = xs.map (· + 1) → (settle c).1 = (settle (xs.map (· + 1))).1) := hid (fun c hc => by rw [hc])
  clear hs hb
  by_cases hf : firstN xs < xs.length
  · have HF := hid (fstI_yes hf)
    have HR : Hid (recB xs = false) := hid (Bool.eq_false_iff.2 fun e => by have := rec_stable hps e; omega)
    have hlt : ¬ ((firstN xs : Nat) : Int) < 0 := by omega
    clear hf
    go_enter Try.func53, Try.ntmps53
    go_wp2_with (first | (go_at_call 59; refine (reOnes_any n _ h8).mono ?_; rintro e w' ⟨a1, c1, rfl, own1, hb1⟩) | (go_at_call 58; refine (rePlus_any _ _ _ _ _ _ _ _ (h.below hb1 (Nat.le_refl _)) own1.has h8 hob).mono ?_; rintro e w' ⟨a2, c2, rfl, own2, hb2⟩; rw [U.eq] at own2; have hb12 := hb1.trans (hb2.mono hb1.size)) | (go_at_call 44; refine (reSettle_any _ _ _ _ _ own2.has h8 U.pile U.tot).mono ?_; rintro e w' ⟨a3, c3, b3, m3, d3, rfl, own3, own4, hb3⟩; have hb13 := hb12.trans (hb3.mono hb12.size)) | (go_at_call 43; refine (reSand_any _ _ _ _ _ (h.below hb13 (Nat.le_refl _))).mono ?_; rintro e w' ⟨rfl, rfl⟩; rw [HS.out]) | (go_at_call 45; refine (reFirst_any _ _ _ _ _ (h.below hb13 (Nat.le_refl _))).mono ?_; rintro e w' ⟨rfl, rfl⟩; rw [HF.out]))
    go_ret
    exact postBool HR.out.symm hb13
  · have HF := hid (fstI_no hf)
    have HR : Hid (recB xs = same (settle (xs.map (· + 1))).1 xs) := hid rfl
    clear hf
    go_enter Try.func53, Try.ntmps53
    go_wp2_with (first | (go_at_call 59; refine (reOnes_any n _ h8).mono ?_; rintro e w' ⟨a1, c1, rfl, own1, hb1⟩) | (go_at_call 58; refine (rePlus_any _ _ _ _ _ _ _ _ (h.below hb1 (Nat.le_refl _)) own1.has h8 hob).mono ?_; rintro e w' ⟨a2, c2, rfl, own2, hb2⟩; rw [U.eq] at own2; have hb12 := hb1.trans (hb2.mono hb1.size)) | (go_at_call 44; refine (reSettle_any _ _ _ _ _ own2.has h8 U.pile U.tot).mono ?_; rintro e w' ⟨a3, c3, b3, m3, d3, rfl, own3, own4, hb3⟩; have hb13 := hb12.trans (hb3.mono hb12.size)) | (go_at_call 43; refine (reSand_any _ _ _ _ _ (h.below hb13 (Nat.le_refl _))).mono ?_; rintro e w' ⟨rfl, rfl⟩; rw [HS.out]) | (go_at_call 45; refine (reFirst_any _ _ _ _ _ (h.below hb13 (Nat.le_refl _))).mono ?_; rintro e w' ⟨rfl, rfl⟩; rw [HF.out]) | (go_at_call 75; refine (l1Same_any _ _ _ _ _ _ _ _ _ own3.has (h.below hb13 (Nat.le_refl _))).mono ?_; rintro e w' ⟨rfl, q5⟩))
    go_ret
    exact postBool HR.out.symm (hb13.trans (q5.below _))

set_option maxHeartbeats 400000 in
theorem specIsRecurrent_any (a : Option Addr) (n cap : Nat) (xs : List Int) (w : World) (h : Has w a n cap xs) :
    Calls Try.prog 18 #[.slice a n cap] w (PostBools w (recOf xs)) := by
  by_cases hs : sandB xs = true
  · have HS := hid hs
    have HR : Hid (recOf xs = (recB xs, true)) := hid (by simp [recOf, hs])
    clear hs
    go_enter Try.func18, Try.ntmps18
    go_wp2_with (first | (go_at_call 43; refine (reSand_any _ _ _ _ _ h).mono ?_; rintro e w' ⟨rfl, rfl⟩; rw [HS.out]) | (go_at_call 53; refine (reAgain_any _ _ _ _ _ h HS.out).mono ?_; rintro e w1 ⟨rfl, hb1⟩))
    go_ret2
    exact postBools HR.out hb1
  · have HR : Hid (recOf xs = (false, false)) := hid (by simp [recOf, hs])
    have HS := hid (Bool.eq_false_iff.2 hs)
    clear hs
    go_enter Try.func18, Try.ntmps18
    go_wp2_with (go_at_call 43; refine (reSand_any _ _ _ _ _ h).mono ?_; rintro e w' ⟨rfl, rfl⟩; rw [HS.out])
    go_ret2
    exact postBools HR.out (Below.refl _ _)

def sandParkOf (xs : List Int) : List Int × Bool := if isPark xs then (turnL xs, true) else ([], false)
set_option maxHeartbeats 400000 in
theorem specSandOfParking_any (a : Option Addr) (n cap : Nat) (xs : List Int) (w : World) (h : Has w a n cap xs) :
    Calls Try.prog 25 #[.slice a n cap] w (PostInts w (sandParkOf xs)) := by
  by_cases hp : isPark xs = true
  · have HR : Hid (sandParkOf xs = (turnL xs, true)) := hid (by simp [sandParkOf, hp])
    obtain ⟨p1, p2, -⟩ := isPark_iff.1 hp
    have h8 : n ≤ 8 := by have := h.len; omega
    have hbd : ∀ i, i < n → 0 ≤ nth xs i ∧ nth xs i ≤ 5000 := fun i hi => by
      have := p2 _ (nth_mem (xs := xs) (i := i) (by rw [h.len]; exact hi))
      omega
    have HP := hid hp
    clear hp p1 p2
    go_enter Try.func25, Try.ntmps25
    go_wp2_with (first | (go_at_call 62; refine (paParking_any _ _ _ _ _ h).mono ?_; rintro e w1 ⟨rfl, hb1⟩; rw [HP.out]) | (go_at_call 56; refine (reTurned_any _ _ _ _ _ (h.below hb1 (Nat.le_refl _)) h8 hbd).mono ?_; rintro e w' ⟨a2, c2, rfl, own2, hb2⟩))
    go_ret2
    exact postInts HR.out (own2.mono hb1.size) (hb1.trans (hb2.mono hb1.size))
  · have HR : Hid (sandParkOf xs = ([], false)) := hid (by simp [sandParkOf, hp])
    have HP := hid (Bool.eq_false_iff.2 hp)
    clear hp
    go_enter Try.func25, Try.ntmps25
    go_wp2_with (go_at_call 62; refine (paParking_any _ _ _ _ _ h).mono ?_; rintro e w1 ⟨rfl, hb1⟩; rw [HP.out])
    go_ret2
    exact postInts_no HR.out hb1

theorem sand_wide {xs : List Int} {n : Nat} (hs : sandB xs = true) (hn : xs.length = n) : ∀ i, i < n → 0 ≤ nth xs i ∧ nth xs i ≤ 5000 := fun i hi => by
  have := (sand_nth hs hn).2 i hi
  omega
set_option maxHeartbeats 400000 in
theorem specParkingOfSand_any (a : Option Addr) (n cap : Nat) (xs : List Int) (w : World) (h : Has w a n cap xs) :
    Calls Try.prog 20 #[.slice a n cap] w (PostInts w (parkOf xs)) := by
  by_cases hs : sandB xs = true
  · have HS := hid hs
    have h8 := (sand_nth hs h.len).1
    have hbd := sand_wide hs h.len
    by_cases hr : recB xs = true
    · have HR : Hid (parkOf xs = (turnL xs, true)) := hid (by simp [parkOf, hs, hr])
      have HC := hid hr
      clear hs hr
      go_enter Try.func20, Try.ntmps20
      go_wp2_with (first | (go_at_call 43; refine (reSand_any _ _ _ _ _ h).mono ?_; rintro e w' ⟨rfl, rfl⟩; rw [HS.out]) | (go_at_call 53; refine (reAgain_any _ _ _ _ _ h HS.out).mono ?_; rintro e w1 ⟨rfl, hb1⟩; rw [HC.out]) | (go_at_call 56; refine (reTurned_any _ _ _ _ _ (h.below hb1 (Nat.le_refl _)) h8 hbd).mono ?_; rintro e w' ⟨a2, c2, rfl, own2, hb2⟩))
      go_ret2
      exact postInts HR.out (own2.mono hb1.size) (hb1.trans (hb2.mono hb1.size))
    · have HR : Hid (parkOf xs = ([], false)) := hid (by simp [parkOf, hr])
      have HC := hid (Bool.eq_false_iff.2 hr)
      clear hs hr
      go_enter Try.func20, Try.ntmps20
      go_wp2_with (first | (go_at_call 43; refine (reSand_any _ _ _ _ _ h).mono ?_; rintro e w' ⟨rfl, rfl⟩; rw [HS.out]) | (go_at_call 53; refine (reAgain_any _ _ _ _ _ h HS.out).mono ?_; rintro e w1 ⟨rfl, hb1⟩; rw [HC.out]))
      go_ret2
      exact postInts_no HR.out hb1
  · have HR : Hid (parkOf xs = ([], false)) := hid (by simp [parkOf, hs])
    have HS := hid (Bool.eq_false_iff.2 hs)
    clear hs
    go_enter Try.func20, Try.ntmps20
    go_wp2_with (go_at_call 43; refine (reSand_any _ _ _ _ _ h).mono ?_; rintro e w' ⟨rfl, rfl⟩; rw [HS.out])
    go_ret2
    exact postInts_no HR.out (Below.refl _ _)

set_option maxHeartbeats 400000 in
theorem specFireOrder_any (a : Option Addr) (n cap : Nat) (xs : List Int) (w : World) (h : Has w a n cap xs) :
    Calls Try.prog 22 #[.slice a n cap] w (PostInts w (fireOf xs)) := by
  by_cases hs : sandB xs = true
  · have HS := hid hs
    obtain ⟨h8, hb⟩ := sand_nth hs h.len
    have U := upS h.len hs
    have hob := ones_bound hb
    clear hb
    by_cases hr : recB xs = true
    · have HR : Hid (fireOf xs = ((settle (xs.map (· + 1))).2, true)) := hid (by simp [fireOf, hs, hr])
      have HC := hid hr
      clear hs hr
      go_enter Try.func22, Try.ntmps22
      go_wp2_with (first | (go_at_call 43; refine (reSand_any _ _ _ _ _ h).mono ?_; rintro e w' ⟨rfl, rfl⟩; rw [HS.out]) | (go_at_call 53; refine (reAgain_any _ _ _ _ _ h HS.out).mono ?_; rintro e w0 ⟨rfl, hb0⟩; rw [HC.out]; have h' := h.below hb0 (Nat.le_refl _)) | (go_at_call 59; refine (reOnes_any n _ h8).mono ?_; rintro e w' ⟨a1, c1, rfl, own1, hb1⟩) | (go_at_call 58; refine (rePlus_any _ _ _ _ _ _ _ _ (h'.below hb1 (Nat.le_refl _)) own1.has h8 hob).mono ?_; rintro e w' ⟨a2, c2, rfl, own2, hb2⟩; rw [U.eq] at own2; have hb12 := hb1.trans (hb2.mono hb1.size)) | (go_at_call 44; refine (reSettle_any _ _ _ _ _ own2.has h8 U.pile U.tot).mono ?_; rintro e w' ⟨a3, c3, b3, m3, d3, rfl, own3, own4, hb3⟩; have hb13 := hb0.trans ((hb12.trans (hb3.mono hb12.size)).mono hb0.size)))
      go_ret2
      exact postInts HR.out (own4.mono (Nat.le_trans hb0.size hb12.size)) hb13
    · have HR : Hid (fireOf xs = ([], false)) := hid (by simp [fireOf, hr])
      have HC := hid (Bool.eq_false_iff.2 hr)
      clear hs hr
      go_enter Try.func22, Try.ntmps22
      go_wp2_with (first | (go_at_call 43; refine (reSand_any _ _ _ _ _ h).mono ?_; rintro e w' ⟨rfl, rfl⟩; rw [HS.out]) | (go_at_call 53; refine (reAgain_any _ _ _ _ _ h HS.out).mono ?_; rintro e w1 ⟨rfl, hb1⟩; rw [HC.out]))
      go_ret2
      exact postInts_no HR.out hb1
  · have HR : Hid (fireOf xs = ([], false)) := hid (by simp [fireOf, hs])
    have HS := hid (Bool.eq_false_iff.2 hs)
    clear hs
    go_enter Try.func22, Try.ntmps22
    go_wp2_with (go_at_call 43; refine (reSand_any _ _ _ _ _ h).mono ?_; rintro e w' ⟨rfl, rfl⟩; rw [HS.out])
    go_ret2
    exact postInts_no HR.out (Below.refl _ _)
end Go.Proofs.Ytclpbccmgfclcaa
