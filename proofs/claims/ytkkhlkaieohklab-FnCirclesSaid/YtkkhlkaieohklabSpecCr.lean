/- The model's circles, by their contracts. -/
import Derived.Test.YtkkhlkaieohklabSpecS
import Derived.Test.YtkkhlkaieohklabMathC
import Derived.Test.YtkkhlkaieohklabPii
import Derived.Deep.LoopGhost
namespace Go.Proofs.Ytkkhlkaieohklab
open Go.RowKit

theorem emod_nat (x j p : Nat) : ((x : Int) + (j : Int)) % (p : Int) = (((x + j) % p : Nat) : Int) := by
  rw [Int.natCast_emod, Int.natCast_add]
theorem crun_free {p x k : Nat} {out : List Int} (h : CRuns out p x k) (hl : out.length < p) : k < p := by
  have := cruns_lt h (by omega)
  omega
theorem good_nth' {xs : List Int} {p n : Nat} (h : good xs p = true) (hn : xs.length = n) : n ≤ 8 ∧ 1 ≤ p ∧ p ≤ 12 ∧ (∀ i, i < n → 0 ≤ nth xs i ∧ nth xs i ≤ (p : Int) - 1) := by
  obtain ⟨h1, h2, h3⟩ := good_iff.1 h
  exact ⟨by omega, by omega, by omega, fun i hi => h3 _ (nth_mem (by omega))⟩

set_option maxHeartbeats 2000000 in
theorem cnCircle_any (a : Option Addr) (n cap : Nat) (xs : List Int) (p : Nat) (w : World) (h : Has w a n cap xs) (hn : n ≤ p) (hp0 : 0 < p) (hp : p ≤ 12) (hge : ∀ i, i < n → 0 ≤ nth xs i ∧ nth xs i ≤ (p : Int) - 1) :
    Calls Try.prog 45 #[.slice a n cap, .int .i64 (p : Int)] w fun e w' => ∃ a' cap', e = .returned (.slice a' n cap') ∧ Own w' w.heap.size a' n cap' (cdrive p xs) ∧ Below w.heap.size w w' := by
  have HLEN := hid h.len
  have HG := hid hge
  have HC := hid h.2.2.2.2
  clear hge
  go_enter Try.func45, Try.ntmps45
  go_wp2_with fail
  go_loopw [5, 10] (fun o i wr => ∃ (k : Nat) (a' : Option Addr) (cap' : Nat), k ≤ n ∧ i = .int .i64 (k : Int) ∧ o = .slice a' k cap' ∧ Own wr w.heap.size a' k cap' (cdrive p (xs.take k)) ∧ Below w.heap.size w wr) (fun _ i _ => n - (intOf i).toNat)
  case atStart => exact ⟨0, none, 0, Nat.zero_le _, rfl, rfl, Own.nil _ _, Below.refl _ _⟩
  case round =>
    obtain ⟨k, a', cap', hk, rfl, rfl, hown, hb⟩ := hrel
    obtain ⟨wo, hwo⟩ : ∃ wo : World, wo = wr := ⟨_, rfl⟩
    subst hwo
    by_cases hlt : k < n
    · obtain ⟨b, off, rfl, hbb, hc⟩ := HC.out (by omega)
      have hck : wo.cell? ⟨b, off + k, none⟩ = some (.int .i64 (nth xs k)) := by rw [hb.cell (p := ⟨b, off + k, none⟩) hbb]; exact hc k hlt
      obtain ⟨x0, x1⟩ := HG.out k hlt
      obtain ⟨x, hxx⟩ : ∃ x : Nat, nth xs k = (x : Int) := ⟨(nth xs k).toNat, by omega⟩
      have HS := hid (cdrive_succ (p := (p : Int)) (xs := xs) (k := k) (by rw [HLEN.out]; omega))
      rw [hxx] at hck x0 x1 HS
      have HL : Hid ((cdrive p (xs.take k)).length < p) := hid (by rw [length_cdrive]; simp [HLEN.out]; omega)
      have hxp : x < p := by omega
      have HR0 := hid (CRuns.zero (cdrive p (xs.take k)) p x)
      have hsz := hb.size
      clear hc hxx x0 x1
      go_wp2_with fail
      have HX0 : Hid ((x + 0) % p = x) := hid (by rw [Nat.add_zero, Nat.mod_eq_of_lt hxp])
      go_loopg [7] p (fun q s wr => ∃ (j y : Nat), wr = wo ∧ y < p ∧ j + q = p ∧ 0 < q ∧ s = .int .i64 (y : Int) ∧ Hid ((x + j) % p = y) ∧ Hid (CRuns (cdrive p (xs.take k)) p x j))
      case atStart => exact ⟨0, x, rfl, hxp, by omega, hp0, rfl, HX0, HR0⟩
      case round =>
        clear HX0 HR0
        obtain ⟨j, y, rfl, hyp, hjq, hq0, rfl, HY, HR⟩ := hrel
        by_cases hm : hasB (cdrive p (xs.take k)) (y : Int) = true
        · have HR1 : Hid (CRuns (cdrive p (xs.take k)) p x (j + 1)) := hid (HR.out.step (by rw [emod_nat, HY.out]; exact hasB_iff.1 hm))
          have hjp := crun_free HR1.out HL.out
          have HM := hid hm
          have HY1 : Hid ((x + (j + 1)) % p = (y + 1) % p) := hid (by rw [← HY.out, Nat.mod_add_mod, Nat.add_assoc])
          have HE : Hid (((y : Int) + 1) % (p : Int) = (((y + 1) % p : Nat) : Int)) := hid (by rw [← emod_nat]; rfl)
          have hlt3 := Nat.mod_lt (y + 1) hp0
          clear hm
          go_wp2_with fail
          refine (l1Has_any _ _ _ _ _ _ hown.has).mono ?_
          rintro e w' ⟨rfl, rfl⟩
          rw [HM.out]
          go_wp2_with fail
          rw [HE.out]
          go_roundg (gk - 1)
          case rel => exact ⟨j + 1, (y + 1) % p, rfl, hlt3, by omega, by omega, rfl, HY1, HR1⟩
          case measure => omega
        · have HD : Hid (cdrive p (xs.take (k + 1)) = cdrive p (xs.take k) ++ [(y : Int)]) := hid (by
            rw [HS.out, cplace_of HR.out (by rw [emod_nat, HY.out]; exact fun e => hm (hasB_iff.2 e)) (by omega) (by omega) (by omega), emod_nat, HY.out])
          have HM := hid hm
          clear hm
          go_wp2_with fail
          refine (l1Has_any _ _ _ _ _ _ hown.has).mono ?_
          rintro e w' ⟨rfl, rfl⟩
          rw [Bool.eq_false_iff.2 HM.out]
          go_wp2_with (at_builtin; refine wpList_append_int _ rfl _ _ rfl w.heap.size _ _ _ _ _ rfl rfl hown (by omega) hsz ?_; intro a4 cap4 w4 hown4 hb4)
          go_roundw
          case rel => exact ⟨k + 1, a4, cap4, by omega, by go_num, rfl, by rw [HD.out]; exact hown4, hb.trans hb4⟩
          case measure => simp [intOf]; omega
    · obtain rfl : n = k := by omega
      go_wp2_with fail
      go_ret
      exact ⟨_, _, rfl, by rw [List.take_of_length_le (by rw [HLEN.out]; omega)] at hown; exact hown, hb⟩

theorem circleOf_yes {xs : List Int} {p n : Nat} (h : good xs p = true) (hn : xs.length = n) (hle : n ≤ p) : circleOf xs p = (cdrive p xs, true) := by
  simp [circleOf, h, show xs.length ≤ p by omega]
theorem circleOf_no1 {xs : List Int} {p : Int} (h : ¬ good xs p = true) : circleOf xs p = ([], false) := by simp [circleOf, h]
theorem circleOf_no2 {xs : List Int} {p n : Nat} (hn : xs.length = n) (h : p < n) : circleOf xs p = ([], false) := by simp [circleOf, show ¬ xs.length ≤ p by omega]

set_option maxHeartbeats 800000 in
theorem specCircle_any (a : Option Addr) (n cap : Nat) (xs : List Int) (p : Int) (w : World) (h : Has w a n cap xs) :
    Calls Try.prog 18 #[.slice a n cap, .int .i64 p] w (PostInts w (circleOf xs p)) := by
  by_cases hg : good xs p = true
  · obtain ⟨q, rfl⟩ : ∃ q : Nat, p = (q : Int) := ⟨p.toNat, by have := (good_iff.1 hg).1; omega⟩
    obtain ⟨g1, g2, g3, g4⟩ := good_nth' hg h.len
    by_cases hle : n ≤ q
    · have HR := hid (circleOf_yes hg h.len hle)
      have HG := hid hg
      clear hg
      go_enter Try.func18, Try.ntmps18
      go_wp2_with (go_at_call 44; refine (paGood_any _ _ _ _ _ _ h).mono ?_; rintro e w' ⟨rfl, rfl⟩; rw [HG.out])
      refine (cnCircle_any _ _ _ _ _ _ h hle (by omega) g3 g4).mono ?_
      rintro e w2 ⟨a2, cap2, rfl, hown2, hb2⟩
      go_wp2_with fail
      go_ret2
      exact postInts HR.out hown2 hb2
    · have HR := hid (circleOf_no2 (p := q) h.len (by omega))
      have HG := hid hg
      clear hg
      go_enter Try.func18, Try.ntmps18
      go_wp2_with (go_at_call 44; refine (paGood_any _ _ _ _ _ _ h).mono ?_; rintro e w' ⟨rfl, rfl⟩; rw [HG.out])
      go_ret2
      exact postInts_no HR.out (Below.refl _ _)
  · have HR := hid (circleOf_no1 hg)
    have HG := hid hg
    clear hg
    go_enter Try.func18, Try.ntmps18
    go_wp2_with (go_at_call 44; refine (paGood_any _ _ _ _ _ _ h).mono ?_; rintro e w' ⟨rfl, rfl⟩; rw [Bool.eq_false_iff.2 HG.out])
    go_ret2
    exact postInts_no HR.out (Below.refl _ _)

set_option maxHeartbeats 400000 in
theorem cnList_any (a : Option Addr) (n cap : Nat) (xs : List Int) (w : World) (h : Has w a n cap xs) :
    Calls Try.prog 33 #[.slice a n cap] w fun e w' => e = .returned (.bool (circB xs)) ∧ w = w' := by
  by_cases h8 : n ≤ 8
  · have HR : Hid (circB xs = allB xs 0 n) := hid (by simp [circB, h.len, h8])
    go_enter Try.func33, Try.ntmps33
    go_wp2_with (go_at_call 60; refine (l1All_any _ _ _ _ _ _ _ h).mono ?_; rintro e w' ⟨rfl, rfl⟩)
    go_ret
    exact ⟨ret_bool HR.out.symm, rfl⟩
  · have HR : Hid (circB xs = false) := hid (by simp [circB, h.len, h8])
    go_enter Try.func33, Try.ntmps33
    go_wp2_with fail
    go_ret
    exact ⟨ret_bool HR.out.symm, rfl⟩

theorem circ_nth {xs : List Int} {n : Nat} (h : circB xs = true) (hn : xs.length = n) : n ≤ 8 ∧ (∀ i, i < n → 0 ≤ nth xs i ∧ nth xs i ≤ ((n + 1 : Nat) : Int) - 1) := by
  obtain ⟨h1, h2⟩ := circB_iff.1 h
  refine ⟨by omega, fun i hi => ?_⟩
  have := h2 _ (nth_mem (xs := xs) (i := i) (by omega))
  omega

set_option maxHeartbeats 800000 in
theorem cnFree_any (a : Option Addr) (n cap : Nat) (xs : List Int) (w : World) (h : Has w a n cap xs) (hg : circB xs = true) :
    Calls Try.prog 34 #[.slice a n cap] w fun e w' => e = .returned (.int .i64 (cfree xs)) ∧ Below w.heap.size w w' := by
  obtain ⟨h8, hge⟩ := circ_nth hg h.len
  obtain ⟨f0, f1, f2, f3, -⟩ := cfree_spec hg
  rw [h.len] at f1 f2 f3
  obtain ⟨m, hmf⟩ : ∃ m : Nat, cfree xs = (m : Int) := ⟨(cfree xs).toNat, by omega⟩
  rw [hmf] at f1 f2 f3
  have HMF := hid hmf
  have F2 := hid f2
  have F3 := hid f3
  have hm8 : m ≤ n := by omega
  have e1 : (n : Int) + 1 = ((n + 1 : Nat) : Int) := by omega
  have E1 := hid e1
  clear hg hmf f0 f1 f2 f3 e1
  go_enter Try.func34, Try.ntmps34
  go_wp2_with fail
  rw [E1.out]
  refine (cnCircle_any _ _ _ _ (n + 1) _ h (by omega) (by omega) (by omega) hge).mono ?_
  rintro e w2 ⟨a2, cap2, rfl, hown2, hb2⟩
  rw [← E1.out] at hown2
  go_wp2_with fail
  go_loop [4] (fun s => ∃ y : Nat, y ≤ m ∧ s = .int .i64 (y : Int)) (fun s => m - (intOf s).toNat)
  case atStart => exact ⟨0, Nat.zero_le _, rfl⟩
  case round =>
    obtain ⟨y, hy, rfl⟩ := hrel
    by_cases hlt : y < m
    · have HM : Hid (hasB (cdrive ((n : Int) + 1) xs) (y : Int) = true) := hid (hasB_iff.2 (F3.out _ (by omega) (by omega)))
      go_wp2_with fail
      refine (l1Has_any _ _ _ _ _ _ hown2.has).mono ?_
      rintro e w' ⟨rfl, rfl⟩
      rw [HM.out]
      go_wp2_with fail
      go_round
      case rel => exact ⟨y + 1, by omega, by go_num⟩
      case measure => simp [intOf]; omega
    · obtain rfl : m = y := by omega
      have HM : Hid (hasB (cdrive ((n : Int) + 1) xs) (m : Int) = false) := hid (hasB_not.2 F2.out)
      go_wp2_with fail
      refine (l1Has_any _ _ _ _ _ _ hown2.has).mono ?_
      rintro e w' ⟨rfl, rfl⟩
      rw [HM.out]
      go_wp2_with fail
      go_ret
      exact ⟨ret_int HMF.out.symm, hb2⟩

set_option maxHeartbeats 400000 in
theorem specFree_any (a : Option Addr) (n cap : Nat) (xs : List Int) (w : World) (h : Has w a n cap xs) :
    Calls Try.prog 10 #[.slice a n cap] w (PostInt w (freeOf xs)) := by
  by_cases hg : circB xs = true
  · have HR : Hid (freeOf xs = (cfree xs, true)) := hid (by simp [freeOf, hg])
    have HG := hid hg
    clear hg
    go_enter Try.func10, Try.ntmps10
    go_wp2_with (go_at_call 33; refine (cnList_any _ _ _ _ _ h).mono ?_; rintro e w' ⟨rfl, rfl⟩; rw [HG.out])
    refine (cnFree_any _ _ _ _ _ h HG.out).mono ?_
    rintro e w2 ⟨rfl, hb2⟩
    go_wp2_with fail
    go_ret2
    exact postInt HR.out hb2
  · have HR : Hid (freeOf xs = (0, false)) := hid (by simp [freeOf, hg])
    have HG := hid hg
    clear hg
    go_enter Try.func10, Try.ntmps10
    go_wp2_with (go_at_call 33; refine (cnList_any _ _ _ _ _ h).mono ?_; rintro e w' ⟨rfl, rfl⟩; rw [Bool.eq_false_iff.2 HG.out])
    go_ret2
    exact postInt HR.out (Below.refl _ _)

theorem tmod_emod (x p : Int) : x.tmod p % p = x % p := by
  have h1 := Int.tmod_add_mul_tdiv x p
  conv => rhs; rw [← h1]
  rw [Int.add_mul_emod_self_left]
theorem tmod_bounds (x p : Int) (hp : 0 < p) : -p < x.tmod p ∧ x.tmod p < p := ⟨Int.lt_tmod_of_pos x hp, Int.tmod_lt_of_pos x hp⟩

set_option maxHeartbeats 800000 in
theorem cnTurn_any (a : Option Addr) (n cap : Nat) (xs : List Int) (p : Nat) (b : Int) (w : World) (h : Has w a n cap xs) (hp0 : 0 < p) (hp : p ≤ 12) (hb0 : -1000 ≤ b) (hb1 : b ≤ 1000) (hge : ∀ i, i < n → 0 ≤ nth xs i ∧ nth xs i ≤ (p : Int) - 1) :
    Calls Try.prog 35 #[.slice a n cap, .int .i64 (p : Int), .int .i64 b] w fun e w' => ∃ a' cap', e = .returned (.slice a' n cap') ∧ Own w' w.heap.size a' n cap' (turn xs p b) ∧ Below w.heap.size w w' := by
  have HLEN := hid h.len
  have hle := h.le
  have HG := hid hge
  have HC := hid h.2.2.2.2
  have hp1 : (0 : Int) < (p : Int) := by omega
  clear hge
  go_enter Try.func35, Try.ntmps35
  go_wp2_with fail
  go_loopw [7, 12] (fun o i wr => ∃ (k : Nat) (a' : Option Addr) (cap' : Nat), k ≤ n ∧ i = .int .i64 (k : Int) ∧ o = .slice a' k cap' ∧ Own wr w.heap.size a' k cap' (turn (xs.take k) p b) ∧ Below w.heap.size w wr) (fun _ i _ => n - (intOf i).toNat)
  case atStart => exact ⟨0, none, 0, Nat.zero_le _, rfl, rfl, Own.nil _ _, Below.refl _ _⟩
  case round =>
    obtain ⟨k, a', cap', hk, rfl, rfl, hown, hb⟩ := hrel
    by_cases hlt : k < n
    · obtain ⟨b', off, rfl, hbb, hc⟩ := HC.out (by omega)
      have hck : wr.cell? ⟨b', off + k, none⟩ = some (.int .i64 (nth xs k)) := by rw [hb.cell (p := ⟨b', off + k, none⟩) hbb]; exact hc k hlt
      obtain ⟨x0, x1⟩ := HG.out k hlt
      have HS := hid (turn_succ (p := (p : Int)) (b := b) (xs := xs) (k := k) (by rw [HLEN.out]; omega))
      have HT := hid (tmod_emod (nth xs k + b) p)
      have hsz := hb.size
      have hpz : ¬ (p : Int) = 0 := by omega
      obtain ⟨t0, t1⟩ := tmod_bounds (nth xs k + b) p hp1
      obtain ⟨t2, t3⟩ := tmod_bounds ((nth xs k + b).tmod p + p) p hp1
      clear hc
      go_wp2_with (at_builtin; refine wpList_append_int _ rfl _ _ rfl w.heap.size _ _ _ _ _ rfl rfl hown (by omega) hsz ?_; intro a4 cap4 w4 hown4 hb4)
      go_roundw
      case rel => exact ⟨k + 1, a4, cap4, by omega, by go_num, rfl, by rw [HS.out, ← HT.out]; exact hown4, hb.trans hb4⟩
      case measure => simp [intOf]; omega
    · obtain rfl : n = k := by omega
      go_wp2_with fail
      go_ret
      exact ⟨_, _, rfl, by rw [List.take_of_length_le (by rw [HLEN.out]; omega)] at hown; exact hown, hb⟩

theorem turnOf_yes {xs : List Int} {p b : Int} (h : good xs p = true) (hb : inB b (-1000) 1000 = true) : turnOf xs p b = (turn xs p b, true) := by simp [turnOf, h, hb]
theorem turnOf_no1 {xs : List Int} {p b : Int} (h : ¬ good xs p = true) : turnOf xs p b = ([], false) := by simp [turnOf, h]
theorem turnOf_no2 {xs : List Int} {p b : Int} (h : ¬ inB b (-1000) 1000 = true) : turnOf xs p b = ([], false) := by simp [turnOf, h]

set_option maxHeartbeats 800000 in
theorem specTurn_any (a : Option Addr) (n cap : Nat) (xs : List Int) (p b : Int) (w : World) (h : Has w a n cap xs) :
    Calls Try.prog 20 #[.slice a n cap, .int .i64 p, .int .i64 b] w (PostInts w (turnOf xs p b)) := by
  by_cases hg : good xs p = true
  · obtain ⟨q, rfl⟩ : ∃ q : Nat, p = (q : Int) := ⟨p.toNat, by have := (good_iff.1 hg).1; omega⟩
    obtain ⟨g1, g2, g3, g4⟩ := good_nth' hg h.len
    by_cases hb : inB b (-1000) 1000 = true
    · have HR := hid (turnOf_yes hg hb)
      obtain ⟨hb0, hb1⟩ := inB_iff.1 hb
      have HG := hid hg
      have HB := hid hb
      clear hg hb
      go_enter Try.func20, Try.ntmps20
      go_wp2_with (first | (go_at_call 44; refine (paGood_any _ _ _ _ _ _ h).mono ?_; rintro e w' ⟨rfl, rfl⟩; rw [HG.out]) | (go_at_call 47; refine (l1In_any _ _ _ _).mono ?_; rintro e w' ⟨rfl, rfl⟩; rw [HB.out]))
      refine (cnTurn_any _ _ _ _ _ _ _ h (by omega) g3 hb0 hb1 g4).mono ?_
      rintro e w2 ⟨a2, cap2, rfl, hown2, hb2⟩
      go_wp2_with fail
      go_ret2
      exact postInts HR.out hown2 hb2
    · have HR := hid (turnOf_no2 (xs := xs) (p := (q : Int)) hb)
      have HG := hid hg
      have HB := hid hb
      clear hg hb
      go_enter Try.func20, Try.ntmps20
      go_wp2_with (first | (go_at_call 44; refine (paGood_any _ _ _ _ _ _ h).mono ?_; rintro e w' ⟨rfl, rfl⟩; rw [HG.out]) | (go_at_call 47; refine (l1In_any _ _ _ _).mono ?_; rintro e w' ⟨rfl, rfl⟩; rw [Bool.eq_false_iff.2 HB.out]))
      go_ret2
      exact postInts_no HR.out (Below.refl _ _)
  · have HR := hid (turnOf_no1 (b := b) hg)
    have HG := hid hg
    clear hg
    go_enter Try.func20, Try.ntmps20
    go_wp2_with (go_at_call 44; refine (paGood_any _ _ _ _ _ _ h).mono ?_; rintro e w' ⟨rfl, rfl⟩; rw [Bool.eq_false_iff.2 HG.out])
    go_ret2
    exact postInts_no HR.out (Below.refl _ _)

theorem classOf_yes {xs : List Int} {n : Nat} (h : circB xs = true) (hn : xs.length = n) : classOf xs = (turn xs ((n : Int) + 1) ((n : Int) - cfree xs), (n : Int) - cfree xs, true) := by simp [classOf, h, hn]
theorem classOf_no {xs : List Int} (h : ¬ circB xs = true) : classOf xs = ([], 0, false) := by simp [classOf, h]

set_option maxHeartbeats 800000 in
theorem specClass_any (a : Option Addr) (n cap : Nat) (xs : List Int) (w : World) (h : Has w a n cap xs) :
    Calls Try.prog 8 #[.slice a n cap] w (PostIntsInt w (classOf xs)) := by
  by_cases hg : circB xs = true
  · have HR := hid (classOf_yes hg h.len)
    obtain ⟨h8, hge⟩ := circ_nth hg h.len
    obtain ⟨f0, f1, -, -, -⟩ := cfree_spec hg
    rw [h.len] at f1
    have HG := hid hg
    clear hg
    go_enter Try.func8, Try.ntmps8
    go_wp2_with (go_at_call 33; refine (cnList_any _ _ _ _ _ h).mono ?_; rintro e w' ⟨rfl, rfl⟩; rw [HG.out])
    refine (cnFree_any _ _ _ _ _ h HG.out).mono ?_
    rintro e w2 ⟨rfl, hb2⟩
    go_wp2_with fail
    refine (cnTurn_any _ _ _ _ (n + 1) _ _ (h.below hb2 (Nat.le_refl _)) (by omega) (by omega) (by omega) (by omega) hge).mono ?_
    rintro e w3 ⟨a3, cap3, rfl, hown3, hb3⟩
    go_wp2_with fail
    exact bodyPost_ret (v := .tuple #[.slice a3 n cap3, .int .i64 ((n : Int) - cfree xs), .bool true]) (by simp [results, Try.results8, go_sem]) rfl (postIntsInt HR.out (hown3.mono hb2.size) (hb2.trans (hb3.mono hb2.size)))
  · have HR := hid (classOf_no hg)
    have HG := hid hg
    clear hg
    go_enter Try.func8, Try.ntmps8
    go_wp2_with (go_at_call 33; refine (cnList_any _ _ _ _ _ h).mono ?_; rintro e w' ⟨rfl, rfl⟩; rw [Bool.eq_false_iff.2 HG.out])
    exact bodyPost_ret (v := .tuple #[.slice none 0 0, .int .i64 0, .bool false]) (by simp [results, Try.results8, go_sem]) rfl (postIntsInt HR.out (Own.nil _ _) (Below.refl _ _))
end Go.Proofs.Ytkkhlkaieohklab
