/- The model's circles, by their contracts. -/
import Derived.Test.YtfkejkkplafciabSpecS
import Derived.Test.YtfkejkkplafciabMathC
import Derived.Test.YtfkejkkplafciabPii
import Derived.Deep.LoopGhost
namespace Go.Proofs.Ytfkejkkplafciab
open Go.RowKit

theorem emod_nat (x j p : Nat) : ((x : Int) + (j : Int)) % (p : Int) = (((x + j) % p : Nat) : Int) := by
  rw [Int.natCast_emod, Int.natCast_add]
theorem crun_free {p x k : Nat} {out : List Int} (h : CRuns out p x k) (hl : out.length < p) : k < p := by
  have := cruns_lt h (by omega)
  omega
theorem good_nth' {xs : List Int} {p n : Nat} (h : good xs p = true) (hn : xs.length = n) : n ≤ 8 ∧ 1 ≤ p ∧ p ≤ 12 ∧ (∀ i, i < n → 0 ≤ nth xs i ∧ nth xs i ≤ (p : Int) - 1) := by
  obtain ⟨h1, h2, h3⟩ := good_iff.1 h
  exact ⟨by omega, by omega, by omega, fun i hi => h3 _ (nth_mem (by omega))⟩

theorem circleOf_yes {xs : List Int} {p n : Nat} (h : good xs p = true) (hn : xs.length = n) (hle : n ≤ p) : circleOf xs p = (cdrive p xs, true) := by
  simp [circleOf, h, show xs.length ≤ p by omega]
theorem circleOf_no1 {xs : List Int} {p : Int} (h : ¬ good xs p = true) : circleOf xs p = ([], false) := by simp [circleOf, h]
theorem circleOf_no2 {xs : List Int} {p n : Nat} (hn : xs.length = n) (h : p < n) : circleOf xs p = ([], false) := by simp [circleOf, show ¬ xs.length ≤ p by omega]

theorem circ_nth {xs : List Int} {n : Nat} (h : circB xs = true) (hn : xs.length = n) : n ≤ 8 ∧ (∀ i, i < n → 0 ≤ nth xs i ∧ nth xs i ≤ ((n + 1 : Nat) : Int) - 1) := by
  obtain ⟨h1, h2⟩ := circB_iff.1 h
  refine ⟨by omega, fun i hi => ?_⟩
  have := h2 _ (nth_mem (xs := xs) (i := i) (by omega))
  omega

theorem tmod_emod (x p : Int) : x.tmod p % p = x % p := by
  have h1 := Int.tmod_add_mul_tdiv x p
  conv => rhs; rw [← h1]
  rw [Int.add_mul_emod_self_left]
theorem tmod_bounds (x p : Int) (hp : 0 < p) : -p < x.tmod p ∧ x.tmod p < p := ⟨Int.lt_tmod_of_pos x hp, Int.tmod_lt_of_pos x hp⟩

set_option maxHeartbeats 800000 in
theorem cnTurn_any (a : Option Addr) (n cap : Nat) (xs : List Int) (p : Nat) (b : Int) (w : World) (h : Has w a n cap xs) (hp0 : 0 < p) (hp : p ≤ 12) (hb0 : -1000 ≤ b) (hb1 : b ≤ 1000) (hge : ∀ i, i < n → 0 ≤ nth xs i ∧ nth xs i ≤ (p : Int) - 1) :
    Calls Try.prog 60 #[.slice a n cap, .int .i64 (p : Int), .int .i64 b] w fun e w' => ∃ a' cap', e = .returned (.slice a' n cap') ∧ Own w' w.heap.size a' n cap' (turn xs p b) ∧ Below w.heap.size w w' := by
  have HLEN := hid h.len
  have hle := h.le
  have HG := hid hge
  have HC := hid h.2.2.2.2
  have hp1 : (0 : Int) < (p : Int) := by omega
  clear hge
  go_enter Try.func60, Try.ntmps60
  go_wp2_with fail
  go_loopw [7, 12] (fun o i wr => ∃ (k : Nat) (a' : Option Addr) (cap' : Nat), k ≤ n ∧ i = .int .i64 (k : Int) ∧ o = .slice a' k cap' ∧ Own wr w.heap.size a' k cap' (turn (xs.take k) p b) ∧ Below w.heap.size w wr) (fun _ i _ => n - (intOf i).toNat)
  case atStart => exact ⟨0, none, 0, Nat.zero_le _, rfl, rfl, Own.nil _ _, Below.refl _ _⟩
  case round =>
    obtain ⟨k, a', cap', hk, rfl, rfl, hown, hb⟩ := hrel
    by_cases hlt : k < n
    · obtain ⟨b', off, rfl, hbb, hc⟩ := HC.out (by omega)
      have hck : wr.cell? ⟨b', off + k, none⟩ = some (.int .i64 (nth xs k)) := by rw [hb.cell (p := ⟨b', off + k, none⟩) hbb]; exact hc k hlt
      obtain ⟨x0, x1⟩ := HG.out k hlt
      have HS := hid (turn_succ (p := (p : Int)) (b := b) (xs := xs) (k := k) (by rw [HLEN.out]; omega))
      have HT := hid (tmod_emod (nth xs k + b) p)
      have hsz := hb.size
      have hpz : ¬ (p : Int) = 0 := by omega
      obtain ⟨t0, t1⟩ := tmod_bounds (nth xs k + b) p hp1
      obtain ⟨t2, t3⟩ := tmod_bounds ((nth xs k + b).tmod p + p) p hp1
      clear hc
      go_wp2_with (at_builtin; refine wpList_append_int _ rfl _ _ rfl w.heap.size _ _ _ _ _ rfl rfl hown (by omega) hsz ?_; intro a4 cap4 w4 hown4 hb4)
      go_roundw
      case rel => exact ⟨k + 1, a4, cap4, by omega, by go_num, rfl, by rw [HS.out, ← HT.out]; exact hown4, hb.trans hb4⟩
      case measure => simp [intOf]; omega
    · obtain rfl : n = k := by omega
      go_wp2_with fail
      go_ret
      exact ⟨_, _, rfl, by rw [List.take_of_length_le (by rw [HLEN.out]; omega)] at hown; exact hown, hb⟩

theorem turnOf_yes {xs : List Int} {p b : Int} (h : good xs p = true) (hb : inB b (-1000) 1000 = true) : turnOf xs p b = (turn xs p b, true) := by simp [turnOf, h, hb]
theorem turnOf_no1 {xs : List Int} {p b : Int} (h : ¬ good xs p = true) : turnOf xs p b = ([], false) := by simp [turnOf, h]
theorem turnOf_no2 {xs : List Int} {p b : Int} (h : ¬ inB b (-1000) 1000 = true) : turnOf xs p b = ([], false) := by simp [turnOf, h]

set_option maxHeartbeats 800000 in
theorem specTurn_any (a : Option Addr) (n cap : Nat) (xs : List Int) (p b : Int) (w : World) (h : Has w a n cap xs) :
    Calls Try.prog 32 #[.slice a n cap, .int .i64 p, .int .i64 b] w (PostInts w (turnOf xs p b)) := by
  by_cases hg : good xs p = true
  · obtain ⟨q, rfl⟩ : ∃ q : Nat, p = (q : Int) := ⟨p.toNat, by have := (good_iff.1 hg).1; omega⟩
    obtain ⟨g1, g2, g3, g4⟩ := good_nth' hg h.len
    by_cases hb : inB b (-1000) 1000 = true
    · have HR := hid (turnOf_yes hg hb)
      obtain ⟨hb0, hb1⟩ := inB_iff.1 hb
      have HG := hid hg
      have HB := hid hb
      clear hg hb
      go_enter Try.func32, Try.ntmps32
      go_wp2_with (first | (go_at_call 59; refine (paGood_any _ _ _ _ _ _ h).mono ?_; rintro e w' ⟨rfl, rfl⟩; rw [HG.out]) | (go_at_call 42; refine (l1In_any _ _ _ _).mono ?_; rintro e w' ⟨rfl, rfl⟩; rw [HB.out]))
      refine (cnTurn_any _ _ _ _ _ _ _ h (by omega) g3 hb0 hb1 g4).mono ?_
      rintro e w2 ⟨a2, cap2, rfl, hown2, hb2⟩
      go_wp2_with fail
      go_ret2
      exact postInts HR.out hown2 hb2
    · have HR := hid (turnOf_no2 (xs := xs) (p := (q : Int)) hb)
      have HG := hid hg
      have HB := hid hb
      clear hg hb
      go_enter Try.func32, Try.ntmps32
      go_wp2_with (first | (go_at_call 59; refine (paGood_any _ _ _ _ _ _ h).mono ?_; rintro e w' ⟨rfl, rfl⟩; rw [HG.out]) | (go_at_call 42; refine (l1In_any _ _ _ _).mono ?_; rintro e w' ⟨rfl, rfl⟩; rw [Bool.eq_false_iff.2 HB.out]))
      go_ret2
      exact postInts_no HR.out (Below.refl _ _)
  · have HR := hid (turnOf_no1 (b := b) hg)
    have HG := hid hg
    clear hg
    go_enter Try.func32, Try.ntmps32
    go_wp2_with (go_at_call 59; refine (paGood_any _ _ _ _ _ _ h).mono ?_; rintro e w' ⟨rfl, rfl⟩; rw [Bool.eq_false_iff.2 HG.out])
    go_ret2
    exact postInts_no HR.out (Below.refl _ _)

theorem classOf_yes {xs : List Int} {n : Nat} (h : circB xs = true) (hn : xs.length = n) : classOf xs = (turn xs ((n : Int) + 1) ((n : Int) - cfree xs), (n : Int) - cfree xs, true) := by simp [classOf, h, hn]
theorem classOf_no {xs : List Int} (h : ¬ circB xs = true) : classOf xs = ([], 0, false) := by simp [classOf, h]

end Go.Proofs.Ytfkejkkplafciab
