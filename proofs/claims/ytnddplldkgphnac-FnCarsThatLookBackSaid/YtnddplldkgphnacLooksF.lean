/- The law of cars that look back, walked. -/
import Derived.Test.YtnddplldkgphnacLawKit
import Derived.Test.YtnddplldkgphnacSpecS
import Derived.Test.YtnddplldkgphnacMathT
import Derived.Deep.LoopGhost
import Derived.Test.YtnddplldkgphnacMathLo
import Derived.Test.YtnddplldkgphnacMathAt
import Derived.Test.YtnddplldkgphnacMathN
import Derived.Test.YtnddplldkgphnacSpecC
import Derived.Test.YtnddplldkgphnacMathLl
import Derived.Test.YtnddplldkgphnacImplA
import Derived.Test.YtnddplldkgphnacImplC
import Derived.Test.YtnddplldkgphnacImplLt
import Derived.Test.YtnddplldkgphnacTried
import Derived.Test.YtnddplldkgphnacOutL
import Derived.Test.YtnddplldkgphnacImplN
namespace Go.Proofs.Ytnddplldkgphnac
open Go.RowKit

/-- A slice of bytes below block K. -/
def HasB (w : World) (a : Option Addr) (n : Nat) (K : Nat) : Prop :=
  n ≤ 1099511627776 ∧ (0 < n → ∃ b off, a = some ⟨b, off, none⟩ ∧ b < K ∧ ∀ i, i < n → ∃ u : Int, 0 ≤ u ∧ u ≤ 255 ∧ w.cell? ⟨b, off + i, none⟩ = some (.int .u8 u))

/-- The cursor in block g, that has drawn t numbers. -/
structure Cur (w : World) (g t : Nat) : Prop where
  code : ∃ a n cap, w.cell? ⟨g, 0, none⟩ = some (.slice a n cap) ∧ HasB w a n g
  pos : w.cell? ⟨g, 1, none⟩ = some (.int .i64 t)
  seed : ∃ s : Int, 0 ≤ s ∧ s ≤ 18446744073709551615 ∧ w.cell? ⟨g, 2, none⟩ = some (.int .u64 s)
  free : ∀ i, w.frozen? ⟨g, i, none⟩ = false
  lt : g < w.heap.size

theorem Cur.below {w w' : World} {g t K : Nat} (h : Cur w g t) (hb : Below K w w') (hK : g < K) : Cur w' g t := by
  obtain ⟨⟨a, n, cap, h1, h2, h3⟩, h4, ⟨s, h5, h6, h7⟩, h8, h9⟩ := h
  refine ⟨⟨a, n, cap, by rw [hb.cell (p := ⟨g, 0, none⟩) hK]; exact h1, h2, fun hn => ?_⟩, by rw [hb.cell (p := ⟨g, 1, none⟩) hK]; exact h4, ⟨s, h5, h6, by rw [hb.cell (p := ⟨g, 2, none⟩) hK]; exact h7⟩, fun i => by rw [hb.frozen (p := ⟨g, i, none⟩) hK]; exact h8 i, Nat.lt_of_lt_of_le h9 hb.size⟩
  obtain ⟨b, off, ha, hbk, hc⟩ := h3 hn
  refine ⟨b, off, ha, hbk, fun i hi => ?_⟩
  obtain ⟨u, u0, u1, hu⟩ := hc i hi
  exact ⟨u, u0, u1, by rw [hb.cell (p := ⟨b, off + i, none⟩) (by simp; omega)]; exact hu⟩

theorem cell_other' {w : World} {b c i j : Nat} {v : Value} (h : b ≠ c ∨ i ≠ j) : (w.setCell ⟨b, i, none⟩ v).cell? ⟨c, j, none⟩ = w.cell? ⟨c, j, none⟩ :=
  World.cell?_setCell_other _ _ _ _ (by
    intro hh
    injection hh with h1 h2 _
    rcases h with h | h
    · exact h h1
    · exact h h2)

theorem cur_after {w : World} {g t k1 k2 : Nat} {s' : Int} (h : Cur w g t) (h0 : 0 ≤ s') (h1 : s' ≤ 18446744073709551615) :
    Cur ((((w.drewN k1).setCell ⟨g, 1, none⟩ (.int .i64 ((t : Int) + 1))).setCell ⟨g, 2, none⟩ (.int .u64 s')).drewN k2) g (t + 1) ∧
      w.grownBy ((((w.drewN k1).setCell ⟨g, 1, none⟩ (.int .i64 ((t : Int) + 1))).setCell ⟨g, 2, none⟩ (.int .u64 s')).drewN k2) (some g) := by
  obtain ⟨⟨a, n, cap, c0, hn, hb⟩, c1, ⟨s, _, _, c2⟩, hf, hlt⟩ := h
  have e : ∀ p, ((((w.drewN k1).setCell ⟨g, 1, none⟩ (.int .i64 ((t : Int) + 1))).setCell ⟨g, 2, none⟩ (.int .u64 s')).drewN k2).cell? p = (((w.setCell ⟨g, 1, none⟩ (.int .i64 ((t : Int) + 1))).setCell ⟨g, 2, none⟩ (.int .u64 s'))).cell? p := fun _ => rfl
  refine ⟨⟨⟨a, n, cap, ?_, hn, fun hp => ?_⟩, ?_, ⟨s', h0, h1, ?_⟩, fun i => ?_, ?_⟩, ⟨rfl, rfl, rfl, by simp, fun k _ hk => ?_⟩⟩
  · rw [e, cell_other' (.inr (by omega)), cell_other' (.inr (by omega))]; exact c0
  · obtain ⟨b, off, ha, hbg, hc⟩ := hb hp
    refine ⟨b, off, ha, hbg, fun i hi => ?_⟩
    obtain ⟨u, u0, u1, hu⟩ := hc i hi
    exact ⟨u, u0, u1, by rw [e, cell_other' (.inl (by omega)), cell_other' (.inl (by omega))]; exact hu⟩
  · rw [e, cell_other' (.inr (by omega)), World.cell?_setCell_same _ _ _ c1]; rfl
  · rw [e, World.cell?_setCell_same (u := .int .u64 s)]
    rw [cell_other' (.inr (by omega))]; exact c2
  · show ((w.setCell ⟨g, 1, none⟩ (.int .i64 ((t : Int) + 1))).setCell ⟨g, 2, none⟩ (.int .u64 s')).frozen? ⟨g, i, none⟩ = false
    rw [World.frozen?_setCell, World.frozen?_setCell]; exact hf i
  · simpa using hlt
  · show ((w.setCell ⟨g, 1, none⟩ (.int .i64 ((t : Int) + 1))).setCell ⟨g, 2, none⟩ (.int .u64 s')).heap[k]? = _
    have hkg : k ≠ g := fun e => hk (by rw [e])
    rw [heap_setCell_other _ _ _ _ hkg, heap_setCell_other _ _ _ _ hkg]

theorem and255 {x : Int} (h0 : 0 ≤ x) (h1 : x < 18446744073709551616) : 0 ≤ wrap64 (bits .and .u64 x 255) ∧ wrap64 (bits .and .u64 x 255) ≤ 255 := by
  have e := u64_and x 255 h0 h1 (by omega) (by omega)
  have hle : (x.toNat &&& (255 : Int).toNat : Nat) ≤ 255 := Nat.and_le_right
  rw [e, IntWalk.wrap64_in _ ⟨by omega, by omega⟩]
  omega

/-- A number of the cursor, and the cursor behind it. -/
def Drew (w : World) (g t : Nat) (hi : Int) (e : Ending) (w' : World) : Prop := ∃ v : Int, e = .returned (.int .i64 v) ∧ 0 ≤ v ∧ v ≤ hi ∧ Cur w' g t ∧ w.grownBy w' (some g)

set_option maxHeartbeats 2000000 in
theorem next_cur (g t : Nat) (w : World) (h : Cur w g t) (ht : t ≤ 1000000) :
    Calls Try.prog 94 #[.pointer (some ⟨g, 0, none⟩)] w (Drew w g (t + 1) 255) := by
  have HC := hid h
  obtain ⟨⟨a, n, cap, h1, h2, h3⟩, h4, ⟨s, h5, h6, h7⟩, h8, h9⟩ := h
  have f1 := h8 1
  have f2 := h8 2
  by_cases hlt : t < n
  · obtain ⟨b, off, rfl, hbk, hc⟩ := h3 (by omega)
    obtain ⟨u, u0, u1, hu⟩ := hc t hlt
    have hti : (t : Int) < (n : Int) := by omega
    have htz : (0 : Int) ≤ (t : Int) := by omega
    have htd : decide ((t : Int) < (n : Int)) = true := by simpa using hti
    clear hc h3
    go_enter Try.func94, Try.ntmps94
    go_wp2_with fail
    go_quiet (fail)
    go_wp2_with fail
    go_quiet (fail)
    go_wp2_with fail
    have hle : (t : Int) + 1 ≤ (n : Int) := by omega
    have hld : decide ((t : Int) + 1 ≤ (n : Int)) = true := by simpa using hle
    generalize hs' : IntKind.u64.wrap (IntKind.u64.wrap (IntKind.u64.wrap (s * 6364136223846793005) + u) + 1442695040888963407) = s'
    have HS := hid hs'
    clear hs'
    go_quiet (fail)
    go_wp2_with fail
    go_ret
    have hs := HS.out
    have hs0 : 0 ≤ s' := by rw [← hs, IntKind.wrap_u64]; omega
    have hs1 : s' ≤ 18446744073709551615 := by rw [← hs, IntKind.wrap_u64]; omega
    obtain ⟨r1, r2⟩ := cur_after HC.out hs0 hs1
    exact ⟨u, rfl, u0, u1, r1, r2⟩
  · have hti : ¬ (t : Int) < (n : Int) := by omega
    have htd : decide ((t : Int) < (n : Int)) = false := by simp; omega
    have hle : ¬ (t : Int) + 1 ≤ (n : Int) := by omega
    have hld : decide ((t : Int) + 1 ≤ (n : Int)) = false := by simp; omega
    clear h3
    go_enter Try.func94, Try.ntmps94
    go_wp2_with fail
    go_quiet (fail)
    go_wp2_with fail
    generalize hs' : IntKind.u64.wrap (IntKind.u64.wrap (IntKind.u64.wrap (s * 6364136223846793005)) + 1442695040888963407) = s'
    have hs0 : 0 ≤ s' := by rw [← hs', IntKind.wrap_u64]; omega
    have hs1 : s' ≤ 18446744073709551615 := by rw [← hs', IntKind.wrap_u64]; omega
    clear hs'
    have HS0 := hid hs0
    have HS1 := hid hs1
    clear hs0 hs1
    go_quiet (fail)
    go_wp2_with fail
    go_ret
    obtain ⟨r1, r2⟩ := cur_after HC.out HS0.out HS1.out
    obtain ⟨b0, b1⟩ := and255 (x := s' / 1099511627776) (by have := HS0.out; omega) (by have := HS1.out; omega)
    exact ⟨_, rfl, b0, b1, r1, r2⟩

set_option maxHeartbeats 800000 in
theorem pick_cur (g t : Nat) (n : Int) (w : World) (h : Cur w g t) (ht : t ≤ 100000) (hn : n ≤ 65000) :
    Calls Try.prog 52 #[.pointer (some ⟨g, 0, none⟩), .int .i64 n] w fun e w' => ∃ v : Int, e = .returned (.int .i64 v) ∧ 0 ≤ v ∧ (v < n ∨ n ≤ 1 ∧ v = 0) ∧ (∃ t', t ≤ t' ∧ t' ≤ t + 2 ∧ Cur w' g t') ∧ w.grownBy w' (some g) := by
  by_cases h1 : n ≤ 1
  · go_enter Try.func52, Try.ntmps52
    go_wp2_with fail
    go_ret
    exact ⟨0, rfl, Int.le_refl _, .inr ⟨h1, rfl⟩, ⟨t, Nat.le_refl _, by omega, h⟩, World.grownBy.refl _ _⟩
  · have h2 : 1 < n := by omega
    by_cases h3 : 200 < n
    · go_enter Try.func52, Try.ntmps52
      go_wp2_with fail
      refine (next_cur g t _ h (by omega)).mono ?_
      rintro e w1 ⟨v, rfl, v0, v1, hc1, hg1⟩
      go_wp2_with fail
      refine (next_cur g (t + 1) _ hc1 (by omega)).mono ?_
      rintro e w2 ⟨u, rfl, u0, u1, hc2, hg2⟩
      have hm0 : 0 ≤ (v * 256 + u) % n := Int.emod_nonneg _ (by omega)
      have hm1 : (v * 256 + u) % n < n := Int.emod_lt_of_pos _ (by omega)
      go_wp2_with fail
      go_ret
      exact ⟨_, rfl, hm0, .inl hm1, ⟨t + 2, by omega, by omega, hc2⟩, ⟨hg2.os.trans hg1.os, hg2.tape.trans hg1.tape, hg2.output.trans hg1.output, Nat.le_trans hg1.size hg2.size, fun j hj hne => (hg2.block j (Nat.lt_of_lt_of_le hj hg1.size) hne).trans (hg1.block j hj hne)⟩⟩
    · go_enter Try.func52, Try.ntmps52
      go_wp2_with fail
      refine (next_cur g t _ h (by omega)).mono ?_
      rintro e w1 ⟨v, rfl, v0, v1, hc1, hg1⟩
      have hm0 : 0 ≤ v % n := Int.emod_nonneg _ (by omega)
      have hm1 : v % n < n := Int.emod_lt_of_pos _ (by omega)
      go_wp2_with fail
      go_ret
      exact ⟨_, rfl, hm0, .inl hm1, ⟨t + 1, by omega, by omega, hc1⟩, hg1⟩

set_option maxHeartbeats 800000 in
theorem one_cur (g t : Nat) (n : Int) (w : World) (h : Cur w g t) (ht : t ≤ 100000) (hn : n ≤ 65000) :
    Calls Try.prog 53 #[.pointer (some ⟨g, 0, none⟩), .int .i64 n] w fun e w' => ∃ b : Bool, e = .returned (.bool b) ∧ (∃ t', t ≤ t' ∧ t' ≤ t + 2 ∧ Cur w' g t') ∧ w.grownBy w' (some g) := by
  go_enter Try.func53, Try.ntmps53
  go_wp2_with fail
  refine (pick_cur g t n _ h ht hn).mono ?_
  rintro e w1 ⟨v, rfl, v0, v1, hc1, hg1⟩
  go_wp2_with fail
  go_ret
  exact ⟨_, rfl, hc1, hg1⟩

set_option maxHeartbeats 800000 in
theorem among_cur (g t : Nat) (a : Option Addr) (n cap : Nat) (xs : List Int) (w : World) (h : Cur w g t) (ht : t ≤ 100000) (hh : Has w a n cap xs) (hn : 0 < n) (hn2 : n ≤ 60000) (hne : ∀ p, a = some p → p.block ≠ g) :
    Calls Try.prog 54 #[.pointer (some ⟨g, 0, none⟩), .slice a n cap] w fun e w' => ∃ v : Int, e = .returned (.int .i64 v) ∧ v ∈ xs ∧ (∃ t', t ≤ t' ∧ t' ≤ t + 2 ∧ Cur w' g t') ∧ w.grownBy w' (some g) := by
  have HL := hid hh.len
  obtain ⟨b, off, rfl, hbb, hc⟩ := hh.2.2.2.2 hn
  have hbg := hne _ rfl
  clear hne
  go_enter Try.func54, Try.ntmps54
  go_wp2_with fail
  refine (pick_cur g t n _ h ht (by omega)).mono ?_
  rintro e w1 ⟨v, rfl, v0, v1, hc1, hg1⟩
  obtain ⟨k, rfl⟩ : ∃ k : Nat, v = (k : Int) := ⟨_, (Int.toNat_of_nonneg v0).symm⟩
  have hk : k < n := by omega
  have hck : w1.cell? ⟨b, off + k, none⟩ = some (.int .i64 (nth xs k)) := hg1.cell (hc k hk) (by simpa using hbg)
  clear hc v1
  go_wp2_with fail
  go_ret
  exact ⟨_, rfl, nth_mem (by rw [HL.out]; exact hk), hc1, hg1⟩
end Go.Proofs.Ytnddplldkgphnac

namespace Go.Proofs.Ytnddplldkgphnac
open Go.RowKit

theorem HasB.below {w w' : World} {a : Option Addr} {n K : Nat} (h : HasB w a n K) (hb : Below K w w') : HasB w' a n K := by
  refine ⟨h.1, fun hx => ?_⟩
  obtain ⟨b, off, ha, hbk, hc⟩ := h.2 hx
  refine ⟨b, off, ha, hbk, fun i hi => ?_⟩
  obtain ⟨u, u0, u1, hu⟩ := hc i hi
  exact ⟨u, u0, u1, by rw [hb.cell (p := ⟨b, off + i, none⟩) hbk]; exact hu⟩

/-- An argument's slice of bytes. -/
theorem hasB_of_row {w : World} {a : Option Addr} {len cap : Nat} {zs : List Int}
    (h : (a = none ∧ len = 0 ∧ cap = 0 ∧ zs = []) ∨ ∃ x, a = some x ∧ len ≤ cap ∧ cap ≤ maxLen ∧ zs.length = cap ∧ (∀ i, i < zs.length → w.cell? (x.add i) = some (.int .u8 (zs.getD i 0))) ∧ ∀ n ∈ zs, (Lit.int .u8 n).wf = true) :
    len ≤ maxLen ∧ (len ≤ 1048576 → HasB w a len w.heap.size) := by
  rcases h with ⟨rfl, rfl, rfl, rfl⟩ | ⟨x, rfl, h1, h2, h3, h4, h5⟩
  · exact ⟨by unfold maxLen; omega, fun _ => ⟨by omega, by omega⟩⟩
  · refine ⟨by omega, fun hl => ⟨by omega, fun hx => ?_⟩⟩
    obtain ⟨b, off, spot⟩ := x
    have hc := h4 0 (by omega)
    have hspot : spot = none := by simpa [Addr.add] using World.cell?_spot hc
    subst hspot
    refine ⟨b, off, rfl, by have := World.block_lt_of_cell? w _ hc; simpa [Addr.add] using this, fun i hi => ?_⟩
    have := h4 i (by omega)
    have e : (⟨b, off, none⟩ : Addr).add i = ⟨b, off + i, none⟩ := by unfold Addr.add; split <;> simp_all
    rw [e] at this
    have hm : zs.getD i 0 ∈ zs := by simp [show i < zs.length by omega]
    have hw := h5 _ hm
    generalize zs.getD i 0 = u at *
    have hw' : (0 : Int) ≤ u ∧ u ≤ 255 := by simpa [Lit.wf, IntKind.min, IntKind.max, IntKind.signed, IntKind.bits] using hw
    exact ⟨u, hw'.1, hw'.2, this⟩

/-- The law's answer. -/
def Holds (w : World) (e : Ending) (w' : World) : Prop := e = .returned (.bool true) ∧ Below w.heap.size w w'
end Go.Proofs.Ytnddplldkgphnac

namespace Go.Proofs.Ytnddplldkgphnac
open Go.RowKit

/-- Whether the bytes are too many. -/
def Big (n m : Nat) (w : World) (e : Ending) (w' : World) : Prop := ∃ r : Bool, e = .returned (.bool r) ∧ (r = false → n + m ≤ 1048576) ∧ w = w'

theorem big_any (a b : Option Addr) (n m cap cap' : Nat) (w : World) (hn : n ≤ 9223372036854775807) :
    Calls Try.prog 12 #[.slice a n cap, .slice b m cap'] w (Big n m w) := by
  by_cases h1 : (1048576 : Int) < (n : Int)
  · go_enter Try.func12, Try.ntmps12
    go_wp2_with fail
    go_ret
    exact ⟨true, ret_bool (by simp), by simp, rfl⟩
  · by_cases h2 : (1048576 : Int) - n < (m : Int)
    · go_enter Try.func12, Try.ntmps12
      go_wp2_with fail
      go_ret
      exact ⟨true, ret_bool (by simp), by simp, rfl⟩
    · go_enter Try.func12, Try.ntmps12
      go_wp2_with fail
      go_ret
      exact ⟨false, ret_bool (by simp), fun _ => by omega, rfl⟩

set_option maxHeartbeats 400000 in
theorem jSum_any (a : Option Addr) (n cap : Nat) (ys : List Int) (w : World) (h : Has w a n cap ys) (hs : Small ys) :
    Calls Try.prog 21 #[.slice a n cap] w fun e w' => e = .returned (.int .i64 (total ys)) ∧ w = w' := by
  obtain ⟨h0, h1, h2, h3, h4⟩ := h
  go_enter Try.func21, Try.ntmps21
  go_wp2_with fail
  go_loop [3, 8] (fun c i => ∃ k : Nat, k ≤ n ∧ i = .int .i64 k ∧ c = .int .i64 (total (ys.take k))) (fun _ i => n - (intOf i).toNat)
  case atStart => exact ⟨0, Nat.zero_le _, rfl, rfl⟩
  case round =>
    obtain ⟨k, hk, rfl, rfl⟩ := hrel
    by_cases hlt : k < n
    · obtain ⟨b, off, rfl, hb, hc⟩ := h4 (by omega)
      have hck := hc k hlt
      have ht := total_bounds hs k (by omega)
      obtain ⟨hv0, hv1⟩ := hs k (by omega)
      have HS := hid (total_succ (xs := ys) (k := k) (by omega))
      clear hc h4 hs
      go_wp2_with fail
      go_round
      case rel => exact ⟨k + 1, by omega, by go_num, by rw [HS.out]⟩
      case measure => simp [intOf]; omega
    · obtain rfl : k = n := by omega
      go_wp2_with fail
      go_ret
      exact ⟨ret_int (by rw [List.take_of_length_le (by omega)]), rfl⟩

set_option maxHeartbeats 400000 in
theorem jSame_any (a b : Option Addr) (n m cap cap' : Nat) (xs ys : List Int) (w : World) (h : Has w a n cap xs) (h' : Has w b m cap' ys) :
    Calls Try.prog 20 #[.slice a n cap, .slice b m cap'] w fun e w' => e = .returned (.bool (same xs ys)) ∧ Quiet w w' := by
  obtain ⟨h0, h1, h2, h3, h4⟩ := h
  obtain ⟨k0, k1, k2, k3, k4⟩ := h'
  by_cases hnm : n = m
  · have hb : ((n : Int) != (m : Int)) = false := by simp [hnm]
    subst hnm
    go_enter Try.func20, Try.ntmps20
    go_wp2_with fail
    go_loopw [13] (fun i wr => ∃ k : Nat, k ≤ n ∧ i = .int .i64 k ∧ FromTo xs ys k ∧ Quiet w wr) (fun i _ => n - (intOf i).toNat)
    case atStart => exact ⟨0, Nat.zero_le _, rfl, fun i hi => by omega, ⟨0, rfl⟩⟩
    case round =>
      obtain ⟨k, hk, rfl, hft, q, hq⟩ := hrel
      subst hq
      by_cases hlt : k < n
      · obtain ⟨b1, off1, rfl, hb1, hc1⟩ := h4 (by omega)
        obtain ⟨b2, off2, rfl, hb2, hc2⟩ := k4 (by omega)
        have hck := hc1 k hlt
        have hdk := hc2 k hlt
        have hkk : (k : Int) < (n : Int) := by omega
        have hkz : (0 : Int) ≤ (k : Int) := by omega
        clear hc1 hc2 h4 k4
        by_cases he : nth xs k = nth ys k
        · have hbe : (nth xs k != nth ys k) = false := by simp [he]
          have HE := hid he
          clear he
          go_wp2_with fail
          go_quiet (fail)
          go_wp2_with fail
          go_roundw
          case rel => exact ⟨k + 1, by omega, by go_num, fun i hi => by rcases Nat.lt_succ_iff_lt_or_eq.1 hi with h | rfl; exact hft i h; exact HE.out.symm, ⟨_, rfl⟩⟩
          case measure => simp [intOf]; omega
        · have hbe : (nth xs k != nth ys k) = true := by simp [he]
          have HE := hid he
          clear he
          go_wp2_with fail
          go_quiet (fail)
          go_wp2_with fail
          go_ret
          exact ⟨ret_bool (same_no HE.out).symm, (Quiet.more ⟨_, rfl⟩ _)⟩
      · obtain rfl : k = n := by omega
        go_wp2_with fail
        go_ret
        exact ⟨ret_bool (same_yes (by omega) (by rw [h0]; exact hft)).symm, ⟨_, rfl⟩⟩
  · have hb : ((n : Int) != (m : Int)) = true := by simp; omega
    go_enter Try.func20, Try.ntmps20
    go_wp2_with fail
    go_ret
    exact ⟨ret_bool (show false = same xs ys from by unfold same; symm; rw [decide_eq_false_iff_not]; rintro rfl; omega), ⟨0, rfl⟩⟩

end Go.Proofs.Ytnddplldkgphnac

namespace Go.Proofs.Ytnddplldkgphnac
open Go.RowKit

/-- The cursor stands, and below its block all is as it was. -/
structure At (w0 w : World) (g t : Nat) : Prop where
  cur : Cur w g t
  below : Below g w0 w

theorem At.pick {w0 w w' : World} {g t t' : Nat} (h : At w0 w g t) (hc : Cur w' g t') (hg : w.grownBy w' (some g)) : At w0 w' g t' :=
  ⟨hc, h.below.trans (below_grown hg (Nat.le_of_lt h.cur.lt) (by intro k hk; cases hk; exact Nat.le_refl _))⟩
theorem At.later {w0 w w' : World} {g t K : Nat} (h : At w0 w g t) (hb : Below K w w') (hK : g < K) : At w0 w' g t :=
  ⟨h.cur.below hb hK, h.below.trans (hb.mono (Nat.le_of_lt hK))⟩
theorem At.size {w0 w : World} {g t : Nat} (h : At w0 w g t) : w0.heap.size ≤ w.heap.size := h.below.size

theorem has_lit (w : World) (xs : List Int) (hx : xs.length ≤ 100) : Has (w.alloc (.cells (xs.map (Value.int .i64)).toArray 3)) (some ⟨w.heap.size, 0, none⟩) xs.length xs.length xs := by
  have := World.ownsRow_lit (base := w.heap.size) (e := 3) (size := 1) w (xs.map (Value.int .i64)).toArray xs.length (Nat.le_refl _) (by unfold maxLen; omega) (by simp)
  exact Own.has (B := w.heap.size) ⟨by simpa using this, rfl, by omega⟩
theorem has_lit3 (w : World) (a b c : Int) : Has (w.alloc (.cells #[.int .i64 a, .int .i64 b, .int .i64 c] 3)) (some ⟨w.heap.size, 0, none⟩) 3 3 [a, b, c] := has_lit w [a, b, c] (by simp)
theorem has_lit4 (w : World) (a b c d : Int) : Has (w.alloc (.cells #[.int .i64 a, .int .i64 b, .int .i64 c, .int .i64 d] 3)) (some ⟨w.heap.size, 0, none⟩) 4 4 [a, b, c, d] := has_lit w [a, b, c, d] (by simp)
theorem has_lit6 (w : World) (a b c d e f : Int) : Has (w.alloc (.cells #[.int .i64 a, .int .i64 b, .int .i64 c, .int .i64 d, .int .i64 e, .int .i64 f] 3)) (some ⟨w.heap.size, 0, none⟩) 6 6 [a, b, c, d, e, f] := has_lit w [a, b, c, d, e, f] (by simp)
theorem alloc_below (w : World) (o : Obj) : Below w.heap.size w (w.alloc o) := (Below.refl _ _).alloc (Nat.le_refl _) _
theorem lit_ne {w : World} {g t : Nat} (h : Cur w g t) : ∀ p, (some ⟨w.heap.size, 0, none⟩ : Option Addr) = some p → p.block ≠ g := by
  intro p hp
  cases hp
  have := h.lt
  simp
  omega

/-- Favourites and a number of places, whatever they are. -/
def DrewFav (w : World) (g : Nat) (e : Ending) (w' : World) : Prop :=
  ∃ a n cap xs p, e = .returned (.tuple #[.slice a n cap, .int .i64 p]) ∧ Own w' w.heap.size a n cap xs ∧ n ≤ 10 ∧ -1 ≤ p ∧ p ≤ 13 ∧ Below g w w'

/-- The same, and the cursor stands. -/
def DrewFavC (w : World) (g : Nat) (e : Ending) (w' : World) : Prop :=
  ∃ a n cap xs p, e = .returned (.tuple #[.slice a n cap, .int .i64 p]) ∧ Own w' w.heap.size a n cap xs ∧ n ≤ 10 ∧ -1 ≤ p ∧ p ≤ 13 ∧ ∃ t', At w w' g t' ∧ t' ≤ 4000

set_option maxHeartbeats 4000000 in
theorem favourites_at (g t : Nat) (w : World) (h : Cur w g t) (ht : t ≤ 1000) :
    Calls Try.prog 67 #[.pointer (some ⟨g, 0, none⟩)] w (DrewFavC w g) := by
  have hgl := h.lt
  have A0 : At w w g t := ⟨h, Below.refl _ _⟩
  have A1 := A0.later (alloc_below w (.cells #[.int .i64 4, .int .i64 7, .int .i64 12] 3)) hgl
  go_enter Try.func67, Try.ntmps67
  go_wp2_with fail
  refine (among_cur g t _ 3 3 [4, 7, 12] _ A1.cur (by omega) (has_lit3 w 4 7 12) (by omega) (by omega) (lit_ne h)).mono ?_
  rintro e w1 ⟨v, rfl, hv, ⟨t1, ta, tb, hc1⟩, hg1⟩
  have hv1 : 4 ≤ v ∧ v ≤ 12 := by simp at hv; omega
  have A2 := A1.pick hc1 hg1
  clear hv hc1 hg1 A1 A0
  go_wp2_with fail
  refine (pick_cur g t1 v _ A2.cur (by omega) (by omega)).mono ?_
  rintro e w2 ⟨q, rfl, q0, q1, ⟨t2, tc, td, hc2⟩, hg2⟩
  have A3 := A2.pick hc2 hg2
  have hq : q ≤ 11 := by omega
  clear hc2 hg2 A2 q1
  go_wp2_with fail
  refine (l1Least_any _ _ _).mono ?_
  rintro e _ ⟨rfl, rfl⟩
  obtain ⟨m, hm⟩ : ∃ m, min (1 + q) 8 = m := ⟨_, rfl⟩
  have hm1 : 1 ≤ m ∧ m ≤ 8 := by omega
  rw [hm]
  clear hm
  go_wp2_with fail
  refine (pick_cur g t2 (m + 1) _ A3.cur (by omega) (by omega)).mono ?_
  rintro e w3 ⟨n0, rfl, n1, n2, ⟨t3, te, tf, hc3⟩, hg3⟩
  have A4 := A3.pick hc3 hg3
  obtain ⟨nn, rfl⟩ : ∃ nn : Nat, n0 = (nn : Int) := ⟨_, (Int.toNat_of_nonneg n1).symm⟩
  have hnn : nn ≤ 8 := by omega
  clear hc3 hg3 A3 n2 n1
  go_wp2_with fail
  go_loopw [5, 6] (fun o n wr => ∃ (k j : Nat) (a' : Option Addr) (cap' : Nat) (xs : List Int) (t' : Nat), k + j ≤ 8 ∧ n = .int .i64 (k : Int) ∧ o = .slice a' j cap' ∧ Own wr w.heap.size a' j cap' xs ∧ At w wr g t' ∧ t' ≤ 2000 + 8 * j) (fun _ n _ => (intOf n).toNat)
  case atStart => exact ⟨nn, 0, none, 0, [], t3, by omega, rfl, rfl, Own.nil _ _, A4, by omega⟩
  case round =>
    obtain ⟨k, j, a', cap', xs, t', hkj, rfl, rfl, hown, A, ht'⟩ := hrel
    clear A4
    by_cases hk : 0 < k
    · go_wp2_with fail
      refine (pick_cur g t' (1 + q) _ A.cur (by omega) (by omega)).mono ?_
      rintro e w5 ⟨v5, rfl, v50, v51, ⟨t5, x1, x2, hc5⟩, hg5⟩
      have A5 := A.pick hc5 hg5
      have o5 := hown.kept hg5 (.inl hgl)
      have hv5 : v5 ≤ q := by omega
      clear hc5 hg5 hown A v51
      go_wp2_with fail
      refine (l1Most_any _ _ _).mono ?_
      rintro e _ ⟨rfl, rfl⟩
      obtain ⟨y, hy⟩ : ∃ y, max 1 (1 + q - v5) = y := ⟨_, rfl⟩
      have hy1 : 1 ≤ y ∧ y ≤ 12 := by omega
      rw [hy]
      clear hy
      go_wp2_with fail
      refine (pick_cur g t5 y _ A5.cur (by omega) (by omega)).mono ?_
      rintro e w6 ⟨v6, rfl, v60, v61, ⟨t6, x3, x4, hc6⟩, hg6⟩
      have A6 := A5.pick hc6 hg6
      have o6 := o5.kept hg6 (.inl hgl)
      have hs6 := A6.size
      clear hc6 hg6 o5 A5 v61
      go_wp2_with (at_builtin; refine wpList_append_int _ rfl _ _ rfl w.heap.size _ _ _ _ _ rfl rfl o6 (by omega) hs6 ?_; intro a7 cap7 w7 o7 hb7)
      have A7 := A6.later hb7 hgl
      clear A6 o6 hb7
      go_roundw
      case rel => exact ⟨k - 1, j + 1, a7, cap7, _, t6, by omega, congrArg (Value.int .i64) (by omega), rfl, o7, A7, by omega⟩
      case measure => simp [intOf]; omega
    · go_wp2_with fail
      refine (pick_cur g t' 20 _ A.cur (by omega) (by omega)).mono ?_
      rintro e w5 ⟨z, rfl, z0, z1, ⟨t5, x1, x2, hc5⟩, hg5⟩
      have A5 := A.pick hc5 hg5
      have o5 := hown.kept hg5 (.inl hgl)
      have hs5 := A5.size
      have hg5l := A5.cur.lt
      clear hc5 hg5 hown A z1
      by_cases h0 : (z == 0) = true
      · go_wp2_with fail
        refine (among_cur g t5 _ 4 4 [-1, 1 + q, 0, 4611686018427387904] _ (A5.later (alloc_below _ _) (by omega)).cur (by omega) (has_lit4 w5 (-1) (1 + q) 0 4611686018427387904) (by omega) (by omega) (lit_ne A5.cur)).mono ?_
        rintro e w6 ⟨v6, rfl, _, ⟨t6, x3, x4, hc6⟩, hg6⟩
        have A5' := A5.later (alloc_below w5 (.cells #[.int .i64 (-1), .int .i64 (1 + q), .int .i64 0, .int .i64 4611686018427387904] 3)) (by omega)
        have A6 := A5'.pick hc6 hg6
        have o6 := (o5.below (alloc_below w5 (.cells #[.int .i64 (-1), .int .i64 (1 + q), .int .i64 0, .int .i64 4611686018427387904] 3)) (Nat.le_refl _)).kept hg6 (.inl hgl)
        have hs6 := A6.size
        clear hc6 hg6 o5 A5 A5'
        go_wp2_with (at_builtin; refine wpList_append_int _ rfl _ _ rfl w.heap.size _ _ _ _ _ rfl rfl o6 (by omega) hs6 ?_; intro a7 cap7 w7 o7 hb7)
        have A7 := A6.later hb7 hgl
        clear A6 o6 hb7
        go_ret2
        exact ⟨_, _, _, _, 1 + q, rfl, o7, by omega, by omega, by omega, _, A7, by omega⟩
      · have h0' := Bool.eq_false_iff.2 h0
        clear h0
        by_cases h1 : (z == 1) = true
        · go_wp2_with fail
          go_loopg [5] (10 - j) (fun q2 o wr => ∃ (m : Nat) (a' : Option Addr) (cap' : Nat) (xs : List Int) (t' : Nat), m + q2 = 10 ∧ 0 < q2 ∧ o = .slice a' m cap' ∧ Own wr w.heap.size a' m cap' xs ∧ At w wr g t' ∧ t' ≤ 3000 + 8 * m)
          case atStart => exact ⟨j, a', cap', xs, t5, by omega, by omega, rfl, o5, A5, by omega⟩
          case round =>
            obtain ⟨m, a', cap', xs, t', hmq, hq0, rfl, hown, A, ht'⟩ := hrel
            clear A5 o5
            go_wp2_with fail
            refine (pick_cur g t' 2 _ A.cur (by omega) (by omega)).mono ?_
            rintro e w6 ⟨v6, rfl, v60, v61, ⟨t6, x3, x4, hc6⟩, hg6⟩
            have A6 := A.pick hc6 hg6
            have o6 := hown.kept hg6 (.inl hgl)
            have hv6 : v6 ≤ 1 := by omega
            clear hc6 hg6 hown A v61
            by_cases hlt : (m : Int) < 8 + v6
            · go_wp2_with fail
              refine (pick_cur g t6 (1 + q) _ A6.cur (by omega) (by omega)).mono ?_
              rintro e w7 ⟨v7, rfl, v70, v71, ⟨t7, x5, x6, hc7⟩, hg7⟩
              have A7 := A6.pick hc7 hg7
              have o7 := o6.kept hg7 (.inl hgl)
              have hs7 := A7.size
              clear hc7 hg7 o6 A6 v71
              go_wp2_with (at_builtin; refine wpList_append_int _ rfl _ _ rfl w.heap.size _ _ _ _ _ rfl rfl o7 (by omega) hs7 ?_; intro a8 cap8 w8 o8 hb8)
              have A8 := A7.later hb8 hgl
              clear A7 o7 hb8
              go_roundg (gk - 1)
              case rel => exact ⟨m + 1, a8, cap8, _, t7, by omega, by omega, rfl, o8, A8, by omega⟩
              case measure => omega
            · go_wp2_with fail
              go_ret2
              exact ⟨_, _, _, _, 1 + q, rfl, o6, by omega, by omega, by omega, _, A6, by omega⟩
        · have h1' := Bool.eq_false_iff.2 h1
          clear h1
          by_cases h2 : (z == 2) = true
          · go_wp2_with fail
            refine (among_cur g t5 _ 4 4 [0, -1, 12, 13] _ (A5.later (alloc_below _ _) (by omega)).cur (by omega) (has_lit4 w5 0 (-1) 12 13) (by omega) (by omega) (lit_ne A5.cur)).mono ?_
            rintro e w6 ⟨v6, rfl, hv6, ⟨t6, x3, x4, hc6⟩, hg6⟩
            have hv6' : -1 ≤ v6 ∧ v6 ≤ 13 := by simp at hv6; omega
            have A5' := A5.later (alloc_below w5 (.cells #[.int .i64 0, .int .i64 (-1), .int .i64 12, .int .i64 13] 3)) (by omega)
            have A6 := A5'.pick hc6 hg6
            have o6 := (o5.below (alloc_below w5 (.cells #[.int .i64 0, .int .i64 (-1), .int .i64 12, .int .i64 13] 3)) (Nat.le_refl _)).kept hg6 (.inl hgl)
            clear hc6 hg6 o5 A5 A5' hv6
            go_wp2_with fail
            go_ret2
            exact ⟨_, _, _, _, _, rfl, o6, by omega, by omega, by omega, _, A6, by omega⟩
          · have h2' := Bool.eq_false_iff.2 h2
            clear h2
            go_wp2_with fail
            go_ret2
            exact ⟨_, _, _, _, _, rfl, o5, by omega, by omega, by omega, _, A5, by omega⟩

theorem favourites_cur (g t : Nat) (w : World) (h : Cur w g t) (ht : t ≤ 1000) :
    Calls Try.prog 67 #[.pointer (some ⟨g, 0, none⟩)] w (DrewFav w g) :=
  (favourites_at g t w h ht).mono fun _ _ ⟨a, n, cap, xs, p, h1, h2, h3, h4, h5, _, h6, _⟩ => ⟨a, n, cap, xs, p, h1, h2, h3, h4, h5, h6.below⟩

/-- A slice of bytes that came in. -/
theorem cur_new {w : World} {a : Option Addr} {n cap : Nat} (h : HasB w a n w.heap.size) : Cur (w.alloc (.cells #[.slice a n cap, .int .i64 0, .int .u64 0] 64)) w.heap.size 0 := by
  refine ⟨⟨a, n, cap, ?_, h.1, fun hp => ?_⟩, ?_, ⟨0, by omega, by omega, ?_⟩, fun i => ?_, by simp⟩
  · rw [World.cell?_alloc_at _ _ _ _ rfl]; rfl
  · obtain ⟨b, off, ha, hb, hc⟩ := h.2 hp
    refine ⟨b, off, ha, hb, fun i hi => ?_⟩
    obtain ⟨u, u0, u1, hu⟩ := hc i hi
    exact ⟨u, u0, u1, by rw [World.cell?_alloc_past _ _ _ hb]; exact hu⟩
  · rw [World.cell?_alloc_at _ _ _ _ rfl]; rfl
  · rw [World.cell?_alloc_at _ _ _ _ rfl]; rfl
  · rw [World.frozen?_alloc_at _ _ _ _ rfl]

/-- What a draw of favourites leaves to its caller. -/
def DrewFav' (w : World) (e : Ending) (w' : World) : Prop :=
  ∃ a n cap xs p, e = .returned (.tuple #[.slice a n cap, .int .i64 p]) ∧ Own w' w.heap.size a n cap xs ∧ n ≤ 10 ∧ -1 ≤ p ∧ p ≤ 13 ∧ Below w.heap.size w w'

end Go.Proofs.Ytnddplldkgphnac

namespace Go.Proofs.Ytnddplldkgphnac
open Go.RowKit

theorem HasB.grow {w w' : World} {a : Option Addr} {n K : Nat} (h : HasB w a n K) (hb : Below K w w') (hK : K ≤ w.heap.size) : HasB w' a n w'.heap.size := by
  refine ⟨h.1, fun hx => ?_⟩
  obtain ⟨b, off, ha, hbk, hc⟩ := h.2 hx
  refine ⟨b, off, ha, Nat.lt_of_lt_of_le hbk (Nat.le_trans hK hb.size), fun i hi => ?_⟩
  obtain ⟨u, u0, u1, hu⟩ := hc i hi
  exact ⟨u, u0, u1, by rw [hb.cell (p := ⟨b, off + i, none⟩) hbk]; exact hu⟩

/-- A number put into a list. -/
def putIn (xs : List Int) (j : Nat) (x : Int) : List Int := xs.take j ++ [x] ++ xs.drop j
theorem mem_putIn {xs : List Int} {j : Nat} {x y : Int} : y ∈ putIn xs j x ↔ y = x ∨ y ∈ xs := by
  unfold putIn
  have : y ∈ xs ↔ y ∈ xs.take j ∨ y ∈ xs.drop j := by rw [← List.mem_append, List.take_append_drop]
  simp only [List.mem_append, List.mem_singleton, this]
  constructor
  · rintro ((h | h) | h)
    · exact .inr (.inl h)
    · exact .inl h
    · exact .inr (.inr h)
  · rintro (h | h | h)
    · exact .inl (.inr h)
    · exact .inl (.inl h)
    · exact .inr h
def Within (xs : List Int) (lo hi : Int) : Prop := ∀ x ∈ xs, lo ≤ x ∧ x ≤ hi
theorem Within.put {xs : List Int} {lo hi x : Int} {j : Nat} (h : Within xs lo hi) (hx : lo ≤ x ∧ x ≤ hi) : Within (putIn xs j x) lo hi := by
  intro y hy
  rcases mem_putIn.1 hy with rfl | hy
  · exact hx
  · exact h y hy
theorem Within.snoc {xs : List Int} {lo hi x : Int} (h : Within xs lo hi) (hx : lo ≤ x ∧ x ≤ hi) : Within (xs ++ [x]) lo hi := by
  intro y hy
  rcases List.mem_append.1 hy with hy | hy
  · exact h y hy
  · rw [List.mem_singleton] at hy; subst hy; exact hx
theorem Within.set {xs : List Int} {lo hi x : Int} {i : Nat} (h : Within xs lo hi) (hx : lo ≤ x ∧ x ≤ hi) : Within (xs.set i x) lo hi := by
  intro y hy
  rcases List.mem_or_eq_of_mem_set hy with hy | rfl
  · exact h y hy
  · exact hx
theorem Within.wide {xs : List Int} {lo hi lo' hi' : Int} (h : Within xs lo hi) (h1 : lo' ≤ lo) (h2 : hi ≤ hi') : Within xs lo' hi' := fun y hy => by have := h y hy; omega

/-- The cursor stands; its block alone was written among those that were there. -/
structure AtG (w0 w : World) (g t : Nat) : Prop where
  cur : Cur w g t
  grew : w0.grownBy w (some g)
  lt : g < w0.heap.size
theorem AtG.new {w : World} {g t : Nat} (h : Cur w g t) : AtG w w g t := ⟨h, World.grownBy.refl _ _, h.lt⟩
theorem AtG.size {w0 w : World} {g t : Nat} (h : AtG w0 w g t) : w0.heap.size ≤ w.heap.size := h.grew.size
theorem grown_then {w w1 w2 : World} {r : Option Nat} (h : w.grownBy w1 r) (h' : w1.grownBy w2 r) : w.grownBy w2 r :=
  ⟨h'.os.trans h.os, h'.tape.trans h.tape, h'.output.trans h.output, Nat.le_trans h.size h'.size, fun j hj hne => (h'.block j (Nat.lt_of_lt_of_le hj h.size) hne).trans (h.block j hj hne)⟩
theorem AtG.pick {w0 w w' : World} {g t t' : Nat} (h : AtG w0 w g t) (hc : Cur w' g t') (hg : w.grownBy w' (some g)) : AtG w0 w' g t' := ⟨hc, grown_then h.grew hg, h.lt⟩
theorem AtG.later {w0 w w' : World} {g t K : Nat} (h : AtG w0 w g t) (hb : Below K w w') (hK : w0.heap.size ≤ K) : AtG w0 w' g t :=
  ⟨h.cur.below hb (Nat.lt_of_lt_of_le h.lt hK), ⟨hb.os.trans h.grew.os, hb.tape.trans h.grew.tape, hb.output.trans h.grew.output, Nat.le_trans h.grew.size hb.size, fun j hj hne => (hb.block j (Nat.lt_of_lt_of_le hj hK)).trans (h.grew.block j hj hne)⟩, h.lt⟩
theorem AtG.below {w0 w : World} {g t : Nat} (h : AtG w0 w g t) : Below g w0 w := below_grown h.grew (Nat.le_of_lt h.lt) fun k hk => by cases hk; exact Nat.le_refl _
theorem AtG.trans {w0 w w' : World} {g t t' : Nat} (h : AtG w0 w g t) (h' : AtG w w' g t') : AtG w0 w' g t' := ⟨h'.cur, grown_then h.grew h'.grew, h.lt⟩

/-- A list that was drawn. -/
def DrewList (w : World) (g t : Nat) (e : Ending) (w' : World) : Prop :=
  ∃ a n cap xs t', e = .returned (.slice a n cap) ∧ Own w' w.heap.size a n cap xs ∧ n ≤ 10 ∧ Within xs (-1) 100 ∧ AtG w w' g t' ∧ t' ≤ t + 100

set_option maxHeartbeats 8000000 in
theorem park_cur (g t : Nat) (most : Int) (w : World) (h : Cur w g t) (ht : t ≤ 1000) (hm0 : 0 ≤ most) (hm : most ≤ 8) :
    Calls Try.prog 64 #[.pointer (some ⟨g, 0, none⟩), .int .i64 most] w (DrewList w g t) := by
  have hgl := h.lt
  have A0 := AtG.new h
  go_enter Try.func64, Try.ntmps64
  go_wp2_with fail
  refine (pick_cur g t (most + 1) _ A0.cur (by omega) (by omega)).mono ?_
  rintro e w1 ⟨v, rfl, v0, v1, ⟨t1, ta, tb, hc1⟩, hg1⟩
  obtain ⟨nn, rfl⟩ : ∃ nn : Nat, v = (nn : Int) := ⟨_, (Int.toNat_of_nonneg v0).symm⟩
  have hnn : nn ≤ 8 := by omega
  have A1 := A0.pick hc1 hg1
  clear hc1 hg1 v0 v1 A0
  go_wp2_with fail
  go_loopw [5, 6] (fun o n wr => ∃ (k j : Nat) (a' : Option Addr) (cap' : Nat) (xs : List Int) (t' : Nat), k + j ≤ 8 ∧ n = .int .i64 (k : Int) ∧ o = .slice a' j cap' ∧ Own wr w.heap.size a' j cap' xs ∧ Within xs 0 8 ∧ AtG w wr g t' ∧ t' ≤ t + 2 + 4 * j) (fun _ n _ => (intOf n).toNat)
  case atStart => exact ⟨nn, 0, none, 0, [], t1, by omega, rfl, rfl, Own.nil _ _, (fun x hx => by simp at hx), A1, by omega⟩
  case round =>
    obtain ⟨k, j, a', cap', xs, t', hkj, rfl, rfl, hown, hin, A, ht'⟩ := hrel
    have HI := hid hin
    clear A1 hin
    by_cases hk : 0 < k
    · skip
      go_wp2_with fail
      refine (pick_cur g t' ((j : Int) + 1) _ A.cur (by omega) (by omega)).mono ?_
      rintro e w5 ⟨qx, rfl, q0, q1, ⟨t2, x1, x2, hcc⟩, hgg⟩
      obtain ⟨x, rfl⟩ : ∃ x : Nat, qx = (x : Int) := ⟨_, (Int.toNat_of_nonneg q0).symm⟩
      have hx : x ≤ j := by omega
      replace hown := hown.kept hgg (.inl hgl)
      replace A := A.pick hcc hgg
      clear hcc hgg q0 q1
      go_wp2_with fail
      refine (pick_cur g t2 ((j : Int) + 1) _ A.cur (by omega) (by omega)).mono ?_
      rintro e w6 ⟨qy, rfl, q0, q1, ⟨t3, x1, x2, hcc⟩, hgg⟩
      obtain ⟨y, rfl⟩ : ∃ y : Nat, qy = (y : Int) := ⟨_, (Int.toNat_of_nonneg q0).symm⟩
      have hy : y ≤ j := by omega
      replace hown := hown.kept hgg (.inl hgl)
      replace A := A.pick hcc hgg
      clear hcc hgg q0 q1
      cases a' with
      | none =>
        obtain ⟨hk1, hcap1, hnil⟩ := hown.noneOf
        have hk0 : j ≤ 0 := by omega
        have hcap0 : cap' ≤ 0 := by omega
        have hat0 : y ≤ 0 := by omega
        subst hnil
        obtain rfl : y = 0 := by omega
        clear hk1 hcap1
        go_wp2_with fail
        refine (l1Own_any _ _ _ _ _ (Has.empty none (Nat.le_refl _) (Nat.le_refl _))).mono ?_
        rintro e w2 ⟨a2, cap2, rfl, hown2, hb2⟩
        go_wp2_with (first | (at_builtin; refine wpList_append_int _ rfl _ _ rfl w6.heap.size _ _ _ _ _ rfl rfl hown2 (by omega) hb2.size ?_; intro a3 cap3 w3 hown3 hb3) | (at_builtin; refine wpList_append_ints _ rfl _ _ rfl w6.heap.size _ none _ _ _ _ _ [] rfl rfl hown3 (Has.empty none (by omega) (by omega)) (by omega) (Nat.le_trans hb2.size hb3.size) ?_; intro a4 n4 cap4 w4 hn4 hown4 hb4))
        have hbb := (hb2.trans hb3).trans hb4
        have A4 := A.later hbb (A.size)
        have hown5 : Own w4 w.heap.size a4 (j + 1) cap4 (putIn [] 0 (x : Int)) := (hown4.mono A.size).relen (by omega) (by simp [putIn])
        have hn5 : n4 = j + 1 := by omega
        clear hown4 hown3 hown2 hb2 hb3 hb4 hbb hn4
        go_roundw
        case rel => exact ⟨k - 1, j + 1, a4, cap4, _, t3, by omega, by go_num, slice_len (by omega), hown5, HI.out.put ⟨by omega, by omega⟩, A4, by omega⟩
        case measure => simp [intOf]; omega
      | some pp =>
        obtain ⟨gg, rfl, hg1, hg2, hg3, hg4, hkc⟩ := hown.someOf
        have HA := hown.has
        have HLO := hid hown.len
        clear hg3 hg4
        by_cases hjk : y < j
        · skip
          have hcj : ¬ cap' = y := by omega
          go_wp2_with fail
          refine (l1Own_any _ _ _ _ _ (HA.take (k := y) (by omega))).mono ?_
          rintro e w2 ⟨a2, cap2, rfl, hown2, hb2⟩
          have hd2 := (HA.drop (k := y) (by omega)).below hb2 (Nat.le_refl _)
          rw [Nat.zero_add] at hd2
          have hblk : ∀ p, (some ⟨gg, y, none⟩ : Option Addr) = some p → p.block < w6.heap.size := fun p hp => by cases hp; exact hg2
          have HBK := hid hblk
          clear hblk
          go_wp2_with (first | (at_builtin; refine wpList_append_int _ rfl _ _ rfl w6.heap.size _ _ _ _ _ rfl rfl hown2 (by omega) hb2.size ?_; intro a3 cap3 w3 hown3 hb3) | (at_builtin; refine wpList_append_ints _ rfl _ _ rfl w6.heap.size _ _ _ _ _ _ _ _ rfl rfl hown3 (hd2.belowB hb3 HBK.out) (by omega) (Nat.le_trans hb2.size hb3.size) ?_; intro a4 n4 cap4 w4 hn4 hown4 hb4))
          clear hd2 HBK
          have hbb := (hb2.trans hb3).trans hb4
          have A4 := A.later hbb (A.size)
          have hown5 : Own w4 w.heap.size a4 (j + 1) cap4 (putIn xs y (x : Int)) := (hown4.mono A.size).relen (by omega) (by unfold putIn; rfl)
          have hn5 : n4 = j + 1 := by omega
          clear hown4 hown3 hown2 hb2 hb3 hb4 hbb hn4
          go_roundw
          case rel => exact ⟨k - 1, j + 1, a4, cap4, _, t3, by omega, by go_num, slice_len (by omega), hown5, HI.out.put ⟨by omega, by omega⟩, A4, by omega⟩
          case measure => simp [intOf]; omega
        · skip
          obtain rfl : j = y := by omega
          clear hjk
          by_cases hcj : cap' = j
          · skip
            obtain rfl : j = cap' := hcj.symm
            clear hcj
            have hmax : 0 ≤ maxLen := by unfold maxLen; omega
            have HMX := hid hmax
            clear hmax
            go_wp2_with fail
            refine (l1Own_any _ _ _ _ _ (HA.take (k := j) (by omega))).mono ?_
            rintro e w2 ⟨a2, cap2, rfl, hown2, hb2⟩
            go_wp2_with (first | (at_builtin; refine wpList_append_int _ rfl _ _ rfl w6.heap.size _ _ _ _ _ rfl rfl hown2 (by omega) hb2.size ?_; intro a3 cap3 w3 hown3 hb3) | (at_builtin; refine wpList_append_ints _ rfl _ _ rfl w6.heap.size _ _ _ _ _ _ _ [] rfl rfl hown3 (Has.nilAt _ (by unfold maxLen; omega)) (by omega) (Nat.le_trans hb2.size hb3.size) ?_; intro a4 n4 cap4 w4 hn4 hown4 hb4))
            have hbb := (hb2.trans hb3).trans hb4
            have A4 := A.later hbb (A.size)
            have hown5 : Own w4 w.heap.size a4 (j + 1) cap4 (putIn xs j (x : Int)) := (hown4.mono A.size).relen (by omega) (by unfold putIn; rw [List.drop_eq_nil_of_le (by rw [HLO.out]; exact Nat.le_refl _)])
            have hn5 : n4 = j + 1 := by omega
            clear hown4 hown3 hown2 hb2 hb3 hb4 hbb hn4
            go_roundw
            case rel => exact ⟨k - 1, j + 1, a4, cap4, _, t3, by omega, by go_num, slice_len (by omega), hown5, HI.out.put ⟨by omega, by omega⟩, A4, by omega⟩
            case measure => simp [intOf]; omega
          · skip
            have hmax : cap' - j ≤ maxLen := by have := HA.2.2.1; omega
            have HMX := hid hmax
            clear hmax
            go_wp2_with fail
            refine (l1Own_any _ _ _ _ _ (HA.take (k := j) (by omega))).mono ?_
            rintro e w2 ⟨a2, cap2, rfl, hown2, hb2⟩
            go_wp2_with (first | (at_builtin; refine wpList_append_int _ rfl _ _ rfl w6.heap.size _ _ _ _ _ rfl rfl hown2 (by omega) hb2.size ?_; intro a3 cap3 w3 hown3 hb3) | (at_builtin; refine wpList_append_ints _ rfl _ _ rfl w6.heap.size _ _ _ _ _ _ _ [] rfl rfl hown3 (Has.nilAt _ HMX.out) (by omega) (Nat.le_trans hb2.size hb3.size) ?_; intro a4 n4 cap4 w4 hn4 hown4 hb4))
            have hbb := (hb2.trans hb3).trans hb4
            have A4 := A.later hbb (A.size)
            have hown5 : Own w4 w.heap.size a4 (j + 1) cap4 (putIn xs j (x : Int)) := (hown4.mono A.size).relen (by omega) (by unfold putIn; rw [List.drop_eq_nil_of_le (by rw [HLO.out]; exact Nat.le_refl _)])
            have hn5 : n4 = j + 1 := by omega
            clear hown4 hown3 hown2 hb2 hb3 hb4 hbb hn4
            go_roundw
            case rel => exact ⟨k - 1, j + 1, a4, cap4, _, t3, by omega, by go_num, slice_len (by omega), hown5, HI.out.put ⟨by omega, by omega⟩, A4, by omega⟩
            case measure => simp [intOf]; omega
    · skip
      obtain rfl : k = 0 := by omega
      go_wp2_with fail
      refine (pick_cur g t' 20 _ A.cur (by omega) (by omega)).mono ?_
      rintro e w5 ⟨z, rfl, z0, z1, ⟨t5, x1, x2, hc5⟩, hg5⟩
      have o5 := hown.kept hg5 (.inl hgl)
      have A5 := A.pick hc5 hg5
      clear hc5 hg5 hown A
      by_cases h0 : (z == 0) = true
      · skip
        go_wp2_with fail
        refine (among_cur g t5 _ 6 6 [-1, 0, (j : Int), (j : Int) + 1, 99, 100] _ (A5.later (alloc_below _ _) (A5.size)).cur (by omega) (has_lit6 w5 (-1) 0 (j : Int) ((j : Int) + 1) 99 100) (by omega) (by omega) (lit_ne A5.cur)).mono ?_
        rintro e w6 ⟨v6, rfl, hv6, ⟨t6, x3, x4, hc6⟩, hg6⟩
        have hv6b : -1 ≤ v6 ∧ v6 ≤ 100 := by simp at hv6; omega
        have A5' := A5.later (alloc_below w5 (.cells #[.int .i64 (-1), .int .i64 0, .int .i64 (j : Int), .int .i64 ((j : Int) + 1), .int .i64 99, .int .i64 100] 3)) (A5.size)
        have A6 := A5'.pick hc6 hg6
        have o6 := (o5.below (alloc_below w5 (.cells #[.int .i64 (-1), .int .i64 0, .int .i64 (j : Int), .int .i64 ((j : Int) + 1), .int .i64 99, .int .i64 100] 3)) (Nat.le_refl _)).kept hg6 (.inl hgl)
        have hs6 := A6.size
        clear hc6 hg6 o5 A5 A5' hv6
        go_wp2_with (at_builtin; refine wpList_append_int _ rfl _ _ rfl w.heap.size _ _ _ _ _ rfl rfl o6 (by omega) hs6 ?_; intro a7 cap7 w7 o7 hb7)
        have A7 := A6.later hb7 (Nat.le_refl _)
        go_ret
        exact ⟨_, _, _, _, t6, rfl, o7, by omega, (HI.out.wide (by omega) (by omega)).snoc hv6b, A7, by omega⟩
      · skip
        have h0' := Bool.eq_false_iff.2 h0
        clear h0
        by_cases h1 : (z == 1) = true
        · skip
          by_cases hj0 : 0 < j
          · skip
            go_wp2_with fail
            refine (pick_cur g t5 (j : Int) _ A5.cur (by omega) (by omega)).mono ?_
            rintro e w6 ⟨qx, rfl, q0, q1, ⟨t6, x3, x4, hc6⟩, hg6⟩
            obtain ⟨x, rfl⟩ : ∃ x : Nat, qx = (x : Int) := ⟨_, (Int.toNat_of_nonneg q0).symm⟩
            have hx : x < j := by omega
            have o6 := o5.kept hg6 (.inl hgl)
            have A6 := A5.pick hc6 hg6
            clear hc6 hg6 o5 A5 q0 q1
            go_wp2_with fail
            refine (pick_cur g t6 (j : Int) _ A6.cur (by omega) (by omega)).mono ?_
            rintro e w7 ⟨qy, rfl, q0, q1, ⟨t7, x5, x6, hc7⟩, hg7⟩
            obtain ⟨y, rfl⟩ : ∃ y : Nat, qy = (y : Int) := ⟨_, (Int.toNat_of_nonneg q0).symm⟩
            have hy : y < j := by omega
            have o7 := o6.kept hg7 (.inl hgl)
            have A7 := A6.pick hc7 hg7
            clear hc7 hg7 o6 A6 q0 q1
            obtain ⟨gg, rfl, hgB, hg2, hg3, hg4⟩ := o7.opened hj0
            have hgk := hg3 x hx
            have hgf := hg4 x
            have hxi : (x : Int) < (j : Int) := by omega
            clear hg3 hg4
            go_wp2_with fail
            go_ret
            obtain ⟨s1, s2⟩ := o7.set x (y : Int)
            exact ⟨_, _, _, _, t7, rfl, s1, by omega, (HI.out.wide (by omega) (by omega)).set ⟨by omega, by omega⟩, A7.later ((Below.refl w.heap.size w7).setCell hgB _) (Nat.le_refl _), by omega⟩
          · skip
            go_wp2_with fail
            go_ret
            exact ⟨_, _, _, _, t5, rfl, o5, by omega, HI.out.wide (by omega) (by omega), A5, by omega⟩
        · skip
          have h1' := Bool.eq_false_iff.2 h1
          clear h1
          by_cases h2 : (z == 2) = true
          · skip
            go_wp2_with fail
            go_loopg [5] (10 - j) (fun q2 o wr => ∃ (m : Nat) (a' : Option Addr) (cap' : Nat) (xs : List Int), m + q2 = 10 ∧ 0 < q2 ∧ o = .slice a' m cap' ∧ Own wr w.heap.size a' m cap' xs ∧ Within xs (-1) 100 ∧ AtG w wr g t5)
            case atStart => exact ⟨j, a', cap', xs, by omega, by omega, rfl, o5, HI.out.wide (by omega) (by omega), A5⟩
            case round =>
              obtain ⟨m, a', cap', xs, hmq, hq0, rfl, hown, hin, A⟩ := hrel
              have HI2 := hid hin
              have hs := A.size
              clear A5 o5 hin
              by_cases hm9 : m < 9
              · skip
                go_wp2_with (at_builtin; refine wpList_append_int _ rfl _ _ rfl w.heap.size _ _ _ _ _ rfl rfl hown (by omega) hs ?_; intro a8 cap8 w8 o8 hb8)
                have A8 := A.later hb8 (Nat.le_refl _)
                go_roundg (gk - 1)
                case rel => exact ⟨m + 1, a8, cap8, _, by omega, by omega, rfl, o8, HI2.out.snoc ⟨by omega, by omega⟩, A8⟩
                case measure => omega
              · skip
                go_wp2_with fail
                go_ret
                exact ⟨_, _, _, _, t5, rfl, hown, by omega, HI2.out, A, by omega⟩
          · skip
            have h2' := Bool.eq_false_iff.2 h2
            clear h2
            go_wp2_with fail
            go_ret
            exact ⟨_, _, _, _, t5, rfl, o5, by omega, HI.out.wide (by omega) (by omega), A5, by omega⟩
end Go.Proofs.Ytnddplldkgphnac

namespace Go.Proofs.Ytnddplldkgphnac
open Go.RowKit

theorem has_lit7D (w : World) (a b c d e f g : Int) : Has (w.alloc (.cells #[.int .i64 a, .int .i64 b, .int .i64 c, .int .i64 d, .int .i64 e, .int .i64 f, .int .i64 g] 3)) (some ⟨w.heap.size, 0, none⟩) 7 7 [a, b, c, d, e, f, g] := has_lit w [a, b, c, d, e, f, g] (by simp)
end Go.Proofs.Ytnddplldkgphnac

namespace Go.Proofs.Ytnddplldkgphnac
open Go.RowKit

theorem has_lit8B (w : World) (a b c d e f g i : Int) : Has (w.alloc (.cells #[.int .i64 a, .int .i64 b, .int .i64 c, .int .i64 d, .int .i64 e, .int .i64 f, .int .i64 g, .int .i64 i] 3)) (some ⟨w.heap.size, 0, none⟩) 8 8 [a, b, c, d, e, f, g, i] := has_lit w [a, b, c, d, e, f, g, i] (by simp)
theorem has_lit7B (w : World) (a b c d e f g : Int) : Has (w.alloc (.cells #[.int .i64 a, .int .i64 b, .int .i64 c, .int .i64 d, .int .i64 e, .int .i64 f, .int .i64 g] 3)) (some ⟨w.heap.size, 0, none⟩) 7 7 [a, b, c, d, e, f, g] := has_lit w [a, b, c, d, e, f, g] (by simp)
theorem freshB (w : World) (a : Option Addr) (n cap : Nat) : Below w.heap.size w (w.alloc (.cells #[.slice a n cap, .int .i64 0, .int .u64 0] 64)) := (Below.refl _ _).alloc (Nat.le_refl _) _
set_option maxRecDepth 100000 in
set_option maxHeartbeats 1600000 in
theorem drawBack_any (a : Option Addr) (n cap : Nat) (w : World) (h : HasB w a n w.heap.size) :
    Calls Try.prog 29 #[.slice a n cap] w fun e w' => ∃ a n cap xs, ∃ p m : Int, e = .returned (.tuple #[.slice a n cap, .int .i64 p, .int .i64 m]) ∧ Own w' w.heap.size a n cap xs ∧ n ≤ 10 ∧ -1 ≤ p ∧ p ≤ 13 ∧ -1 ≤ m ∧ m ≤ 9 ∧ Below w.heap.size w w' := by
  have C0 := cur_new (cap := cap) h
  have hb0 := freshB w a n cap
  obtain ⟨w1, hw1⟩ : ∃ w1, w.alloc (.cells #[.slice a n cap, .int .i64 0, .int .u64 0] 64) = w1 := ⟨_, rfl⟩
  have hs1 : w1.heap.size = w.heap.size + 1 := by rw [← hw1]; simp
  rw [hw1] at C0 hb0
  have HW := hid hw1
  clear hw1
  go_enter Try.func29, Try.ntmps29
  go_wp2_with fail
  rw [HW.out]
  clear HW
  refine (favourites_at _ 0 _ C0 (by omega)).mono ?_
  rintro e w2 ⟨a1, n1, c1, xs, p1, rfl, o, hn, hp1, hp2, t2, A1, ht⟩
  have hgl := A1.cur.lt
  have A2 := A1.later (alloc_below w2 (.cells #[.int .i64 0, .int .i64 1, .int .i64 1, .int .i64 2, .int .i64 3, .int .i64 8, .int .i64 9, .int .i64 (-1)] 3)) A1.cur.lt
  have o2 := o.below (alloc_below w2 (.cells #[.int .i64 0, .int .i64 1, .int .i64 1, .int .i64 2, .int .i64 3, .int .i64 8, .int .i64 9, .int .i64 (-1)] 3)) (Nat.le_refl _)
  go_wp2_with fail
  refine (among_cur _ t2 _ 8 8 [0, 1, 1, 2, 3, 8, 9, -1] _ A2.cur (by omega) (has_lit8B w2 0 1 1 2 3 8 9 (-1)) (by omega) (by omega) (lit_ne A1.cur)).mono ?_
  rintro e w3 ⟨v, rfl, hv, ⟨t3, tc, td, hc2⟩, hg2⟩
  have hv1 : -1 ≤ v ∧ v ≤ 9 := by simp at hv; omega
  have A3 := A2.pick hc2 hg2
  have o3 := (o2.kept hg2 (.inl (by omega))).mono (B' := w.heap.size) (by omega)
  have hb := hb0.trans A3.below
  clear hv hc2 hg2 A1 A2
  go_wp2_with fail
  go_ret3
  exact ⟨_, _, _, _, _, _, rfl, o3, hn, hp1, hp2, hv1.1, hv1.2, hb⟩
set_option maxRecDepth 100000 in
set_option maxHeartbeats 1600000 in
theorem drawCountBack_any (a : Option Addr) (n cap : Nat) (w : World) (h : HasB w a n w.heap.size) :
    Calls Try.prog 37 #[.slice a n cap] w fun e w' => ∃ v m : Int, e = .returned (.tuple #[.int .i64 v, .int .i64 m]) ∧ 0 ≤ v ∧ v ≤ 6 ∧ -1 ≤ m ∧ m ≤ 9 ∧ Below w.heap.size w w' := by
  have C0 := cur_new (cap := cap) h
  have hb0 := freshB w a n cap
  obtain ⟨w1, hw1⟩ : ∃ w1, w.alloc (.cells #[.slice a n cap, .int .i64 0, .int .u64 0] 64) = w1 := ⟨_, rfl⟩
  have hs1 : w1.heap.size = w.heap.size + 1 := by rw [← hw1]; simp
  rw [hw1] at C0 hb0
  have HW := hid hw1
  clear hw1
  go_enter Try.func37, Try.ntmps37
  go_wp2_with fail
  rw [HW.out]
  clear HW
  have A0 : At w1 w1 w.heap.size 0 := ⟨C0, Below.refl _ _⟩
  have A1 := A0.later (alloc_below w1 (.cells #[.int .i64 1, .int .i64 2, .int .i64 3, .int .i64 4, .int .i64 4, .int .i64 5, .int .i64 6, .int .i64 0] 3)) C0.lt
  have hl := has_lit8B w1 1 2 3 4 4 5 6 0
  have hn := lit_ne C0
  rw [hs1] at hl hn
  refine (among_cur w.heap.size 0 _ 8 8 [1, 2, 3, 4, 4, 5, 6, 0] _ A1.cur (by omega) hl (by omega) (by omega) hn).mono ?_
  rintro e w2 ⟨v, rfl, hv, ⟨t2, tc, td, hc2⟩, hg2⟩
  have hv1 : 0 ≤ v ∧ v ≤ 6 := by simp at hv; omega
  have A2 := A1.pick hc2 hg2
  clear hv hc2 hg2 A1 A0
  have A3 := A2.later (alloc_below w2 (.cells #[.int .i64 0, .int .i64 1, .int .i64 2, .int .i64 3, .int .i64 8, .int .i64 9, .int .i64 (-1)] 3)) A2.cur.lt
  go_wp2_with fail
  refine (among_cur _ t2 _ 7 7 [0, 1, 2, 3, 8, 9, -1] _ A3.cur (by omega) (has_lit7B w2 0 1 2 3 8 9 (-1)) (by omega) (by omega) (lit_ne A2.cur)).mono ?_
  rintro e w3 ⟨m, rfl, hm, ⟨t3, te, tf, hc3⟩, hg3⟩
  have hm1 : -1 ≤ m ∧ m ≤ 9 := by simp at hm; omega
  have A4 := A3.pick hc3 hg3
  have hb := hb0.trans A4.below
  clear hm hc3 hg3 A2 A3
  go_wp2_with fail
  go_ret2
  exact ⟨_, _, rfl, hv1.1, hv1.2, hm1.1, hm1.2, hb⟩
end Go.Proofs.Ytnddplldkgphnac

namespace Go.Proofs.Ytnddplldkgphnac
open Go.RowKit

/-- How many stand on a place from j on. -/
def geN (L : List Int) (j : Int) : Nat := L.countP fun y => decide (j ≤ y)
theorem geN_snoc (L : List Int) (y j : Int) : geN (L ++ [y]) j = geN L j + if j ≤ y then 1 else 0 := by
  unfold geN
  rw [List.countP_append]
  simp [List.countP_cons]
theorem geN_cons (y : Int) (L : List Int) (j : Int) : geN (y :: L) j = geN L j + if j ≤ y then 1 else 0 := by
  simp [geN, List.countP_cons]
theorem geN_step : ∀ {L : List Int}, L.Nodup → ∀ j : Int, geN L j = geN L (j + 1) + if j ∈ L then 1 else 0
  | [], _, j => by simp [geN]
  | y :: L, h, j => by
    rw [List.nodup_cons] at h
    rw [geN_cons, geN_cons, geN_step h.2 j]
    by_cases e : j = y
    · subst e
      rw [if_neg h.1, if_pos (Int.le_refl _), if_neg (by omega : ¬ j + 1 ≤ j), if_pos List.mem_cons_self]
    · have hm : (j ∈ y :: L) ↔ j ∈ L := by simp [e]
      have e3 : (j ≤ y) ↔ (j + 1 ≤ y) := by omega
      simp only [hm, e3]
      exact Nat.add_right_comm _ _ _
theorem geN_le {L : List Int} (h : L.Nodup) (i : Int) : ∀ f : Nat, geN L i ≤ geN L (i + f) + f
  | 0 => by simp
  | f + 1 => by
    have ih := geN_le h i f
    have hs := geN_step h (i + f)
    rw [show i + ((f + 1 : Nat) : Int) = i + f + 1 by omega]
    split at hs <;> omega
theorem geN_gap {L : List Int} (h : L.Nodup) (i b : Int) (hb : b ∉ L) (hib : i ≤ b) : ∀ f : Nat, b < i + f → geN L i + 1 ≤ geN L (i + f) + f
  | 0, hlt => by omega
  | f + 1, hlt => by
    have hs := geN_step h (i + f)
    rw [show i + ((f + 1 : Nat) : Int) = i + f + 1 by omega]
    by_cases e : b = i + f
    · have := geN_le h i f
      rw [if_neg (by rw [← e]; exact hb)] at hs
      omega
    · have ih := geN_gap h i b hb hib f (by omega)
      split at hs <;> omega
theorem geN_full {L : List Int} (h : L.Nodup) (i : Int) : ∀ f : Nat, (∀ z, i ≤ z → z < i + f → z ∈ L) → geN L (i + f) + f ≤ geN L i
  | 0, _ => by simp
  | f + 1, hf => by
    have ih := geN_full h i f (fun z a b => hf z a (by omega))
    have hs := geN_step h (i + f)
    rw [show i + ((f + 1 : Nat) : Int) = i + f + 1 by omega]
    rw [if_pos (hf _ (by omega) (by omega))] at hs
    omega
theorem geN_top {L : List Int} {p : Int} (h : ∀ y ∈ L, y < p) : geN L p = 0 := by
  unfold geN
  rw [List.countP_eq_zero]
  intro y hy
  have := h y hy
  simp
  omega

theorem lookBack_spec (out : List Int) : ∀ (f : Nat) (x : Int), (lookBack out f x = -1 ∧ ∀ z, x - f < z → z ≤ x → 0 ≤ z → z ∈ out) ∨ (0 ≤ lookBack out f x ∧ lookBack out f x ≤ x ∧ x - f < lookBack out f x ∧ lookBack out f x ∉ out ∧ ∀ z, lookBack out f x < z → z ≤ x → z ∈ out)
  | 0, x => .inl ⟨rfl, fun z h1 h2 => by omega⟩
  | f + 1, x => by
    by_cases h0 : x < 0
    · exact .inl ⟨lookBack_neg h0, fun z h1 h2 h3 => by omega⟩
    · by_cases hm : hasB out x = true
      · rw [lookBack_step (by omega) hm]
        rcases lookBack_spec out f (x - 1) with ⟨h1, h2⟩ | ⟨h1, h2, h3, h4, h5⟩
        · refine .inl ⟨h1, fun z a b c => ?_⟩
          by_cases e : z = x
          · subst e; exact hasB_iff.1 hm
          · exact h2 z (by omega) (by omega) c
        · refine .inr ⟨h1, by omega, by omega, h4, fun z a b => ?_⟩
          by_cases e : z = x
          · subst e; exact hasB_iff.1 hm
          · exact h5 z a (by omega)
      · rw [lookBack_hit (by omega) hm]
        exact .inr ⟨by omega, Int.le_refl _, by omega, fun h => hm (hasB_iff.2 h), fun z a b => by omega⟩
/-- Where a car goes that looks back m places: none is left, a place up to its favourite, or one behind it. -/
theorem backPlace_spec {p : Int} {m : Nat} {out : List Int} {x : Int} (h0 : 0 ≤ x) (h1 : x < p) :
    (backPlace p m out x = -1 ∧ ∀ z, x - m ≤ z → 0 ≤ z → z < p → z ∈ out) ∨
    (0 ≤ backPlace p m out x ∧ backPlace p m out x ≤ x ∧ x - m ≤ backPlace p m out x ∧ backPlace p m out x ∉ out ∧ ∀ z, backPlace p m out x < z → z ≤ x → z ∈ out) ∨
    (x < backPlace p m out x ∧ backPlace p m out x < p ∧ backPlace p m out x ∉ out ∧ ∀ z, x - m ≤ z → 0 ≤ z → z < backPlace p m out x → z ∈ out) := by
  rcases lookBack_spec out (m + 1) x with ⟨h2, h3⟩ | ⟨h2, h3, h4, h5, h6⟩
  · rw [backPlace_neg h2]
    obtain ⟨y, r, g3, g4, g5⟩ := place_ex (p := p) (out := out) (x := x) (by omega)
    rw [g5]
    have hx : x ∈ out := h3 x (by omega) (Int.le_refl _) h0
    by_cases e : p ≤ y
    · rw [if_pos e]
      refine .inl ⟨rfl, fun z a b c => ?_⟩
      by_cases hz : z ≤ x
      · exact h3 z (by omega) hz b
      · exact (r.2 z (by omega) (by omega)).2
    · rw [if_neg e]
      have hxy : x < y := by
        have := r.1
        by_cases e2 : x = y
        · subst e2; exact absurd ⟨h1, hx⟩ g3
        · omega
      refine .inr (.inr ⟨hxy, by omega, fun hy => g3 ⟨by omega, hy⟩, fun z a b c => ?_⟩)
      by_cases hz : z ≤ x
      · exact h3 z (by omega) hz b
      · exact (r.2 z (by omega) (by omega)).2
  · rw [backPlace_pos h2]
    exact .inr (.inl ⟨h2, h3, by omega, h5, h6⟩)

/-- What is known of cars that all stand somewhere. -/
structure Stand (p : Int) (L : List Int) : Prop where
  nd : L.Nodup
  rng : ∀ y ∈ L, 0 ≤ y ∧ y < p
theorem Stand.snoc {p : Int} {L : List Int} {y : Int} (h : Stand p L) (h1 : 0 ≤ y) (h2 : y < p) (h3 : y ∉ L) : Stand p (L ++ [y]) :=
  ⟨List.nodup_append.2 ⟨h.nd, by simp, fun x hx z hz => by simp at hz; subst hz; rintro rfl; exact h3 hx⟩, fun z hz => by
    rcases List.mem_append.1 hz with hz | hz
    · exact h.rng z hz
    · simp at hz; subst hz; exact ⟨h1, h2⟩⟩

theorem back_step {p : Int} {m : Nat} {A B : List Int} {x : Int} (h0 : 0 ≤ x) (h1 : x < p) (hA : Stand p A) (hB : Stand p B) (hle : ∀ j, 0 ≤ j → geN A j ≤ geN B j) (hb : backPlace p m B x ≠ -1) :
    Stand p (A ++ [backPlace p (m + 1) A x]) ∧ Stand p (B ++ [backPlace p m B x]) ∧ ∀ j, 0 ≤ j → geN (A ++ [backPlace p (m + 1) A x]) j ≤ geN (B ++ [backPlace p m B x]) j := by
  have sb := backPlace_spec (p := p) (m := m) (out := B) h0 h1
  have sa := backPlace_spec (p := p) (m := m + 1) (out := A) h0 h1
  generalize backPlace p m B x = b at *
  generalize backPlace p (m + 1) A x = a at *
  have hb0 : 0 ≤ b ∧ b < p ∧ b ∉ B ∧ x - m ≤ b := by
    rcases sb with h | ⟨g1, g2, g3, g4, g5⟩ | ⟨g1, g2, g3, g4⟩
    · exact absurd h.1 hb
    · exact ⟨g1, by omega, g4, g3⟩
    · exact ⟨by omega, g2, g3, by omega⟩
  obtain ⟨b0, b1, b2, b3⟩ := hb0
  have ha0 : 0 ≤ a ∧ a < p ∧ a ∉ A := by
    rcases sa with ⟨g1, g2⟩ | ⟨g1, g2, g3, g4, g5⟩ | ⟨g1, g2, g3, g4⟩
    · exfalso
      obtain ⟨f, hf⟩ : ∃ f : Nat, p = b + f := ⟨(p - b).toNat, by omega⟩
      have e1 := geN_full hA.nd b f (fun z c d => g2 z (by omega) (by omega) (by omega))
      have e2 := geN_gap hB.nd b b b2 (Int.le_refl _) f (by omega)
      have e3 := hle b b0
      rw [← hf, geN_top (fun y hy => (hB.rng y hy).2)] at e2
      omega
    · exact ⟨g1, by omega, g4⟩
    · exact ⟨by omega, g2, g3⟩
  obtain ⟨a0, a1, a2⟩ := ha0
  refine ⟨hA.snoc a0 a1 a2, hB.snoc b0 b1 b2, fun j hj => ?_⟩
  rw [geN_snoc, geN_snoc]
  have hj2 := hle j hj
  by_cases h2 : b < j ∧ j ≤ a
  · rw [if_pos h2.2, if_neg (by omega)]
    suffices geN A j + 1 ≤ geN B j by omega
    rcases sa with ⟨g1, g2⟩ | ⟨g1, g2, g3, g4, g5⟩ | ⟨g1, g2, g3, g4⟩
    · omega
    · rcases sb with h | ⟨k1, k2, k3, k4, k5⟩ | ⟨k1, k2, k3, k4⟩
      · exact absurd h.1 hb
      · obtain ⟨f, hf⟩ : ∃ f : Nat, x + 1 = j + f := ⟨(x + 1 - j).toNat, by omega⟩
        have e1 := geN_gap hA.nd j a a2 h2.2 f (by omega)
        have e2 := geN_full hB.nd j f (fun z c d => k5 z (by omega) (by omega))
        have e3 := hle (j + f) (by omega)
        omega
      · omega
    · obtain ⟨f, hf⟩ : ∃ f : Nat, j = b + f := ⟨(j - b).toNat, by omega⟩
      have e1 := geN_full hA.nd b f (fun z c d => g4 z (by omega) (by omega) (by omega))
      have e2 := geN_gap hB.nd b b b2 (Int.le_refl _) f (by omega)
      have e3 := hle b b0
      rw [← hf] at e1 e2
      omega
  · by_cases h3 : j ≤ a
    · rw [if_pos h3, if_pos (by omega)]; omega
    · rw [if_neg h3]; omega

theorem back_both {p : Int} {m : Nat} {xs : List Int} (hb : ∀ x ∈ xs, 0 ≤ x ∧ x ≤ p - 1) : ∀ k, k ≤ xs.length → (-1 : Int) ∉ backs p m (xs.take k) →
    Stand p (backs p (m + 1) (xs.take k)) ∧ Stand p (backs p m (xs.take k)) ∧ ∀ j, 0 ≤ j → geN (backs p (m + 1) (xs.take k)) j ≤ geN (backs p m (xs.take k)) j := by
  intro k
  induction k with
  | zero => intro _ _; simp only [List.take_zero, backs_nil]; exact ⟨⟨List.nodup_nil, by simp⟩, ⟨List.nodup_nil, by simp⟩, fun j _ => Nat.le_refl _⟩
  | succ k ih =>
    intro hk hno
    rw [backs_succ (by omega)] at hno
    obtain ⟨hA, hB, hle⟩ := ih (by omega) (fun h => hno (List.mem_append_left _ h))
    have hx := hb _ (nth_mem (xs := xs) (i := k) (by omega))
    rw [backs_succ (by omega), backs_succ (by omega)]
    exact back_step hx.1 (by omega) hA hB hle (fun e => hno (List.mem_append_right _ (by rw [e]; exact List.mem_cons_self)))
/-- Who parks parks, too, if all look one place farther back. -/
theorem back_more {p : Int} {m : Nat} {xs : List Int} (hb : ∀ x ∈ xs, 0 ≤ x ∧ x ≤ p - 1) (h : hasB (backs p m xs) (-1) = false) : hasB (backs p (m + 1) xs) (-1) = false := by
  have := (back_both (m := m) hb xs.length (Nat.le_refl _) (by rw [List.take_of_length_le (Nat.le_refl _)]; exact hasB_not.1 h)).1
  rw [List.take_of_length_le (Nat.le_refl _)] at this
  exact hasB_not.2 fun e => by have := this.rng _ e; omega
theorem back_far {p : Int} {m : Nat} {xs : List Int} (hb : ∀ x ∈ xs, 0 ≤ x ∧ x ≤ p - 1) (h : hasB (backs p m xs) (-1) = false) : ∀ d, hasB (backs p (m + d) xs) (-1) = false
  | 0 => h
  | d + 1 => back_more hb (back_far hb h d)
theorem backs_drive {p : Int} {xs : List Int} (hb : ∀ x ∈ xs, 0 ≤ x ∧ x ≤ p - 1) : ∀ k, k ≤ xs.length → backs p 0 (xs.take k) = drive p (xs.take k) := by
  intro k
  induction k with
  | zero => intro _; rfl
  | succ k ih =>
    intro hk
    have hx := hb _ (nth_mem (xs := xs) (i := k) (by omega))
    rw [backs_succ (by omega), drive_succ (by omega), ih (by omega), backs_zero_place hx.1 (by omega)]
/-- The least number, and all those that park. -/
theorem least_facts {p : Int} {xs : List Int} (hb : ∀ x ∈ xs, 0 ≤ x ∧ x ≤ p - 1) : ∀ (f k : Nat), (∀ j, j < k → hasB (backs p j xs) (-1) = true) →
    ((leastFrom xs p f k).2 = true → ∃ l : Nat, (leastFrom xs p f k).1 = (l : Int) ∧ k ≤ l ∧ l < k + f ∧ (∀ j, j < l → hasB (backs p j xs) (-1) = true) ∧ hasB (backs p l xs) (-1) = false) ∧
    ((leastFrom xs p f k).2 = false → (leastFrom xs p f k).1 = 0 ∧ ∀ j, j < k + f → hasB (backs p j xs) (-1) = true)
  | 0, k, h => ⟨fun e => by simp [leastFrom] at e, fun _ => ⟨rfl, by simpa using h⟩⟩
  | f + 1, k, h => by
    by_cases e : hasB (backs p k xs) (-1) = true
    · have ih := least_facts hb f (k + 1) (fun j hj => by
        by_cases e2 : j = k
        · subst e2; exact e
        · exact h j (by omega))
      rw [leastFrom, if_pos e]
      refine ⟨fun g => ?_, fun g => ⟨(ih.2 g).1, fun j hj => (ih.2 g).2 j (by omega)⟩⟩
      obtain ⟨l, g1, g2, g3, g4, g5⟩ := ih.1 g
      exact ⟨l, g1, by omega, by omega, g4, g5⟩
    · rw [leastFrom, if_neg e]
      exact ⟨fun _ => ⟨k, rfl, Nat.le_refl _, by omega, h, Bool.eq_false_iff.2 e⟩, fun g => by simp at g⟩
theorem park_least {p : Int} {xs : List Int} (hg : good xs p = true) : ∃ (l : Nat) (three : Bool), leastBackOf xs p = ((l : Int), three) ∧ l ≤ 8 ∧ ∀ k : Nat, k ≤ 8 → doBackOf xs p (k : Int) = (three && decide ((l : Int) ≤ (k : Int)), true) := by
  have hb := (good_iff.1 hg).2.2
  have hk : ∀ k : Nat, k ≤ 8 → doBackOf xs p (k : Int) = (!hasB (backs p k xs) (-1), true) := fun k h8 => by
    unfold doBackOf backB
    rw [hg, inB_iff.2 ⟨by omega, by omega⟩, Bool.true_and, if_pos rfl, Int.toNat_natCast]
  have h := least_facts hb 9 0 (fun j hj => by omega)
  have hl : leastBackOf xs p = leastFrom xs p 9 0 := by unfold leastBackOf; rw [if_pos hg]
  by_cases e : (leastFrom xs p 9 0).2 = true
  · obtain ⟨l, h1, h2, h3, h4, h5⟩ := h.1 e
    refine ⟨l, true, by rw [hl, ← h1, ← e], by omega, fun k h8 => ?_⟩
    rw [hk k h8]
    by_cases hlt : l ≤ k
    · obtain ⟨d, rfl⟩ : ∃ d, k = l + d := ⟨k - l, by omega⟩
      rw [back_far hb h5 d, decide_eq_true (by omega)]
      rfl
    · rw [h4 k (by omega), decide_eq_false (by omega)]
      rfl
  · have e := Bool.eq_false_iff.2 e
    obtain ⟨h1, h2⟩ := h.2 e
    refine ⟨0, false, by rw [hl, Int.natCast_zero, ← h1, ← e], by omega, fun k h8 => ?_⟩
    rw [hk k h8, h2 k (by omega)]
    rfl
theorem drive_back0 {p : Int} {xs : List Int} (hg : good xs p = true) : driveBackOf xs p 0 = driveCars xs p := by
  have hb := (good_iff.1 hg).2.2
  have h := backs_drive hb xs.length (Nat.le_refl _)
  rw [List.take_of_length_le (Nat.le_refl _)] at h
  have h0 : inB (0 : Int) 0 8 = true := by decide
  unfold driveBackOf backB driveCars allPark
  rw [hg, h0, Int.toNat_zero, h]
  rfl
/-! ### How many -/
theorem count_ends : ∀ n, n < 6 → 1 ≤ n → cntTo (backOk n 0) (allTried n) (n ^ n) = cnt n ∧ cntTo (backOk n (n - 1)) (allTried n) (n ^ n) = n ^ n := by decide +kernel
theorem cnt_more {n m : Nat} (hn : 1 ≤ n) : cntTo (backOk n m) (allTried n) (n ^ n) ≤ cntTo (backOk n (m + 1)) (allTried n) (n ^ n) := by
  unfold cntTo
  rw [List.take_of_length_le (by rw [length_allTried hn]; exact Nat.le_refl _)]
  refine List.countP_mono_left fun l hl h => ?_
  have hb := (lexRep_mem hl).2
  unfold backOk at h ⊢
  rw [Bool.not_eq_true'] at h ⊢
  exact back_more hb h
theorem cnt_far {n m : Nat} (hn : 1 ≤ n) : ∀ d, cntTo (backOk n m) (allTried n) (n ^ n) ≤ cntTo (backOk n (m + d)) (allTried n) (n ^ n)
  | 0 => Nat.le_refl _
  | d + 1 => Nat.le_trans (cnt_far hn d) (cnt_more hn)
theorem count_back {n k : Int} (h : (inB n 1 5 && inB k 0 8) = true) : ∃ (N K c : Nat), n = (N : Int) ∧ k = (K : Int) ∧ 1 ≤ N ∧ N ≤ 5 ∧ K ≤ 8 ∧ countBackOf n k = ((c : Int), true) ∧ cnt N ≤ c ∧ c ≤ N ^ N ∧ (K = 0 → c = cnt N) ∧ (N - 1 ≤ K → c = N ^ N) := by
  obtain ⟨h1, h2⟩ := Bool.and_eq_true_iff.1 h
  have h1 := inB_iff.1 h1
  have h2 := inB_iff.1 h2
  obtain ⟨N, rfl⟩ : ∃ N : Nat, n = (N : Int) := ⟨n.toNat, by omega⟩
  obtain ⟨K, rfl⟩ : ∃ K : Nat, k = (K : Int) := ⟨k.toNat, by omega⟩
  obtain ⟨e1, e2⟩ := count_ends N (by omega) (by omega)
  refine ⟨N, K, cntTo (backOk N K) (allTried N) (N ^ N), rfl, rfl, by omega, by omega, by omega, by unfold countBackOf; rw [if_pos h, Int.toNat_natCast, Int.toNat_natCast], ?_, cntTo_le _ _ _, fun e => by rw [e]; exact e1, fun e => ?_⟩
  · have := cnt_far (n := N) (m := 0) (by omega) K
    rw [Nat.zero_add] at this
    omega
  · obtain ⟨d, rfl⟩ : ∃ d, K = N - 1 + d := ⟨K - (N - 1), by omega⟩
    have := cnt_far (n := N) (m := N - 1) (by omega) d
    have := cntTo_le (backOk N (N - 1 + d)) (allTried N) (N ^ N)
    omega
end Go.Proofs.Ytnddplldkgphnac

namespace Go.Proofs.Ytnddplldkgphnac
open Go.RowKit

set_option maxHeartbeats 2000000 in
theorem loBack_any (a : Option Addr) (n cap P m : Nat) (xs : List Int) (w : World) (h : Has w a n cap xs) (h8 : n ≤ 8) (hP : P ≤ 12) (hm : m ≤ 8) (hge : ∀ i, i < n → 0 ≤ nth xs i ∧ nth xs i ≤ (P : Int) - 1) :
    Calls Try.prog 70 #[.slice a n cap, .int .i64 (P : Int), .int .i64 (m : Int)] w fun e w' => ∃ a' cap', e = .returned (.slice a' n cap') ∧ Own w' w.heap.size a' n cap' (backs P m xs) ∧ Below w.heap.size w w' := by
  obtain ⟨h0, h1, h2, h3, h4⟩ := h
  have HN := hid h0
  have HGE := hid hge
  clear h0 hge
  go_enter Try.func70, Try.ntmps70
  go_wp2_with fail
  go_loopw [7, 15] (fun o i wr => ∃ (k : Nat) (a' : Option Addr) (cap' : Nat), k ≤ n ∧ i = .int .i64 k ∧ o = .slice a' k cap' ∧ Own wr w.heap.size a' k cap' (backs P m (xs.take k)) ∧ Below w.heap.size w wr) (fun _ i _ => n - (intOf i).toNat)
  case atStart => exact ⟨0, none, 0, Nat.zero_le _, rfl, rfl, Own.nil _ _, Below.refl _ _⟩
  case round =>
    obtain ⟨k, a', cap', hk, rfl, rfl, hown, hb⟩ := hrel
    by_cases hlt : k < n
    · obtain ⟨b, off, rfl, hbb, hc⟩ := h4 (by omega)
      have hck : wr.cell? ⟨b, off + k, none⟩ = some (.int .i64 (nth xs k)) := by rw [hb.cell (p := ⟨b, off + k, none⟩) hbb]; exact hc k hlt
      obtain ⟨hx0, hx1⟩ := HGE.out k hlt
      have HS := hid (backs_succ (p := (P : Int)) (m := m) (xs := xs) (k := k) (by rw [HN.out]; omega))
      obtain ⟨x, hx⟩ : ∃ x : Nat, nth xs k = (x : Int) := ⟨_, (Int.toNat_of_nonneg hx0).symm⟩
      rw [hx] at hck hx1
      have HX := hid hx
      obtain ⟨T, hT⟩ : ∃ T, backs P m (xs.take k) = T := ⟨_, rfl⟩
      rw [hT] at hown
      have HT := hid hT
      clear hc h4 hx hx0 hT
      go_wp2_with fail
      go_loop [10, 11] (fun at_ kv => ∃ (j : Nat) (y : Int), kv = .int .i64 j ∧ j ≤ m + 1 ∧ at_ = .int .i64 y ∧ -1 ≤ y ∧ y ≤ x ∧
        Hid ((y = -1 ∧ j ≤ x + 1 ∧ lookBack T (m + 1) x = lookBack T (m + 1 - j) ((x : Int) - j)) ∨ (0 ≤ y ∧ lookBack T (m + 1) x = y))) (fun _ kv => m + 1 - (intOf kv).toNat)
      case atStart => exact ⟨0, -1, rfl, by omega, rfl, by omega, by omega, hid (.inl ⟨rfl, by omega, by simp⟩)⟩
      case round =>
        obtain ⟨j, y, rfl, hj, rfl, hy1, hy2, HL⟩ := hrel
        by_cases hgo : j ≤ m ∧ j ≤ x ∧ y < 0
        · obtain ⟨g1, g2, g3⟩ := hgo
          have hL : lookBack T (m + 1) x = lookBack T (m + 1 - j) ((x : Int) - j) := by
            rcases HL.out with h | h
            · exact h.2.2
            · omega
          have hjx : (j : Int) ≤ (x : Int) := by omega
          have hxj : 0 ≤ (x : Int) - (j : Int) := by omega
          by_cases hm2 : hasB T ((x : Int) - j) = true
          · have HM := hid hm2
            have HS2 : Hid (lookBack T (m + 1) x = lookBack T (m + 1 - (j + 1)) ((x : Int) - ((j + 1 : Nat) : Int))) := hid (by
              rw [hL, show m + 1 - j = (m + 1 - (j + 1)) + 1 from by omega, lookBack_step hxj hm2]
              congr 1
              omega)
            clear hm2 hL
            go_wp2_with (go_at_call 71; refine (l1Has_any _ _ _ _ _ _ hown.has).mono ?_; rintro e w' ⟨rfl, rfl⟩; rw [HM.out])
            go_round
            case rel => exact ⟨j + 1, y, by go_num, by omega, rfl, hy1, hy2, hid (.inl ⟨by omega, by omega, HS2.out⟩)⟩
            case measure => simp [intOf]; omega
          · have hm3 : hasB T ((x : Int) - j) = false := by simpa using hm2
            have HM := hid hm3
            have HS2 : Hid (lookBack T (m + 1) x = (x : Int) - j) := hid (by
              rw [hL, show m + 1 - j = (m + 1 - (j + 1)) + 1 from by omega, lookBack_hit hxj hm2])
            clear hm2 hm3 hL
            go_wp2_with (go_at_call 71; refine (l1Has_any _ _ _ _ _ _ hown.has).mono ?_; rintro e w' ⟨rfl, rfl⟩; rw [HM.out])
            go_round
            case rel => exact ⟨j + 1, (x : Int) - j, by go_num, by omega, rfl, by omega, by omega, hid (.inr ⟨by omega, HS2.out⟩)⟩
            case measure => simp [intOf]; omega
        · have HD : Hid ((y = -1 ∧ lookBack T (m + 1) x = -1) ∨ (0 ≤ y ∧ lookBack T (m + 1) x = y)) := hid (by
            rcases HL.out with ⟨e1, e2, e3⟩ | e
            · left
              refine ⟨e1, ?_⟩
              rw [e3]
              by_cases h5 : j ≤ m
              · exact lookBack_neg (by omega)
              · rw [show m + 1 - j = 0 from by omega]; rfl
            · exact .inr e)
          have hor : (m : Int) < j ∨ ((j : Int) ≤ m ∧ (x : Int) < j) ∨ ((j : Int) ≤ m ∧ (j : Int) ≤ x ∧ 0 ≤ y) := by omega
          have HB : Hid (y = -1 ∨ backPlace P m T x = y) := hid (by
            rcases HD.out with ⟨e1, e2⟩ | ⟨e1, e2⟩
            · exact .inl e1
            · exact .inr (by rw [backPlace_pos (by rw [e2]; exact e1), e2]))
          clear hgo HL
          rcases hor with hA | ⟨hA, hB⟩ | ⟨hA, hB, hC⟩ <;>
          (go_wp2_with fail
           go_loop [10, 12] (fun at_ kv => ∃ (q : Nat) (z : Int), kv = .int .i64 q ∧ x ≤ q ∧ q ≤ P ∧ at_ = .int .i64 z ∧ -1 ≤ z ∧ z ≤ 12 ∧
            Hid ((z = -1 ∧ Runs T P x q ∧ lookBack T (m + 1) x = -1) ∨ (0 ≤ z ∧ backPlace P m T x = z))) (fun _ kv => P - (intOf kv).toNat)
           case atStart => exact ⟨x, y, rfl, Nat.le_refl _, by omega, rfl, hy1, by omega, hid (by
              rcases HD.out with ⟨e1, e2⟩ | ⟨e1, e2⟩
              · exact .inl ⟨e1, Runs.refl _ _ _, e2⟩
              · exact .inr ⟨e1, by rw [backPlace_pos (by rw [e2]; exact e1), e2]⟩)⟩
           case round =>
             clear hy1 hy2 HD HB
             obtain ⟨q, z, rfl, hq1, hq2, rfl, hz1, hz2, HL⟩ := hrel
             by_cases hgo : q < P ∧ z < 0
             · obtain ⟨g1, g2⟩ := hgo
               by_cases hm2 : hasB T q = true
               · have HM := hid hm2
                 have HS2 : Hid (Runs T P x ((q + 1 : Nat) : Int) ∧ lookBack T (m + 1) x = -1) := hid (by
                   rcases HL.out with ⟨e1, e2, e3⟩ | ⟨e1, e2⟩
                   · exact ⟨by have := e2.step (by omega) (hasB_iff.1 hm2); simpa using this, e3⟩
                   · omega)
                 clear hm2
                 go_wp2_with (go_at_call 71; refine (l1Has_any _ _ _ _ _ _ hown.has).mono ?_; rintro e w' ⟨rfl, rfl⟩; rw [HM.out])
                 go_round
                 case rel => exact ⟨q + 1, z, by go_num, by omega, by omega, rfl, hz1, hz2, hid (.inl ⟨by omega, HS2.out.1, HS2.out.2⟩)⟩
                 case measure => simp [intOf]; omega
               · have hm3 : hasB T q = false := by simpa using hm2
                 have HM := hid hm3
                 have HS2 : Hid (backPlace P m T x = (q : Int)) := hid (by
                   rcases HL.out with ⟨e1, e2, e3⟩ | ⟨e1, e2⟩
                   · rw [backPlace_neg e3, place_of e2 (fun e => hm2 (hasB_iff.2 e.2)) (by omega), if_neg (by omega)]
                   · omega)
                 clear hm2 hm3
                 go_wp2_with (go_at_call 71; refine (l1Has_any _ _ _ _ _ _ hown.has).mono ?_; rintro e w' ⟨rfl, rfl⟩; rw [HM.out])
                 go_round
                 case rel => exact ⟨q + 1, (q : Int), by go_num, by omega, by omega, rfl, by omega, by omega, hid (.inr ⟨by omega, HS2.out⟩)⟩
                 case measure => simp [intOf]; omega
             · have HZ : Hid (backs P m (xs.take (k + 1)) = T ++ [z]) := hid (by
                 rw [HS.out, HT.out, HX.out]
                 congr 2
                 rcases HL.out with ⟨e1, e2, e3⟩ | ⟨e1, e2⟩
                 · rw [backPlace_neg e3, place_of e2 (by omega) (by omega), if_pos (by omega), e1]
                 · exact e2)
               have hor : (P : Int) ≤ q ∨ ((q : Int) < P ∧ 0 ≤ z) := by omega
               have hbs := hb.size
               clear hgo HL
               rcases hor with hq | ⟨hq, hz⟩ <;>
               (go_wp2_with (at_builtin; refine wpList_append_int _ rfl _ _ rfl w.heap.size _ _ _ _ _ rfl rfl hown (by omega) hbs ?_; intro a3 cap3 w3 hown3 hb3)
                go_roundw
                case rel => exact ⟨k + 1, a3, cap3, by omega, by go_num, rfl, by rw [HZ.out]; exact hown3, hb.trans hb3⟩
                case measure => simp [intOf]; omega))
    · obtain rfl : k = n := by omega
      go_wp2_with fail
      go_ret
      exact ⟨_, _, rfl, by rw [List.take_of_length_le (by rw [HN.out]; omega)] at hown; exact hown, hb⟩
end Go.Proofs.Ytnddplldkgphnac

namespace Go.Proofs.Ytnddplldkgphnac
open Go.RowKit

theorem small_lengths {ls : List Int} (h : allB ls 1 12 = true) : Small ls := fun i hi => by
  have := allB_nth h hi
  omega

set_option maxHeartbeats 400000 in
theorem loLengths_any (a : Option Addr) (n cap : Nat) (ls : List Int) (w : World) (h : Has w a n cap ls) :
    Calls Try.prog 50 #[.slice a n cap] w fun e w' => e = .returned (.bool (lenB ls)) ∧ w = w' := by
  have HN := hid h.len
  by_cases h1 : inB n 1 8 = true
  · by_cases h2 : allB ls 1 12 = true
    · have HR : Hid (lenB ls = decide (total ls ≤ 12)) := hid (by simp [lenB, HN.out, h1, h2])
      have hs := small_lengths h2
      have H1 := hid h1
      have H2 := hid h2
      clear h1 h2
      go_enter Try.func50, Try.ntmps50
      go_wp2_with (first | (go_at_call 76; refine (l1In_any _ _ _ _).mono ?_; rintro e w' ⟨rfl, rfl⟩; rw [H1.out]) | (go_at_call 91; refine (l1All_any _ _ _ _ _ _ _ h).mono ?_; rintro e w' ⟨rfl, rfl⟩; rw [H2.out]) | (go_at_call 51; refine (paSum_any _ _ _ _ _ h hs).mono ?_; rintro e w' ⟨rfl, rfl⟩))
      go_ret
      exact ⟨ret_bool HR.out.symm, rfl⟩
    · have HR : Hid (lenB ls = false) := hid (by simp [lenB, h2])
      have H1 := hid h1
      have H2 := hid h2
      clear h1 h2
      go_enter Try.func50, Try.ntmps50
      go_wp2_with (first | (go_at_call 76; refine (l1In_any _ _ _ _).mono ?_; rintro e w' ⟨rfl, rfl⟩; rw [H1.out]) | (go_at_call 91; refine (l1All_any _ _ _ _ _ _ _ h).mono ?_; rintro e w' ⟨rfl, rfl⟩; rw [Bool.eq_false_iff.2 H2.out]))
      go_ret
      exact ⟨ret_bool HR.out.symm, rfl⟩
  · have HR : Hid (lenB ls = false) := hid (by simp [lenB, HN.out, h1])
    have H1 := hid h1
    clear h1
    go_enter Try.func50, Try.ntmps50
    go_wp2_with (go_at_call 76; refine (l1In_any _ _ _ _).mono ?_; rintro e w' ⟨rfl, rfl⟩; rw [Bool.eq_false_iff.2 H1.out])
    go_ret
    exact ⟨ret_bool HR.out.symm, rfl⟩

theorem lenB_sum {ls : List Int} (h : lenB ls = true) : Small ls ∧ 1 ≤ total ls ∧ total ls ≤ 12 ∧ 1 ≤ ls.length ∧ ls.length ≤ 8 ∧ ∀ i, i < ls.length → 1 ≤ nth ls i ∧ nth ls i ≤ 12 := by
  obtain ⟨h1, h2, h3⟩ := lenB_iff.1 h
  have h4 := total_ge (fun x hx => (h2 x hx).1) ls.length (Nat.le_refl _)
  rw [List.take_of_length_le (Nat.le_refl _)] at h4
  exact ⟨fun i hi => by have := h2 _ (nth_mem hi); omega, by omega, h3, h1.1, h1.2, fun i hi => h2 _ (nth_mem hi)⟩

set_option maxHeartbeats 400000 in
theorem loTask_any (a b : Option Addr) (n m cap cap' : Nat) (xs ls : List Int) (w : World) (h : Has w a n cap xs) (h' : Has w b m cap' ls) :
    Calls Try.prog 57 #[.slice a n cap, .slice b m cap'] w fun e w' => e = .returned (.bool (taskB xs ls)) ∧ w = w' := by
  have HN := hid h.len
  have HM := hid h'.len
  by_cases h1 : lenB ls = true
  · obtain ⟨hs, t1, t2, -, -, -⟩ := lenB_sum h1
    by_cases h2 : n = m
    · subst h2
      have hbe : ((n : Int) == (n : Int)) = true := by simp
      have HR : Hid (taskB xs ls = allB xs 0 (total ls - 1)) := hid (by simp [taskB, HN.out, HM.out, h1])
      have H1 := hid h1
      clear h1
      go_enter Try.func57, Try.ntmps57
      go_wp2_with (first | (go_at_call 50; refine (loLengths_any _ _ _ _ _ h').mono ?_; rintro e w' ⟨rfl, rfl⟩; rw [H1.out]) | (go_at_call 51; refine (paSum_any _ _ _ _ _ h' hs).mono ?_; rintro e w' ⟨rfl, rfl⟩) | (go_at_call 91; refine (l1All_any _ _ _ _ _ _ _ h).mono ?_; rintro e w' ⟨rfl, rfl⟩))
      go_ret
      exact ⟨ret_bool HR.out.symm, rfl⟩
    · have hbe : ((n : Int) == (m : Int)) = false := by simp; omega
      have HR : Hid (taskB xs ls = false) := hid (by simp [taskB, HN.out, HM.out, h2])
      have H1 := hid h1
      clear h1
      go_enter Try.func57, Try.ntmps57
      go_wp2_with (first | (go_at_call 50; refine (loLengths_any _ _ _ _ _ h').mono ?_; rintro e w' ⟨rfl, rfl⟩; rw [H1.out]))
      go_ret
      exact ⟨ret_bool HR.out.symm, rfl⟩
  · have HR : Hid (taskB xs ls = false) := hid (by simp [taskB, h1])
    have H1 := hid h1
    clear h1
    go_enter Try.func57, Try.ntmps57
    go_wp2_with (first | (go_at_call 50; refine (loLengths_any _ _ _ _ _ h').mono ?_; rintro e w' ⟨rfl, rfl⟩; rw [Bool.eq_false_iff.2 H1.out]))
    go_ret
    exact ⟨ret_bool HR.out.symm, rfl⟩

/-- Bools in a block of their own. -/
structure Bls (w : World) (g p : Nat) (f : Nat → Bool) : Prop where
  lt : g < w.heap.size
  cells : ∀ i, i < p → w.cell? ⟨g, i, none⟩ = some (.bool (f i))
  free : ∀ i, w.frozen? ⟨g, i, none⟩ = false

theorem Bls.below {w w' : World} {g p K : Nat} {f : Nat → Bool} (h : Bls w g p f) (hb : Below K w w') (hK : g < K) : Bls w' g p f := by
  have := hb.size
  have := h.lt
  refine ⟨by omega, fun i hi => ?_, fun i => ?_⟩
  · rw [hb.cell (p := ⟨g, i, none⟩) (by simpa using hK)]; exact h.cells i hi
  · rw [hb.frozen (p := ⟨g, i, none⟩) (by simpa using hK)]; exact h.free i
theorem Bls.congr {w : World} {g p : Nat} {f f' : Nat → Bool} (h : Bls w g p f) (e : ∀ i, i < p → f' i = f i) : Bls w g p f' := ⟨h.lt, fun i hi => by rw [e i hi]; exact h.cells i hi, h.free⟩
theorem Bls.set {w : World} {g p x : Nat} {f : Nat → Bool} (h : Bls w g p f) (hx : x < p) : Bls (w.setCell ⟨g, x, none⟩ (.bool true)) g p (fun i => if i = x then true else f i) := by
  refine ⟨by simpa using h.lt, fun i hi => ?_, fun i => by rw [World.frozen?_setCell]; exact h.free i⟩
  by_cases e : i = x
  · subst e
    rw [World.cell?_setCell_same _ _ _ (h.cells i hx)]; simp
  · rw [World.cell?_setCell_other _ _ _ _ (by intro hh; injection hh with _ h5 _; exact e h5.symm), h.cells i hi]; simp [e]

/-- What driving long cars comes to: the places up to the first blocked car. -/
def PostOut (w : World) (out : List Int) (e : Ending) (w' : World) : Prop := ∃ a k cap, e = .returned (.slice a k cap) ∧ Own w' w.heap.size a k cap out ∧ Below w.heap.size w w'
theorem long_blocked {xs ls out T : List Int} {P : Int} {k n : Nat} (hP : total ls = P) (hn : xs.length = n) (hk : k < n) (h : longAt P xs ls k = (out, T, true)) (hb : ¬ (0 ≤ place P T (nth xs k) ∧ fits T P (place P T (nth xs k)) (nth ls k).toNat = true)) : longN xs ls = out := by
  have hs := longAt_stop h hb
  have := longAt_end (p := P) (xs := xs) (ls := ls) (k := k + 1) (by rw [hs]) n (by omega)
  unfold longN
  rw [hP, hn, this, hs]
theorem place_blocked {T : List Int} {P x y q L : Nat} (hr : Runs T P x y) (hy : ¬ ((y : Int) < P ∧ (y : Int) ∈ T)) (hyP : y ≤ P) (h1 : y ≤ q) (h2 : q < y + L) (hq : ¬ (q < P ∧ hasB T q = false)) : ¬ (0 ≤ place (P : Int) T x ∧ fits T P (place (P : Int) T x) L = true) := by
  rw [place_of hr hy (by omega)]
  rintro ⟨h3, h4⟩
  by_cases e : (P : Int) ≤ y
  · rw [if_pos e] at h3; omega
  · rw [if_neg e] at h4
    rw [fits_no (L := q - y) (M := L) (by
      have : (y : Int) + ((q - y : Nat) : Int) = (q : Int) := by omega
      rw [this]
      intro h
      exact hq ⟨by omega, h.2⟩) (by omega)] at h4
    simp at h4

set_option maxHeartbeats 4000000 in
theorem loDrive_any (a b : Option Addr) (n cap m capl P : Nat) (xs ls : List Int) (w : World) (h : Has w a n cap xs) (h' : Has w b m capl ls) (hnm : n = m) (hl : lenB ls = true) (hP : total ls = (P : Int)) (hge : ∀ i, i < n → 0 ≤ nth xs i ∧ nth xs i ≤ (P : Int) - 1) :
    Calls Try.prog 58 #[.slice a n cap, .slice b m capl] w (PostOut w (longN xs ls)) := by
  obtain ⟨hs, t1, t2, -, hl8, hlb⟩ := lenB_sum hl
  rw [h'.len] at hl8 hlb
  have hP12 : P ≤ 12 := by omega
  have HN := hid h.len
  have HM := hid h'.len
  have HNM := hid hnm
  have hn8 : n ≤ 8 := by omega
  have HGE := hid hge
  have HLB := hid hlb
  have HPT := hid hP
  clear hnm hl hge hlb hP t1 t2
  go_enter Try.func58, Try.ntmps58
  go_wp2_with (first | (go_at_call 51; refine (paSum_any _ _ _ _ _ h' hs).mono ?_; rintro e w' ⟨rfl, rfl⟩; rw [HPT.out]) | (at_make; refine wpList_make_bools _ rfl _ _ rfl P rfl rfl (by omega) ?_; intro w1 hc1 hf1 hb1 hs1))
  have B0 : Bls w1 w.heap.size P (fun z => hasB [] z) := ⟨hs1, fun i hi => by rw [hc1 i hi]; simp [hasB], hf1⟩
  clear hs hc1 hf1
  go_loopw [6, 16] (fun o i wr => ∃ (k : Nat) (a' : Option Addr) (cap' : Nat) (out T : List Int), k ≤ n ∧ i = .int .i64 k ∧ o = .slice a' k cap' ∧ Own wr (w.heap.size + 1) a' k cap' out ∧ Bls wr w.heap.size P (fun z => hasB T z) ∧ Hid (longAt P xs ls k = (out, T, true)) ∧ Below w.heap.size w wr) (fun _ i _ => n - (intOf i).toNat)
  case atStart => exact ⟨0, none, 0, [], [], Nat.zero_le _, rfl, rfl, Own.nil _ _, B0, hid rfl, hb1⟩
  case round =>
    clear B0 hb1 hs1
    obtain ⟨k, a', cap', out, T, hk, rfl, rfl, hown, hB, HL, hb⟩ := hrel
    by_cases hlt : k < n
    · have hltm : k < m := by rw [← HNM.out]; exact hlt
      obtain ⟨b0, off, rfl, hbb, hc⟩ := h.2.2.2.2 (by omega)
      obtain ⟨bl, offl, rfl, hbl, hcl⟩ := h'.2.2.2.2 (by omega)
      have hck : wr.cell? ⟨b0, off + k, none⟩ = some (.int .i64 (nth xs k)) := by rw [hb.cell (p := ⟨b0, off + k, none⟩) hbb]; exact hc k hlt
      have hlk : wr.cell? ⟨bl, offl + k, none⟩ = some (.int .i64 (nth ls k)) := by rw [hb.cell (p := ⟨bl, offl + k, none⟩) hbl]; exact hcl k hltm
      obtain ⟨hx0, hx1⟩ := HGE.out k hlt
      obtain ⟨v0, v1⟩ := HLB.out k hltm
      obtain ⟨x, hx⟩ : ∃ x : Nat, nth xs k = (x : Int) := ⟨_, (Int.toNat_of_nonneg hx0).symm⟩
      obtain ⟨L, hL⟩ : ∃ L : Nat, nth ls k = (L : Int) := ⟨(nth ls k).toNat, by omega⟩
      rw [hx] at hck hx1
      rw [hL] at hlk v0 v1
      have HX := hid hx
      have HLL := hid hL
      have hLt : (nth ls k).toNat = L := by rw [hL]; rfl
      have HLT := hid hLt
      have HBK : Hid (∀ q y : Nat, Runs T P x y → ¬ ((y : Int) < P ∧ (y : Int) ∈ T) → y ≤ P → y ≤ q → q < y + L → ¬ (q < P ∧ hasB T q = false) → longN xs ls = out) := hid (fun q y r1 r2 r3 r4 r5 r6 => long_blocked HPT.out HN.out hlt HL.out (by rw [HX.out, HLT.out]; exact place_blocked r1 r2 r3 r4 r5 r6))
      clear hc hcl hx hx0 hL hLt
      go_wp2_with fail
      go_loop [8] (fun xv => ∃ y : Nat, xv = .int .i64 y ∧ x ≤ y ∧ y ≤ P ∧ Runs T P x y) (fun xv => P - (intOf xv).toNat)
      case atStart => exact ⟨x, rfl, Nat.le_refl _, by omega, Runs.refl _ _ _⟩
      case round =>
        obtain ⟨y, rfl, hxy, hyP, hrun⟩ := hrel
        by_cases hy : y < P ∧ hasB T y = true
        · have hcy := hB.cells y hy.1
          rw [hy.2] at hcy
          have hy1 := hy.1
          have HM2 := hid hy.2
          clear hy
          go_wp2_with fail
          go_round
          case rel => exact ⟨y + 1, by go_num, by omega, by omega, by have := hrun.step (by omega) (hasB_iff.1 HM2.out); simpa using this⟩
          case measure => simp [intOf]; omega
        · have hfree : ¬ ((y : Int) < P ∧ (y : Int) ∈ T) := fun e => hy ⟨by omega, hasB_iff.2 e.2⟩
          have HFR := hid hfree
          have hcy : y < P → wr.cell? ⟨w.heap.size, y, none⟩ = some (.bool false) := fun hp => by
            have e : hasB T y = false := by
              cases hh : hasB T y with
              | true => exact absurd ⟨hp, hh⟩ hy
              | false => rfl
            have := hB.cells y hp
            rw [e] at this
            exact this
          have HCY := hid hcy
          clear hy hfree hcy
          (by_cases hyy : y < P) <;>
          ((try have hcy := HCY.out hyy)
           go_wp2_with fail
           go_loop [9] (fun kv => ∃ q : Nat, kv = .int .i64 q ∧ y ≤ q ∧ q ≤ y + L ∧ Hid (fits T P y (q - y) = true)) (fun kv => y + L - (intOf kv).toNat)
           case atStart => exact ⟨y, rfl, Nat.le_refl _, by omega, hid (by rw [Nat.sub_self]; rfl)⟩
           case round =>
             obtain ⟨q, rfl, hq1, hq2, HF⟩ := hrel
             by_cases hqL : q < y + L
             · by_cases hqP : q < P
               ·
                 (try (exfalso; omega))
                 all_goals (
                  by_cases hqm : hasB T q = true
                  · have hcq := hB.cells q hqP
                    rw [hqm] at hcq
                    have HR := hid (HBK.out q y hrun HFR.out hyP hq1 hqL (by rw [hqm]; simp))
                    clear hqm
                    go_wp2_with fail
                    go_ret
                    exact ⟨_, _, _, rfl, by rw [HR.out]; exact hown.mono (by omega), hb⟩
                  · have hqf : hasB T q = false := by simpa using hqm
                    have hcq := hB.cells q hqP
                    rw [hqf] at hcq
                    have HS := hid (fits_yes (T := T) (p := (P : Int)) (y := (y : Int)) (L := q - y) HF.out (by omega) (by rw [show (y : Int) + ((q - y : Nat) : Int) = (q : Int) from by omega]; exact hqf))
                    clear hqm hqf
                    go_wp2_with fail
                    go_round
                    case rel => exact ⟨q + 1, by go_num, by omega, by omega, hid (by rw [show q + 1 - y = q - y + 1 from by omega]; exact HS.out)⟩
                    case measure => simp [intOf]; omega)
               · have HR := hid (HBK.out q y hrun HFR.out hyP hq1 hqL (fun e => hqP e.1))
                 go_wp2_with fail
                 go_ret
                 exact ⟨_, _, _, rfl, by rw [HR.out]; exact hown.mono (by omega), hb⟩
             · have HFF : Hid (fits T P y L = true) := hid (by have := HF.out; rw [show q - y = L from by omega] at this; exact this)
               have hyp2 : y < P := by
                 have e := HFF.out
                 by_cases e2 : y < P
                 · exact e2
                 · rw [fits_no (L := 0) (by simp; omega) (by omega)] at e
                   simp at e
               (try (exfalso; omega))
               all_goals (
                have HGO : Hid (longAt P xs ls (k + 1) = (out ++ [(y : Int)], T ++ cover y L, true)) := hid (by
                  have := longAt_go (y := (y : Int)) HL.out (by rw [HX.out, place_of hrun HFR.out (by omega), if_neg (by omega)]) (by omega) (by rw [HLT.out]; exact HFF.out)
                  rw [HLT.out] at this
                  exact this)
                go_wp2_with fail
                go_loopw [10] (fun kv wq => ∃ q : Nat, kv = .int .i64 q ∧ y ≤ q ∧ q ≤ y + L ∧ Own wq (w.heap.size + 1) a' k cap' out ∧ Bls wq w.heap.size P (fun z => hasB (T ++ cover y (q - y)) z) ∧ Below w.heap.size w wq) (fun kv _ => y + L - (intOf kv).toNat)
                case atStart => exact ⟨y, rfl, Nat.le_refl _, by omega, hown, hB.congr (fun i _ => by simp [cover]), hb⟩
                case round =>
                  clear hown hB hb hck hlk hq1 hq2 HF hqL
                  obtain ⟨q, rfl, hq1, hq2, hown, hB, hb⟩ := hrel
                  have hlk : wr.cell? ⟨bl, offl + k, none⟩ = some (.int .i64 (L : Int)) := by
                    have := h'.2.2.2.2 (by omega)
                    obtain ⟨b9, o9, e9, -, hcl⟩ := this
                    cases e9
                    rw [hb.cell (p := ⟨bl, offl + k, none⟩) hbl, hcl k hltm, HLL.out]
                  by_cases hqL : q < y + L
                  · have hqP : q < P := by
                      by_cases e2 : q < P
                      · exact e2
                      · have e := HFF.out
                        rw [fits_no (L := q - y) (by rw [show (y : Int) + ((q - y : Nat) : Int) = (q : Int) from by omega]; omega) (by omega)] at e
                        simp at e
                    have hcq := hB.cells q hqP
                    have hfq := hB.free q
                    go_wp2_with fail
                    go_roundw
                    case rel =>
                      refine ⟨q + 1, by go_num, by omega, by omega, hown.kept (g := w.heap.size) ⟨rfl, rfl, rfl, by simp, fun j _ hne => heap_setCell_other _ _ j _ (fun e => hne (by simp [e]))⟩ (.inl (by omega)), (hB.set hqP).congr (fun i hi => ?_), hb.setCell (by simp) _⟩
                      rw [show q + 1 - y = q - y + 1 from by omega, cover, ← List.append_assoc, hasB_append, show (y : Int) + ((q - y : Nat) : Int) = (q : Int) from by omega]
                      by_cases e : i = q
                      · subst e; simp [hasB]
                      · have e2 : ¬ (i : Int) = (q : Int) := by omega
                        simp [hasB, e, e2]
                    case measure => simp [intOf]; omega
                  · obtain rfl : q = y + L := by omega
                    rw [show y + L - y = L from by omega] at hB
                    have hbs := hb.size
                    have hlt8 := hB.lt
                    go_wp2_with (at_builtin; refine wpList_append_int _ rfl _ _ rfl (w.heap.size + 1) _ _ _ _ _ rfl rfl hown (by omega) (by omega) ?_; intro a3 cap3 w3 hown3 hb3)
                    go_roundw
                    case rel => exact ⟨k + 1, a3, cap3, _, _, by omega, by go_num, rfl, hown3, hB.below hb3 (by omega), HGO, hb.trans (hb3.mono (by omega))⟩
                    case measure => simp [intOf]; omega))
    · obtain rfl : k = n := by omega
      have HR : Hid (longN xs ls = out) := hid (by unfold longN; rw [HPT.out, HN.out, HL.out])
      go_wp2_with fail
      go_ret
      exact ⟨_, _, _, rfl, by rw [HR.out]; exact hown.mono (by omega), hb⟩
end Go.Proofs.Ytnddplldkgphnac

namespace Go.Proofs.Ytnddplldkgphnac
open Go.RowKit

theorem task_facts {xs ls : List Int} {n m : Nat} (h : taskB xs ls = true) (hn : xs.length = n) (hm : ls.length = m) : lenB ls = true ∧ n = m ∧ ∃ P : Nat, total ls = (P : Int) ∧ ∀ i, i < n → 0 ≤ nth xs i ∧ nth xs i ≤ (P : Int) - 1 := by
  unfold taskB at h
  simp only [Bool.and_eq_true, decide_eq_true_eq] at h
  obtain ⟨h1, h2, h3⟩ := h
  obtain ⟨-, t1, -, -, -, -⟩ := lenB_sum h1
  refine ⟨h1, by omega, (total ls).toNat, by omega, fun i hi => ?_⟩
  have := allB_nth h3 (k := i) (by omega)
  omega

set_option maxHeartbeats 400000 in
theorem specDriveLong_any (a b : Option Addr) (n cap m capl : Nat) (xs ls : List Int) (w : World) (h : Has w a n cap xs) (h' : Has w b m capl ls) :
    Calls Try.prog 15 #[.slice a n cap, .slice b m capl] w (PostInts w (driveLongOf xs ls)) := by
  by_cases hg : taskB xs ls = true
  · obtain ⟨hl, hnm, P, hP, hge⟩ := task_facts hg h.len h'.len
    have hcal := loDrive_any _ _ _ _ _ _ P _ _ _ h h' hnm hl hP hge
    have HCAL := hid hcal
    have HG := hid hg
    have HN := hid h.len
    have HK := hid (longN_ok xs ls)
    have HLE := hid (longN_le xs ls)
    by_cases hm : longOk xs ls = true
    · have HR : Hid (driveLongOf xs ls = (longN xs ls, true)) := hid (by simp [driveLongOf, hg, hm])
      have HM := hid hm
      clear hg hm hl hnm hP hge hcal
      go_enter Try.func15, Try.ntmps15
      go_wp2_with (go_at_call 57; refine (loTask_any _ _ _ _ _ _ _ _ _ h h').mono ?_; rintro e w' ⟨rfl, rfl⟩; rw [HG.out])
      refine HCAL.out.mono ?_
      rintro e w1 ⟨a1, k1, cap1, rfl, hown1, hb1⟩
      have hk : ¬ (k1 : Int) < (n : Int) := by
        have := hown1.len
        have := HK.out.2 HM.out
        have := HN.out
        omega
      go_wp2_with fail
      go_ret2
      exact postInts HR.out hown1 hb1
    · have HR : Hid (driveLongOf xs ls = ([], false)) := hid (by simp [driveLongOf, hm])
      have HM := hid hm
      clear hg hm hl hnm hP hge hcal
      go_enter Try.func15, Try.ntmps15
      go_wp2_with (go_at_call 57; refine (loTask_any _ _ _ _ _ _ _ _ _ h h').mono ?_; rintro e w' ⟨rfl, rfl⟩; rw [HG.out])
      refine HCAL.out.mono ?_
      rintro e w1 ⟨a1, k1, cap1, rfl, hown1, hb1⟩
      have hk : (k1 : Int) < (n : Int) := by
        have h1 := hown1.len
        have h2 := HLE.out
        have h3 := HN.out
        have h4 : (longN xs ls).length ≠ xs.length := fun e => HM.out (HK.out.1 e)
        omega
      go_wp2_with fail
      go_ret2
      exact postInts_no HR.out hb1
  · have HR : Hid (driveLongOf xs ls = ([], false)) := hid (by simp [driveLongOf, hg])
    have HG := hid hg
    clear hg
    go_enter Try.func15, Try.ntmps15
    go_wp2_with (go_at_call 57; refine (loTask_any _ _ _ _ _ _ _ _ _ h h').mono ?_; rintro e w' ⟨rfl, rfl⟩; rw [Bool.eq_false_iff.2 HG.out])
    go_ret2
    exact postInts_no HR.out (Below.refl _ _)

set_option maxHeartbeats 400000 in
theorem specIsLong_any (a b : Option Addr) (n cap m capl : Nat) (xs ls : List Int) (w : World) (h : Has w a n cap xs) (h' : Has w b m capl ls) :
    Calls Try.prog 17 #[.slice a n cap, .slice b m capl] w (PostBools w (isLongOf xs ls)) := by
  by_cases hg : taskB xs ls = true
  · obtain ⟨hl, hnm, P, hP, hge⟩ := task_facts hg h.len h'.len
    have hcal := loDrive_any _ _ _ _ _ _ P _ _ _ h h' hnm hl hP hge
    have HCAL := hid hcal
    have HG := hid hg
    have HN := hid h.len
    have HK := hid (longN_ok xs ls)
    have HR : Hid (isLongOf xs ls = (longOk xs ls, true)) := hid (by simp [isLongOf, hg])
    clear hg hl hnm hP hge hcal
    go_enter Try.func17, Try.ntmps17
    go_wp2_with (go_at_call 57; refine (loTask_any _ _ _ _ _ _ _ _ _ h h').mono ?_; rintro e w' ⟨rfl, rfl⟩; rw [HG.out])
    refine HCAL.out.mono ?_
    rintro e w1 ⟨a1, k1, cap1, rfl, hown1, hb1⟩
    have HKB : Hid (((k1 : Int) == (n : Int)) = longOk xs ls) := hid (by
      have h1 := hown1.len
      have h2 := HK.out
      rw [h1, HN.out] at h2
      by_cases e : longOk xs ls = true
      · have := h2.2 e
        rw [e]
        simp
        omega
      · have : ¬ k1 = n := fun x => e (h2.1 x)
        have e' : longOk xs ls = false := by simpa using e
        rw [e']
        simp
        omega)
    go_wp2_with fail
    go_ret2
    exact postBools (by rw [HR.out, ← HKB.out]) hb1
  · have HR : Hid (isLongOf xs ls = (false, false)) := hid (by simp [isLongOf, hg])
    have HG := hid hg
    clear hg
    go_enter Try.func17, Try.ntmps17
    go_wp2_with (go_at_call 57; refine (loTask_any _ _ _ _ _ _ _ _ _ h h').mono ?_; rintro e w' ⟨rfl, rfl⟩; rw [Bool.eq_false_iff.2 HG.out])
    go_ret2
    exact postBools HR.out (Below.refl _ _)

set_option maxHeartbeats 400000 in
theorem specBlocked_any (a b : Option Addr) (n cap m capl : Nat) (xs ls : List Int) (w : World) (h : Has w a n cap xs) (h' : Has w b m capl ls) :
    Calls Try.prog 19 #[.slice a n cap, .slice b m capl] w (PostInt w (blockedOf xs ls)) := by
  by_cases hg : taskB xs ls = true
  · obtain ⟨hl, hnm, P, hP, hge⟩ := task_facts hg h.len h'.len
    have hcal := loDrive_any _ _ _ _ _ _ P _ _ _ h h' hnm hl hP hge
    have HCAL := hid hcal
    have HG := hid hg
    have HN := hid h.len
    have HK := hid (longN_ok xs ls)
    by_cases hm : longOk xs ls = true
    · have HR : Hid (blockedOf xs ls = (0, false)) := hid (by simp [blockedOf, hm])
      have HM := hid hm
      clear hg hm hl hnm hP hge hcal
      go_enter Try.func19, Try.ntmps19
      go_wp2_with (go_at_call 57; refine (loTask_any _ _ _ _ _ _ _ _ _ h h').mono ?_; rintro e w' ⟨rfl, rfl⟩; rw [HG.out])
      refine HCAL.out.mono ?_
      rintro e w1 ⟨a1, k1, cap1, rfl, hown1, hb1⟩
      have hk : ((k1 : Int) == (n : Int)) = true := by
        have h1 := hown1.len
        have h2 := HK.out.2 HM.out
        have h3 := HN.out
        simp
        omega
      go_wp2_with fail
      go_ret2
      exact postInt HR.out hb1
    · have HR : Hid (blockedOf xs ls = (((longN xs ls).length : Int), true)) := hid (by simp [blockedOf, hg, hm])
      have HM := hid hm
      clear hg hm hl hnm hP hge hcal
      go_enter Try.func19, Try.ntmps19
      go_wp2_with (go_at_call 57; refine (loTask_any _ _ _ _ _ _ _ _ _ h h').mono ?_; rintro e w' ⟨rfl, rfl⟩; rw [HG.out])
      refine HCAL.out.mono ?_
      rintro e w1 ⟨a1, k1, cap1, rfl, hown1, hb1⟩
      have hk : ((k1 : Int) == (n : Int)) = false := by
        have h1 := hown1.len
        have h3 := HN.out
        have h4 : (longN xs ls).length ≠ xs.length := fun e => HM.out (HK.out.1 e)
        simp
        omega
      go_wp2_with fail
      go_ret2
      exact postInt (by rw [HR.out, hown1.len]) hb1
  · have HR : Hid (blockedOf xs ls = (0, false)) := hid (by simp [blockedOf, hg])
    have HG := hid hg
    clear hg
    go_enter Try.func19, Try.ntmps19
    go_wp2_with (go_at_call 57; refine (loTask_any _ _ _ _ _ _ _ _ _ h h').mono ?_; rintro e w' ⟨rfl, rfl⟩; rw [Bool.eq_false_iff.2 HG.out])
    go_ret2
    exact postInt HR.out (Below.refl _ _)

theorem mul_bounds {x y : Int} (h1 : 1 ≤ x) (h2 : x ≤ 37822859361) (h3 : 1 ≤ y) (h4 : y ≤ 21) : 1 ≤ x * y ∧ x * y ≤ 794280046581 := by
  have a := Int.mul_le_mul h1 h3 (by omega) (by omega)
  have b := Int.mul_le_mul h2 h4 (by omega) (by omega)
  omega

set_option maxHeartbeats 800000 in
theorem specCountLong_any (b : Option Addr) (m capl : Nat) (ls : List Int) (w : World) (h' : Has w b m capl ls) :
    Calls Try.prog 28 #[.slice b m capl] w (PostInt w (countLongOf ls)) := by
  by_cases hl : lenB ls = true
  · have HR : Hid (countLongOf ls = (prodLong ls ls.length, true)) := hid (by simp [countLongOf, hl])
    obtain ⟨hs, t1, t2, hl1, hl8, -⟩ := lenB_sum hl
    have HM := hid h'.len
    have HL := hid hl
    rw [h'.len] at hl1 hl8
    have HS := hid (fun k (hk : k ≤ m) => (show Small (ls.take k) from fun i hi => by
      simp at hi
      rw [nth_take (by omega)]
      exact hs i (by omega)))
    clear hl hs
    go_enter Try.func28, Try.ntmps28
    go_wp2_with (go_at_call 50; refine (loLengths_any _ _ _ _ _ h').mono ?_; rintro e w' ⟨rfl, rfl⟩; rw [HL.out])
    go_loop [5, 6] (fun c i => ∃ (k : Nat) (v : Int), 1 ≤ k ∧ k ≤ m ∧ i = .int .i64 k ∧ c = .int .i64 v ∧ Hid (v = prodLong ls k)) (fun _ i => m - (intOf i).toNat)
    case atStart => exact ⟨1, 1, Nat.le_refl _, hl1, rfl, rfl, hid (prodLong_one ls).symm⟩
    case round =>
      obtain ⟨k, v, hk1, hk, rfl, rfl, HV⟩ := hrel
      by_cases hlt : k < m
      · obtain ⟨b1, b2⟩ := prodLong_le HL.out (i := k) (by rw [HM.out]; omega)
        rw [← HV.out] at b1 b2
        obtain ⟨f0, f1, f2, f3⟩ := factor_bounds HL.out (i := k) (by rw [HM.out]; omega)
        have HP := hid (prodLong_succ ls hk1)
        have hsm := HS.out k (by omega)
        have htk := h'.take (k := k) (by omega)
        rw [HM.out] at f2 f3
        obtain ⟨m1, m2⟩ := mul_bounds b1 b2 f2 f3
        have hkc : k ≤ capl := by have := h'.2.1; omega
        have HMM := hid HM.out
        go_wp2_with (go_at_call 51; refine (paSum_any _ _ _ _ _ htk hsm).mono ?_; rintro e w' ⟨rfl, rfl⟩)
        go_round
        case rel => exact ⟨k + 1, v * (total (ls.take k) + m - k + 1), by omega, by omega, by go_num, by go_num, hid (by rw [HP.out, HV.out, HMM.out])⟩
        case measure => simp [intOf]; omega
      · obtain rfl : k = m := by omega
        go_wp2_with fail
        go_ret2
        exact postInt (by rw [HR.out, HV.out, HM.out]) (Below.refl _ _)
  · have HR : Hid (countLongOf ls = (0, false)) := hid (by simp [countLongOf, hl])
    have HL := hid hl
    clear hl
    go_enter Try.func28, Try.ntmps28
    go_wp2_with (go_at_call 50; refine (loLengths_any _ _ _ _ _ h').mono ?_; rintro e w' ⟨rfl, rfl⟩; rw [Bool.eq_false_iff.2 HL.out])
    go_ret2
    exact postInt HR.out (Below.refl _ _)
end Go.Proofs.Ytnddplldkgphnac

namespace Go.Proofs.Ytnddplldkgphnac
open Go.RowKit

theorem loBacks_any (k : Int) (w : World) : Calls Try.prog 69 #[.int .i64 k] w fun e w' => e = .returned (.bool (inB k 0 8)) ∧ w = w' := by
  go_enter Try.func69, Try.ntmps69
  go_wp2_with (go_at_call 76; refine (l1In_any _ _ _ _).mono ?_; rintro e w' ⟨rfl, rfl⟩)
  go_ret
  exact ⟨rfl, rfl⟩

/-- The two tests ahead of driving back. -/
theorem backB_parts {xs : List Int} {p k : Int} : backB xs p k = true ↔ good xs p = true ∧ inB k 0 8 = true := by simp [backB]

set_option maxHeartbeats 800000 in
theorem specDriveBack_any (a : Option Addr) (n cap : Nat) (xs : List Int) (p k0 : Int) (w : World) (h : Has w a n cap xs) :
    Calls Try.prog 31 #[.slice a n cap, .int .i64 p, .int .i64 k0] w (PostInts w (driveBackOf xs p k0)) := by
  by_cases hg : good xs p = true
  · obtain ⟨g1, g2, g3, g4⟩ := good_nth hg h.len
    have HG := hid hg
    by_cases hk : inB k0 0 8 = true
    · have HK := hid hk
      obtain ⟨m, rfl⟩ : ∃ m : Nat, k0 = (m : Int) := ⟨k0.toNat, by have := inB_iff.1 hk; omega⟩
      obtain ⟨P, rfl⟩ : ∃ P : Nat, p = (P : Int) := ⟨p.toNat, by omega⟩
      have hm8 : m ≤ 8 := by have := inB_iff.1 hk; omega
      have hcal := fun w1 (hb : Below w.heap.size w w1) => loBack_any a n cap P m xs w1 (h.below hb (Nat.le_refl _)) g1 (by omega) hm8 g4
      have HC := hid hcal
      by_cases hm : hasB (backs P m xs) (-1) = true
      · have HR : Hid (driveBackOf xs P m = ([], false)) := hid (by simp [driveBackOf, hm])
        have HM := hid hm
        clear hg hk hm hcal g4
        go_enter Try.func31, Try.ntmps31
        go_wp2_with (first | (go_at_call 68; refine (paGood_any _ _ _ _ _ _ h).mono ?_; rintro e w' ⟨rfl, rfl⟩; rw [HG.out]) | (go_at_call 69; refine (loBacks_any _ _).mono ?_; rintro e w' ⟨rfl, rfl⟩; rw [HK.out]))
        refine (HC.out _ (Below.refl _ _)).mono ?_
        rintro e w1 ⟨a1, cap1, rfl, hown1, hb1⟩
        go_wp2_with (go_at_call 71; refine (l1Has_any _ _ _ _ _ _ hown1.has).mono ?_; rintro e w' ⟨rfl, rfl⟩; rw [HM.out])
        go_ret2
        exact postInts_no HR.out hb1
      · have hm' : hasB (backs P m xs) (-1) = false := by simpa using hm
        have HR : Hid (driveBackOf xs P m = (backs P m xs, true)) := hid (by simp [driveBackOf, backB, hg, hk, hm'])
        have HM := hid hm'
        clear hg hk hm hm' hcal g4
        go_enter Try.func31, Try.ntmps31
        go_wp2_with (first | (go_at_call 68; refine (paGood_any _ _ _ _ _ _ h).mono ?_; rintro e w' ⟨rfl, rfl⟩; rw [HG.out]) | (go_at_call 69; refine (loBacks_any _ _).mono ?_; rintro e w' ⟨rfl, rfl⟩; rw [HK.out]))
        refine (HC.out _ (Below.refl _ _)).mono ?_
        rintro e w1 ⟨a1, cap1, rfl, hown1, hb1⟩
        go_wp2_with (go_at_call 71; refine (l1Has_any _ _ _ _ _ _ hown1.has).mono ?_; rintro e w' ⟨rfl, rfl⟩; rw [HM.out])
        go_ret2
        exact postInts HR.out hown1 hb1
    · have HR : Hid (driveBackOf xs p k0 = ([], false)) := hid (by simp [driveBackOf, backB, hk])
      have HK := hid hk
      clear hg hk g4
      go_enter Try.func31, Try.ntmps31
      go_wp2_with (first | (go_at_call 68; refine (paGood_any _ _ _ _ _ _ h).mono ?_; rintro e w' ⟨rfl, rfl⟩; rw [HG.out]) | (go_at_call 69; refine (loBacks_any _ _).mono ?_; rintro e w' ⟨rfl, rfl⟩; rw [Bool.eq_false_iff.2 HK.out]))
      go_ret2
      exact postInts_no HR.out (Below.refl _ _)
  · have HR : Hid (driveBackOf xs p k0 = ([], false)) := hid (by simp [driveBackOf, backB, hg])
    have HG := hid hg
    clear hg
    go_enter Try.func31, Try.ntmps31
    go_wp2_with (first | (go_at_call 68; refine (paGood_any _ _ _ _ _ _ h).mono ?_; rintro e w' ⟨rfl, rfl⟩; rw [Bool.eq_false_iff.2 HG.out]))
    go_ret2
    exact postInts_no HR.out (Below.refl _ _)

set_option maxHeartbeats 800000 in
theorem specDoBack_any (a : Option Addr) (n cap : Nat) (xs : List Int) (p k0 : Int) (w : World) (h : Has w a n cap xs) :
    Calls Try.prog 33 #[.slice a n cap, .int .i64 p, .int .i64 k0] w (PostBools w (doBackOf xs p k0)) := by
  by_cases hg : good xs p = true
  · obtain ⟨g1, g2, g3, g4⟩ := good_nth hg h.len
    have HG := hid hg
    by_cases hk : inB k0 0 8 = true
    · have HK := hid hk
      obtain ⟨m, rfl⟩ : ∃ m : Nat, k0 = (m : Int) := ⟨k0.toNat, by have := inB_iff.1 hk; omega⟩
      obtain ⟨P, rfl⟩ : ∃ P : Nat, p = (P : Int) := ⟨p.toNat, by omega⟩
      have hm8 : m ≤ 8 := by have := inB_iff.1 hk; omega
      have hcal := loBack_any a n cap P m xs w h g1 (by omega) hm8 g4
      have HC := hid hcal
      have HR : Hid (doBackOf xs P m = (!hasB (backs P m xs) (-1), true)) := hid (by simp [doBackOf, backB, hg, hk])
      clear hg hk hcal g4
      go_enter Try.func33, Try.ntmps33
      go_wp2_with (first | (go_at_call 68; refine (paGood_any _ _ _ _ _ _ h).mono ?_; rintro e w' ⟨rfl, rfl⟩; rw [HG.out]) | (go_at_call 69; refine (loBacks_any _ _).mono ?_; rintro e w' ⟨rfl, rfl⟩; rw [HK.out]))
      refine HC.out.mono ?_
      rintro e w1 ⟨a1, cap1, rfl, hown1, hb1⟩
      go_wp2_with (go_at_call 71; refine (l1Has_any _ _ _ _ _ _ hown1.has).mono ?_; rintro e w' ⟨rfl, rfl⟩)
      go_ret2
      exact postBools HR.out hb1
    · have HR : Hid (doBackOf xs p k0 = (false, false)) := hid (by simp [doBackOf, backB, hk])
      have HK := hid hk
      clear hg hk g4
      go_enter Try.func33, Try.ntmps33
      go_wp2_with (first | (go_at_call 68; refine (paGood_any _ _ _ _ _ _ h).mono ?_; rintro e w' ⟨rfl, rfl⟩; rw [HG.out]) | (go_at_call 69; refine (loBacks_any _ _).mono ?_; rintro e w' ⟨rfl, rfl⟩; rw [Bool.eq_false_iff.2 HK.out]))
      go_ret2
      exact postBools HR.out (Below.refl _ _)
  · have HR : Hid (doBackOf xs p k0 = (false, false)) := hid (by simp [doBackOf, backB, hg])
    have HG := hid hg
    clear hg
    go_enter Try.func33, Try.ntmps33
    go_wp2_with (first | (go_at_call 68; refine (paGood_any _ _ _ _ _ _ h).mono ?_; rintro e w' ⟨rfl, rfl⟩; rw [Bool.eq_false_iff.2 HG.out]))
    go_ret2
    exact postBools HR.out (Below.refl _ _)

theorem leastFrom_step {xs : List Int} {p : Int} {f k : Nat} (h : hasB (backs p k xs) (-1) = true) : leastFrom xs p (f + 1) k = leastFrom xs p f (k + 1) := by rw [leastFrom, if_pos h]
theorem leastFrom_hit {xs : List Int} {p : Int} {f k : Nat} (h : hasB (backs p k xs) (-1) = false) : leastFrom xs p (f + 1) k = ((k : Int), true) := by rw [leastFrom, if_neg (by rw [h]; simp)]

set_option maxHeartbeats 800000 in
theorem specLeastBack_any (a : Option Addr) (n cap : Nat) (xs : List Int) (p : Int) (w : World) (h : Has w a n cap xs) :
    Calls Try.prog 35 #[.slice a n cap, .int .i64 p] w (PostInt w (leastBackOf xs p)) := by
  by_cases hg : good xs p = true
  · obtain ⟨g1, g2, g3, g4⟩ := good_nth hg h.len
    have HG := hid hg
    obtain ⟨P, rfl⟩ : ∃ P : Nat, p = (P : Int) := ⟨p.toNat, by omega⟩
    have hcal := fun m (hm : m ≤ 8) w1 (hb : Below w.heap.size w w1) => loBack_any a n cap P m xs w1 (h.below hb (Nat.le_refl _)) g1 (by omega) hm g4
    have HC := hid hcal
    have HR : Hid (leastBackOf xs P = leastFrom xs P 9 0) := hid (by simp [leastBackOf, hg])
    clear hg hcal g4
    go_enter Try.func35, Try.ntmps35
    go_wp2_with (go_at_call 68; refine (paGood_any _ _ _ _ _ _ h).mono ?_; rintro e w' ⟨rfl, rfl⟩; rw [HG.out])
    go_loopw [6] (fun i wr => ∃ k f : Nat, i = .int .i64 k ∧ k + f ≤ 9 ∧ 9 ≤ k + f ∧ Hid (leastFrom xs P 9 0 = leastFrom xs P f k) ∧ Below w.heap.size w wr) (fun i _ => 9 - (intOf i).toNat)
    case atStart => exact ⟨0, 9, rfl, by omega, by omega, hid rfl, Below.refl _ _⟩
    case round =>
      obtain ⟨k, f, rfl, hf1, hf2, HL, hb⟩ := hrel
      cases f with
      | zero =>
        go_wp2_with fail
        go_ret2
        exact postInt (by rw [HR.out, HL.out]; rfl) hb
      | succ f =>
        have hk8 : k ≤ 8 := by omega
        have hbs := hb.size
        by_cases hm : hasB (backs P k xs) (-1) = true
        · have HM := hid hm
          have HS := hid (leastFrom_step (f := f) hm)
          clear hm
          go_wp2_with fail
          refine (HC.out k hk8 _ hb).mono ?_
          rintro e w1 ⟨a1, cap1, rfl, hown1, hb1⟩
          go_wp2_with (go_at_call 71; refine (l1Has_any _ _ _ _ _ _ hown1.has).mono ?_; rintro e w' ⟨rfl, rfl⟩; rw [HM.out])
          go_roundw
          case rel => exact ⟨k + 1, f, by go_num, by omega, by omega, hid (by rw [HL.out, HS.out]), hb.trans (hb1.mono hbs)⟩
          case measure => simp [intOf]; omega
        · have hm' : hasB (backs P k xs) (-1) = false := by simpa using hm
          have HM := hid hm'
          have HS := hid (leastFrom_hit (f := f) hm')
          clear hm hm'
          go_wp2_with fail
          refine (HC.out k hk8 _ hb).mono ?_
          rintro e w1 ⟨a1, cap1, rfl, hown1, hb1⟩
          go_wp2_with (go_at_call 71; refine (l1Has_any _ _ _ _ _ _ hown1.has).mono ?_; rintro e w' ⟨rfl, rfl⟩; rw [HM.out])
          go_ret2
          exact postInt (by rw [HR.out, HL.out, HS.out]) (hb.trans (hb1.mono hbs))
  · have HR : Hid (leastBackOf xs p = (0, false)) := hid (by simp [leastBackOf, hg])
    have HG := hid hg
    clear hg
    go_enter Try.func35, Try.ntmps35
    go_wp2_with (go_at_call 68; refine (paGood_any _ _ _ _ _ _ h).mono ?_; rintro e w' ⟨rfl, rfl⟩; rw [Bool.eq_false_iff.2 HG.out])
    go_ret2
    exact postInt HR.out (Below.refl _ _)

theorem small_of {ls : List Int} (h : ∀ i, i < ls.length → 1 ≤ nth ls i ∧ nth ls i ≤ 12) : ∀ x ∈ ls, 0 ≤ x := fun x hx => by
  obtain ⟨j, hj, e⟩ := List.getElem_of_mem hx
  have := h j hj
  have e2 : nth ls j = x := by simp [nth, hj, e]
  omega

set_option maxHeartbeats 2000000 in
theorem specStretch_any (a b : Option Addr) (n cap m capl : Nat) (xs ls : List Int) (w : World) (h : Has w a n cap xs) (h' : Has w b m capl ls) :
    Calls Try.prog 25 #[.slice a n cap, .slice b m capl] w (PostInts w (stretchOf xs ls)) := by
  have HN := hid h.len
  have HM := hid h'.len
  by_cases hp : isPark xs = true
  · have HP := hid hp
    by_cases hl : lenB ls = true
    · have HL := hid hl
      by_cases hmn : m = n
      · have HR : Hid (stretchOf xs ls = (stretch xs ls, true)) := hid (by simp [stretchOf, hp, hl, HN.out, HM.out, hmn])
        have HMN := hid hmn
        have hbe : ((m : Int) != (n : Int)) = false := by simp [hmn]
        obtain ⟨-, t1, t2, -, -, hlb⟩ := lenB_sum hl
        have HSB := hid (fun (x : Int) k (hk : k ≤ ls.length) => strSum_bounds (order := drive n xs) (small_of hlb) x k hk)
        have HST := hid (fun k (hk : k < xs.length) => stretch_take (ls := ls) hk)
        obtain ⟨p1, p2, -⟩ := isPark_iff.1 hp
        have hge : ∀ i, i < n → 0 ≤ nth xs i ∧ nth xs i ≤ (n : Int) - 1 := fun i hi => by
          have := p2 _ (nth_mem (xs := xs) (i := i) (by rw [HN.out]; exact hi))
          rw [HN.out] at this
          exact this
        have HGE := hid hge
        have hn8 : n ≤ 8 := by have := HN.out; omega
        have HTK := hid (fun k (hk : k ≤ ls.length) => (total_lens (small_of hlb) k hk).2)
        have HLB := hid (fun i (hi : i < m) => hlb i (by rw [HM.out]; exact hi))
        clear hp hl hmn hlb hge
        go_enter Try.func25, Try.ntmps25
        go_wp2_with (first | (go_at_call 65; refine (paParking_any _ _ _ _ _ h).mono ?_; rintro e w1 ⟨rfl, hb1⟩; rw [HP.out]) | (go_at_call 50; refine (loLengths_any _ _ _ _ _ (h'.below hb1 (Nat.le_refl _))).mono ?_; rintro e w' ⟨rfl, rfl⟩; rw [HL.out]))
        refine (paDrive_any _ _ _ _ _ _ (h.below hb1 (Nat.le_refl _)) hn8 (by omega) HGE.out).mono ?_
        rintro e w2 ⟨a2, cap2, rfl, hown2, hb2⟩
        have hbw := hb1.trans (hb2.mono hb1.size)
        have hh2 := hown2.has
        have hs1 := hb1.size
        obtain ⟨od, hod⟩ : ∃ od, drive n xs = od := ⟨_, rfl⟩
        rw [hod] at hh2
        have HOD := hid hod
        clear hod hown2 hb2 hb1
        go_wp2_with fail
        go_loopw [7, 34] (fun o i wr => ∃ (k : Nat) (a' : Option Addr) (cap' : Nat), k ≤ n ∧ i = .int .i64 k ∧ o = .slice a' k cap' ∧ Own wr w2.heap.size a' k cap' ((stretch xs ls).take k) ∧ Below w2.heap.size w2 wr) (fun _ i _ => n - (intOf i).toNat)
        case atStart => exact ⟨0, none, 0, Nat.zero_le _, rfl, rfl, Own.nil _ _, Below.refl _ _⟩
        case round =>
          obtain ⟨k, a', cap', hk, rfl, rfl, hown, hb⟩ := hrel
          have hww := hbw.trans (hb.mono hbw.size)
          by_cases hlt : k < n
          · obtain ⟨b0, off, rfl, hbb, hc⟩ := h.2.2.2.2 (by omega)
            have hck : wr.cell? ⟨b0, off + k, none⟩ = some (.int .i64 (nth xs k)) := by rw [hww.cell (p := ⟨b0, off + k, none⟩) hbb]; exact hc k hlt
            have hh3 := hh2.below hb (Nat.le_refl _)
            have hl3 := h'.below hww (Nat.le_refl _)
            have HS := hid (HST.out k (by rw [HN.out]; exact hlt))
            generalize hx : nth xs k = x at *
            have HX := hid hx
            clear hc hx
            go_wp2_with fail
            go_loop [10, 40] (fun c i => ∃ (j : Nat) (v : Int), j ≤ n ∧ i = .int .i64 j ∧ c = .int .i64 v ∧ Hid (v = strSum od ls x j)) (fun _ i => n - (intOf i).toNat)
            case atStart => exact ⟨0, 0, Nat.zero_le _, rfl, rfl, hid rfl⟩
            case round =>
              obtain ⟨j, v, hj, rfl, rfl, HV⟩ := hrel
              by_cases hjn : j < n
              · obtain ⟨b2, off2, rfl, hb2, hc2⟩ := hh3.2.2.2.2 (by omega)
                obtain ⟨b3, off3, rfl, hb3, hc3⟩ := hl3.2.2.2.2 (by have := HMN.out; omega)
                have hjm : j < m := by rw [HMN.out]; exact hjn
                have hd2 := hc2 j hjn
                have hd3 := hc3 j hjm
                obtain ⟨v0, v1⟩ := HSB.out x j (by rw [HM.out]; omega)
                have v2 := HTK.out j (by rw [HM.out]; omega)
                rw [HOD.out, ← HV.out] at v0 v1
                obtain ⟨l0, l1⟩ := HLB.out j hjm
                clear hc2 hc3
                by_cases ht : nth od j < x
                · have HV2 : Hid (strSum od ls x (j + 1) = v + nth ls j) := hid (by rw [strSum, if_pos ht, HV.out])
                  go_wp2_with fail
                  go_round
                  case rel => exact ⟨j + 1, v + nth ls j, by omega, by go_num, by go_num, hid HV2.out.symm⟩
                  case measure => simp [intOf]; omega
                · have HV2 : Hid (strSum od ls x (j + 1) = v) := hid (by rw [strSum, if_neg ht, HV.out]; omega)
                  go_wp2_with fail
                  go_round
                  case rel => exact ⟨j + 1, v, by omega, by go_num, rfl, hid HV2.out.symm⟩
                  case measure => simp [intOf]; omega
              · obtain rfl : j = n := by omega
                have HVV : Hid (v = strSum (drive xs.length xs) ls x ls.length) := hid (by rw [HN.out, HM.out, HMN.out, HOD.out, HV.out])
                have hbs := hb.size
                go_wp2_with (at_builtin; refine wpList_append_int _ rfl _ _ rfl w2.heap.size _ _ _ _ _ rfl rfl hown (by omega) hbs ?_; intro a3 cap3 w3 hown3 hb3)
                go_roundw
                case rel => exact ⟨k + 1, a3, cap3, by omega, by go_num, rfl, by rw [HS.out, ← HVV.out]; exact hown3, hb.trans hb3⟩
                case measure => simp [intOf]; omega
          · obtain rfl : k = n := by omega
            go_wp2_with fail
            go_ret2
            exact postInts HR.out (by rw [List.take_of_length_le (by rw [length_stretch, HN.out]; omega)] at hown; exact hown.mono hbw.size) hww
      · have HR : Hid (stretchOf xs ls = ([], false)) := hid (by
          have : ¬ n = m := fun e => hmn e.symm
          simp [stretchOf, HN.out, HM.out, this])
        have hbe : ((m : Int) != (n : Int)) = true := by simp; omega
        clear hp hl hmn
        go_enter Try.func25, Try.ntmps25
        go_wp2_with (first | (go_at_call 65; refine (paParking_any _ _ _ _ _ h).mono ?_; rintro e w1 ⟨rfl, hb1⟩; rw [HP.out]) | (go_at_call 50; refine (loLengths_any _ _ _ _ _ (h'.below hb1 (Nat.le_refl _))).mono ?_; rintro e w' ⟨rfl, rfl⟩; rw [HL.out]))
        go_ret2
        exact postInts_no HR.out hb1
    · have HR : Hid (stretchOf xs ls = ([], false)) := hid (by simp [stretchOf, hl])
      have HL := hid hl
      clear hp hl
      go_enter Try.func25, Try.ntmps25
      go_wp2_with (first | (go_at_call 65; refine (paParking_any _ _ _ _ _ h).mono ?_; rintro e w1 ⟨rfl, hb1⟩; rw [HP.out]) | (go_at_call 50; refine (loLengths_any _ _ _ _ _ (h'.below hb1 (Nat.le_refl _))).mono ?_; rintro e w' ⟨rfl, rfl⟩; rw [Bool.eq_false_iff.2 HL.out]))
      go_ret2
      exact postInts_no HR.out hb1
  · have HR : Hid (stretchOf xs ls = ([], false)) := hid (by simp [stretchOf, hp])
    have HP := hid hp
    clear hp
    go_enter Try.func25, Try.ntmps25
    go_wp2_with (first | (go_at_call 65; refine (paParking_any _ _ _ _ _ h).mono ?_; rintro e w1 ⟨rfl, hb1⟩; rw [Bool.eq_false_iff.2 HP.out]))
    go_ret2
    exact postInts_no HR.out hb1
end Go.Proofs.Ytnddplldkgphnac

namespace Go.Proofs.Ytnddplldkgphnac
open Go.RowKit

theorem defTo_bounds {xs : List Int} {p : Int} (h8 : xs.length ≤ 8) (hp : 0 ≤ p) (hp2 : p ≤ 12) : ∀ q : Nat, (q : Int) ≤ p → 0 ≤ defTo xs p q ∧ defTo xs p q ≤ 8
  | 0, _ => by simp [defTo]
  | q + 1, hq => by
    have ih := defTo_bounds h8 hp hp2 q (by omega)
    have := below_le xs q
    rw [defTo]
    unfold surplus
    omega

end Go.Proofs.Ytnddplldkgphnac

namespace Go.Proofs.Ytnddplldkgphnac
open Go.RowKit

theorem driveBackOf_no {xs : List Int} {p : Int} {k : Nat} (hm : hasB (backs p k xs) (-1) = true) : driveBackOf xs p k = ([], false) := by simp [driveBackOf, hm]
theorem driveBackOf_yes {xs : List Int} {p : Int} {k : Nat} (h : backB xs p k = true) (hm : hasB (backs p k xs) (-1) = false) : driveBackOf xs p k = (backs p k xs, true) := by simp [driveBackOf, h, hm]

set_option maxHeartbeats 800000 in
theorem leastBack_any (a : Option Addr) (n cap : Nat) (xs : List Int) (p : Int) (w : World) (h : Has w a n cap xs) :
    Calls Try.prog 34 #[.slice a n cap, .int .i64 p] w (PostInt w (leastBackOf xs p)) := by
  have HG : Hid (good xs p = true → leastBackOf xs p = leastFrom xs p 9 0) := hid (fun hg => by simp [leastBackOf, hg])
  have HG2 : Hid (good xs p = false → leastBackOf xs p = (0, false)) := hid (fun hg => by simp [leastBackOf, hg])
  go_enter Try.func34, Try.ntmps34
  go_wp2_with fail
  go_loopw [9] (fun i wr => ∃ k f : Nat, i = .int .i64 k ∧ k + f ≤ 9 ∧ 9 ≤ k + f ∧ Hid (good xs p = true → leastBackOf xs p = leastFrom xs p f k) ∧ Below w.heap.size w wr) (fun i _ => 9 - (intOf i).toNat)
  case atStart => exact ⟨0, 9, rfl, by omega, by omega, hid HG.out, Below.refl _ _⟩
  case round =>
    obtain ⟨k, f, rfl, hf1, hf2, HL, hb⟩ := hrel
    cases f with
    | zero =>
      have HR : Hid (leastBackOf xs p = (0, false)) := hid (by
        cases hg : good xs p with
        | true => rw [HL.out hg]; rfl
        | false => exact HG2.out hg)
      go_wp2_with fail
      go_ret2
      exact postInt HR.out hb
    | succ f =>
      have hk8 : k ≤ 8 := by omega
      have hbs := hb.size
      by_cases hg : good xs p = true
      · have hB : backB xs p k = true := backB_parts.2 ⟨hg, inB_iff.2 (by omega)⟩
        by_cases hm : hasB (backs p k xs) (-1) = true
        · have HD := hid (driveBackOf_no (p := p) hm)
          have HS := hid (leastFrom_step (f := f) hm)
          clear hm hB hg
          go_wp2_with fail
          refine (driveBack_any _ _ _ _ p k _ (h.below hb (Nat.le_refl _))).mono ?_
          rw [HD.out]
          rintro e w1 ⟨a1, n1, cap1, rfl, hown1, hb1⟩
          go_wp2_with fail
          go_roundw
          case rel => exact ⟨k + 1, f, by go_num, by omega, by omega, hid (fun g => by rw [HL.out g, HS.out]), hb.trans (hb1.mono hbs)⟩
          case measure => simp [intOf]; omega
        · have hm' : hasB (backs p k xs) (-1) = false := by simpa using hm
          have HD := hid (driveBackOf_yes hB hm')
          have HR : Hid (leastBackOf xs p = ((k : Int), true)) := hid (by rw [HL.out hg, leastFrom_hit hm'])
          clear hm hm' hB hg
          go_wp2_with fail
          refine (driveBack_any _ _ _ _ p k _ (h.below hb (Nat.le_refl _))).mono ?_
          rw [HD.out]
          rintro e w1 ⟨a1, n1, cap1, rfl, hown1, hb1⟩
          go_wp2_with fail
          go_ret2
          exact postInt HR.out (hb.trans (hb1.mono hbs))
      · have hg' : good xs p = false := by simpa using hg
        have HD : Hid (driveBackOf xs p k = ([], false)) := hid (by simp [driveBackOf, backB, hg'])
        have HF := hid hg'
        clear hg hg'
        go_wp2_with fail
        refine (driveBack_any _ _ _ _ p k _ (h.below hb (Nat.le_refl _))).mono ?_
        rw [HD.out]
        rintro e w1 ⟨a1, n1, cap1, rfl, hown1, hb1⟩
        go_wp2_with fail
        go_roundw
        case rel => exact ⟨k + 1, f, by go_num, by omega, by omega, hid (fun g => by rw [HF.out] at g; simp at g), hb.trans (hb1.mono hbs)⟩
        case measure => simp [intOf]; omega

set_option maxHeartbeats 800000 in
theorem countLong_any (b : Option Addr) (m capl : Nat) (ls : List Int) (w : World) (h' : Has w b m capl ls) :
    Calls Try.prog 27 #[.slice b m capl] w (PostInt w (countLongOf ls)) := by
  by_cases hl : lenB ls = true
  · have HR : Hid (countLongOf ls = (prodLong ls ls.length, true)) := hid (by simp [countLongOf, hl])
    obtain ⟨-, t1, t2, hl1, hl8, hlb⟩ := lenB_sum hl
    have HM := hid h'.len
    have HL := hid hl
    have HY := hid (lens_yes hl)
    rw [h'.len] at hl1 hl8 hlb
    have HLB := hid hlb
    clear hl hlb
    go_enter Try.func27, Try.ntmps27
    go_wp2_with (go_at_call 55; refine (totalLength_any _ _ _ _ _ h').mono ?_; rintro e w' ⟨rfl, rfl⟩; rw [HY.out])
    go_loop [6, 7, 8] (fun c t i => ∃ (k : Nat) (v s : Int), k + 1 ≤ m ∧ i = .int .i64 ((k + 1 : Nat) : Int) ∧ c = .int .i64 v ∧ t = .int .i64 s ∧ Hid (v = prodLong ls (k + 1)) ∧ Hid (s = total (ls.take k))) (fun _ _ i => m - (intOf i).toNat)
    case atStart => exact ⟨0, 1, 0, hl1, rfl, rfl, rfl, hid (prodLong_one ls).symm, hid rfl⟩
    case round =>
      obtain ⟨k, v, s, hk, rfl, rfl, rfl, HV, HT⟩ := hrel
      by_cases hlt : k + 1 < m
      · obtain ⟨b1, b2⟩ := prodLong_le HL.out (i := k + 1) (by rw [HM.out]; omega)
        rw [← HV.out] at b1 b2
        obtain ⟨f0, f1, f2, f3⟩ := factor_bounds HL.out (i := k + 1) (by rw [HM.out]; omega)
        obtain ⟨e0, e1, -, -⟩ := factor_bounds HL.out (i := k) (by rw [HM.out]; omega)
        have HP := hid (prodLong_succ ls (i := k + 1) (by omega))
        have HTS := hid (total_succ (xs := ls) (k := k) (by rw [HM.out]; omega))
        rw [HM.out] at f2 f3
        rw [HTS.out, ← HT.out] at f0 f1 f2 f3
        rw [← HT.out] at e0 e1
        obtain ⟨m1, m2⟩ := mul_bounds b1 b2 f2 f3
        obtain ⟨l0, l1⟩ := HLB.out k (by omega)
        obtain ⟨b0, off, rfl, hbb, hc⟩ := h'.2.2.2.2 (by omega)
        have hck := hc k (by omega)
        have HMM := hid HM.out
        have hk1 : ((k + 1 : Nat) : Int) = (k : Int) + 1 := by omega
        rw [hk1] at f2 f3 m1 m2
        clear hc hk1
        go_wp2_with fail
        go_round
        case rel => exact ⟨k + 1, v * (s + nth ls k + m - ((k : Int) + 1) + 1), s + nth ls k, by omega, by go_num, by go_num, by go_num, hid (by rw [HP.out, HV.out, HMM.out, HTS.out, HT.out]; congr 1), hid (by rw [HTS.out, HT.out])⟩
        case measure => simp [intOf]; omega
      · have hkm : k + 1 = m := by omega
        have HKM := hid hkm
        clear hkm
        go_wp2_with fail
        go_ret2
        exact postInt (by rw [HR.out, HV.out, HM.out, HKM.out]) (Below.refl _ _)
  · have HR : Hid (countLongOf ls = (0, false)) := hid (by simp [countLongOf, hl])
    have HY := hid (lens_no hl)
    clear hl
    go_enter Try.func27, Try.ntmps27
    go_wp2_with (go_at_call 55; refine (totalLength_any _ _ _ _ _ h').mono ?_; rintro e w' ⟨rfl, rfl⟩; rw [HY.out])
    go_ret2
    exact postInt HR.out (Below.refl _ _)

theorem needTo_bounds {ys : List Int} (h : ∀ y ∈ ys, y < 12) : 1 ≤ needTo ys ∧ needTo ys ≤ 12 := by
  obtain ⟨n1, n2, n3⟩ := needTo_max ys
  rcases n3 with e | ⟨y, hy, e⟩
  · omega
  · have := h y hy; omega

end Go.Proofs.Ytnddplldkgphnac

namespace Go.Proofs.Ytnddplldkgphnac
open Go.RowKit Go.Shelf

attribute [local go_sem] Oper.semAt_some

theorem isTried_any (n : Int) (w : World) : Calls Try.prog 73 #[.int .i64 n] w fun e w' => e = .returned (.bool (inB n 1 5)) ∧ w = w' := by
  by_cases h1 : 1 ≤ n
  · by_cases h2 : n ≤ 5
    · have HR : Hid (inB n 1 5 = true) := hid (inB_iff.2 ⟨h1, h2⟩)
      go_enter Try.func73, Try.ntmps73
      go_wp2_with fail
      go_ret
      exact ⟨ret_bool HR.out.symm, rfl⟩
    · have HR : Hid (inB n 1 5 = false) := hid (inB_not.2 (by omega))
      go_enter Try.func73, Try.ntmps73
      go_wp2_with fail
      go_ret
      exact ⟨ret_bool HR.out.symm, rfl⟩
  · have HR : Hid (inB n 1 5 = false) := hid (inB_not.2 (by omega))
    go_enter Try.func73, Try.ntmps73
    go_wp2_with fail
    go_ret
    exact ⟨ret_bool HR.out.symm, rfl⟩

theorem keeps_below {B K : Nat} {W W' : World} (hb : Below K W W') (hK : W.heap.size ≤ K) : KeepsFrom B W W' :=
  ⟨hb.size, fun k o _ hk _ => by rw [hb.block k (by have := (Array.getElem?_eq_some_iff.1 hk).1; omega)]; exact hk⟩
theorem kept_below {base K : Nat} {W W' : World} (hb : Below K W W') (hK : W.heap.size ≤ K) : Kept base W W' :=
  ⟨hb.size, fun b _ h2 => hb.block b (by omega)⟩
theorem kept_set {base : Nat} (W : World) (g i : Nat) (v : Value) (hg : g < base) : Kept base W (W.setCell ⟨g, i, none⟩ v) :=
  ⟨by simp, fun b h1 _ => heap_setCell_other W ⟨g, i, none⟩ b v (by simp; omega)⟩
theorem Kept.trans {base : Nat} {A B C : World} (h : Kept base A B) (h' : Kept base B C) : Kept base A C :=
  ⟨Nat.le_trans h.1 h'.1, fun b h1 h2 => by rw [h'.2 b h1 (by have := h.1; omega), h.2 b h1 h2]⟩

theorem alloc_keep {w : World} {b : Nat} {v : Value} (h : w.cell? ⟨b, 0, none⟩ = some v) (hb : b < w.heap.size) (O : Obj) : (w.alloc O).cell? ⟨b, 0, none⟩ = some v := by
  rw [World.cell?_alloc_past _ _ _ (by simpa using hb)]; exact h
end Go.Proofs.Ytnddplldkgphnac

namespace Go.Proofs.Ytnddplldkgphnac
open Go.RowKit Go.Shelf

attribute [local go_sem] Oper.semAt_some

/-- The cells of a loop's own variables: n and m (blocks b, b + 1), what is counted (block bc), the iterator's n (block bn). -/
structure Vars (W : World) (b bc bn : Nat) (n m c : Int) : Prop where
  cn : W.cell? ⟨b, 0, none⟩ = some (.int .i64 n)
  cm : W.cell? ⟨b + 1, 0, none⟩ = some (.int .i64 m)
  cc : W.cell? ⟨bc, 0, none⟩ = some (.int .i64 c)
  fc : W.frozen? ⟨bc, 0, none⟩ = false
  it : W.cell? ⟨bn, 0, none⟩ = some (.int .i64 n)
theorem Vars.below {W W' : World} {b bc bn K : Nat} {n m c : Int} (h : Vars W b bc bn n m c) (hb : Below K W W') (h1 : b + 1 < K) (h2 : bc < K) (h3 : bn < K) : Vars W' b bc bn n m c :=
  ⟨by rw [hb.cell (p := ⟨b, 0, none⟩) (by simp; omega)]; exact h.cn, by rw [hb.cell (p := ⟨b + 1, 0, none⟩) (by simp; omega)]; exact h.cm,
   by rw [hb.cell (p := ⟨bc, 0, none⟩) (by simp; omega)]; exact h.cc, by rw [hb.frozen (p := ⟨bc, 0, none⟩) (by simp; omega)]; exact h.fc,
   by rw [hb.cell (p := ⟨bn, 0, none⟩) (by simp; omega)]; exact h.it⟩
theorem Vars.turn {A B : World} {b bc bn : Nat} {n m c : Int} {row : Option Nat} (h : Vars A b bc bn n m c) (hg : A.grownBy B row) (hr : ∀ r, row = some r → ∃ o : Obj, A.heap[r]? = some o ∧ o.isCells = false) : Vars B b bc bn n m c :=
  ⟨cell_kept h.cn hg hr, cell_kept h.cm hg hr, cell_kept h.cc hg hr, (frozen_kept h.cc hg hr).trans h.fc, cell_kept h.it hg hr⟩
theorem Vars.set {W : World} {b bc bn : Nat} {n m c : Int} (h : Vars W b bc bn n m c) (h1 : b + 1 < bc) (h2 : bc ≠ bn) (y : Int) : Vars (W.setCell ⟨bc, 0, none⟩ (.int .i64 y)) b bc bn n m y :=
  ⟨by rw [cell_other (by omega)]; exact h.cn, by rw [cell_other (by omega)]; exact h.cm, World.cell?_setCell_same _ _ _ h.cc, by rw [World.frozen?_setCell]; exact h.fc, by rw [cell_other (by omega)]; exact h.it⟩
theorem boxes2 {w w1 : World} {x y : Value} {t u : TypeId} (hb : Below ((w.alloc (.cells #[x] t)).alloc (.cells #[y] u)).heap.size ((w.alloc (.cells #[x] t)).alloc (.cells #[y] u)) w1) :
    w1.cell? ⟨w.heap.size, 0, none⟩ = some x ∧ w1.cell? ⟨w.heap.size + 1, 0, none⟩ = some y ∧ w.heap.size + 2 ≤ w1.heap.size ∧ Below w.heap.size w w1 := by
  have hs : ((w.alloc (.cells #[x] t)).alloc (.cells #[y] u)).heap.size = w.heap.size + 2 := by simp
  refine ⟨?_, ?_, by have := hb.size; omega, ?_⟩
  · rw [hb.cell (p := ⟨w.heap.size, 0, none⟩) (by rw [hs]; simp), World.cell?_alloc_past _ _ _ (by simp), World.cell?_alloc_at _ _ _ _ rfl]; rfl
  · rw [hb.cell (p := ⟨w.heap.size + 1, 0, none⟩) (by rw [hs]; simp), World.cell?_alloc_at _ _ _ _ (by simp)]; rfl
  · exact (((Below.refl _ _).alloc (Nat.le_refl _) _).alloc (by simp) _).trans (hb.mono (by rw [hs]; omega))

set_option maxRecDepth 100000 in
set_option maxHeartbeats 4000000 in
theorem countBack_any (n k0 : Int) (w : World) : Calls Try.prog 38 #[.int .i64 n, .int .i64 k0] w (PostInt w (countBackOf n k0)) := by
  refine (callsIn_wide (n := 8)).1 ?_
  refine callsIn_of_wp_marks Try.func38 rfl trivial ?_ rfl
  simp only [Try.ntmps38, List.size_toArray, List.length_cons, List.length_nil, Nat.reduceAdd, Nat.reduceSub, Array.replicate_succ, Array.replicate_zero, List.push_toArray, List.append_toArray, List.nil_append, List.cons_append]
  by_cases hn : inB n 1 5 = true
  · by_cases hk : inB k0 0 8 = true
    · obtain ⟨p, rfl⟩ : ∃ p : Nat, n = (p : Int) := ⟨n.toNat, by have := inB_iff.1 hn; omega⟩
      obtain ⟨m, rfl⟩ : ∃ m : Nat, k0 = (m : Int) := ⟨k0.toNat, by have := inB_iff.1 hk; omega⟩
      have hp1 : 1 ≤ p ∧ p ≤ 5 := by have := inB_iff.1 hn; omega
      have hm8 : m ≤ 8 := by have := inB_iff.1 hk; omega
      obtain ⟨hp1, hp5⟩ := hp1
      have HN := hid hn
      have HK := hid hk
      have HR : Hid (countBackOf p m = ((cntTo (backOk p m) (allTried p) (p ^ p) : Int), true)) := hid (by simp [countBackOf, hn, hk])
      clear hn hk
      gi_wp2_with (first | (refine ⟨trivial, ?_⟩; gi_at_call 73; refine (callsIn_wide.2 (isTried_any _ _)).mono ?_; rintro e w' ⟨rfl, rfl⟩; rw [HN.out]) | (refine ⟨trivial, ?_⟩; gi_at_call 74; refine (callsIn_wide.2 (wayB_any _ _ _)).mono ?_; rintro e w1 ⟨rfl, hb1⟩; rw [HK.out]; obtain ⟨z0, z1, z2, z3⟩ := boxes2 hb1; clear hb1; have z4 := alloc_keep z0 (by omega); have z5 := alloc_keep z1 (by omega)) | (refine ⟨trivial, ?_⟩; gi_at_call 75; refine (callsIn_wide.2 (tried_any _ _)).mono ?_; rintro e w' ⟨rfl, rfl⟩))
      have hsz0 : ((w1.alloc (.cells #[.int .i64 0] 3)).alloc (.cells #[.int .i64 (p : Int)] 3)).heap.size = w1.heap.size + 2 := by simp
      have V0 : Vars ((w1.alloc (.cells #[.int .i64 0] 3)).alloc (.cells #[.int .i64 (p : Int)] 3)) w.heap.size w1.heap.size (w1.heap.size + 1) p m 0 := by
        refine ⟨alloc_keep (z4 _) (by simp; omega) _, alloc_keep (z5 _) (by simp; omega) _, ?_, ?_, ?_⟩
        · rw [World.cell?_alloc_past _ _ _ (by simp), World.cell?_alloc_at _ _ _ _ rfl]; rfl
        · rw [World.frozen?_alloc_past _ _ _ (by simp), World.frozen?_alloc_at _ _ _ _ rfl]
        · rw [World.cell?_alloc_at _ _ _ _ (by simp)]; rfl
      have hb0 : Below w.heap.size w ((w1.alloc (.cells #[.int .i64 0] 3)).alloc (.cells #[.int .i64 (p : Int)] 3)) := (z3.alloc (by omega) _).alloc (by simp; omega) _
      generalize ((w1.alloc (.cells #[.int .i64 0] 3)).alloc (.cells #[.int .i64 (p : Int)] 3)) = W0 at *
      clear z0 z1 z3 z4 z5
      have HG := hid (fun k (hk : k < p ^ p) => tried_good hp1 hp5 hk)
      have HLL := hid (length_allTried hp1)
      refine wpIn_tried 8 (w1.heap.size + 1) p (p ^ p) rfl hp1 hp5 (by omega) rfl
        (fun k W => Vars W w.heap.size w1.heap.size (w1.heap.size + 1) p m (cntTo (backOk p m) (allTried p) k : Nat) ∧ Below w.heap.size w W)
        (fun k V h => h.1.it) (fun k V V' h hb => ⟨h.1.below hb (by omega) (by omega) (by omega), h.2.trans (hb.mono (by omega))⟩) ?_ ⟨V0, hb0⟩
        (fun x => { tmps := #[.int .i64 (p : Int), .int .i64 (m : Int), .pointer (some ⟨w.heap.size, 0, none⟩), .pointer (some ⟨w.heap.size + 1, 0, none⟩), .int .i64 0, .bool false, .pointer (some ⟨w1.heap.size, 0, none⟩), x, undef, undef, .int .i64 (p : Int), .bool true, .bool false, .bool false, .int .i64 (m : Int), .agg #[.int .i64 (m : Int)], .iface 81 (.agg #[.int .i64 (m : Int)]), .int .i64 (p : Int), .bool true, .bool false, .bool false, .int .i64 (p : Int), TrFn (w1.heap.size + 1), x, undef, undef, undef, undef, undef, undef, undef, undef, undef, undef, undef], defers := [] }) ?_ ?_ ?_
      · refine OwnFrom.and (fun s A B' row hs hg hr => hs.turn hg (fun r e => (hr r e).2)) (ownFrom_below (Nat.le_refl _) (by omega))
      · intro l x W K hK
        gi_wp2
        exact hK
      · rintro l k gl W ⟨V, hB⟩ hsz hlt hown
        obtain ⟨gl1, gl2⟩ := HG.out k hlt
        have HS := hid (cntTo_succ (f := backOk p m) (L := allTried p) (k := k) (by rw [HLL.out]; exact hlt))
        have hcl := cntTo_le (backOk p m) (allTried p) k
        have hN : p ^ p ≤ 3125 := Nat.le_trans (Nat.pow_le_pow_left hp5 p) (Nat.pow_le_pow_right (by omega) hp5)
        generalize (allTried p).getD k [] = xs at *
        generalize cntTo (backOk p m) (allTried p) k = c at *
        have hB2 : backB xs p m = true := by simp [backB, gl2, HK.out]
        have cn := V.cn
        have cm := V.cm
        by_cases hm : hasB (backs p m xs) (-1) = true
        · have HD : Hid (driveBackOf xs p m = ([], false)) := hid (by simp [driveBackOf, hm])
          have HC : Hid (cntTo (backOk p m) (allTried p) (k + 1) = c) := hid (by rw [HS.out]; simp [backOk, hm])
          clear hm hB2 gl1 gl2
          gi_wp2_with (refine ⟨trivial, ?_⟩; gi_at_call 30; refine (CallsIn.inRound l (callsIn_wide.2 (driveBack_any _ _ _ _ p m _ hown.has))).mono ?_; rw [HD.out]; rintro e w3 ⟨a3, n3, c3, rfl, hown3, hb3⟩)
          exact ⟨keeps_below hb3 (Nat.le_refl _), ⟨by rw [HC.out]; exact V.below hb3 (by omega) (by omega) (by omega), hB.trans (hb3.mono hB.size)⟩, kept_below hb3 (Nat.le_refl _)⟩
        · have hm' : hasB (backs p m xs) (-1) = false := by simpa using hm
          have HD : Hid (driveBackOf xs p m = (backs p m xs, true)) := hid (by simp [driveBackOf, hB2, hm'])
          have HC : Hid (cntTo (backOk p m) (allTried p) (k + 1) = c + 1) := hid (by rw [HS.out]; simp [backOk, hm'])
          clear hm hm' hB2 gl1 gl2
          gi_wp2_with (refine ⟨trivial, ?_⟩; gi_at_call 30; refine (CallsIn.inRound l (callsIn_wide.2 (driveBack_any _ _ _ _ p m _ hown.has))).mono ?_; rw [HD.out]; rintro e w3 ⟨a3, n3, c3, rfl, hown3, hb3⟩; have V3 := V.below hb3 (by omega) (by omega) (by omega); have cc := V3.cc; have fc := V3.fc)
          have hs3 := hb3.size
          refine ⟨(keeps_below hb3 (Nat.le_refl _)).trans ((KeepsOthers.setCell _ _ _).from _), ⟨?_, (hB.trans (hb3.mono hB.size)).setCell (by simp; omega) _⟩, (kept_below hb3 (Nat.le_refl _)).trans (kept_set _ _ _ _ (by omega))⟩
          rw [HC.out]
          exact V3.set (by omega) (by omega) _
      · rintro D W hDl ⟨V, hB⟩ hK
        have cc := V.cc
        gi_wp2
        refine ⟨by simp, .inl ⟨D, W.putObj D (.deferred none), rfl, run_takeDeferred hK, ?_⟩⟩
        have hb9 : Below w.heap.size W (W.putObj D (.deferred none)) := (Below.refl _ _).grown (grownBy_putObj' W D _) hB.size (fun k e => by cases e; omega)
        refine ⟨.tuple #[.int .i64 (cntTo (backOk p m) (allTried p) (p ^ p) : Nat), .bool true], ?_, postInt HR.out (hB.trans hb9)⟩
        simp [results, Try.results38, go_sem]
    · have HN := hid hn
      have HK := hid (Bool.eq_false_iff.2 hk)
      have HR : Hid (countBackOf n k0 = (0, false)) := hid (by simp [countBackOf, hk])
      clear hn hk
      gi_wp2_with (first | (refine ⟨trivial, ?_⟩; gi_at_call 73; refine (callsIn_wide.2 (isTried_any _ _)).mono ?_; rintro e w' ⟨rfl, rfl⟩; rw [HN.out]) | (refine ⟨trivial, ?_⟩; gi_at_call 74; refine (callsIn_wide.2 (wayB_any _ _ _)).mono ?_; rintro e w1 ⟨rfl, hb1⟩; rw [HK.out]; obtain ⟨z0, z1, z2, z3⟩ := boxes2 hb1; clear hb1))
      refine ⟨.tuple #[.int .i64 0, .bool false], ?_, postInt HR.out z3⟩
      simp [results, Try.results38, go_sem]
  · have HN := hid (Bool.eq_false_iff.2 hn)
    have HR : Hid (countBackOf n k0 = (0, false)) := hid (by simp [countBackOf, hn])
    clear hn
    gi_wp2_with (first | (refine ⟨trivial, ?_⟩; gi_at_call 73; refine (callsIn_wide.2 (isTried_any _ _)).mono ?_; rintro e w' ⟨rfl, rfl⟩; rw [HN.out]))
    refine ⟨trivial, ?_⟩
    gi_wp2
    refine ⟨.tuple #[.int .i64 0, .bool false], ?_, postInt HR.out (((Below.refl _ _).alloc (Nat.le_refl _) _).alloc (by simp) _)⟩
    simp [results, Try.results38, go_sem]
end Go.Proofs.Ytnddplldkgphnac

namespace Go.Proofs.Ytnddplldkgphnac
open Go.RowKit

/-- All lists of k numbers less than n. -/
def lexK (n k : Nat) : List (List Int) := lex (List.replicate k 0) (List.replicate k ((n : Int) - 1))
def lexKTo (n k c : Nat) : List (List Int) := (upFrom 0 c).flatMap fun x => (lexK n k).map (x :: ·)
theorem lexKTo_succ (n k c : Nat) : lexKTo n k (c + 1) = lexKTo n k c ++ (lexK n k).map ((c : Int) :: ·) := by
  simp [lexKTo, upFrom_snoc]
theorem lexK_step {n k : Nat} : lexK n (k + 1) = lexKTo n k n := by
  unfold lexK lexKTo
  rw [List.replicate_succ, List.replicate_succ, lex]
  have : span 0 ((n : Int) - 1) = n := by unfold span; omega
  rw [this]
  rfl
theorem length_lexK {n : Nat} (hn : 1 ≤ n) (k : Nat) : (lexK n k).length = n ^ k := length_lexRep n hn k
theorem length_lexKTo {n : Nat} (hn : 1 ≤ n) (k : Nat) : ∀ c, (lexKTo n k c).length = c * n ^ k
  | 0 => by simp [lexKTo, upFrom]
  | c + 1 => by rw [lexKTo_succ, List.length_append, length_lexKTo hn k c, List.length_map, length_lexK hn, Nat.add_mul]; omega

set_option maxHeartbeats 4000000 in
theorem loAll_any (n : Nat) (hn1 : 1 ≤ n) (hn5 : n ≤ 5) : ∀ (k m : Nat) (a2 : Option Addr) (cap2 : Nat) (pre : List Int) (w : World), m + k = n → Has w a2 m cap2 pre →
    Calls Try.prog 77 #[.slice a2 m cap2, .int .i64 (n : Int)] w (RetRows w ((lexK n k).map (pre ++ ·))) := by
  intro k
  induction k with
  | zero =>
    intro m a2 cap2 pre w hmk h2
    obtain rfl : m = n := by omega
    have HR : Hid ((lexK m 0).map (pre ++ ·) = [pre]) := hid (by simp [lexK, lex])
    have hbe : ((m : Int) == (m : Int)) = true := by simp
    go_enter Try.func77, Try.ntmps77
    go_wp2_with fail
    refine (l1Own_any _ _ _ _ _ h2).mono ?_
    rintro e w1 ⟨a1, cap1, rfl, hown1, hb1⟩
    have hlit := ownR_lit1 hown1 hb1.size
    have hba := hb1.alloc hb1.size (.cells #[.slice a1 m cap1] 22)
    go_wp2_with fail
    go_ret
    exact ⟨_, _, _, _, rfl, hlit, by rw [HR.out]; rfl, hba⟩
  | succ k ih =>
    intro m a2 cap2 pre w hmk h2
    have hmn : m < n := by omega
    have IH := hid ih
    clear ih
    have HS := hid (lexK_step (n := n) (k := k))
    have HLT := hid (fun c => length_lexKTo hn1 k c)
    have HLK := hid (length_lexK hn1 k)
    have hpow : ∀ c, c ≤ n → c * n ^ k ≤ 3125 := fun c hc => by
      have h1 : c * n ^ k ≤ n * n ^ k := Nat.mul_le_mul_right _ hc
      have h2 : n * n ^ k = n ^ (k + 1) := by rw [Nat.pow_succ, Nat.mul_comm]
      have h3 : n ^ (k + 1) ≤ 5 ^ (k + 1) := Nat.pow_le_pow_left hn5 _
      have h4 : 5 ^ (k + 1) ≤ 5 ^ 5 := Nat.pow_le_pow_right (by omega) (by omega)
      have : (5 : Nat) ^ 5 = 3125 := by decide
      omega
    have hpos : 0 < n ^ k := Nat.pow_pos hn1
    have HPOW := hid hpow
    have HPOS := hid hpos
    have hbe : ((m : Int) == (n : Int)) = false := by simp; omega
    clear hpow hpos
    go_enter Try.func77, Try.ntmps77
    go_wp2_with fail
    go_loopw [5, 6] (fun o x wr => ∃ (c : Nat) (a' : Option Addr) (q cap' : Nat) (rs : List Rw), x = .int .i64 (c : Int) ∧ c ≤ n ∧ o = .slice a' q cap' ∧ OwnR wr w.heap.size a' q cap' rs ∧ Hid (numsOf rs = (lexKTo n k c).map (pre ++ ·)) ∧ Below w.heap.size w wr) (fun _ x _ => (n - (intOf x).toNat))
    case atStart => exact ⟨0, none, 0, 0, [], rfl, Nat.zero_le _, rfl, OwnR.nil _ _, hid rfl, Below.refl _ _⟩
    case round =>
      obtain ⟨c, a', q, cap', rs, rfl, hcs, rfl, hown, HNU, hb⟩ := hrel
      by_cases hlt : c < n
      · have hq : q = c * n ^ k := by
          have e1 : (numsOf rs).length = q := by rw [← hown.len]; simp [numsOf]
          rw [HNU.out, List.length_map, HLT.out] at e1
          exact e1.symm
        have hq5 : q + n ^ k ≤ 3125 := by
          have := HPOW.out (c + 1) (by omega)
          rw [Nat.add_mul] at this
          omega
        have HQ := hid hq5
        clear hq hq5
        have hh2 := h2.below hb (Nat.le_refl _)
        go_wp2_with fail
        refine (l1Own_any _ _ _ _ _ hh2).mono ?_
        rintro e w3 ⟨a3, cap3, rfl, hown3, hb3⟩
        go_wp2_with (at_builtin; refine wpList_append_int _ rfl _ _ rfl wr.heap.size _ _ _ _ _ rfl rfl hown3 (by omega) hb3.size ?_; intro a4 cap4 w4 hown4 hb4)
        have hb34 := hb3.trans hb4
        refine (IH.out (m + 1) _ _ _ _ (by omega) hown4.has).mono ?_
        rintro e w5 ⟨a5, q5, cap5, rs5, rfl, hown5, hn5', hb5⟩
        have hb35 := hb34.trans (hb5.mono hb34.size)
        have HN5 := hid hn5'
        have hq5 : q5 = n ^ k := by
          rw [← hown5.len]
          have : (numsOf rs5).length = rs5.length := by simp [numsOf]
          rw [← this, hn5', List.length_map, HLK.out]
        have hq5p : 0 < q5 := by rw [hq5]; exact HPOS.out
        have hq5l : q + q5 ≤ 2097152 := by have := HQ.out; omega
        have hszr := hb.size
        have hown5' := hown5.mono hb34.size
        clear hn5' hq5 hown3 hown4 hb3 hb4 hb5 hb34 hown5
        go_wp2_with (at_builtin; refine wpList_append_rows wr w5 rfl _ _ rfl w.heap.size _ _ _ _ _ _ _ _ rfl rfl hown hb35 hown5' hq5p hq5l hszr ?_; intro a6 q6 cap6 w6 hq6 hown6 hb6)
        go_roundw
        case rel =>
          refine ⟨c + 1, a6, q6, cap6, _, by go_num, by omega, rfl, hown6, hid ?_, (hb.trans (hb35.mono hszr)).trans hb6⟩
          rw [numsOf_append, HNU.out, HN5.out, lexKTo_succ, List.map_append, List.map_map]
          congr 1
          apply List.map_congr_left
          intro z _
          simp
        case measure => simp [intOf]; omega
      · obtain rfl : c = n := by omega
        have HR : Hid (numsOf rs = (lexK c (k + 1)).map (pre ++ ·)) := hid (by rw [HNU.out, HS.out])
        go_wp2_with fail
        go_ret
        exact ⟨a', q, cap', rs, rfl, hown, HR.out, hb⟩

/-- The rows of the list of all. -/
theorem rows_tried {n q : Nat} {rs : List Rw} (hn : 1 ≤ n) (hn5 : n ≤ 5) (h : numsOf rs = (lexK n n).map ([] ++ ·)) (hq : rs.length = q) : q = n ^ n ∧ ∀ k, k < q → (nthR rs k).xs = (allTried n).getD k [] ∧ (nthR rs k).xs.length = n ∧ good (nthR rs k).xs n = true := by
  have h' : numsOf rs = allTried n := by rw [h]; simp [lexK, allTried]
  have hl : q = n ^ n := by
    have := congrArg List.length h'
    rw [length_allTried hn] at this
    simp [numsOf] at this
    omega
  refine ⟨hl, fun k hk => ?_⟩
  have h1 := map_nthR Rw.xs (rs := rs) (i := k) (by omega)
  have h2 : (allTried n)[k]? = some (nthR rs k).xs := by rw [← h']; exact h1
  have h3 : (nthR rs k).xs = (allTried n).getD k [] := by simp [h2]
  have h4 := tried_good (n := n) (k := k) hn hn5 (by omega)
  rw [← h3] at h4
  exact ⟨h3, h4⟩
end Go.Proofs.Ytnddplldkgphnac

namespace Go.Proofs.Ytnddplldkgphnac
open Go.RowKit

set_option maxHeartbeats 2000000 in
theorem specCountBack_any (n k0 : Int) (w : World) : Calls Try.prog 39 #[.int .i64 n, .int .i64 k0] w (PostInt w (countBackOf n k0)) := by
  by_cases hn : inB n 1 5 = true
  · by_cases hk : inB k0 0 8 = true
    · obtain ⟨p, rfl⟩ : ∃ p : Nat, n = (p : Int) := ⟨n.toNat, by have := inB_iff.1 hn; omega⟩
      obtain ⟨m, rfl⟩ : ∃ m : Nat, k0 = (m : Int) := ⟨k0.toNat, by have := inB_iff.1 hk; omega⟩
      have hp1 : 1 ≤ p ∧ p ≤ 5 := by have := inB_iff.1 hn; omega
      have hm8 : m ≤ 8 := by have := inB_iff.1 hk; omega
      obtain ⟨hp1, hp5⟩ := hp1
      have HN := hid hn
      have HK := hid hk
      have HR : Hid (countBackOf p m = ((cntTo (backOk p m) (allTried p) (p ^ p) : Int), true)) := hid (by simp [countBackOf, hn, hk])
      have HLL := hid (length_allTried hp1)
      clear hn hk
      go_enter Try.func39, Try.ntmps39
      go_wp2_with (first | (go_at_call 76; refine (l1In_any _ _ _ _).mono ?_; rintro e w' ⟨rfl, rfl⟩; rw [HN.out]) | (go_at_call 69; refine (loBacks_any _ _).mono ?_; rintro e w' ⟨rfl, rfl⟩; rw [HK.out]))
      refine (loAll_any p hp1 hp5 p 0 none 0 [] _ (by omega) (Has.nilAt none (by unfold maxLen; omega))).mono ?_
      rintro e w2 ⟨a2, q, cap2, rs, rfl, hown2, hn2, hb2⟩
      obtain ⟨hq, hrow⟩ := rows_tried hp1 hp5 hn2 hown2.len
      have HROW := hid hrow
      have HQ := hid hq
      have hq5 : q ≤ 3125 := by
        rw [hq]
        exact Nat.le_trans (Nat.pow_le_pow_left hp5 p) (Nat.pow_le_pow_right (by omega) hp5)
      have HRR := hid hown2.has
      clear hn2 hq hrow hown2
      go_wp2_with fail
      go_loopw [6, 20] (fun t i wr => ∃ (k c : Nat), k ≤ q ∧ i = .int .i64 (k : Int) ∧ t = .int .i64 (c : Int) ∧ Hid (c = cntTo (backOk p m) (allTried p) k) ∧ Below w2.heap.size w2 wr) (fun _ i _ => q - (intOf i).toNat)
      case atStart => exact ⟨0, 0, Nat.zero_le _, rfl, rfl, hid rfl, Below.refl _ _⟩
      case round =>
        obtain ⟨k, c, hk, rfl, rfl, HC, hb⟩ := hrel
        by_cases hkq : k < q
        · obtain ⟨p1, p2, p3⟩ := HROW.out k hkq
          obtain ⟨r0, r1, r2, r3, r4, r5⟩ := HRR.out
          obtain ⟨b, off, rfl, hbb, hc⟩ := r4 (by omega)
          have hck : wr.cell? ⟨b, off + k, none⟩ = some (nthR rs k).v := by rw [hb.cell (p := ⟨b, off + k, none⟩) hbb]; exact hc k hkq
          have hrow := (r5 k hkq).below hb (Nat.le_refl _)
          have HS := hid (cntTo_succ (f := backOk p m) (L := allTried p) (k := k) (by rw [HLL.out, ← HQ.out]; exact hkq))
          have hcl : c ≤ k := by rw [HC.out]; exact cntTo_le _ _ _
          rw [p2] at hrow
          unfold Rw.v at hck
          rw [p2] at hck
          rw [← p1] at HS
          obtain ⟨g1, g2, g3, g4⟩ := good_nth p3 p2
          generalize (nthR rs k).xs = xs at *
          generalize (nthR rs k).a = ax at *
          generalize (nthR rs k).c = cx at *
          have HL := hid (loBack_any ax p cx p m xs wr hrow g1 (by omega) hm8 g4)
          clear hc r0 r1 r2 r3 r4 r5 p1 p2 p3 g4
          by_cases hm : hasB (backs p m xs) (-1) = true
          · have HM := hid hm
            have HC2 : Hid (cntTo (backOk p m) (allTried p) (k + 1) = c) := hid (by rw [HS.out, HC.out]; simp [backOk, hm])
            clear hm
            go_wp2_with fail
            refine HL.out.mono ?_
            rintro e w5 ⟨a5, cap5, rfl, hown5, hb5⟩
            go_wp2_with (go_at_call 71; refine (l1Has_any _ _ _ _ _ _ hown5.has).mono ?_; rintro e w' ⟨rfl, rfl⟩; rw [HM.out])
            go_roundw
            case rel => exact ⟨k + 1, c, by omega, by go_num, rfl, hid HC2.out.symm, hb.trans (hb5.mono hb.size)⟩
            case measure => simp [intOf]; omega
          · have hm' : hasB (backs p m xs) (-1) = false := by simpa using hm
            have HM := hid hm'
            have HC2 : Hid (cntTo (backOk p m) (allTried p) (k + 1) = c + 1) := hid (by rw [HS.out, HC.out]; simp [backOk, hm'])
            clear hm hm'
            go_wp2_with fail
            refine HL.out.mono ?_
            rintro e w5 ⟨a5, cap5, rfl, hown5, hb5⟩
            go_wp2_with (go_at_call 71; refine (l1Has_any _ _ _ _ _ _ hown5.has).mono ?_; rintro e w' ⟨rfl, rfl⟩; rw [HM.out])
            go_roundw
            case rel => exact ⟨k + 1, c + 1, by omega, by go_num, by go_num, hid HC2.out.symm, hb.trans (hb5.mono hb.size)⟩
            case measure => simp [intOf]; omega
        · obtain rfl : k = q := by omega
          go_wp2_with fail
          go_ret2
          exact postInt (by rw [HR.out, HC.out, HQ.out]) (hb2.trans (hb.mono hb2.size))
    · have HR : Hid (countBackOf n k0 = (0, false)) := hid (by simp [countBackOf, hk])
      have HN := hid hn
      have HK := hid hk
      clear hn hk
      go_enter Try.func39, Try.ntmps39
      go_wp2_with (first | (go_at_call 76; refine (l1In_any _ _ _ _).mono ?_; rintro e w' ⟨rfl, rfl⟩; rw [HN.out]) | (go_at_call 69; refine (loBacks_any _ _).mono ?_; rintro e w' ⟨rfl, rfl⟩; rw [Bool.eq_false_iff.2 HK.out]))
      go_ret2
      exact postInt HR.out (Below.refl _ _)
  · have HR : Hid (countBackOf n k0 = (0, false)) := hid (by simp [countBackOf, hn])
    have HN := hid hn
    clear hn
    go_enter Try.func39, Try.ntmps39
    go_wp2_with (go_at_call 76; refine (l1In_any _ _ _ _).mono ?_; rintro e w' ⟨rfl, rfl⟩; rw [Bool.eq_false_iff.2 HN.out])
    go_ret2
    exact postInt HR.out (Below.refl _ _)
end Go.Proofs.Ytnddplldkgphnac

namespace Go.Proofs.Ytnddplldkgphnac
open Go.RowKit

theorem look_pow : ∀ j, j < 6 → ∀ k, k < 6 → j ^ k ≤ 3125 := by decide
theorem look_no {xs : List Int} {p : Int} (h : ¬ good xs p = true) : leastBackOf xs p = (0, false) := by simp [leastBackOf, h]
theorem look_same (xs : List Int) (p k : Int) : ∃ ds ok one, driveBackOf xs p k = (ds, ok) ∧ doBackOf xs p k = (ok, one) := by
  unfold driveBackOf doBackOf
  by_cases h : backB xs p k = true
  · by_cases h2 : hasB (backs p k.toNat xs) (-1) = true
    · exact ⟨[], false, true, by simp [h, h2], by simp [h, h2]⟩
    · exact ⟨backs p k.toNat xs, true, true, by simp [h, Bool.eq_false_iff.2 h2], by simp [h, Bool.eq_false_iff.2 h2]⟩
  · exact ⟨[], false, false, by simp [h], by simp [h]⟩
theorem look_count {n k : Int} (h : ¬ (inB n 1 5 && inB k 0 8) = true) : countBackOf n k = (0, false) := by unfold countBackOf; rw [if_neg h]

set_option maxRecDepth 100000 in
set_option maxHeartbeats 32000000 in
theorem looks_walk (a b : Option Addr) (n m cap cap' : Nat) (w : World) (hn : n ≤ maxLen) (h : n ≤ 1048576 → HasB w a n w.heap.size) (h' : m ≤ 1048576 → HasB w b m w.heap.size) :
    Calls Try.prog 6 #[.slice a n cap, .slice b m cap'] w (Holds w) := by
  have H1 := hid h
  have H2 := hid h'
  have HN := hid hn
  clear h h' hn
  have hB : Below w.heap.size w w := Below.refl _ _
  go_enter Try.func6, Try.ntmps6
  go_wp2_with fail
  refine (big_any _ _ _ _ _ _ _ (by have := HN.out; unfold maxLen at this; omega)).mono ?_
  rintro e _ ⟨r, rfl, hr, rfl⟩
  have HR := hid hr
  clear hr
  cases r with
  | true =>
    go_wp2_with fail
    go_ret
    exact ⟨rfl, hB⟩
  | false =>
    have hnm := HR.out rfl
    clear HR
    have HA := hid (H1.out (by omega))
    have HM := hid (H2.out (by omega))
    clear H1 H2 HN
    go_wp2_with fail
    refine (drawBack_any _ _ _ _ HA.out).mono ?_
    rintro e v1 ⟨a_l, n_l, c_l, xs, pp, bb, rfl, o_l, hnl, p0, p1, b0, b1, st⟩
    replace hB := hB.trans (st.mono hB.size)
    clear st
    obtain ⟨ds, ok, one, f1, f2⟩ := look_same xs pp bb
    have HDB := hid f1
    have HDO := hid f2
    have hok : (ok != ok) = false := by cases ok <;> rfl
    have hone : (one != one) = false := by cases one <;> rfl
    clear f1 f2
    go_wp2_with fail
    refine (driveBack_any _ _ _ _ _ _ _ o_l.has).mono ?_
    rw [HDB.out]
    rintro e v2 ⟨a_o, n_o, c_o, rfl, o_o, st⟩
    replace o_l := o_l.below st (Nat.le_refl _)
    replace hB := hB.trans (st.mono hB.size)
    clear st
    go_wp2_with fail
    refine (specDriveBack_any _ _ _ _ _ _ _ o_l.has).mono ?_
    rw [HDB.out]
    rintro e v3 ⟨a_r, n_r, c_r, rfl, o_r, st⟩
    replace o_l := o_l.below st (Nat.le_refl _)
    replace o_o := o_o.below st (Nat.le_refl _)
    replace hB := hB.trans (st.mono hB.size)
    clear st
    go_wp2_with fail
    refine (doParkBack_any _ _ _ _ _ _ _ o_l.has).mono ?_
    rw [HDO.out]
    rintro e v4 ⟨rfl, st⟩
    replace o_l := o_l.below st (Nat.le_refl _)
    replace o_o := o_o.below st (Nat.le_refl _)
    replace o_r := o_r.below st (Nat.le_refl _)
    replace hB := hB.trans (st.mono hB.size)
    clear st
    go_wp2_with fail
    refine (specDoBack_any _ _ _ _ _ _ _ o_l.has).mono ?_
    rw [HDO.out]
    rintro e v5 ⟨rfl, st⟩
    replace o_l := o_l.below st (Nat.le_refl _)
    replace o_o := o_o.below st (Nat.le_refl _)
    replace o_r := o_r.below st (Nat.le_refl _)
    replace hB := hB.trans (st.mono hB.size)
    clear st
    go_wp2_with fail
    refine (jSame_any _ _ _ _ _ _ _ _ _ o_o.has o_r.has).mono ?_
    rintro e v6 ⟨rfl, q⟩
    have st : Below v5.heap.size v5 v6 := q.below _
    replace o_l := o_l.below st (Nat.le_refl _)
    replace o_o := o_o.below st (Nat.le_refl _)
    replace o_r := o_r.below st (Nat.le_refl _)
    replace hB := hB.trans (st.mono hB.size)
    clear st
    clear q
    rw [same_self]
    clear o_r o_o
    by_cases hg : good xs pp = true
    · skip
      obtain ⟨l, three, f1, f2, f3⟩ := park_least hg
      have HLB := hid f1
      have HDK := hid f3
      have h33 : (three != three) = false := by cases three <;> rfl
      have hll := neq_self_int (l : Int)
      have HG := hid hg
      have HD0 := hid (drive_back0 hg)
      obtain ⟨⟨zs, zo⟩, hz⟩ : ∃ r, driveCars xs pp = r := ⟨_, rfl⟩
      rw [hz] at HD0
      have HDC := hid hz
      have hzo : (zo != zo) = false := by cases zo <;> rfl
      clear f1 f3 hg hz
      go_wp2_with fail
      refine (leastBack_any _ _ _ _ _ _ o_l.has).mono ?_
      rw [HLB.out]
      rintro e v7 ⟨rfl, st⟩
      replace o_l := o_l.below st (Nat.le_refl _)
      replace hB := hB.trans (st.mono hB.size)
      clear st
      go_wp2_with fail
      refine (specLeastBack_any _ _ _ _ _ _ o_l.has).mono ?_
      rw [HLB.out]
      rintro e v8 ⟨rfl, st⟩
      replace o_l := o_l.below st (Nat.le_refl _)
      replace hB := hB.trans (st.mono hB.size)
      clear st
      go_wp2_with fail
      refine (areFavourites_any _ _ _ _ _ _ o_l.has).mono ?_
      rw [HG.out]
      rintro e _ ⟨rfl, rfl⟩
      go_wp2_with fail
      go_loopw [20] (fun i wr => ∃ k : Nat, k ≤ 9 ∧ i = .int .i64 (k : Int) ∧ Below v8.heap.size v8 wr) (fun i _ => 9 - (intOf i).toNat)
      case atStart => exact ⟨0, Nat.zero_le _, rfl, Below.refl _ _⟩
      case round =>
        obtain ⟨k, hk, rfl, hq⟩ := hrel
        have st := hq
        replace o_l := o_l.below st (Nat.le_refl _)
        replace hB := hB.trans (st.mono hB.size)
        clear st
        by_cases hlt : k < 9
        · skip
          cases three
          · skip
            have HK := hid (HDK.out k (by omega))
            rw [Bool.false_and] at HK
            go_wp2_with fail
            refine (doParkBack_any _ _ _ _ _ _ _ o_l.has).mono ?_
            rw [HK.out]
            rintro e v9 ⟨rfl, st⟩
            replace o_l := o_l.below st (Nat.le_refl _)
            replace hB := hB.trans (st.mono hB.size)
            replace hq := hq.trans (st.mono hq.size)
            clear st
            go_wp2_with fail
            go_roundw
            case rel => exact ⟨k + 1, by omega, by go_num, hq⟩
            case measure => simp [intOf]; omega
          · skip
            by_cases hlk : (l : Int) ≤ (k : Int)
            · skip
              have HK := hid (HDK.out k (by omega))
              rw [decide_eq_true hlk] at HK
              have hge : decide ((l : Int) ≤ (k : Int)) = true := decide_eq_true hlk
              go_wp2_with fail
              refine (doParkBack_any _ _ _ _ _ _ _ o_l.has).mono ?_
              rw [HK.out]
              rintro e v9 ⟨rfl, st⟩
              replace o_l := o_l.below st (Nat.le_refl _)
              replace hB := hB.trans (st.mono hB.size)
              replace hq := hq.trans (st.mono hq.size)
              clear st
              go_wp2_with fail
              go_roundw
              case rel => exact ⟨k + 1, by omega, by go_num, hq⟩
              case measure => simp [intOf]; omega
            · skip
              have HK := hid (HDK.out k (by omega))
              rw [decide_eq_false hlk] at HK
              have hge : decide ((l : Int) ≤ (k : Int)) = false := decide_eq_false hlk
              go_wp2_with fail
              refine (doParkBack_any _ _ _ _ _ _ _ o_l.has).mono ?_
              rw [HK.out]
              rintro e v9 ⟨rfl, st⟩
              replace o_l := o_l.below st (Nat.le_refl _)
              replace hB := hB.trans (st.mono hB.size)
              replace hq := hq.trans (st.mono hq.size)
              clear st
              go_wp2_with fail
              go_roundw
              case rel => exact ⟨k + 1, by omega, by go_num, hq⟩
              case measure => simp [intOf]; omega
        · skip
          obtain rfl : k = 9 := by omega
          clear hq
          go_wp2_with fail
          refine (driveCars_any _ _ _ _ _ _ o_l.has).mono ?_
          rw [HDC.out]
          rintro e v9 ⟨a_p, n_p, c_p, rfl, o_p, st⟩
          replace o_l := o_l.below st (Nat.le_refl _)
          replace hB := hB.trans (st.mono hB.size)
          clear st
          go_wp2_with fail
          refine (driveBack_any _ _ _ _ _ _ _ o_l.has).mono ?_
          rw [HD0.out]
          rintro e v10 ⟨a_z, n_z, c_z, rfl, o_z, st⟩
          replace o_l := o_l.below st (Nat.le_refl _)
          replace o_p := o_p.below st (Nat.le_refl _)
          replace hB := hB.trans (st.mono hB.size)
          clear st
          go_wp2_with fail
          refine (jSame_any _ _ _ _ _ _ _ _ _ o_p.has o_z.has).mono ?_
          rintro e v11 ⟨rfl, q⟩
          have st : Below v10.heap.size v10 v11 := q.below _
          replace o_l := o_l.below st (Nat.le_refl _)
          replace o_p := o_p.below st (Nat.le_refl _)
          replace o_z := o_z.below st (Nat.le_refl _)
          replace hB := hB.trans (st.mono hB.size)
          clear st
          clear q
          rw [same_self]
          clear o_p o_z o_l
          go_wp2_with fail
          refine (drawCountBack_any b m cap' _ (HM.out.grow hB (Nat.le_refl _))).mono ?_
          rintro e v12 ⟨nn, kk, rfl, n0, n1, k0, k1, st⟩
          replace hB := hB.trans (st.mono hB.size)
          clear st
          by_cases hM : (inB nn 1 5 && inB kk 0 8) = true
          · skip
            obtain ⟨N, K, c, rfl, rfl, g1, g2, g3, f1, f2, f3, f4, f5⟩ := count_back hM
            have HC := hid f1
            have HCP : Hid (countOf (N : Int) = ((cnt N : Int), true)) := hid (by have : inB (N : Int) 0 8 = true := inB_iff.2 ⟨by omega, by omega⟩; simp [countOf, this])
            have hcc := neq_self_int (c : Int)
            have hcb : (true != true) = false := rfl
            have HPW := hid (fun k (hk : k < 6) => look_pow N (by omega) k hk)
            obtain ⟨l0, hl0⟩ : ∃ l0, cnt N = l0 := ⟨_, rfl⟩
            rw [hl0] at f2 f4 HCP
            have HF4 := hid f4
            have HF5 := hid f5
            clear f1 f4 f5 hl0 hM
            go_wp2_with fail
            refine (countBack_any _ _ _).mono ?_
            rw [HC.out]
            rintro e v13 ⟨rfl, st⟩
            replace hB := hB.trans (st.mono hB.size)
            clear st
            go_wp2_with fail
            refine (specCountBack_any _ _ _).mono ?_
            rw [HC.out]
            rintro e v14 ⟨rfl, st⟩
            replace hB := hB.trans (st.mono hB.size)
            clear st
            go_wp2_with fail
            refine (countParking_any _ _).mono ?_
            rw [HCP.out]
            rintro e v15 ⟨rfl, st⟩
            replace hB := hB.trans (st.mono hB.size)
            clear st
            go_wp2_with fail
            go_loop [35, 36] (fun al i => ∃ k : Nat, k ≤ N ∧ i = .int .i64 (k : Int) ∧ al = .int .i64 ((N ^ k : Nat) : Int)) (fun _ i => N - (intOf i).toNat)
            case atStart => exact ⟨0, by omega, rfl, rfl⟩
            case round =>
              obtain ⟨k, hk, rfl, rfl⟩ := hrel
              by_cases hlt : k < N
              · skip
                have h3 := HPW.out (k + 1) (by omega)
                have HS : Hid (((N ^ (k + 1) : Nat) : Int) = ((N ^ k : Nat) : Int) * (N : Int)) := hid (by rw [Nat.pow_succ, Int.natCast_mul])
                have h4 : 0 ≤ ((N ^ k : Nat) : Int) * (N : Int) ∧ ((N ^ k : Nat) : Int) * (N : Int) ≤ 3125 := by rw [← HS.out]; omega
                have hw1 : IntKind.i64.wrap (((N ^ k : Nat) : Int) * (N : Int)) = ((N ^ k : Nat) : Int) * (N : Int) := by rw [IntKind.wrap_i64]; omega
                generalize hqq : N ^ (k + 1) = q at *
                generalize N ^ k = r at *
                clear f3
                go_wp2_with fail
                go_round
                case rel => exact ⟨k + 1, by omega, by go_num, congrArg (Value.int .i64) (by rw [hqq, HS.out])⟩
                case measure => simp [intOf]; omega
              · skip
                obtain rfl : k = N := by omega
                generalize hpq : k ^ k = q at *
                have hwn : IntKind.i64.wrap ((k : Int) - 1) = (k : Int) - 1 := by rw [IntKind.wrap_i64]; omega
                have hle1 : decide ((l0 : Int) ≤ (c : Int)) = true := by simp; omega
                have hle2 : decide ((c : Int) ≤ (q : Int)) = true := by simp; omega
                by_cases hK : K = 0
                · skip
                  have hd1 : decide (0 < (K : Int)) = false := by simp; omega
                  obtain rfl := HF4.out hK
                  have hce : ((c : Int) == (c : Int)) = true := by simp
                  by_cases hN : k - 1 ≤ K
                  · skip
                    obtain rfl := HF5.out hN
                    have hd2 : decide ((K : Int) < (k : Int) - 1) = false := by simp; omega
                    go_wp2_with fail
                    go_ret
                    exact ⟨rfl, hB⟩
                  · skip
                    have hd2 : decide ((K : Int) < (k : Int) - 1) = true := by simp; omega
                    go_wp2_with fail
                    go_ret
                    exact ⟨rfl, hB⟩
                · skip
                  have hd1 : decide (0 < (K : Int)) = true := by simp; omega
                  by_cases hN : k - 1 ≤ K
                  · skip
                    obtain rfl := HF5.out hN
                    have hce : ((c : Int) == (c : Int)) = true := by simp
                    have hd2 : decide ((K : Int) < (k : Int) - 1) = false := by simp; omega
                    go_wp2_with fail
                    go_ret
                    exact ⟨rfl, hB⟩
                  · skip
                    have hd2 : decide ((K : Int) < (k : Int) - 1) = true := by simp; omega
                    go_wp2_with fail
                    go_ret
                    exact ⟨rfl, hB⟩
          · skip
            have HC := hid (look_count hM)
            clear hM
            go_wp2_with fail
            refine (countBack_any _ _ _).mono ?_
            rw [HC.out]
            rintro e v13 ⟨rfl, st⟩
            replace hB := hB.trans (st.mono hB.size)
            clear st
            go_wp2_with fail
            refine (specCountBack_any _ _ _).mono ?_
            rw [HC.out]
            rintro e v14 ⟨rfl, st⟩
            replace hB := hB.trans (st.mono hB.size)
            clear st
            go_wp2_with fail
            go_ret
            exact ⟨rfl, hB⟩
    · skip
      have HLB := hid (look_no hg)
      have HG := hid (Bool.eq_false_iff.2 hg)
      clear hg
      go_wp2_with fail
      refine (leastBack_any _ _ _ _ _ _ o_l.has).mono ?_
      rw [HLB.out]
      rintro e v7 ⟨rfl, st⟩
      replace o_l := o_l.below st (Nat.le_refl _)
      replace hB := hB.trans (st.mono hB.size)
      clear st
      go_wp2_with fail
      refine (specLeastBack_any _ _ _ _ _ _ o_l.has).mono ?_
      rw [HLB.out]
      rintro e v8 ⟨rfl, st⟩
      replace o_l := o_l.below st (Nat.le_refl _)
      replace hB := hB.trans (st.mono hB.size)
      clear st
      go_wp2_with fail
      refine (areFavourites_any _ _ _ _ _ _ o_l.has).mono ?_
      rw [HG.out]
      rintro e _ ⟨rfl, rfl⟩
      clear o_l
      go_wp2_with fail
      refine (drawCountBack_any b m cap' _ (HM.out.grow hB (Nat.le_refl _))).mono ?_
      rintro e v9 ⟨nn, kk, rfl, n0, n1, k0, k1, st⟩
      replace hB := hB.trans (st.mono hB.size)
      clear st
      by_cases hM : (inB nn 1 5 && inB kk 0 8) = true
      · skip
        obtain ⟨N, K, c, rfl, rfl, g1, g2, g3, f1, f2, f3, f4, f5⟩ := count_back hM
        have HC := hid f1
        have HCP : Hid (countOf (N : Int) = ((cnt N : Int), true)) := hid (by have : inB (N : Int) 0 8 = true := inB_iff.2 ⟨by omega, by omega⟩; simp [countOf, this])
        have hcc := neq_self_int (c : Int)
        have hcb : (true != true) = false := rfl
        have HPW := hid (fun k (hk : k < 6) => look_pow N (by omega) k hk)
        obtain ⟨l0, hl0⟩ : ∃ l0, cnt N = l0 := ⟨_, rfl⟩
        rw [hl0] at f2 f4 HCP
        have HF4 := hid f4
        have HF5 := hid f5
        clear f1 f4 f5 hl0 hM
        go_wp2_with fail
        refine (countBack_any _ _ _).mono ?_
        rw [HC.out]
        rintro e v10 ⟨rfl, st⟩
        replace hB := hB.trans (st.mono hB.size)
        clear st
        go_wp2_with fail
        refine (specCountBack_any _ _ _).mono ?_
        rw [HC.out]
        rintro e v11 ⟨rfl, st⟩
        replace hB := hB.trans (st.mono hB.size)
        clear st
        go_wp2_with fail
        refine (countParking_any _ _).mono ?_
        rw [HCP.out]
        rintro e v12 ⟨rfl, st⟩
        replace hB := hB.trans (st.mono hB.size)
        clear st
        go_wp2_with fail
        go_loop [35, 36] (fun al i => ∃ k : Nat, k ≤ N ∧ i = .int .i64 (k : Int) ∧ al = .int .i64 ((N ^ k : Nat) : Int)) (fun _ i => N - (intOf i).toNat)
        case atStart => exact ⟨0, by omega, rfl, rfl⟩
        case round =>
          obtain ⟨k, hk, rfl, rfl⟩ := hrel
          by_cases hlt : k < N
          · skip
            have h3 := HPW.out (k + 1) (by omega)
            have HS : Hid (((N ^ (k + 1) : Nat) : Int) = ((N ^ k : Nat) : Int) * (N : Int)) := hid (by rw [Nat.pow_succ, Int.natCast_mul])
            have h4 : 0 ≤ ((N ^ k : Nat) : Int) * (N : Int) ∧ ((N ^ k : Nat) : Int) * (N : Int) ≤ 3125 := by rw [← HS.out]; omega
            have hw1 : IntKind.i64.wrap (((N ^ k : Nat) : Int) * (N : Int)) = ((N ^ k : Nat) : Int) * (N : Int) := by rw [IntKind.wrap_i64]; omega
            generalize hqq : N ^ (k + 1) = q at *
            generalize N ^ k = r at *
            clear f3
            go_wp2_with fail
            go_round
            case rel => exact ⟨k + 1, by omega, by go_num, congrArg (Value.int .i64) (by rw [hqq, HS.out])⟩
            case measure => simp [intOf]; omega
          · skip
            obtain rfl : k = N := by omega
            generalize hpq : k ^ k = q at *
            have hwn : IntKind.i64.wrap ((k : Int) - 1) = (k : Int) - 1 := by rw [IntKind.wrap_i64]; omega
            have hle1 : decide ((l0 : Int) ≤ (c : Int)) = true := by simp; omega
            have hle2 : decide ((c : Int) ≤ (q : Int)) = true := by simp; omega
            by_cases hK : K = 0
            · skip
              have hd1 : decide (0 < (K : Int)) = false := by simp; omega
              obtain rfl := HF4.out hK
              have hce : ((c : Int) == (c : Int)) = true := by simp
              by_cases hN : k - 1 ≤ K
              · skip
                obtain rfl := HF5.out hN
                have hd2 : decide ((K : Int) < (k : Int) - 1) = false := by simp; omega
                go_wp2_with fail
                go_ret
                exact ⟨rfl, hB⟩
              · skip
                have hd2 : decide ((K : Int) < (k : Int) - 1) = true := by simp; omega
                go_wp2_with fail
                go_ret
                exact ⟨rfl, hB⟩
            · skip
              have hd1 : decide (0 < (K : Int)) = true := by simp; omega
              by_cases hN : k - 1 ≤ K
              · skip
                obtain rfl := HF5.out hN
                have hce : ((c : Int) == (c : Int)) = true := by simp
                have hd2 : decide ((K : Int) < (k : Int) - 1) = false := by simp; omega
                go_wp2_with fail
                go_ret
                exact ⟨rfl, hB⟩
              · skip
                have hd2 : decide ((K : Int) < (k : Int) - 1) = true := by simp; omega
                go_wp2_with fail
                go_ret
                exact ⟨rfl, hB⟩
      · skip
        have HC := hid (look_count hM)
        clear hM
        go_wp2_with fail
        refine (countBack_any _ _ _).mono ?_
        rw [HC.out]
        rintro e v10 ⟨rfl, st⟩
        replace hB := hB.trans (st.mono hB.size)
        clear st
        go_wp2_with fail
        refine (specCountBack_any _ _ _).mono ?_
        rw [HC.out]
        rintro e v11 ⟨rfl, st⟩
        replace hB := hB.trans (st.mono hB.size)
        clear st
        go_wp2_with fail
        go_ret
        exact ⟨rfl, hB⟩
end Go.Proofs.Ytnddplldkgphnac

