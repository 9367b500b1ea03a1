/- The law of pairs of walks, walked. -/
import Derived.Test.YtakadjhbomggbaaLawKit
import Derived.Test.YtakadjhbomggbaaSpecS
import Derived.Test.YtakadjhbomggbaaMathT
import Derived.Deep.LoopGhost
import Derived.Deep.AppendLies
import Derived.Test.YtakadjhbomggbaaSpecTv
import Derived.Test.YtakadjhbomggbaaMathUn
import Derived.Test.YtakadjhbomggbaaWkH
import Derived.Test.YtakadjhbomggbaaWkS
import Derived.Test.YtakadjhbomggbaaSpecB
import Derived.Test.YtakadjhbomggbaaImplC
import Derived.Deep.DeepCutAuto
import Derived.Test.YtakadjhbomggbaaMathSt
import Derived.Test.YtakadjhbomggbaaMathH
import Derived.Test.YtakadjhbomggbaaHelp
import Derived.Test.YtakadjhbomggbaaSpecA
import Derived.Test.YtakadjhbomggbaaWlk
import Derived.Deep.RegionWith
import Derived.Test.YtakadjhbomggbaaShelfB
import Derived.Test.YtakadjhbomggbaaMathL
import Derived.Test.YtakadjhbomggbaaMathP
import Derived.Test.YtakadjhbomggbaaHelp2
import Derived.Test.YtakadjhbomggbaaWkQ
namespace Go.Proofs.Ytakadjhbomggbaa
open Go.RowKit

/-- A slice of bytes below block K. -/
def HasB (w : World) (a : Option Addr) (n : Nat) (K : Nat) : Prop :=
  n ≤ 1099511627776 ∧ (0 < n → ∃ b off, a = some ⟨b, off, none⟩ ∧ b < K ∧ ∀ i, i < n → ∃ u : Int, 0 ≤ u ∧ u ≤ 255 ∧ w.cell? ⟨b, off + i, none⟩ = some (.int .u8 u))

/-- The cursor in block g, that has drawn t numbers. -/
structure Cur (w : World) (g t : Nat) : Prop where
  code : ∃ a n cap, w.cell? ⟨g, 0, none⟩ = some (.slice a n cap) ∧ HasB w a n g
  pos : w.cell? ⟨g, 1, none⟩ = some (.int .i64 t)
  seed : ∃ s : Int, 0 ≤ s ∧ s ≤ 18446744073709551615 ∧ w.cell? ⟨g, 2, none⟩ = some (.int .u64 s)
  free : ∀ i, w.frozen? ⟨g, i, none⟩ = false
  lt : g < w.heap.size

theorem Cur.below {w w' : World} {g t K : Nat} (h : Cur w g t) (hb : Below K w w') (hK : g < K) : Cur w' g t := by
  obtain ⟨⟨a, n, cap, h1, h2, h3⟩, h4, ⟨s, h5, h6, h7⟩, h8, h9⟩ := h
  refine ⟨⟨a, n, cap, by rw [hb.cell (p := ⟨g, 0, none⟩) hK]; exact h1, h2, fun hn => ?_⟩, by rw [hb.cell (p := ⟨g, 1, none⟩) hK]; exact h4, ⟨s, h5, h6, by rw [hb.cell (p := ⟨g, 2, none⟩) hK]; exact h7⟩, fun i => by rw [hb.frozen (p := ⟨g, i, none⟩) hK]; exact h8 i, Nat.lt_of_lt_of_le h9 hb.size⟩
  obtain ⟨b, off, ha, hbk, hc⟩ := h3 hn
  refine ⟨b, off, ha, hbk, fun i hi => ?_⟩
  obtain ⟨u, u0, u1, hu⟩ := hc i hi
  exact ⟨u, u0, u1, by rw [hb.cell (p := ⟨b, off + i, none⟩) (by simp; omega)]; exact hu⟩

theorem cell_other' {w : World} {b c i j : Nat} {v : Value} (h : b ≠ c ∨ i ≠ j) : (w.setCell ⟨b, i, none⟩ v).cell? ⟨c, j, none⟩ = w.cell? ⟨c, j, none⟩ :=
  World.cell?_setCell_other _ _ _ _ (by
    intro hh
    injection hh with h1 h2 _
    rcases h with h | h
    · exact h h1
    · exact h h2)

theorem cur_after {w : World} {g t k1 k2 : Nat} {s' : Int} (h : Cur w g t) (h0 : 0 ≤ s') (h1 : s' ≤ 18446744073709551615) :
    Cur ((((w.drewN k1).setCell ⟨g, 1, none⟩ (.int .i64 ((t : Int) + 1))).setCell ⟨g, 2, none⟩ (.int .u64 s')).drewN k2) g (t + 1) ∧
      w.grownBy ((((w.drewN k1).setCell ⟨g, 1, none⟩ (.int .i64 ((t : Int) + 1))).setCell ⟨g, 2, none⟩ (.int .u64 s')).drewN k2) (some g) := by
  obtain ⟨⟨a, n, cap, c0, hn, hb⟩, c1, ⟨s, _, _, c2⟩, hf, hlt⟩ := h
  have e : ∀ p, ((((w.drewN k1).setCell ⟨g, 1, none⟩ (.int .i64 ((t : Int) + 1))).setCell ⟨g, 2, none⟩ (.int .u64 s')).drewN k2).cell? p = (((w.setCell ⟨g, 1, none⟩ (.int .i64 ((t : Int) + 1))).setCell ⟨g, 2, none⟩ (.int .u64 s'))).cell? p := fun _ => rfl
  refine ⟨⟨⟨a, n, cap, ?_, hn, fun hp => ?_⟩, ?_, ⟨s', h0, h1, ?_⟩, fun i => ?_, ?_⟩, ⟨rfl, rfl, rfl, by simp, fun k _ hk => ?_⟩⟩
  · rw [e, cell_other' (.inr (by omega)), cell_other' (.inr (by omega))]; exact c0
  · obtain ⟨b, off, ha, hbg, hc⟩ := hb hp
    refine ⟨b, off, ha, hbg, fun i hi => ?_⟩
    obtain ⟨u, u0, u1, hu⟩ := hc i hi
    exact ⟨u, u0, u1, by rw [e, cell_other' (.inl (by omega)), cell_other' (.inl (by omega))]; exact hu⟩
  · rw [e, cell_other' (.inr (by omega)), World.cell?_setCell_same _ _ _ c1]; rfl
  · rw [e, World.cell?_setCell_same (u := .int .u64 s)]
    rw [cell_other' (.inr (by omega))]; exact c2
  · show ((w.setCell ⟨g, 1, none⟩ (.int .i64 ((t : Int) + 1))).setCell ⟨g, 2, none⟩ (.int .u64 s')).frozen? ⟨g, i, none⟩ = false
    rw [World.frozen?_setCell, World.frozen?_setCell]; exact hf i
  · simpa using hlt
  · show ((w.setCell ⟨g, 1, none⟩ (.int .i64 ((t : Int) + 1))).setCell ⟨g, 2, none⟩ (.int .u64 s')).heap[k]? = _
    have hkg : k ≠ g := fun e => hk (by rw [e])
    rw [heap_setCell_other _ _ _ _ hkg, heap_setCell_other _ _ _ _ hkg]

theorem and255 {x : Int} (h0 : 0 ≤ x) (h1 : x < 18446744073709551616) : 0 ≤ wrap64 (bits .and .u64 x 255) ∧ wrap64 (bits .and .u64 x 255) ≤ 255 := by
  have e := u64_and x 255 h0 h1 (by omega) (by omega)
  have hle : (x.toNat &&& (255 : Int).toNat : Nat) ≤ 255 := Nat.and_le_right
  rw [e, IntWalk.wrap64_in _ ⟨by omega, by omega⟩]
  omega

/-- A number of the cursor, and the cursor behind it. -/
def Drew (w : World) (g t : Nat) (hi : Int) (e : Ending) (w' : World) : Prop := ∃ v : Int, e = .returned (.int .i64 v) ∧ 0 ≤ v ∧ v ≤ hi ∧ Cur w' g t ∧ w.grownBy w' (some g)

set_option maxHeartbeats 2000000 in
theorem next_cur (g t : Nat) (w : World) (h : Cur w g t) (ht : t ≤ 1000000) :
    Calls Try.prog 114 #[.pointer (some ⟨g, 0, none⟩)] w (Drew w g (t + 1) 255) := by
  have HC := hid h
  obtain ⟨⟨a, n, cap, h1, h2, h3⟩, h4, ⟨s, h5, h6, h7⟩, h8, h9⟩ := h
  have f1 := h8 1
  have f2 := h8 2
  by_cases hlt : t < n
  · obtain ⟨b, off, rfl, hbk, hc⟩ := h3 (by omega)
    obtain ⟨u, u0, u1, hu⟩ := hc t hlt
    have hti : (t : Int) < (n : Int) := by omega
    have htz : (0 : Int) ≤ (t : Int) := by omega
    have htd : decide ((t : Int) < (n : Int)) = true := by simpa using hti
    clear hc h3
    go_enter Try.func114, Try.ntmps114
    go_wp2_with fail
    go_quiet (fail)
    go_wp2_with fail
    go_quiet (fail)
    go_wp2_with fail
    have hle : (t : Int) + 1 ≤ (n : Int) := by omega
    have hld : decide ((t : Int) + 1 ≤ (n : Int)) = true := by simpa using hle
    generalize hs' : IntKind.u64.wrap (IntKind.u64.wrap (IntKind.u64.wrap (s * 6364136223846793005) + u) + 1442695040888963407) = s'
    have HS := hid hs'
    clear hs'
    go_quiet (fail)
    go_wp2_with fail
    go_ret
    have hs := HS.out
    have hs0 : 0 ≤ s' := by rw [← hs, IntKind.wrap_u64]; omega
    have hs1 : s' ≤ 18446744073709551615 := by rw [← hs, IntKind.wrap_u64]; omega
    obtain ⟨r1, r2⟩ := cur_after HC.out hs0 hs1
    exact ⟨u, rfl, u0, u1, r1, r2⟩
  · have hti : ¬ (t : Int) < (n : Int) := by omega
    have htd : decide ((t : Int) < (n : Int)) = false := by simp; omega
    have hle : ¬ (t : Int) + 1 ≤ (n : Int) := by omega
    have hld : decide ((t : Int) + 1 ≤ (n : Int)) = false := by simp; omega
    clear h3
    go_enter Try.func114, Try.ntmps114
    go_wp2_with fail
    go_quiet (fail)
    go_wp2_with fail
    generalize hs' : IntKind.u64.wrap (IntKind.u64.wrap (IntKind.u64.wrap (s * 6364136223846793005)) + 1442695040888963407) = s'
    have hs0 : 0 ≤ s' := by rw [← hs', IntKind.wrap_u64]; omega
    have hs1 : s' ≤ 18446744073709551615 := by rw [← hs', IntKind.wrap_u64]; omega
    clear hs'
    have HS0 := hid hs0
    have HS1 := hid hs1
    clear hs0 hs1
    go_quiet (fail)
    go_wp2_with fail
    go_ret
    obtain ⟨r1, r2⟩ := cur_after HC.out HS0.out HS1.out
    obtain ⟨b0, b1⟩ := and255 (x := s' / 1099511627776) (by have := HS0.out; omega) (by have := HS1.out; omega)
    exact ⟨_, rfl, b0, b1, r1, r2⟩

set_option maxHeartbeats 800000 in
theorem pick_cur (g t : Nat) (n : Int) (w : World) (h : Cur w g t) (ht : t ≤ 100000) (hn : n ≤ 65000) :
    Calls Try.prog 90 #[.pointer (some ⟨g, 0, none⟩), .int .i64 n] w fun e w' => ∃ v : Int, e = .returned (.int .i64 v) ∧ 0 ≤ v ∧ (v < n ∨ n ≤ 1 ∧ v = 0) ∧ (∃ t', t ≤ t' ∧ t' ≤ t + 2 ∧ Cur w' g t') ∧ w.grownBy w' (some g) := by
  by_cases h1 : n ≤ 1
  · go_enter Try.func90, Try.ntmps90
    go_wp2_with fail
    go_ret
    exact ⟨0, rfl, Int.le_refl _, .inr ⟨h1, rfl⟩, ⟨t, Nat.le_refl _, by omega, h⟩, World.grownBy.refl _ _⟩
  · have h2 : 1 < n := by omega
    by_cases h3 : 200 < n
    · go_enter Try.func90, Try.ntmps90
      go_wp2_with fail
      refine (next_cur g t _ h (by omega)).mono ?_
      rintro e w1 ⟨v, rfl, v0, v1, hc1, hg1⟩
      go_wp2_with fail
      refine (next_cur g (t + 1) _ hc1 (by omega)).mono ?_
      rintro e w2 ⟨u, rfl, u0, u1, hc2, hg2⟩
      have hm0 : 0 ≤ (v * 256 + u) % n := Int.emod_nonneg _ (by omega)
      have hm1 : (v * 256 + u) % n < n := Int.emod_lt_of_pos _ (by omega)
      go_wp2_with fail
      go_ret
      exact ⟨_, rfl, hm0, .inl hm1, ⟨t + 2, by omega, by omega, hc2⟩, ⟨hg2.os.trans hg1.os, hg2.tape.trans hg1.tape, hg2.output.trans hg1.output, Nat.le_trans hg1.size hg2.size, fun j hj hne => (hg2.block j (Nat.lt_of_lt_of_le hj hg1.size) hne).trans (hg1.block j hj hne)⟩⟩
    · go_enter Try.func90, Try.ntmps90
      go_wp2_with fail
      refine (next_cur g t _ h (by omega)).mono ?_
      rintro e w1 ⟨v, rfl, v0, v1, hc1, hg1⟩
      have hm0 : 0 ≤ v % n := Int.emod_nonneg _ (by omega)
      have hm1 : v % n < n := Int.emod_lt_of_pos _ (by omega)
      go_wp2_with fail
      go_ret
      exact ⟨_, rfl, hm0, .inl hm1, ⟨t + 1, by omega, by omega, hc1⟩, hg1⟩

set_option maxHeartbeats 800000 in
theorem one_cur (g t : Nat) (n : Int) (w : World) (h : Cur w g t) (ht : t ≤ 100000) (hn : n ≤ 65000) :
    Calls Try.prog 107 #[.pointer (some ⟨g, 0, none⟩), .int .i64 n] w fun e w' => ∃ b : Bool, e = .returned (.bool b) ∧ (∃ t', t ≤ t' ∧ t' ≤ t + 2 ∧ Cur w' g t') ∧ w.grownBy w' (some g) := by
  go_enter Try.func107, Try.ntmps107
  go_wp2_with fail
  refine (pick_cur g t n _ h ht hn).mono ?_
  rintro e w1 ⟨v, rfl, v0, v1, hc1, hg1⟩
  go_wp2_with fail
  go_ret
  exact ⟨_, rfl, hc1, hg1⟩

set_option maxHeartbeats 800000 in
theorem among_cur (g t : Nat) (a : Option Addr) (n cap : Nat) (xs : List Int) (w : World) (h : Cur w g t) (ht : t ≤ 100000) (hh : Has w a n cap xs) (hn : 0 < n) (hn2 : n ≤ 60000) (hne : ∀ p, a = some p → p.block ≠ g) :
    Calls Try.prog 91 #[.pointer (some ⟨g, 0, none⟩), .slice a n cap] w fun e w' => ∃ v : Int, e = .returned (.int .i64 v) ∧ v ∈ xs ∧ (∃ t', t ≤ t' ∧ t' ≤ t + 2 ∧ Cur w' g t') ∧ w.grownBy w' (some g) := by
  have HL := hid hh.len
  obtain ⟨b, off, rfl, hbb, hc⟩ := hh.2.2.2.2 hn
  have hbg := hne _ rfl
  clear hne
  go_enter Try.func91, Try.ntmps91
  go_wp2_with fail
  refine (pick_cur g t n _ h ht (by omega)).mono ?_
  rintro e w1 ⟨v, rfl, v0, v1, hc1, hg1⟩
  obtain ⟨k, rfl⟩ : ∃ k : Nat, v = (k : Int) := ⟨_, (Int.toNat_of_nonneg v0).symm⟩
  have hk : k < n := by omega
  have hck : w1.cell? ⟨b, off + k, none⟩ = some (.int .i64 (nth xs k)) := hg1.cell (hc k hk) (by simpa using hbg)
  clear hc v1
  go_wp2_with fail
  go_ret
  exact ⟨_, rfl, nth_mem (by rw [HL.out]; exact hk), hc1, hg1⟩
end Go.Proofs.Ytakadjhbomggbaa

namespace Go.Proofs.Ytakadjhbomggbaa
open Go.RowKit

theorem HasB.below {w w' : World} {a : Option Addr} {n K : Nat} (h : HasB w a n K) (hb : Below K w w') : HasB w' a n K := by
  refine ⟨h.1, fun hx => ?_⟩
  obtain ⟨b, off, ha, hbk, hc⟩ := h.2 hx
  refine ⟨b, off, ha, hbk, fun i hi => ?_⟩
  obtain ⟨u, u0, u1, hu⟩ := hc i hi
  exact ⟨u, u0, u1, by rw [hb.cell (p := ⟨b, off + i, none⟩) hbk]; exact hu⟩

/-- An argument's slice of bytes. -/
theorem hasB_of_row {w : World} {a : Option Addr} {len cap : Nat} {zs : List Int}
    (h : (a = none ∧ len = 0 ∧ cap = 0 ∧ zs = []) ∨ ∃ x, a = some x ∧ len ≤ cap ∧ cap ≤ maxLen ∧ zs.length = cap ∧ (∀ i, i < zs.length → w.cell? (x.add i) = some (.int .u8 (zs.getD i 0))) ∧ ∀ n ∈ zs, (Lit.int .u8 n).wf = true) :
    len ≤ maxLen ∧ (len ≤ 1048576 → HasB w a len w.heap.size) := by
  rcases h with ⟨rfl, rfl, rfl, rfl⟩ | ⟨x, rfl, h1, h2, h3, h4, h5⟩
  · exact ⟨by unfold maxLen; omega, fun _ => ⟨by omega, by omega⟩⟩
  · refine ⟨by omega, fun hl => ⟨by omega, fun hx => ?_⟩⟩
    obtain ⟨b, off, spot⟩ := x
    have hc := h4 0 (by omega)
    have hspot : spot = none := by simpa [Addr.add] using World.cell?_spot hc
    subst hspot
    refine ⟨b, off, rfl, by have := World.block_lt_of_cell? w _ hc; simpa [Addr.add] using this, fun i hi => ?_⟩
    have := h4 i (by omega)
    have e : (⟨b, off, none⟩ : Addr).add i = ⟨b, off + i, none⟩ := by unfold Addr.add; split <;> simp_all
    rw [e] at this
    have hm : zs.getD i 0 ∈ zs := by simp [show i < zs.length by omega]
    have hw := h5 _ hm
    generalize zs.getD i 0 = u at *
    have hw' : (0 : Int) ≤ u ∧ u ≤ 255 := by simpa [Lit.wf, IntKind.min, IntKind.max, IntKind.signed, IntKind.bits] using hw
    exact ⟨u, hw'.1, hw'.2, this⟩

/-- The law's answer. -/
def Holds (w : World) (e : Ending) (w' : World) : Prop := e = .returned (.bool true) ∧ Below w.heap.size w w'
end Go.Proofs.Ytakadjhbomggbaa

namespace Go.Proofs.Ytakadjhbomggbaa
open Go.RowKit

/-- Whether the bytes are too many. -/
def Big (n m : Nat) (w : World) (e : Ending) (w' : World) : Prop := ∃ r : Bool, e = .returned (.bool r) ∧ (r = false → n + m ≤ 1048576) ∧ w = w'

theorem big_any (a b : Option Addr) (n m cap cap' : Nat) (w : World) (hn : n ≤ 9223372036854775807) :
    Calls Try.prog 8 #[.slice a n cap, .slice b m cap'] w (Big n m w) := by
  by_cases h1 : (1048576 : Int) < (n : Int)
  · go_enter Try.func8, Try.ntmps8
    go_wp2_with fail
    go_ret
    exact ⟨true, ret_bool (by simp), by simp, rfl⟩
  · by_cases h2 : (1048576 : Int) - n < (m : Int)
    · go_enter Try.func8, Try.ntmps8
      go_wp2_with fail
      go_ret
      exact ⟨true, ret_bool (by simp), by simp, rfl⟩
    · go_enter Try.func8, Try.ntmps8
      go_wp2_with fail
      go_ret
      exact ⟨false, ret_bool (by simp), fun _ => by omega, rfl⟩

set_option maxHeartbeats 400000 in
theorem jSum_any (a : Option Addr) (n cap : Nat) (ys : List Int) (w : World) (h : Has w a n cap ys) (hs : Small ys) :
    Calls Try.prog 50 #[.slice a n cap] w fun e w' => e = .returned (.int .i64 (total ys)) ∧ w = w' := by
  obtain ⟨h0, h1, h2, h3, h4⟩ := h
  go_enter Try.func50, Try.ntmps50
  go_wp2_with fail
  go_loop [3, 8] (fun c i => ∃ k : Nat, k ≤ n ∧ i = .int .i64 k ∧ c = .int .i64 (total (ys.take k))) (fun _ i => n - (intOf i).toNat)
  case atStart => exact ⟨0, Nat.zero_le _, rfl, rfl⟩
  case round =>
    obtain ⟨k, hk, rfl, rfl⟩ := hrel
    by_cases hlt : k < n
    · obtain ⟨b, off, rfl, hb, hc⟩ := h4 (by omega)
      have hck := hc k hlt
      have ht := total_bounds hs k (by omega)
      obtain ⟨hv0, hv1⟩ := hs k (by omega)
      have HS := hid (total_succ (xs := ys) (k := k) (by omega))
      clear hc h4 hs
      go_wp2_with fail
      go_round
      case rel => exact ⟨k + 1, by omega, by go_num, by rw [HS.out]⟩
      case measure => simp [intOf]; omega
    · obtain rfl : k = n := by omega
      go_wp2_with fail
      go_ret
      exact ⟨ret_int (by rw [List.take_of_length_le (by omega)]), rfl⟩

end Go.Proofs.Ytakadjhbomggbaa

namespace Go.Proofs.Ytakadjhbomggbaa
open Go.RowKit

/-- The cursor stands, and below its block all is as it was. -/
structure At (w0 w : World) (g t : Nat) : Prop where
  cur : Cur w g t
  below : Below g w0 w

theorem At.pick {w0 w w' : World} {g t t' : Nat} (h : At w0 w g t) (hc : Cur w' g t') (hg : w.grownBy w' (some g)) : At w0 w' g t' :=
  ⟨hc, h.below.trans (below_grown hg (Nat.le_of_lt h.cur.lt) (by intro k hk; cases hk; exact Nat.le_refl _))⟩
theorem At.later {w0 w w' : World} {g t K : Nat} (h : At w0 w g t) (hb : Below K w w') (hK : g < K) : At w0 w' g t :=
  ⟨h.cur.below hb hK, h.below.trans (hb.mono (Nat.le_of_lt hK))⟩
theorem At.size {w0 w : World} {g t : Nat} (h : At w0 w g t) : w0.heap.size ≤ w.heap.size := h.below.size

theorem has_lit (w : World) (xs : List Int) (hx : xs.length ≤ 100) : Has (w.alloc (.cells (xs.map (Value.int .i64)).toArray 3)) (some ⟨w.heap.size, 0, none⟩) xs.length xs.length xs := by
  have := World.ownsRow_lit (base := w.heap.size) (e := 3) (size := 1) w (xs.map (Value.int .i64)).toArray xs.length (Nat.le_refl _) (by unfold maxLen; omega) (by simp)
  exact Own.has (B := w.heap.size) ⟨by simpa using this, rfl, by omega⟩
theorem has_lit3 (w : World) (a b c : Int) : Has (w.alloc (.cells #[.int .i64 a, .int .i64 b, .int .i64 c] 3)) (some ⟨w.heap.size, 0, none⟩) 3 3 [a, b, c] := has_lit w [a, b, c] (by simp)
theorem has_lit4 (w : World) (a b c d : Int) : Has (w.alloc (.cells #[.int .i64 a, .int .i64 b, .int .i64 c, .int .i64 d] 3)) (some ⟨w.heap.size, 0, none⟩) 4 4 [a, b, c, d] := has_lit w [a, b, c, d] (by simp)
theorem has_lit6 (w : World) (a b c d e f : Int) : Has (w.alloc (.cells #[.int .i64 a, .int .i64 b, .int .i64 c, .int .i64 d, .int .i64 e, .int .i64 f] 3)) (some ⟨w.heap.size, 0, none⟩) 6 6 [a, b, c, d, e, f] := has_lit w [a, b, c, d, e, f] (by simp)
theorem alloc_below (w : World) (o : Obj) : Below w.heap.size w (w.alloc o) := (Below.refl _ _).alloc (Nat.le_refl _) _
theorem lit_ne {w : World} {g t : Nat} (h : Cur w g t) : ∀ p, (some ⟨w.heap.size, 0, none⟩ : Option Addr) = some p → p.block ≠ g := by
  intro p hp
  cases hp
  have := h.lt
  simp
  omega

/-- Favourites and a number of places, whatever they are. -/
def DrewFav (w : World) (g : Nat) (e : Ending) (w' : World) : Prop :=
  ∃ a n cap xs p, e = .returned (.tuple #[.slice a n cap, .int .i64 p]) ∧ Own w' w.heap.size a n cap xs ∧ n ≤ 10 ∧ -1 ≤ p ∧ p ≤ 13 ∧ Below g w w'

/-- The same, and the cursor stands. -/
def DrewFavC (w : World) (g : Nat) (e : Ending) (w' : World) : Prop :=
  ∃ a n cap xs p, e = .returned (.tuple #[.slice a n cap, .int .i64 p]) ∧ Own w' w.heap.size a n cap xs ∧ n ≤ 10 ∧ -1 ≤ p ∧ p ≤ 13 ∧ ∃ t', At w w' g t' ∧ t' ≤ 4000

/-- A slice of bytes that came in. -/
theorem cur_new {w : World} {a : Option Addr} {n cap : Nat} (h : HasB w a n w.heap.size) : Cur (w.alloc (.cells #[.slice a n cap, .int .i64 0, .int .u64 0] 56)) w.heap.size 0 := by
  refine ⟨⟨a, n, cap, ?_, h.1, fun hp => ?_⟩, ?_, ⟨0, by omega, by omega, ?_⟩, fun i => ?_, by simp⟩
  · rw [World.cell?_alloc_at _ _ _ _ rfl]; rfl
  · obtain ⟨b, off, ha, hb, hc⟩ := h.2 hp
    refine ⟨b, off, ha, hb, fun i hi => ?_⟩
    obtain ⟨u, u0, u1, hu⟩ := hc i hi
    exact ⟨u, u0, u1, by rw [World.cell?_alloc_past _ _ _ hb]; exact hu⟩
  · rw [World.cell?_alloc_at _ _ _ _ rfl]; rfl
  · rw [World.cell?_alloc_at _ _ _ _ rfl]; rfl
  · rw [World.frozen?_alloc_at _ _ _ _ rfl]

/-- What a draw of favourites leaves to its caller. -/
def DrewFav' (w : World) (e : Ending) (w' : World) : Prop :=
  ∃ a n cap xs p, e = .returned (.tuple #[.slice a n cap, .int .i64 p]) ∧ Own w' w.heap.size a n cap xs ∧ n ≤ 10 ∧ -1 ≤ p ∧ p ≤ 13 ∧ Below w.heap.size w w'

end Go.Proofs.Ytakadjhbomggbaa

namespace Go.Proofs.Ytakadjhbomggbaa
open Go.RowKit

theorem HasB.grow {w w' : World} {a : Option Addr} {n K : Nat} (h : HasB w a n K) (hb : Below K w w') (hK : K ≤ w.heap.size) : HasB w' a n w'.heap.size := by
  refine ⟨h.1, fun hx => ?_⟩
  obtain ⟨b, off, ha, hbk, hc⟩ := h.2 hx
  refine ⟨b, off, ha, Nat.lt_of_lt_of_le hbk (Nat.le_trans hK hb.size), fun i hi => ?_⟩
  obtain ⟨u, u0, u1, hu⟩ := hc i hi
  exact ⟨u, u0, u1, by rw [hb.cell (p := ⟨b, off + i, none⟩) hbk]; exact hu⟩

/-- A number put into a list. -/
def putIn (xs : List Int) (j : Nat) (x : Int) : List Int := xs.take j ++ [x] ++ xs.drop j
theorem mem_putIn {xs : List Int} {j : Nat} {x y : Int} : y ∈ putIn xs j x ↔ y = x ∨ y ∈ xs := by
  unfold putIn
  have : y ∈ xs ↔ y ∈ xs.take j ∨ y ∈ xs.drop j := by rw [← List.mem_append, List.take_append_drop]
  simp only [List.mem_append, List.mem_singleton, this]
  constructor
  · rintro ((h | h) | h)
    · exact .inr (.inl h)
    · exact .inl h
    · exact .inr (.inr h)
  · rintro (h | h | h)
    · exact .inl (.inr h)
    · exact .inl (.inl h)
    · exact .inr h
def Within (xs : List Int) (lo hi : Int) : Prop := ∀ x ∈ xs, lo ≤ x ∧ x ≤ hi
theorem Within.put {xs : List Int} {lo hi x : Int} {j : Nat} (h : Within xs lo hi) (hx : lo ≤ x ∧ x ≤ hi) : Within (putIn xs j x) lo hi := by
  intro y hy
  rcases mem_putIn.1 hy with rfl | hy
  · exact hx
  · exact h y hy
theorem Within.snoc {xs : List Int} {lo hi x : Int} (h : Within xs lo hi) (hx : lo ≤ x ∧ x ≤ hi) : Within (xs ++ [x]) lo hi := by
  intro y hy
  rcases List.mem_append.1 hy with hy | hy
  · exact h y hy
  · rw [List.mem_singleton] at hy; subst hy; exact hx
theorem Within.set {xs : List Int} {lo hi x : Int} {i : Nat} (h : Within xs lo hi) (hx : lo ≤ x ∧ x ≤ hi) : Within (xs.set i x) lo hi := by
  intro y hy
  rcases List.mem_or_eq_of_mem_set hy with hy | rfl
  · exact h y hy
  · exact hx
theorem Within.wide {xs : List Int} {lo hi lo' hi' : Int} (h : Within xs lo hi) (h1 : lo' ≤ lo) (h2 : hi ≤ hi') : Within xs lo' hi' := fun y hy => by have := h y hy; omega

/-- The cursor stands; its block alone was written among those that were there. -/
structure AtG (w0 w : World) (g t : Nat) : Prop where
  cur : Cur w g t
  grew : w0.grownBy w (some g)
  lt : g < w0.heap.size
theorem AtG.new {w : World} {g t : Nat} (h : Cur w g t) : AtG w w g t := ⟨h, World.grownBy.refl _ _, h.lt⟩
theorem AtG.size {w0 w : World} {g t : Nat} (h : AtG w0 w g t) : w0.heap.size ≤ w.heap.size := h.grew.size
theorem grown_then {w w1 w2 : World} {r : Option Nat} (h : w.grownBy w1 r) (h' : w1.grownBy w2 r) : w.grownBy w2 r :=
  ⟨h'.os.trans h.os, h'.tape.trans h.tape, h'.output.trans h.output, Nat.le_trans h.size h'.size, fun j hj hne => (h'.block j (Nat.lt_of_lt_of_le hj h.size) hne).trans (h.block j hj hne)⟩
theorem AtG.pick {w0 w w' : World} {g t t' : Nat} (h : AtG w0 w g t) (hc : Cur w' g t') (hg : w.grownBy w' (some g)) : AtG w0 w' g t' := ⟨hc, grown_then h.grew hg, h.lt⟩
theorem AtG.later {w0 w w' : World} {g t K : Nat} (h : AtG w0 w g t) (hb : Below K w w') (hK : w0.heap.size ≤ K) : AtG w0 w' g t :=
  ⟨h.cur.below hb (Nat.lt_of_lt_of_le h.lt hK), ⟨hb.os.trans h.grew.os, hb.tape.trans h.grew.tape, hb.output.trans h.grew.output, Nat.le_trans h.grew.size hb.size, fun j hj hne => (hb.block j (Nat.lt_of_lt_of_le hj hK)).trans (h.grew.block j hj hne)⟩, h.lt⟩
theorem AtG.below {w0 w : World} {g t : Nat} (h : AtG w0 w g t) : Below g w0 w := below_grown h.grew (Nat.le_of_lt h.lt) fun k hk => by cases hk; exact Nat.le_refl _
theorem AtG.trans {w0 w w' : World} {g t t' : Nat} (h : AtG w0 w g t) (h' : AtG w w' g t') : AtG w0 w' g t' := ⟨h'.cur, grown_then h.grew h'.grew, h.lt⟩

/-- A list that was drawn. -/
def DrewList (w : World) (g t : Nat) (e : Ending) (w' : World) : Prop :=
  ∃ a n cap xs t', e = .returned (.slice a n cap) ∧ Own w' w.heap.size a n cap xs ∧ n ≤ 10 ∧ Within xs (-1) 100 ∧ AtG w w' g t' ∧ t' ≤ t + 100

set_option maxHeartbeats 8000000 in
theorem park_cur (g t : Nat) (most : Int) (w : World) (h : Cur w g t) (ht : t ≤ 1000) (hm0 : 0 ≤ most) (hm : most ≤ 8) :
    Calls Try.prog 52 #[.pointer (some ⟨g, 0, none⟩), .int .i64 most] w (DrewList w g t) := by
  have hgl := h.lt
  have A0 := AtG.new h
  go_enter Try.func52, Try.ntmps52
  go_wp2_with fail
  refine (pick_cur g t (most + 1) _ A0.cur (by omega) (by omega)).mono ?_
  rintro e w1 ⟨v, rfl, v0, v1, ⟨t1, ta, tb, hc1⟩, hg1⟩
  obtain ⟨nn, rfl⟩ : ∃ nn : Nat, v = (nn : Int) := ⟨_, (Int.toNat_of_nonneg v0).symm⟩
  have hnn : nn ≤ 8 := by omega
  have A1 := A0.pick hc1 hg1
  clear hc1 hg1 v0 v1 A0
  go_wp2_with fail
  go_loopw [5, 6] (fun o n wr => ∃ (k j : Nat) (a' : Option Addr) (cap' : Nat) (xs : List Int) (t' : Nat), k + j ≤ 8 ∧ n = .int .i64 (k : Int) ∧ o = .slice a' j cap' ∧ Own wr w.heap.size a' j cap' xs ∧ Within xs 0 8 ∧ AtG w wr g t' ∧ t' ≤ t + 2 + 4 * j) (fun _ n _ => (intOf n).toNat)
  case atStart => exact ⟨nn, 0, none, 0, [], t1, by omega, rfl, rfl, Own.nil _ _, (fun x hx => by simp at hx), A1, by omega⟩
  case round =>
    obtain ⟨k, j, a', cap', xs, t', hkj, rfl, rfl, hown, hin, A, ht'⟩ := hrel
    have HI := hid hin
    clear A1 hin
    by_cases hk : 0 < k
    · skip
      go_wp2_with fail
      refine (pick_cur g t' ((j : Int) + 1) _ A.cur (by omega) (by omega)).mono ?_
      rintro e w5 ⟨qx, rfl, q0, q1, ⟨t2, x1, x2, hcc⟩, hgg⟩
      obtain ⟨x, rfl⟩ : ∃ x : Nat, qx = (x : Int) := ⟨_, (Int.toNat_of_nonneg q0).symm⟩
      have hx : x ≤ j := by omega
      replace hown := hown.kept hgg (.inl hgl)
      replace A := A.pick hcc hgg
      clear hcc hgg q0 q1
      go_wp2_with fail
      refine (pick_cur g t2 ((j : Int) + 1) _ A.cur (by omega) (by omega)).mono ?_
      rintro e w6 ⟨qy, rfl, q0, q1, ⟨t3, x1, x2, hcc⟩, hgg⟩
      obtain ⟨y, rfl⟩ : ∃ y : Nat, qy = (y : Int) := ⟨_, (Int.toNat_of_nonneg q0).symm⟩
      have hy : y ≤ j := by omega
      replace hown := hown.kept hgg (.inl hgl)
      replace A := A.pick hcc hgg
      clear hcc hgg q0 q1
      cases a' with
      | none =>
        obtain ⟨hk1, hcap1, hnil⟩ := hown.noneOf
        have hk0 : j ≤ 0 := by omega
        have hcap0 : cap' ≤ 0 := by omega
        have hat0 : y ≤ 0 := by omega
        subst hnil
        obtain rfl : y = 0 := by omega
        clear hk1 hcap1
        go_wp2_with fail
        refine (l1Own_any _ _ _ _ _ (Has.empty none (Nat.le_refl _) (Nat.le_refl _))).mono ?_
        rintro e w2 ⟨a2, cap2, rfl, hown2, hb2⟩
        go_wp2_with (first | (at_builtin; refine wpList_append_int _ rfl _ _ rfl w6.heap.size _ _ _ _ _ rfl rfl hown2 (by omega) hb2.size ?_; intro a3 cap3 w3 hown3 hb3) | (at_builtin; refine wpList_append_ints _ rfl _ _ rfl w6.heap.size _ none _ _ _ _ _ [] rfl rfl hown3 (Has.empty none (by omega) (by omega)) (by omega) (Nat.le_trans hb2.size hb3.size) ?_; intro a4 n4 cap4 w4 hn4 hown4 hb4))
        have hbb := (hb2.trans hb3).trans hb4
        have A4 := A.later hbb (A.size)
        have hown5 : Own w4 w.heap.size a4 (j + 1) cap4 (putIn [] 0 (x : Int)) := (hown4.mono A.size).relen (by omega) (by simp [putIn])
        have hn5 : n4 = j + 1 := by omega
        clear hown4 hown3 hown2 hb2 hb3 hb4 hbb hn4
        go_roundw
        case rel => exact ⟨k - 1, j + 1, a4, cap4, _, t3, by omega, by go_num, slice_len (by omega), hown5, HI.out.put ⟨by omega, by omega⟩, A4, by omega⟩
        case measure => simp [intOf]; omega
      | some pp =>
        obtain ⟨gg, rfl, hg1, hg2, hg3, hg4, hkc⟩ := hown.someOf
        have HA := hown.has
        have HLO := hid hown.len
        clear hg3 hg4
        by_cases hjk : y < j
        · skip
          have hcj : ¬ cap' = y := by omega
          go_wp2_with fail
          refine (l1Own_any _ _ _ _ _ (HA.take (k := y) (by omega))).mono ?_
          rintro e w2 ⟨a2, cap2, rfl, hown2, hb2⟩
          have hd2 := (HA.drop (k := y) (by omega)).below hb2 (Nat.le_refl _)
          rw [Nat.zero_add] at hd2
          have hblk : ∀ p, (some ⟨gg, y, none⟩ : Option Addr) = some p → p.block < w6.heap.size := fun p hp => by cases hp; exact hg2
          have HBK := hid hblk
          clear hblk
          go_wp2_with (first | (at_builtin; refine wpList_append_int _ rfl _ _ rfl w6.heap.size _ _ _ _ _ rfl rfl hown2 (by omega) hb2.size ?_; intro a3 cap3 w3 hown3 hb3) | (at_builtin; refine wpList_append_ints _ rfl _ _ rfl w6.heap.size _ _ _ _ _ _ _ _ rfl rfl hown3 (hd2.belowB hb3 HBK.out) (by omega) (Nat.le_trans hb2.size hb3.size) ?_; intro a4 n4 cap4 w4 hn4 hown4 hb4))
          clear hd2 HBK
          have hbb := (hb2.trans hb3).trans hb4
          have A4 := A.later hbb (A.size)
          have hown5 : Own w4 w.heap.size a4 (j + 1) cap4 (putIn xs y (x : Int)) := (hown4.mono A.size).relen (by omega) (by unfold putIn; rfl)
          have hn5 : n4 = j + 1 := by omega
          clear hown4 hown3 hown2 hb2 hb3 hb4 hbb hn4
          go_roundw
          case rel => exact ⟨k - 1, j + 1, a4, cap4, _, t3, by omega, by go_num, slice_len (by omega), hown5, HI.out.put ⟨by omega, by omega⟩, A4, by omega⟩
          case measure => simp [intOf]; omega
        · skip
          obtain rfl : j = y := by omega
          clear hjk
          by_cases hcj : cap' = j
          · skip
            obtain rfl : j = cap' := hcj.symm
            clear hcj
            have hmax : 0 ≤ maxLen := by unfold maxLen; omega
            have HMX := hid hmax
            clear hmax
            go_wp2_with fail
            refine (l1Own_any _ _ _ _ _ (HA.take (k := j) (by omega))).mono ?_
            rintro e w2 ⟨a2, cap2, rfl, hown2, hb2⟩
            go_wp2_with (first | (at_builtin; refine wpList_append_int _ rfl _ _ rfl w6.heap.size _ _ _ _ _ rfl rfl hown2 (by omega) hb2.size ?_; intro a3 cap3 w3 hown3 hb3) | (at_builtin; refine wpList_append_ints _ rfl _ _ rfl w6.heap.size _ _ _ _ _ _ _ [] rfl rfl hown3 (Has.nilAt _ (by unfold maxLen; omega)) (by omega) (Nat.le_trans hb2.size hb3.size) ?_; intro a4 n4 cap4 w4 hn4 hown4 hb4))
            have hbb := (hb2.trans hb3).trans hb4
            have A4 := A.later hbb (A.size)
            have hown5 : Own w4 w.heap.size a4 (j + 1) cap4 (putIn xs j (x : Int)) := (hown4.mono A.size).relen (by omega) (by unfold putIn; rw [List.drop_eq_nil_of_le (by rw [HLO.out]; exact Nat.le_refl _)])
            have hn5 : n4 = j + 1 := by omega
            clear hown4 hown3 hown2 hb2 hb3 hb4 hbb hn4
            go_roundw
            case rel => exact ⟨k - 1, j + 1, a4, cap4, _, t3, by omega, by go_num, slice_len (by omega), hown5, HI.out.put ⟨by omega, by omega⟩, A4, by omega⟩
            case measure => simp [intOf]; omega
          · skip
            have hmax : cap' - j ≤ maxLen := by have := HA.2.2.1; omega
            have HMX := hid hmax
            clear hmax
            go_wp2_with fail
            refine (l1Own_any _ _ _ _ _ (HA.take (k := j) (by omega))).mono ?_
            rintro e w2 ⟨a2, cap2, rfl, hown2, hb2⟩
            go_wp2_with (first | (at_builtin; refine wpList_append_int _ rfl _ _ rfl w6.heap.size _ _ _ _ _ rfl rfl hown2 (by omega) hb2.size ?_; intro a3 cap3 w3 hown3 hb3) | (at_builtin; refine wpList_append_ints _ rfl _ _ rfl w6.heap.size _ _ _ _ _ _ _ [] rfl rfl hown3 (Has.nilAt _ HMX.out) (by omega) (Nat.le_trans hb2.size hb3.size) ?_; intro a4 n4 cap4 w4 hn4 hown4 hb4))
            have hbb := (hb2.trans hb3).trans hb4
            have A4 := A.later hbb (A.size)
            have hown5 : Own w4 w.heap.size a4 (j + 1) cap4 (putIn xs j (x : Int)) := (hown4.mono A.size).relen (by omega) (by unfold putIn; rw [List.drop_eq_nil_of_le (by rw [HLO.out]; exact Nat.le_refl _)])
            have hn5 : n4 = j + 1 := by omega
            clear hown4 hown3 hown2 hb2 hb3 hb4 hbb hn4
            go_roundw
            case rel => exact ⟨k - 1, j + 1, a4, cap4, _, t3, by omega, by go_num, slice_len (by omega), hown5, HI.out.put ⟨by omega, by omega⟩, A4, by omega⟩
            case measure => simp [intOf]; omega
    · skip
      obtain rfl : k = 0 := by omega
      go_wp2_with fail
      refine (pick_cur g t' 20 _ A.cur (by omega) (by omega)).mono ?_
      rintro e w5 ⟨z, rfl, z0, z1, ⟨t5, x1, x2, hc5⟩, hg5⟩
      have o5 := hown.kept hg5 (.inl hgl)
      have A5 := A.pick hc5 hg5
      clear hc5 hg5 hown A
      by_cases h0 : (z == 0) = true
      · skip
        go_wp2_with fail
        refine (among_cur g t5 _ 6 6 [-1, 0, (j : Int), (j : Int) + 1, 99, 100] _ (A5.later (alloc_below _ _) (A5.size)).cur (by omega) (has_lit6 w5 (-1) 0 (j : Int) ((j : Int) + 1) 99 100) (by omega) (by omega) (lit_ne A5.cur)).mono ?_
        rintro e w6 ⟨v6, rfl, hv6, ⟨t6, x3, x4, hc6⟩, hg6⟩
        have hv6b : -1 ≤ v6 ∧ v6 ≤ 100 := by simp at hv6; omega
        have A5' := A5.later (alloc_below w5 (.cells #[.int .i64 (-1), .int .i64 0, .int .i64 (j : Int), .int .i64 ((j : Int) + 1), .int .i64 99, .int .i64 100] 3)) (A5.size)
        have A6 := A5'.pick hc6 hg6
        have o6 := (o5.below (alloc_below w5 (.cells #[.int .i64 (-1), .int .i64 0, .int .i64 (j : Int), .int .i64 ((j : Int) + 1), .int .i64 99, .int .i64 100] 3)) (Nat.le_refl _)).kept hg6 (.inl hgl)
        have hs6 := A6.size
        clear hc6 hg6 o5 A5 A5' hv6
        go_wp2_with (at_builtin; refine wpList_append_int _ rfl _ _ rfl w.heap.size _ _ _ _ _ rfl rfl o6 (by omega) hs6 ?_; intro a7 cap7 w7 o7 hb7)
        have A7 := A6.later hb7 (Nat.le_refl _)
        go_ret
        exact ⟨_, _, _, _, t6, rfl, o7, by omega, (HI.out.wide (by omega) (by omega)).snoc hv6b, A7, by omega⟩
      · skip
        have h0' := Bool.eq_false_iff.2 h0
        clear h0
        by_cases h1 : (z == 1) = true
        · skip
          by_cases hj0 : 0 < j
          · skip
            go_wp2_with fail
            refine (pick_cur g t5 (j : Int) _ A5.cur (by omega) (by omega)).mono ?_
            rintro e w6 ⟨qx, rfl, q0, q1, ⟨t6, x3, x4, hc6⟩, hg6⟩
            obtain ⟨x, rfl⟩ : ∃ x : Nat, qx = (x : Int) := ⟨_, (Int.toNat_of_nonneg q0).symm⟩
            have hx : x < j := by omega
            have o6 := o5.kept hg6 (.inl hgl)
            have A6 := A5.pick hc6 hg6
            clear hc6 hg6 o5 A5 q0 q1
            go_wp2_with fail
            refine (pick_cur g t6 (j : Int) _ A6.cur (by omega) (by omega)).mono ?_
            rintro e w7 ⟨qy, rfl, q0, q1, ⟨t7, x5, x6, hc7⟩, hg7⟩
            obtain ⟨y, rfl⟩ : ∃ y : Nat, qy = (y : Int) := ⟨_, (Int.toNat_of_nonneg q0).symm⟩
            have hy : y < j := by omega
            have o7 := o6.kept hg7 (.inl hgl)
            have A7 := A6.pick hc7 hg7
            clear hc7 hg7 o6 A6 q0 q1
            obtain ⟨gg, rfl, hgB, hg2, hg3, hg4⟩ := o7.opened hj0
            have hgk := hg3 x hx
            have hgf := hg4 x
            have hxi : (x : Int) < (j : Int) := by omega
            clear hg3 hg4
            go_wp2_with fail
            go_ret
            obtain ⟨s1, s2⟩ := o7.set x (y : Int)
            exact ⟨_, _, _, _, t7, rfl, s1, by omega, (HI.out.wide (by omega) (by omega)).set ⟨by omega, by omega⟩, A7.later ((Below.refl w.heap.size w7).setCell hgB _) (Nat.le_refl _), by omega⟩
          · skip
            go_wp2_with fail
            go_ret
            exact ⟨_, _, _, _, t5, rfl, o5, by omega, HI.out.wide (by omega) (by omega), A5, by omega⟩
        · skip
          have h1' := Bool.eq_false_iff.2 h1
          clear h1
          by_cases h2 : (z == 2) = true
          · skip
            go_wp2_with fail
            go_loopg [5] (10 - j) (fun q2 o wr => ∃ (m : Nat) (a' : Option Addr) (cap' : Nat) (xs : List Int), m + q2 = 10 ∧ 0 < q2 ∧ o = .slice a' m cap' ∧ Own wr w.heap.size a' m cap' xs ∧ Within xs (-1) 100 ∧ AtG w wr g t5)
            case atStart => exact ⟨j, a', cap', xs, by omega, by omega, rfl, o5, HI.out.wide (by omega) (by omega), A5⟩
            case round =>
              obtain ⟨m, a', cap', xs, hmq, hq0, rfl, hown, hin, A⟩ := hrel
              have HI2 := hid hin
              have hs := A.size
              clear A5 o5 hin
              by_cases hm9 : m < 9
              · skip
                go_wp2_with (at_builtin; refine wpList_append_int _ rfl _ _ rfl w.heap.size _ _ _ _ _ rfl rfl hown (by omega) hs ?_; intro a8 cap8 w8 o8 hb8)
                have A8 := A.later hb8 (Nat.le_refl _)
                go_roundg (gk - 1)
                case rel => exact ⟨m + 1, a8, cap8, _, by omega, by omega, rfl, o8, HI2.out.snoc ⟨by omega, by omega⟩, A8⟩
                case measure => omega
              · skip
                go_wp2_with fail
                go_ret
                exact ⟨_, _, _, _, t5, rfl, hown, by omega, HI2.out, A, by omega⟩
          · skip
            have h2' := Bool.eq_false_iff.2 h2
            clear h2
            go_wp2_with fail
            go_ret
            exact ⟨_, _, _, _, t5, rfl, o5, by omega, HI.out.wide (by omega) (by omega), A5, by omega⟩
end Go.Proofs.Ytakadjhbomggbaa

namespace Go.Proofs.Ytakadjhbomggbaa
open Go.RowKit

/-- A list of nn numbers that was drawn. -/
def DrewListN (nn : Nat) (w : World) (g t : Nat) (e : Ending) (w' : World) : Prop :=
  ∃ a n cap xs t', e = .returned (.slice a n cap) ∧ Own w' w.heap.size a n cap xs ∧ n = nn ∧ Within xs (-1) 100 ∧ AtG w w' g t' ∧ t' ≤ t + 100
/-- A list that was drawn, for the caller of a draw. -/
def DrewList' (w : World) (e : Ending) (w' : World) : Prop :=
  ∃ a n cap xs, e = .returned (.slice a n cap) ∧ Own w' w.heap.size a n cap xs ∧ n ≤ 10 ∧ Within xs (-1) 100 ∧ Below w.heap.size w w'

/-- Two lists that were drawn. -/
def DrewTwo (w : World) (e : Ending) (w' : World) : Prop :=
  ∃ a n cap xs a' n' cap' ys, e = .returned (.tuple #[.slice a n cap, .slice a' n' cap']) ∧ Own w' w.heap.size a n cap xs ∧ Own w' w.heap.size a' n' cap' ys ∧ n ≤ 10 ∧ n' ≤ 10 ∧ Below w.heap.size w w'

/-- Two lists and a bool that were drawn. -/
def DrewTwoB (w : World) (e : Ending) (w' : World) : Prop :=
  ∃ a n cap xs a' n' cap' ys b, e = .returned (.tuple #[.slice a n cap, .slice a' n' cap', .bool b]) ∧ Own w' w.heap.size a n cap xs ∧ Own w' w.heap.size a' n' cap' ys ∧ n ≤ 10 ∧ n' ≤ 10 ∧ Below w.heap.size w w'

end Go.Proofs.Ytakadjhbomggbaa

namespace Go.Proofs.Ytakadjhbomggbaa
open Go.RowKit

theorem freshH (w : World) (a : Option Addr) (n cap : Nat) : Below w.heap.size w (w.alloc (.cells #[.slice a n cap, .int .i64 0, .int .u64 0] 56)) := (Below.refl _ _).alloc (Nat.le_refl _) _
theorem Within.at {xs : List Int} {lo up : Int} (h : Within xs lo up) {i : Nat} (hl : i < xs.length) : lo ≤ Go.Proofs.Ytakadjhbomggbaa.nth xs i ∧ Go.Proofs.Ytakadjhbomggbaa.nth xs i ≤ up := h _ (nth_mem hl)
/-- Heights, whatever they are, and the cursor stands. -/
def DrewHts (w : World) (g t : Nat) (e : Ending) (w' : World) : Prop :=
  ∃ a n cap hs t', e = .returned (.slice a n cap) ∧ Own w' w.heap.size a n cap hs ∧ n ≤ 9 ∧ Within hs (-1) 100 ∧ AtG w w' g t' ∧ t' ≤ t + 100
set_option maxRecDepth 100000 in
set_option maxHeartbeats 2000000 in
theorem heights_cur (g t most : Nat) (w : World) (h : Cur w g t) (ht : t ≤ 1000) (hm : most ≤ 8) :
    Calls Try.prog 73 #[.pointer (some ⟨g, 0, none⟩), .int .i64 (most : Int)] w (DrewHts w g t) := by
  have hgl := h.lt
  have A0 := AtG.new h
  have hw1 : IntKind.i64.wrap ((most : Int) + 1) = (most : Int) + 1 := by rw [IntKind.wrap_i64]; omega
  go_enter Try.func73, Try.ntmps73
  go_wp2_with fail
  refine (pick_cur g t ((most : Int) + 1) _ A0.cur (by omega) (by omega)).mono ?_
  rintro e w3 ⟨n0, rfl, n1, n2, ⟨t3, te, tf, hc3⟩, hg3⟩
  have A4 := A0.pick hc3 hg3
  obtain ⟨nn, rfl⟩ : ∃ nn : Nat, n0 = (nn : Int) := ⟨_, (Int.toNat_of_nonneg n1).symm⟩
  have hnn : nn ≤ 8 := by omega
  clear hc3 hg3 A0 n2 n1
  go_wp2_with fail
  go_loopw [5, 6, 7] (fun o lf n wr => ∃ (k j : Nat) (l : Int) (a' : Option Addr) (cap' : Nat) (xs : List Int) (t' : Nat), k + j ≤ 8 ∧ -1 ≤ l ∧ l ≤ (j : Int) ∧ n = .int .i64 (k : Int) ∧ lf = .int .i64 l ∧ o = .slice a' j cap' ∧ Own wr w.heap.size a' j cap' xs ∧ Within xs (-1) (j : Int) ∧ AtG w wr g t' ∧ t' ≤ t + 2 + 4 * j) (fun _ _ n _ => (intOf n).toNat)
  case atStart => exact ⟨nn, 0, -1, none, 0, [], t3, by omega, by omega, by omega, rfl, rfl, rfl, Own.nil _ _, (fun x hx => by simp at hx), A4, by omega⟩
  case round =>
    obtain ⟨k, j, l, a', cap', xs, t', hkj, l0, l1, rfl, rfl, rfl, hown, hwi, A, ht'⟩ := hrel
    clear A4
    by_cases hk0 : 0 < k
    · have hwl : IntKind.i64.wrap (l + 2) = l + 2 := by rw [IntKind.wrap_i64]; omega
      go_wp2_with fail
      refine (pick_cur g t' (l + 2) _ A.cur (by omega) (by omega)).mono ?_
      rintro e w5 ⟨v5, rfl, v50, v51, ⟨t5, x1, x2, hc5⟩, hg5⟩
      have A5 := A.pick hc5 hg5
      have o5 := hown.kept hg5 (.inl hgl)
      have hv5 : v5 ≤ (j : Int) + 1 := by omega
      clear hc5 hg5 hown A v51
      go_wp2_with fail
      refine (one_cur g t5 4 _ A5.cur (by omega) (by omega)).mono ?_
      rintro e w6 ⟨b6, rfl, ⟨t6, x3, x4, hc6⟩, hg6⟩
      have A6 := A5.pick hc6 hg6
      have o6 := o5.kept hg6 (.inl hgl)
      have hs6 := A6.size
      clear hc6 hg6 o5 A5
      have hw4 : IntKind.i64.wrap ((k : Int) - 1) = (k : Int) - 1 := by rw [IntKind.wrap_i64]; omega
      have HW := hid hwi
      clear hwi
      cases b6 with
      | false =>
        go_wp2_with (at_builtin; refine wpList_append_int _ rfl _ _ rfl w.heap.size _ _ _ _ _ rfl rfl o6 (by omega) hs6 ?_; intro a7 cap7 w7 o7 hb7)
        have A7 := A6.later hb7 (Nat.le_refl _)
        clear A6 o6 hb7
        go_roundw
        case rel => exact ⟨k - 1, j + 1, v5, a7, cap7, _, t6, by omega, by omega, by omega, congrArg (Value.int .i64) (by omega), rfl, rfl, o7, (HW.out.wide (by omega) (by omega)).snoc ⟨by omega, by omega⟩, A7, by omega⟩
        case measure => simp [intOf]; omega
      | true =>
        by_cases hj0 : 0 < j
        · obtain ⟨gg, rfl, q1, q2, q3, q4⟩ := o6.opened hj0
          have hck := q3 (j - 1) (by omega)
          have hb := HW.out.at (i := j - 1) (by have := o6.len; omega)
          obtain ⟨x, hx⟩ : ∃ x, nth xs (j - 1) = x := ⟨_, rfl⟩
          rw [hx] at hck hb
          have hwj : IntKind.i64.wrap ((j : Int) - 1) = ((j - 1 : Nat) : Int) := by rw [IntKind.wrap_i64]; omega
          have hwx : IntKind.i64.wrap (x + 1) = x + 1 := by clear hwj; rw [IntKind.wrap_i64]; omega
          have hjp : (0 : Int) < (j : Int) := by omega
          clear q3 q4 hx
          go_wp2_with (at_builtin; refine wpList_append_int _ rfl _ _ rfl w.heap.size _ _ _ _ _ rfl rfl o6 (by omega) hs6 ?_; intro a7 cap7 w7 o7 hb7)
          have A7 := A6.later hb7 (Nat.le_refl _)
          clear A6 o6 hb7
          go_roundw
          case rel => exact ⟨k - 1, j + 1, x + 1, a7, cap7, _, t6, by omega, by omega, by omega, congrArg (Value.int .i64) (by omega), rfl, rfl, o7, (HW.out.wide (by omega) (by omega)).snoc ⟨by omega, by omega⟩, A7, by omega⟩
          case measure => simp [intOf]; omega
        · obtain rfl : j = 0 := by omega
          go_wp2_with (at_builtin; refine wpList_append_int _ rfl _ _ rfl w.heap.size _ _ _ _ _ rfl rfl o6 (by omega) hs6 ?_; intro a7 cap7 w7 o7 hb7)
          have A7 := A6.later hb7 (Nat.le_refl _)
          clear A6 o6 hb7
          go_roundw
          case rel => exact ⟨k - 1, 0 + 1, v5, a7, cap7, _, t6, by omega, by omega, by omega, congrArg (Value.int .i64) (by omega), rfl, rfl, o7, (HW.out.wide (by omega) (by omega)).snoc ⟨by omega, by omega⟩, A7, by omega⟩
          case measure => simp [intOf]; omega
    · obtain rfl : k = 0 := by omega
      have hs1 := A.size
      have HW := hid hwi
      clear hwi
      go_wp2_with fail
      refine (pick_cur g t' 14 _ A.cur (by omega) (by omega)).mono ?_
      rintro e w5 ⟨v5, rfl, v50, v51, ⟨t5, x1, x2, hc5⟩, hg5⟩
      have A5 := A.pick hc5 hg5
      have o5 := hown.kept hg5 (.inl hgl)
      have hs5 := A5.size
      clear hc5 hg5 hown A v51
      by_cases e0 : v5 = 0
      · subst e0
        go_wp2_with fail
        refine (pick_cur g t5 4 _ A5.cur (by omega) (by omega)).mono ?_
        rintro e w6 ⟨v6, rfl, v60, v61, ⟨t6, x3, x4, hc6⟩, hg6⟩
        have A6 := A5.pick hc6 hg6
        have o6 := o5.kept hg6 (.inl hgl)
        have hs6 := A6.size
        clear hc6 hg6 o5 A5
        have hwv : IntKind.i64.wrap (v6 - 1) = v6 - 1 := by rw [IntKind.wrap_i64]; omega
        go_wp2_with (at_builtin; refine wpList_append_int _ rfl _ _ rfl w.heap.size _ _ _ _ _ rfl rfl o6 (by omega) hs6 ?_; intro a7 cap7 w7 o7 hb7)
        go_ret
        exact ⟨_, _, _, _, t6, rfl, o7, by omega, (HW.out.wide (by omega) (by omega)).snoc ⟨by omega, by omega⟩, A6.later hb7 (Nat.le_refl _), by omega⟩
      · by_cases e1 : v5 = 1
        · subst e1
          go_wp2_with fail
          refine (pick_cur g t5 2 _ A5.cur (by omega) (by omega)).mono ?_
          rintro e w6 ⟨v6, rfl, v60, v61, ⟨t6, x3, x4, hc6⟩, hg6⟩
          have A6 := A5.pick hc6 hg6
          obtain ⟨u, rfl⟩ : ∃ u : Nat, v6 = (u : Int) := ⟨_, (Int.toNat_of_nonneg v60).symm⟩
          have hwv : IntKind.i64.wrap (8 + (u : Int)) = ((8 + u : Nat) : Int) := by rw [IntKind.wrap_i64]; omega
          have hs6 := A6.size
          clear hc6 hg6 o5 A5
          go_wp2_with (at_make; refine wpList_make_ints _ rfl _ _ rfl (8 + u) (by first | (simp [Act.eval]; done) | (simp [Act.eval]; omega)) (by first | (simp [Act.eval]; done) | (simp [Act.eval]; omega)) (by omega) ?_; intro a7 cap7 w7 o7 hb7)
          go_ret
          exact ⟨_, _, _, _, t6, rfl, o7.mono hs6, by omega, (fun y hy => by have := List.eq_of_mem_replicate hy; omega), A6.later hb7 hs6, by omega⟩
        · have hb0 : (v5 == 0) = false := by simp [e0]
          have hb1 : (v5 == 1) = false := by simp [e1]
          clear e0 e1
          go_wp2_with fail
          refine bodyPost_ret (v := .slice a' j cap') (by simp [results, Try.results73, go_sem]) rfl ?_
          exact ⟨_, _, _, _, t5, rfl, o5, by omega, HW.out.wide (by omega) (by omega), A5, by omega⟩

/-- Heights, for the caller of a draw. -/
def DrewHeights (w : World) (e : Ending) (w' : World) : Prop := ∃ a n cap hs, e = .returned (.slice a n cap) ∧ Own w' w.heap.size a n cap hs ∧ n ≤ 9 ∧ Within hs (-1) 100 ∧ Below w.heap.size w w'
theorem drawTurnHeights_any (a : Option Addr) (n cap : Nat) (w : World) (h : HasB w a n w.heap.size) :
    Calls Try.prog 33 #[.slice a n cap] w (DrewHeights w) := by
  have C0 := cur_new (cap := cap) h
  have hb0 := freshH w a n cap
  go_enter Try.func33, Try.ntmps33
  go_wp2_with fail
  refine (heights_cur _ 0 8 _ C0 (by omega) (by omega)).mono ?_
  rintro e w1 ⟨a1, n1, c1, hs, t1, rfl, o, hn, hw, A, ht⟩
  go_wp2_with fail
  go_ret
  exact ⟨_, _, _, _, rfl, o.mono (by simp), hn, hw, hb0.trans A.below⟩
theorem drawFirstLabels_any (a : Option Addr) (n cap : Nat) (w : World) (h : HasB w a n w.heap.size) :
    Calls Try.prog 36 #[.slice a n cap] w (DrewHeights w) := by
  have C0 := cur_new (cap := cap) h
  have hb0 := freshH w a n cap
  go_enter Try.func36, Try.ntmps36
  go_wp2_with fail
  refine (heights_cur _ 0 8 _ C0 (by omega) (by omega)).mono ?_
  rintro e w1 ⟨a1, n1, c1, hs, t1, rfl, o, hn, hw, A, ht⟩
  go_wp2_with fail
  go_ret
  exact ⟨_, _, _, _, rfl, o.mono (by simp), hn, hw, hb0.trans A.below⟩
theorem drawBounceOf_any (a : Option Addr) (n cap : Nat) (w : World) (h : HasB w a n w.heap.size) :
    Calls Try.prog 39 #[.slice a n cap] w (DrewHeights w) := by
  have C0 := cur_new (cap := cap) h
  have hb0 := freshH w a n cap
  go_enter Try.func39, Try.ntmps39
  go_wp2_with fail
  refine (heights_cur _ 0 8 _ C0 (by omega) (by omega)).mono ?_
  rintro e w1 ⟨a1, n1, c1, hs, t1, rfl, o, hn, hw, A, ht⟩
  go_wp2_with fail
  go_ret
  exact ⟨_, _, _, _, rfl, o.mono (by simp), hn, hw, hb0.trans A.below⟩
end Go.Proofs.Ytakadjhbomggbaa

namespace Go.Proofs.Ytakadjhbomggbaa
open Go.RowKit

/-- Two slices lie in different blocks. -/
def Apart (a b : Option Addr) : Prop := ∀ p q : Addr, a = some p → b = some q → p.block ≠ q.block
theorem Apart.symm {a b : Option Addr} (h : Apart a b) : Apart b a := fun p q hp hq e => h q p hq hp e.symm
theorem Apart.noneL (b : Option Addr) : Apart none b := fun _ _ h => by cases h
theorem Apart.noneR (a : Option Addr) : Apart a none := fun _ _ _ h => by cases h

/-- 'append(out, y)' of one number to a slice of the call's own, beside another one. -/
theorem wpList_append_two {ops : Array Oper} {rest : List Oper} {o : Oper} {a : Act} {Q : Exit → Act → World → Prop} (w : World) (hgd : o.guard = none) (s x : Operand)
    (ho : o.op = .call { callee := .builtin .append, args := #[s, x], argTypes := #[24, 24] })
    (B : Nat) (a0 : Option Addr) (n cap : Nat) (xs : List Int) (y : Int) (hs : a.eval s = .slice a0 n cap) (hx : a.eval x = .slice (some ⟨w.heap.size, 0, none⟩) 1 1)
    (hown : Own w B a0 n cap xs) (hl : n + 1 ≤ 2097152) (hB : B ≤ w.heap.size) (B2 : Nat) (a2 : Option Addr) (n2 cap2 : Nat) (ys : List Int) (h2 : Own w B2 a2 n2 cap2 ys) (hap : Apart a0 a2)
    (h : ∀ a' cap' w', Own w' B a' (n + 1) cap' (xs ++ [y]) → Own w' B2 a2 n2 cap2 ys → Apart a' a2 → Below B w w' → wpList Try.prog ops Q rest (a.put o.dst (.slice a' (n + 1) cap')) w') :
    wpList Try.prog ops Q (o :: rest) a (w.alloc (.cells #[.int .i64 y] 3)) := by
  obtain ⟨i0, hi, hz0, hz1, hz2⟩ := info_parts Try.infoInt
  have hlen := hown.len
  have hba : Below w.heap.size w (w.alloc (.cells #[.int .i64 y] 3)) := (Below.refl _ _).alloc (Nat.le_refl _) _
  refine wpList_append_lies (P := Try.prog) _ hgd s x 24 ho B 3 i0 (.int .i64 0) 1 8 Try.underlying24 hi hz0 hz1 hz2 rfl (by decide) _ n (xs.map (Value.int .i64)) hs (hown.1.alloc _) ⟨w.heap.size, 0, none⟩ 1 1 [.int .i64 y] hx rfl (one_cell w y) (by intro u hu; simp at hu; subst hu; rfl) (by decide) (by unfold maxLen; omega) (by omega) (by simp; omega) _ rfl ?_
  intro g cap' w' hown' hgrow hg hlt
  have hb : Below B w w' := ((Below.refl B w).alloc hB _).grown hgrow (by simp; omega) (fun k hk => (hown.1.lt k hk).1)
  have h2a := h2.below hba (Nat.le_refl _)
  have hk2 : Own w' B2 a2 n2 cap2 ys := by
    cases a0 with
    | none =>
      exact ⟨h2a.1.kept hgrow ((Classical.em _).elim .inl fun h => .inr h), h2.2⟩
    | some p =>
      refine Own.kept (g := p.block) h2a (by simpa [Value.ownBlock] using hgrow) (.inr fun q hq e => hap p q rfl hq e.symm)
  obtain ⟨a', cap'', hv, ho'⟩ := own_of_row (xs := xs ++ [y]) hown' (by simp [hlen]) (by simp) (by simp; omega)
  cases hv
  refine h _ _ _ ho' hk2 (fun p q hp hq => ?_) hb
  cases hp
  rcases hg with hg | hg
  · cases a0 with
    | none => simp [Value.ownBlock] at hg
    | some p0 =>
      simp [Value.ownBlock] at hg
      have := hap p0 q rfl hq
      rw [hg] at this
      exact this
  · have hq2 : q.block < w.heap.size := by subst hq; exact (h2.1.lt q.block rfl).2
    simp at hg
    show g ≠ q.block
    omega
theorem apart_of {a b : Option Addr} {K : Nat} (h : BlkLt a K) (h' : BlkGe b K) : Apart a b := fun p q hp hq e => by
  have := h p hp
  have := h' q hq
  omega

end Go.Proofs.Ytakadjhbomggbaa

namespace Go.Proofs.Ytakadjhbomggbaa
open Go.RowKit

def pruB (xs : List Int) : List Int × Bool := if treeB xs && decide (0 < xs.length) then (pruOf xs, true) else ([], false)

theorem pruB_yes {xs : List Int} (h : treeB xs = true) (hn : 0 < xs.length) : pruB xs = (pruOf xs, true) := by simp [pruB, h, hn]
theorem pruB_no {xs : List Int} (h : treeB xs = false ∨ xs.length = 0) : pruB xs = ([], false) := by
  unfold pruB
  rcases h with h | h <;> simp [h]

end Go.Proofs.Ytakadjhbomggbaa

namespace Go.Proofs.Ytakadjhbomggbaa
open Go.RowKit

theorem park_facts {xs : List Int} {n : Nat} (h : isPark xs = true) (hl : xs.length = n) : n ≤ 8 ∧ ∀ c, c < n → 0 ≤ nth xs c ∧ nth xs c < (n : Int) := by
  subst hl
  obtain ⟨h1, h2, _⟩ := isPark_iff.1 h
  exact ⟨h1, fun c hc => by have := h2 _ (nth_mem hc); omega⟩
theorem carsL_nth {xs : List Int} {n : Nat} (hl : xs.length = n) (h8 : n ≤ 8) (hb : ∀ c, c < n → 0 ≤ nth xs c ∧ nth xs c < (n : Int)) {k : Nat} (hk : k < n) : ∃ c : Nat, nth (carsL xs) k = (c : Int) ∧ c < n := by
  have hp := carsL_perm hl (by omega) hb
  have hm : nth (carsL xs) k ∈ carsL xs := nth_mem (by rw [length_carsL hl (by omega) hb]; exact hk)
  have := hp.subset hm
  unfold upto at this
  obtain ⟨c, hc, e⟩ := List.mem_map.1 this
  exact ⟨c, e.symm, List.mem_range.1 hc⟩
def HgAt (xs ls ys : List Int) (k : Nat) : Prop := ∀ i, i < k → nth ys i = (i : Int) - nth xs (nth ls i).toNat
theorem hg_all {xs ls ys : List Int} {n : Nat} (h : HgAt xs ls ys n) (hl : ys.length = n) (hn : ls.length = n) : ys = hgtOf xs ls := ext_nth (by rw [length_hgtOf]; omega) fun i hi => by rw [h i (by omega), nth_hgtOf (by omega)]
theorem hg_step {xs ls ys : List Int} {k c n : Nat} (h : HgAt xs ls ys k) (hl : ys.length = n) (hk : k < n) (hc : nth ls k = (c : Int)) : HgAt xs ls (ys.set k ((k : Int) - nth xs c)) (k + 1) := fun i hi => by
  rw [nth_set (by omega)]
  split
  · subst_vars; rw [hc, Int.toNat_natCast]
  · exact h i (by omega)
theorem walk_of_none {xs : List Int} (h : xs.length = 0) : carsL xs = [] := by obtain rfl := List.eq_nil_of_length_eq_zero h; rfl

/-- The stable sort of the cars in order. -/
theorem sortCars_any (B n : Nat) (a al : Option Addr) (cap cl bx : Nat) (xs : List Int) (w : World) (h8 : n ≤ 8) (hl : xs.length = n) (hbd : ∀ c, c < n → 0 ≤ nth xs c ∧ nth xs c < (n : Int)) (hBw : B ≤ w.heap.size)
    (h : Own w B a n cap (upto n)) (hx : Has w al n cl xs) (hal : 0 < n → BlkLt al B) (hbx : w.cell? ⟨bx, 0, none⟩ = some (.slice al n cl)) (hbg : bx < B) :
    Calls Try.prog 95 #[.slice a n cap, .func (.func 96) #[] #[.pointer (some ⟨bx, 0, none⟩)]] w fun e w' =>
      e = .returned (.tuple #[]) ∧ Own w' B a n cap (carsL xs) ∧ Below B w w' := by
  by_cases hn : n = 0
  · subst hn
    refine (stableNone_any _ _ _ _).mono ?_
    rintro e w1 ⟨rfl, rfl⟩
    exact ⟨rfl, by rw [walk_of_none hl]; exact h, Below.refl _ _⟩
  · obtain ⟨m, rfl⟩ : ∃ m, n = m + 1 := ⟨n - 1, by omega⟩
    obtain ⟨g, rfl, hg1, hg2, _, _⟩ := h.opened (by omega)
    refine (stableCars_any B m g cap bx al cl xs w h8 hl (fun c hc => by have := hbd c hc; omega) h hx ((hal (by omega)).ne hg1) hbx (by omega)).mono ?_
    rintro e w1 ⟨rfl, ho, hgr⟩
    exact ⟨rfl, ho, below_grown hgr hBw (fun k hk => by simp at hk; omega)⟩

set_option maxHeartbeats 1000000 in
theorem carsBy_any (a : Option Addr) (n cap : Nat) (xs : List Int) (w : World) (h : Has w a n cap xs) (h8 : n ≤ 8) (hbd : ∀ c, c < n → 0 ≤ nth xs c ∧ nth xs c < (n : Int)) :
    Calls Try.prog 54 #[.slice a n cap] w fun e w' => ∃ a2 c2, e = .returned (.slice a2 n c2) ∧ Own w' w.heap.size a2 n c2 (carsL xs) ∧ Below w.heap.size w w' := by
  have HL := hid h.len
  have HBD := hid hbd
  have hle := h.le
  clear hbd
  go_enter Try.func54, Try.ntmps54
  go_wp2_with fail
  generalize hW : w.alloc (.cells #[.slice a n cap] 24) = W
  have hbW : Below w.heap.size w W := by rw [← hW]; exact (Below.refl _ w).alloc (Nat.le_refl _) _
  have hsz : W.heap.size = w.heap.size + 1 := by rw [← hW]; simp
  have hbx : W.cell? ⟨w.heap.size, 0, none⟩ = some (.slice a n cap) := by rw [← hW, World.cell?_alloc_at _ _ _ _ rfl]; rfl
  clear hW
  refine (indicesOf_any n _ (by omega)).mono ?_
  rintro e w2 ⟨a2, c2, rfl, own2, st⟩
  have hs2 := st.size
  replace hbx : w2.cell? ⟨w.heap.size, 0, none⟩ = some (.slice a n cap) := by rw [st.cell (p := ⟨w.heap.size, 0, none⟩) (by simp; omega)]; exact hbx
  have hb2 := hbW.trans (st.mono hbW.size)
  clear st hbW
  go_wp2_with fail
  refine (sortCars_any W.heap.size n a2 a c2 cap w.heap.size xs w2 h8 HL.out HBD.out hs2 own2 (h.below hb2 (Nat.le_refl _)) (fun hn => (h.lt hn).mono (by omega)) hbx (by omega)).mono ?_
  rintro e w3 ⟨rfl, own3, st⟩
  have hb3 := hb2.trans (st.mono (by omega))
  clear st hb2 own2
  go_wp2_with fail
  go_ret
  exact ⟨_, _, rfl, own3.mono (by omega), hb3⟩
set_option maxHeartbeats 2000000 in
theorem implWalkOf_any (a : Option Addr) (n cap : Nat) (xs : List Int) (w : World) (h : Has w a n cap xs) :
    Calls Try.prog 10 #[.slice a n cap] w (PostWalk w (walkOf xs)) := by
  have HL := hid h.len
  have hle := h.le
  go_enter Try.func10, Try.ntmps10
  go_wp2_with fail
  generalize hW : w.alloc (.cells #[.slice none 0 0, .slice none 0 0] 27) = W
  have hbW : Below w.heap.size w W := by rw [← hW]; exact (Below.refl _ w).alloc (Nat.le_refl _) _
  have hsz : W.heap.size = w.heap.size + 1 := by rw [← hW]; simp
  have BR : BoxAt W w.heap.size (.slice none 0 0) (.slice none 0 0) := by rw [← hW]; exact boxAt_new _ _ _ _
  clear hW
  refine (isParkingFunction_any _ _ _ _ _ (h.below hbW (Nat.le_refl _))).mono ?_
  rintro e w1 ⟨rfl, st⟩
  have hs1 := st.size
  replace BR := BR.below st (by omega)
  have hb1 := hbW.trans (st.mono hbW.size)
  clear st hbW
  by_cases hp : isPark xs = true
  · rw [hp]
    have HR : Hid (walkOf xs = ((hgtOf xs (carsL xs), carsL xs), true)) := hid (by unfold walkOf; rw [if_pos hp])
    obtain ⟨h8, hbd⟩ := park_facts hp h.len
    have HBD := hid hbd
    have HN : Hid (∀ k, k < n → ∃ c : Nat, nth (carsL xs) k = (c : Int) ∧ c < n) := hid (fun k hk => carsL_nth HL.out h8 hbd hk)
    have HCL := hid (length_carsL HL.out (by omega) hbd)
    clear hp hbd
    go_wp2_with fail
    refine (carsBy_any _ _ _ _ _ (h.below hb1 (Nat.le_refl _)) h8 HBD.out).mono ?_
    rintro e w3 ⟨a2, c2, rfl, own3, st⟩
    have hs3 := st.size
    replace BR := BR.below st (by omega)
    have hb3 := hb1.trans (st.mono hb1.size)
    clear st hb1
    go_wp2_with (at_make; refine wpList_make_ints _ rfl _ _ rfl n rfl rfl (by omega) ?_; intro a4 c4 w4 own4 st4)
    have lt3 := own3.lt
    replace BR := BR.below st4 (by omega)
    replace own3 := own3.below st4 (Nat.le_refl _)
    have hb4 := hb3.trans (st4.mono hb3.size)
    clear st4 hb3
    go_loopw [19] (fun i wr => ∃ (k : Nat) (ys : List Int), k ≤ n ∧ i = .int .i64 k ∧ Own wr w3.heap.size a4 n c4 ys ∧ Hid (HgAt xs (carsL xs) ys k) ∧ Own wr w1.heap.size a2 n c2 (carsL xs) ∧ BoxAt wr w.heap.size (.slice none 0 0) (.slice none 0 0) ∧ Below w.heap.size w wr) (fun i _ => n - (intOf i).toNat)
    case atStart => exact ⟨0, _, Nat.zero_le _, rfl, own4, hid (fun i hi => by omega), own3, BR, hb4⟩
    case round =>
      obtain ⟨k, ys, hk, rfl, oh, HH, oc, BR, hb⟩ := hrel
      clear own3 own4 hb4
      by_cases hlt : k < n
      · obtain ⟨b1, off1, rfl, hbb1, hc1⟩ := h.2.2.2.2 (by omega)
        obtain ⟨c, hcv, hcn⟩ := HN.out k hlt
        have hxc := HBD.out c hcn
        have hck : wr.cell? ⟨b1, off1 + c, none⟩ = some (.int .i64 (nth xs c)) := by rw [hb.cell (p := ⟨b1, off1 + c, none⟩) hbb1]; exact hc1 c hcn
        obtain ⟨q, rfl, hq1, hq2, hq3, hq4⟩ := oc.opened (by omega)
        have hqk := hq3 k hlt
        rw [hcv] at hqk
        obtain ⟨g, rfl, hg1, hg2, hg3, hg4⟩ := oh.opened (by omega)
        have hqg := lt3 _ rfl
        have hgx := hg3 k hlt
        have hgf := hg4 k
        have HH2 := hid (hg_step HH.out oh.len hlt hcv)
        obtain ⟨s1, s2⟩ := oh.set k ((k : Int) - nth xs c)
        have oc2 := oc.setNe (g := g) (i := k) (lt3.ne hg1) (.int .i64 ((k : Int) - nth xs c))
        have BR2 := BR.apart (g' := g) (i := k) (z := .int .i64 ((k : Int) - nth xs c)) (by omega)
        have hb5 := hb.setCell (p := ⟨g, k, none⟩) (by simp; omega) (.int .i64 ((k : Int) - nth xs c))
        have z1 : (c : Int) < (n : Int) := by omega
        clear hc1 hq3 hq4 hg3 hg4
        go_wp2_with fail
        go_roundw
        case rel => exact ⟨k + 1, _, by omega, by go_num, s1, HH2, oc2, BR2, hb5⟩
        case measure => simp [intOf]; omega
      · obtain rfl : k = n := by omega
        have HE := hid (hg_all HH.out oh.len HCL.out)
        have ap := (apart_lt lt3 oh.ge).symm
        rw [HE.out] at oh
        have f1 := ((oh.mono (show w.heap.size ≤ w3.heap.size by omega)).setNe (g := w.heap.size) (i := 0) (oh.ge.ne (by omega)) (.slice a4 k c4)).setNe (g := w.heap.size) (i := 1) (oh.ge.ne (by omega)) (.slice a2 k c2)
        have f2 := ((oc.mono (show w.heap.size ≤ w1.heap.size by omega)).setNe (g := w.heap.size) (i := 0) (oc.ge.ne (by omega)) (.slice a4 k c4)).setNe (g := w.heap.size) (i := 1) (oc.ge.ne (by omega)) (.slice a2 k c2)
        have B2f := (BR.set0 (z := .slice a4 k c4)).set1 (z := .slice a2 k c2)
        have hb5 := (hb.setCell (p := ⟨w.heap.size, 0, none⟩) (by simp) (.slice a4 k c4)).setCell (p := ⟨w.heap.size, 1, none⟩) (by simp) (.slice a2 k c2)
        obtain ⟨t1, t2, t3, t4⟩ := id BR
        go_wp2_with fail
        obtain ⟨y1, y2, y3, y4⟩ := id B2f
        refine bodyPost_ret (v := .tuple #[.agg #[.slice a4 k c4, .slice a2 k c2], .bool true]) (by simp [results, Try.results10, go_sem, *]) rfl (postWalk HR.out f1 f2 ap hb5)
  · rw [Bool.eq_false_iff.2 hp]
    have HR : Hid (walkOf xs = (([], []), false)) := hid (by unfold walkOf; rw [if_neg hp])
    have B2 := (BR.set0 (z := .slice none 0 0)).set1 (z := .slice none 0 0)
    obtain ⟨x1, x2, x3, x4⟩ := id BR
    go_wp2_with fail
    obtain ⟨y1, y2, y3, y4⟩ := id B2
    refine bodyPost_ret (v := .tuple #[.agg #[.slice none 0 0, .slice none 0 0], .bool false]) (by simp [results, Try.results10, go_sem, *]) rfl (postWalk_no HR.out ((hb1.setCell (by simp) _).setCell (by simp) _))

/-- The cars with a favourite less than x, and those of the first c with the favourite x. -/
def lx (xs : List Int) (x c : Nat) : List Int := carsTo xs x ++ idxs (fun i => decide (nth xs i = (x : Int))) c
theorem lx_zero (xs : List Int) (x : Nat) : lx xs x 0 = carsTo xs x := by simp [lx, idxs]
theorem lx_full {xs : List Int} {n x : Nat} (hl : xs.length = n) : lx xs x n = carsTo xs (x + 1) := by subst hl; rfl
theorem lx_yes {xs : List Int} {x c : Nat} (h : nth xs c = (x : Int)) : lx xs x (c + 1) = lx xs x c ++ [(c : Int)] := by unfold lx; rw [idxs_succ, if_pos (by simp [h]), List.append_assoc]
theorem lx_no {xs : List Int} {x c : Nat} (h : ¬ nth xs c = (x : Int)) : lx xs x (c + 1) = lx xs x c := by unfold lx; rw [idxs_succ, if_neg (by simp [h]), List.append_nil]
theorem hgtOf_snoc (xs ls : List Int) (c : Nat) : hgtOf xs (ls ++ [(c : Int)]) = hgtOf xs ls ++ [(ls.length : Int) - nth xs c] := by
  refine ext_nth (by simp [length_hgtOf]) fun i hi => ?_
  rw [length_hgtOf, List.length_append, List.length_singleton] at hi
  rw [nth_hgtOf (by simp; omega)]
  by_cases e : i < ls.length
  · rw [nth_append_left e, nth_append_left (by rw [length_hgtOf]; exact e), nth_hgtOf e]
  · obtain rfl : i = ls.length := by omega
    rw [nth_append_at, Int.toNat_natCast]
    have : nth (hgtOf xs ls ++ [(ls.length : Int) - nth xs c]) (hgtOf xs ls).length = (ls.length : Int) - nth xs c := nth_append_at
    rw [length_hgtOf] at this
    exact this.symm

set_option maxRecDepth 100000 in
set_option maxHeartbeats 4000000 in
theorem waOf_any (a : Option Addr) (n cap : Nat) (xs : List Int) (w : World) (h : Has w a n cap xs) (h8 : n ≤ 8) :
    Calls Try.prog 56 #[.slice a n cap] w fun e w' => ∃ ah q ch al cl, e = .returned (.agg #[.slice ah q ch, .slice al q cl]) ∧ Own w' w.heap.size ah q ch (hgtOf xs (carsL xs)) ∧ Own w' w.heap.size al q cl (carsL xs) ∧ Apart2 ah al ∧ Below w.heap.size w w' := by
  have HL := hid h.len
  go_enter Try.func56, Try.ntmps56
  go_wp2_with fail
  generalize hW : (w.alloc (.cells #[.slice none 0 0, .slice none 0 0] 27)).alloc (.cells #[.slice none 0 0, .slice none 0 0] 27) = W
  have hbW : Below w.heap.size w W := by rw [← hW]; exact ((Below.refl _ w).alloc (Nat.le_refl _) _).alloc (by simp) _
  have hsz : W.heap.size = w.heap.size + 2 := by rw [← hW]; simp
  have BR : BoxAt W w.heap.size (.slice none 0 0) (.slice none 0 0) := by rw [← hW]; exact (boxAt_new _ _ _ _).alloc _
  have BX : BoxAt W (w.heap.size + 1) (.slice none 0 0) (.slice none 0 0) := by rw [← hW]; have := boxAt_new (w.alloc (.cells #[.slice none 0 0, .slice none 0 0] 27)) (.slice none 0 0) (.slice none 0 0) 27; simpa using this
  clear hW
  go_loopw [10] (fun i wr => ∃ (x q : Nat) (ah al : Option Addr) (ch cl : Nat), x ≤ n ∧ q ≤ 8 * x ∧ i = .int .i64 x ∧ Own wr (w.heap.size + 2) ah q ch (hgtOf xs (carsTo xs x)) ∧ Own wr (w.heap.size + 2) al q cl (carsTo xs x) ∧ Apart ah al ∧ w.heap.size + 2 ≤ wr.heap.size ∧ BoxAt wr w.heap.size (.slice none 0 0) (.slice none 0 0) ∧ BoxAt wr (w.heap.size + 1) (.slice ah q ch) (.slice al q cl) ∧ Below w.heap.size w wr) (fun i _ => n - (intOf i).toNat)
  case atStart => exact ⟨0, 0, none, none, 0, 0, Nat.zero_le _, Nat.zero_le _, rfl, Own.nil _ _, Own.nil _ _, Apart.noneL _, by omega, BR, BX, hbW⟩
  case round =>
    obtain ⟨wo, rfl⟩ : ∃ wo : World, wo = wr := ⟨_, rfl⟩
    obtain ⟨x, q, ah, al, ch, cl, hx, hq, rfl, oh, ol, hap, hszr, hR, hX, hb⟩ := hrel
    clear BR BX hbW
    by_cases hlt : x < n
    · go_wp2_with fail
      go_loopw [15] (fun i wr => ∃ (c q : Nat) (ah al : Option Addr) (ch cl : Nat), c ≤ n ∧ q ≤ 8 * x + c ∧ i = .int .i64 c ∧ Own wr (w.heap.size + 2) ah q ch (hgtOf xs (lx xs x c)) ∧ Own wr (w.heap.size + 2) al q cl (lx xs x c) ∧ Apart ah al ∧ w.heap.size + 2 ≤ wr.heap.size ∧ BoxAt wr w.heap.size (.slice none 0 0) (.slice none 0 0) ∧ BoxAt wr (w.heap.size + 1) (.slice ah q ch) (.slice al q cl) ∧ Below w.heap.size w wr) (fun i _ => n - (intOf i).toNat)
      case atStart => exact ⟨0, q, ah, al, ch, cl, Nat.zero_le _, by omega, rfl, by rw [lx_zero]; exact oh, by rw [lx_zero]; exact ol, hap, hszr, hR, hX, hb⟩
      case round =>
        clear oh ol hap hR hX hb
        obtain ⟨c, q, ah, al, ch, cl, hc, hq, rfl, oh, ol, hap, hszr, hR, hX, hb⟩ := hrel
        by_cases hlc : c < n
        · obtain ⟨b1, off1, rfl, hbb1, hc1⟩ := h.2.2.2.2 (by omega)
          have hck : wr.cell? ⟨b1, off1 + c, none⟩ = some (.int .i64 (nth xs c)) := by rw [hb.cell (p := ⟨b1, off1 + c, none⟩) hbb1]; exact hc1 c hlc
          have z1 : (c : Int) < (n : Int) := by omega
          clear hc1
          by_cases he : nth xs c = (x : Int)
          · have hbe : ((x : Int) == nth xs c) = true := by simp [he]
            have HS := hid (lx_yes he)
            have HQ := hid ol.len
            have HH : Hid (hgtOf xs (lx xs x (c + 1)) = hgtOf xs (lx xs x c) ++ [(q : Int) - (x : Int)]) := hid (by rw [HS.out, hgtOf_snoc, HQ.out, he])
            obtain ⟨x1, x2, x3, x4⟩ := id hX
            clear he
            go_upto_region 10 with (at_builtin; refine wpList_append_two _ rfl _ _ rfl (w.heap.size + 2) _ _ _ _ _ rfl rfl oh (by omega) hszr (w.heap.size + 2) _ _ _ _ ol hap ?_; intro a5 c5 w5 oh5 ol5 hap5 st5; have X5 := hX.below st5 (by omega); obtain ⟨y1, y2, y3, y4⟩ := id X5)
            have X6 := X5.set0 (z := .slice a5 (q + 1) c5)
            have oh6 := oh5.setNe (g := w.heap.size + 1) (i := 0) (oh5.ge.ne (by omega)) (.slice a5 (q + 1) c5)
            have ol6 := ol5.setNe (g := w.heap.size + 1) (i := 0) (ol5.ge.ne (by omega)) (.slice a5 (q + 1) c5)
            have hR6 := (hR.below st5 (by omega)).apart (g' := w.heap.size + 1) (i := 0) (z := .slice a5 (q + 1) c5) (by omega)
            have hb6 := (hb.trans (st5.mono (by omega))).setCell (p := ⟨w.heap.size + 1, 0, none⟩) (by simp) (.slice a5 (q + 1) c5)
            have hsz6 : w.heap.size + 2 ≤ (w5.setCell ⟨w.heap.size + 1, 0, none⟩ (.slice a5 (q + 1) c5)).heap.size := by have := st5.size; simp; omega
            clear oh ol hX hR hb X5 oh5 ol5 st5 x1 x2 x3 x4 y1 y2 y3 y4
            generalize w5.setCell ⟨w.heap.size + 1, 0, none⟩ (.slice a5 (q + 1) c5) = V at *
            obtain ⟨x1, x2, x3, x4⟩ := id X6
            go_wp2_with (at_builtin; refine wpList_append_two _ rfl _ _ rfl (w.heap.size + 2) _ _ _ _ _ rfl rfl ol6 (by omega) hsz6 (w.heap.size + 2) _ _ _ _ oh6 hap5.symm ?_; intro a7 c7 w7 ol7 oh7 hap7 st7; have X7 := X6.below st7 (by omega); obtain ⟨y1, y2, y3, y4⟩ := id X7)
            have X8 := X7.set1 (z := .slice a7 (q + 1) c7)
            have oh8 := oh7.setNe (g := w.heap.size + 1) (i := 1) (oh7.ge.ne (by omega)) (.slice a7 (q + 1) c7)
            have ol8 := ol7.setNe (g := w.heap.size + 1) (i := 1) (ol7.ge.ne (by omega)) (.slice a7 (q + 1) c7)
            have hR8 := (hR6.below st7 (by omega)).apart (g' := w.heap.size + 1) (i := 1) (z := .slice a7 (q + 1) c7) (by omega)
            have hb8 := (hb6.trans (st7.mono (by omega))).setCell (p := ⟨w.heap.size + 1, 1, none⟩) (by simp) (.slice a7 (q + 1) c7)
            go_roundw
            case rel => exact ⟨c + 1, q + 1, a5, a7, c5, c7, by omega, by omega, by go_num, by rw [HH.out]; exact oh8, by rw [HS.out]; exact ol8, hap7.symm, by have := st7.size; simp; omega, hR8, X8, hb8⟩
            case measure => simp [intOf]; omega
          · have hbe : ((x : Int) == nth xs c) = false := by simp; exact fun e => he e.symm
            have HS := hid (lx_no he)
            clear he
            go_wp2_with fail
            go_roundw
            case rel => exact ⟨c + 1, q, ah, al, ch, cl, by omega, by omega, by go_num, by rw [HS.out]; exact oh, by rw [HS.out]; exact ol, hap, hszr, hR, hX, hb⟩
            case measure => simp [intOf]; omega
        · obtain rfl : c = n := by omega
          have HF := hid (lx_full (x := x) HL.out)
          go_wp2_with fail
          go_roundw
          case rel => exact ⟨x + 1, q, ah, al, ch, cl, by omega, by omega, by go_num, by rw [← HF.out]; exact oh, by rw [← HF.out]; exact ol, hap, hszr, hR, hX, hb⟩
          case measure => simp [intOf]; omega
    · obtain rfl : x = n := by omega
      have HC : Hid (carsL xs = carsTo xs x) := hid (by unfold carsL; rw [HL.out])
      have f1 := ((oh.mono (show w.heap.size ≤ w.heap.size + 2 by omega)).setNe (g := w.heap.size) (i := 0) (oh.ge.ne (by omega)) (.slice ah q ch)).setNe (g := w.heap.size) (i := 1) (oh.ge.ne (by omega)) (.slice al q cl)
      have f2 := ((ol.mono (show w.heap.size ≤ w.heap.size + 2 by omega)).setNe (g := w.heap.size) (i := 0) (ol.ge.ne (by omega)) (.slice ah q ch)).setNe (g := w.heap.size) (i := 1) (ol.ge.ne (by omega)) (.slice al q cl)
      have B2f := (hR.set0 (z := .slice ah q ch)).set1 (z := .slice al q cl)
      have hb5 := (hb.setCell (p := ⟨w.heap.size, 0, none⟩) (by simp) (.slice ah q ch)).setCell (p := ⟨w.heap.size, 1, none⟩) (by simp) (.slice al q cl)
      rw [← HC.out] at f1 f2
      obtain ⟨t1, t2, t3, t4⟩ := id hX
      obtain ⟨s1, s2, s3, s4⟩ := id hR
      go_wp2_with fail
      obtain ⟨y1, y2, y3, y4⟩ := id B2f
      refine bodyPost_ret (v := .agg #[.slice ah q ch, .slice al q cl]) (by simp [results, Try.results56, go_sem, *]) rfl ⟨ah, q, ch, al, cl, rfl, f1, f2, hap, hb5⟩

set_option maxHeartbeats 1000000 in
theorem specWalkOf_any (a : Option Addr) (n cap : Nat) (xs : List Int) (w : World) (h : Has w a n cap xs) :
    Calls Try.prog 11 #[.slice a n cap] w (PostWalk w (walkOf xs)) := by
  have hbW : Below w.heap.size w (w.alloc (.cells #[.slice none 0 0, .slice none 0 0] 27)) := (Below.refl _ w).alloc (Nat.le_refl _) _
  have BR := boxAt_new w (.slice none 0 0) (.slice none 0 0) 27
  go_enter Try.func11, Try.ntmps11
  go_wp2_with fail
  have hsz : (w.alloc (.cells #[.slice none 0 0, .slice none 0 0] 27)).heap.size = w.heap.size + 1 := by simp
  generalize w.alloc (.cells #[.slice none 0 0, .slice none 0 0] 27) = W at *
  refine (paParking_any _ _ _ _ _ (h.below hbW (Nat.le_refl _))).mono ?_
  rintro e w1 ⟨rfl, st⟩
  have hs1 := st.size
  replace BR := BR.below st (by omega)
  have hb1 := hbW.trans (st.mono hbW.size)
  clear st hbW
  by_cases hp : isPark xs = true
  · rw [hp]
    have HR : Hid (walkOf xs = ((hgtOf xs (carsL xs), carsL xs), true)) := hid (by unfold walkOf; rw [if_pos hp])
    obtain ⟨h8, _⟩ := park_facts hp h.len
    clear hp
    go_wp2_with fail
    refine (waOf_any _ _ _ _ _ (h.below hb1 (Nat.le_refl _)) h8).mono ?_
    rintro e w2 ⟨ah, q, ch, al, cl, rfl, oh, ol, ap, st⟩
    replace BR := BR.below st (by omega)
    have hb2 := hb1.trans (st.mono hb1.size)
    have f1 := ((oh.mono (show w.heap.size ≤ w1.heap.size by omega)).setNe (g := w.heap.size) (i := 0) (oh.ge.ne (by omega)) (.slice ah q ch)).setNe (g := w.heap.size) (i := 1) (oh.ge.ne (by omega)) (.slice al q cl)
    have f2 := ((ol.mono (show w.heap.size ≤ w1.heap.size by omega)).setNe (g := w.heap.size) (i := 0) (ol.ge.ne (by omega)) (.slice ah q ch)).setNe (g := w.heap.size) (i := 1) (ol.ge.ne (by omega)) (.slice al q cl)
    have B2f := (BR.set0 (z := .slice ah q ch)).set1 (z := .slice al q cl)
    have hb5 := (hb2.setCell (p := ⟨w.heap.size, 0, none⟩) (by simp) (.slice ah q ch)).setCell (p := ⟨w.heap.size, 1, none⟩) (by simp) (.slice al q cl)
    obtain ⟨t1, t2, t3, t4⟩ := id BR
    go_wp2_with fail
    obtain ⟨y1, y2, y3, y4⟩ := id B2f
    refine bodyPost_ret (v := .tuple #[.agg #[.slice ah q ch, .slice al q cl], .bool true]) (by simp [results, Try.results11, go_sem, *]) rfl (postWalk HR.out f1 f2 ap hb5)
  · rw [Bool.eq_false_iff.2 hp]
    have HR : Hid (walkOf xs = (([], []), false)) := hid (by unfold walkOf; rw [if_neg hp])
    have B2 := (BR.set0 (z := .slice none 0 0)).set1 (z := .slice none 0 0)
    obtain ⟨x1, x2, x3, x4⟩ := id BR
    go_wp2_with fail
    obtain ⟨y1, y2, y3, y4⟩ := id B2
    refine bodyPost_ret (v := .tuple #[.agg #[.slice none 0 0, .slice none 0 0], .bool false]) (by simp [results, Try.results11, go_sem, *]) rfl (postWalk_no HR.out ((hb1.setCell (by simp) _).setCell (by simp) _))
end Go.Proofs.Ytakadjhbomggbaa

namespace Go.Proofs.Ytakadjhbomggbaa
open Go.RowKit


/-- An append to a slice of the call's own; another one and a box elsewhere stay. -/
theorem wpList_append_box {ops : Array Oper} {rest : List Oper} {o : Oper} {a : Act} {Q : Exit → Act → World → Prop} (w : World) (hgd : o.guard = none) (s x : Operand)
    (ho : o.op = .call { callee := .builtin .append, args := #[s, x], argTypes := #[24, 24] })
    (B : Nat) (a0 : Option Addr) (n cap : Nat) (xs : List Int) (y : Int) (hs : a.eval s = .slice a0 n cap) (hx : a.eval x = .slice (some ⟨w.heap.size, 0, none⟩) 1 1)
    (hown : Own w B a0 n cap xs) (hl : n + 1 ≤ 2097152) (hB : B ≤ w.heap.size) (B2 : Nat) (a2 : Option Addr) (n2 cap2 : Nat) (ys : List Int) (h2 : Own w B2 a2 n2 cap2 ys) (hap : Apart a0 a2) (gb : Nat) (vx vy : Value) (hbx : BoxAt w gb vx vy) (hne : ∀ p, a0 = some p → p.block ≠ gb)
    (h : ∀ a' cap' w', Own w' B a' (n + 1) cap' (xs ++ [y]) → Own w' B2 a2 n2 cap2 ys → Apart a' a2 → Below B w w' → BoxAt w' gb vx vy → (∀ p, a' = some p → p.block ≠ gb) → wpList Try.prog ops Q rest (a.put o.dst (.slice a' (n + 1) cap')) w') :
    wpList Try.prog ops Q (o :: rest) a (w.alloc (.cells #[.int .i64 y] 3)) := by
  obtain ⟨i0, hi, hz0, hz1, hz2⟩ := info_parts Try.infoInt
  have hlen := hown.len
  have hba : Below w.heap.size w (w.alloc (.cells #[.int .i64 y] 3)) := (Below.refl _ _).alloc (Nat.le_refl _) _
  refine wpList_append_lies (P := Try.prog) _ hgd s x 24 ho B 3 i0 (.int .i64 0) 1 8 Try.underlying24 hi hz0 hz1 hz2 rfl (by decide) _ n (xs.map (Value.int .i64)) hs (hown.1.alloc _) ⟨w.heap.size, 0, none⟩ 1 1 [.int .i64 y] hx rfl (one_cell w y) (by intro u hu; simp at hu; subst hu; rfl) (by decide) (by unfold maxLen; omega) (by omega) (by simp; omega) _ rfl ?_
  intro g cap' w' hown' hgrow hg hlt
  have hb : Below B w w' := ((Below.refl B w).alloc hB _).grown hgrow (by simp; omega) (fun k hk => (hown.1.lt k hk).1)
  have h2a := h2.below hba (Nat.le_refl _)
  have hbx2 : BoxAt w' gb vx vy := (hbx.alloc _).kept hgrow (by
    cases a0 with
    | none => simp [Value.ownBlock]
    | some p => have := hne p rfl; simpa [Value.ownBlock] using this)
  have hk2 : Own w' B2 a2 n2 cap2 ys := by
    cases a0 with
    | none =>
      exact ⟨h2a.1.kept hgrow ((Classical.em _).elim .inl fun h => .inr h), h2.2⟩
    | some p =>
      refine Own.kept (g := p.block) h2a (by simpa [Value.ownBlock] using hgrow) (.inr fun q hq e => hap p q rfl hq e.symm)
  obtain ⟨a', cap'', hv, ho'⟩ := own_of_row (xs := xs ++ [y]) hown' (by simp [hlen]) (by simp) (by simp; omega)
  cases hv
  refine h _ _ _ ho' hk2 (fun p q hp hq => ?_) hb hbx2 (fun p hp => ?_)
  rotate_left
  · cases hp
    rcases hg with hg | hg
    · cases a0 with
      | none => simp [Value.ownBlock] at hg
      | some p0 =>
        simp [Value.ownBlock] at hg
        have := hne p0 rfl
        rw [hg] at this
        exact this
    · have := boxAt_lt hbx
      simp at hg
      show g ≠ gb
      omega
  cases hp
  rcases hg with hg | hg
  · cases a0 with
    | none => simp [Value.ownBlock] at hg
    | some p0 =>
      simp [Value.ownBlock] at hg
      have := hap p0 q rfl hq
      rw [hg] at this
      exact this
  · have hq2 : q.block < w.heap.size := by subst hq; exact (h2.1.lt q.block rfl).2
    simp at hg
    show g ≠ q.block
    omega

/-- A walk or two lists beside, and the cursor stands. -/
def DrewWk (w : World) (g t : Nat) (e : Ending) (w' : World) : Prop :=
  ∃ a n c b m d hs ls t', e = .returned (.agg #[.slice a n c, .slice b m d]) ∧ Own w' w.heap.size a n c hs ∧ Own w' w.heap.size b m d ls ∧ Apart2 a b ∧ n ≤ 10 ∧ m ≤ 10 ∧ AtG w w' g t' ∧ t' ≤ t + 400
set_option maxRecDepth 100000 in
set_option maxHeartbeats 4000000 in
theorem walk_cur (g t most : Nat) (w : World) (h : Cur w g t) (ht : t ≤ 500) (hm : most ≤ 8) :
    Calls Try.prog 58 #[.pointer (some ⟨g, 0, none⟩), .int .i64 (most : Int)] w (DrewWk w g t) := by
  have hgl := h.lt
  have hbW : Below w.heap.size w (w.alloc (.cells #[.slice none 0 0, .slice none 0 0] 27)) := (Below.refl _ w).alloc (Nat.le_refl _) _
  have BR := boxAt_new w (.slice none 0 0) (.slice none 0 0) 27
  have A0 := (AtG.new h).later hbW (Nat.le_refl _)
  go_enter Try.func58, Try.ntmps58
  go_wp2_with fail
  have hsz : (w.alloc (.cells #[.slice none 0 0, .slice none 0 0] 27)).heap.size = w.heap.size + 1 := by simp
  generalize w.alloc (.cells #[.slice none 0 0, .slice none 0 0] 27) = W at *
  clear hbW
  refine (park_cur g t (most : Int) _ A0.cur (by omega) (by omega) (by omega)).mono ?_
  rintro e w1 ⟨a1, n1, c1, xs, t1, rfl, o1, hn1, hw1, A1, ht1⟩
  replace BR := BR.kept A1.grew (by intro e; injection e with e; omega)
  replace A0 : AtG w w1 g t1 := ⟨A1.cur, grown_then A0.grew A1.grew, hgl⟩
  have hs1 := A1.size
  rw [hsz] at hs1
  replace o1 := o1.mono (B' := w.heap.size + 1) (by omega)
  clear A1 hw1 hsz
  go_wp2_with fail
  refine (paParking_any _ _ _ _ _ o1.has).mono ?_
  rintro e w2 ⟨rfl, st⟩
  replace BR := BR.below st (boxAt_lt BR)
  replace o1 := o1.below st (Nat.le_refl _)
  replace A0 := A0.later st (by omega)
  replace hs1 := Nat.le_trans hs1 st.size
  clear st
  by_cases hp : isPark xs = true
  · rw [hp]
    obtain ⟨h8, _⟩ := park_facts hp o1.len
    have hlc := length_carsL o1.len (by omega) (park_facts hp o1.len).2
    clear hp
    go_wp2_with fail
    refine (waOf_any _ _ _ _ _ o1.has h8).mono ?_
    rintro e w3 ⟨ah, q, ch, al, cl, rfl, oh, ol, ap, st⟩
    have hlc2 := ol.len
    have hq8 : q ≤ 8 := by omega
    have o3h := oh.mono (B' := w.heap.size + 1) (by omega)
    have o3l := ol.mono (B' := w.heap.size + 1) (by omega)
    have lh := oh.ge
    have ll := ol.ge
    replace BR := BR.below st (boxAt_lt BR)
    replace A0 := A0.later st (by omega)
    replace hs1 := Nat.le_trans hs1 st.size
    have nh := box_old oh.lt
    have nl := box_old ol.lt
    clear st hlc hlc2 oh ol lh ll o1
    have hbV : Below w3.heap.size w3 (w3.alloc (.cells #[.slice ah q ch, .slice al q cl] 27)) := (Below.refl _ _).alloc (Nat.le_refl _) _
    have BX := boxAt_new w3 (.slice ah q ch) (.slice al q cl) 27
    have BR2 := BR.below hbV (boxAt_lt BR)
    obtain ⟨x1, x2, x3, x4⟩ := id BR
    go_wp2_with fail
    clear x1 x2 x3 x4 BR
    generalize hkk : w3.heap.size = k at *
    generalize w3.alloc (.cells #[.slice ah q ch, .slice al q cl] 27) = V at *
    replace o3h := o3h.below hbV (by omega)
    replace o3l := o3l.below hbV (by omega)
    replace A0 := A0.later hbV (by omega)
    have hsV := hbV.size
    clear hbV hkk
    refine (pick_cur g _ 14 _ A0.cur (by omega) (by omega)).mono ?_
    rintro e w4 ⟨v4, rfl, v40, v41, ⟨t4, ta, tb, hc4⟩, hg4⟩
    replace BR2 := BR2.kept hg4 (by intro e; injection e with e; omega)
    replace BX := BX.kept hg4 (by intro e; injection e with e; omega)
    replace o3h := o3h.kept hg4 (.inl (by omega))
    replace o3l := o3l.kept hg4 (.inl (by omega))
    replace hsV := Nat.le_trans hsV hg4.size
    replace A0 := A0.pick hc4 hg4
    clear hc4 hg4 v41
    generalize carsL xs = ls at *
    generalize hgtOf xs ls = hs at *
    by_cases e0 : v4 = 0
    · subst e0
      by_cases hq1 : 1 < q
      · obtain ⟨gl, rfl, q1, q2, q3, q4⟩ := o3l.opened (by omega)
        have hqd : (1 : Int) < (q : Int) := by omega
        have hwq : IntKind.i64.wrap ((q : Int) - 1) = (q : Int) - 1 := by rw [IntKind.wrap_i64]; omega
        have hgk : gl ≠ k := nl _ rfl
        obtain ⟨x5, x6, x7, x8⟩ := id BX
        go_wp2_with fail
        clear x5 x6 x7 x8 q3 q4 q2
        refine (pick_cur g t4 ((q : Int) - 1) _ A0.cur (by omega) (by omega)).mono ?_
        rintro e w5 ⟨v5, rfl, v50, v51, ⟨t5, tc, td, hc5⟩, hg5⟩
        obtain ⟨i, rfl⟩ : ∃ i : Nat, v5 = (i : Int) := ⟨_, (Int.toNat_of_nonneg v50).symm⟩
        have hi : i + 1 < q := by omega
        replace BR2 := BR2.kept hg5 (by intro e; injection e with e; omega)
        replace BX := BX.kept hg5 (by intro e; injection e with e; omega)
        replace o3h := o3h.kept hg5 (.inl (by omega))
        replace o3l := o3l.kept hg5 (.inl (by omega))
        replace A0 := A0.pick hc5 hg5
        clear hc5 hg5 v50 v51
        have hwi : IntKind.i64.wrap ((i : Int) + 1) = ((i + 1 : Nat) : Int) := by rw [IntKind.wrap_i64]; omega
        have hiq : (i : Int) < (q : Int) := by omega
        have hiq2 : ((i + 1 : Nat) : Int) < (q : Int) := by omega
        have hi0 : (0 : Int) ≤ ((i + 1 : Nat) : Int) := by omega
        obtain ⟨gl', hgl', -, -, q3, q4⟩ := o3l.opened (by omega)
        obtain rfl : gl = gl' := by injection hgl' with h; injection h
        clear hgl'
        have k1 := q3 i (by omega)
        have k2 := q3 (i + 1) hi
        have z1 := q4 i
        have z2 := q4 (i + 1)
        obtain ⟨x5, x6, x7, x8⟩ := id BX
        generalize nth ls i = x at *
        generalize nth ls (i + 1) = y at *
        clear q3 q4
        go_upto_region 9 with fail
        go_quiet (fail)
        clear x5 x6 x7 x8 k1 k2 z1 z2
        have st := below_drewN (Below.refl w5.heap.size w5) nq
        replace BR2 := BR2.below st (boxAt_lt BR2)
        replace BX := BX.below st (boxAt_lt BX)
        replace o3h := o3h.below st (Nat.le_refl _)
        replace o3l := o3l.below st (Nat.le_refl _)
        have hkl := boxAt_lt BX
        replace A0 := A0.later st (by have := boxAt_lt BR2; simpa using Nat.le_of_lt this)
        clear st
        generalize w5.drewN nq = W5 at *
        obtain ⟨gl', hgl', -, -, q3, q4⟩ := o3l.opened (by omega)
        obtain rfl : gl = gl' := by injection hgl' with h; injection h
        clear hgl'
        have k1 := q3 i (by omega)
        have z1 := q4 i
        clear q3 q4
        obtain ⟨x5, x6, x7, x8⟩ := id BX
        go_upto_region 11 with fail
        clear x5 x6 x7 x8 k1 z1
        have hap : ∀ p, ah = some p → p.block ≠ gl := fun p hp => ap p _ hp rfl
        replace BR2 := BR2.apart (g' := gl) (i := i) (z := .int .i64 y) (by omega)
        replace BX := BX.apart (g' := gl) (i := i) (z := .int .i64 y) hgk
        replace o3h := o3h.setNe (g := gl) (i := i) hap (.int .i64 y)
        replace A0 := A0.later ((Below.refl w.heap.size W5).setCell (p := ⟨gl, i, none⟩) (show w.heap.size ≤ gl by omega) (.int .i64 y)) (Nat.le_refl _)
        obtain ⟨o3l, -⟩ := o3l.set i y
        generalize W5.setCell ⟨gl, i, none⟩ (.int .i64 y) = W6 at *
        generalize ls.set i y = ls6 at *
        obtain ⟨gl', hgl', -, -, q3, q4⟩ := o3l.opened (by omega)
        obtain rfl : gl = gl' := by injection hgl' with h; injection h
        clear hgl'
        have k1 := q3 (i + 1) (by omega)
        have z1 := q4 (i + 1)
        clear q3 q4
        obtain ⟨x5, x6, x7, x8⟩ := id BX
        go_upto_region 14 with fail
        clear x5 x6 x7 x8 k1 z1
        replace BR2 := BR2.apart (g' := gl) (i := i + 1) (z := .int .i64 x) (by omega)
        replace BX := BX.apart (g' := gl) (i := i + 1) (z := .int .i64 x) hgk
        replace o3h := o3h.setNe (g := gl) (i := i + 1) hap (.int .i64 x)
        replace A0 := A0.later ((Below.refl w.heap.size W6).setCell (p := ⟨gl, i + 1, none⟩) (show w.heap.size ≤ gl by omega) (.int .i64 x)) (Nat.le_refl _)
        obtain ⟨o3l, -⟩ := o3l.set (i + 1) x
        generalize W6.setCell ⟨gl, i + 1, none⟩ (.int .i64 x) = W7 at *
        have f1 := ((o3h.mono (show w.heap.size ≤ w.heap.size + 1 by omega)).setNe (g := w.heap.size) (i := 0) (o3h.ge.ne (by omega)) (.slice ah q ch)).setNe (g := w.heap.size) (i := 1) (o3h.ge.ne (by omega)) (.slice (some ⟨gl, 0, none⟩) q cl)
        have f2 := ((o3l.mono (show w.heap.size ≤ w.heap.size + 1 by omega)).setNe (g := w.heap.size) (i := 0) (o3l.ge.ne (by omega)) (.slice ah q ch)).setNe (g := w.heap.size) (i := 1) (o3l.ge.ne (by omega)) (.slice (some ⟨gl, 0, none⟩) q cl)
        have B2f := (BR2.set0 (z := .slice ah q ch)).set1 (z := .slice (some ⟨gl, 0, none⟩) q cl)
        have hbf : Below w.heap.size W7 ((W7.setCell ⟨w.heap.size, 0, none⟩ (.slice ah q ch)).setCell ⟨w.heap.size, 1, none⟩ (.slice (some ⟨gl, 0, none⟩) q cl)) := ((Below.refl _ _).setCell (p := ⟨w.heap.size, 0, none⟩) (by simp) _).setCell (p := ⟨w.heap.size, 1, none⟩) (by simp) _
        have A3 := A0.later hbf (Nat.le_refl _)
        obtain ⟨x1, x2, x3, x4⟩ := id BR2
        obtain ⟨x5, x6, x7, x8⟩ := id BX
        go_wp2_with fail
        obtain ⟨y1, y2, y3, y4⟩ := id B2f
        refine bodyPost_ret (v := .agg #[.slice ah q ch, .slice (some ⟨gl, 0, none⟩) q cl]) (by simp [results, Try.results58, go_sem, *]) rfl ⟨_, _, _, _, _, _, _, _, t5, rfl, f1, f2, ap, by omega, by omega, A3, by omega⟩
      · have hqd : ¬ (1 : Int) < (q : Int) := by omega
        have hqb : decide ((1 : Int) < (q : Int)) = false := by simp; omega
        have f1 := ((o3h.mono (show w.heap.size ≤ w.heap.size + 1 by omega)).setNe (g := w.heap.size) (i := 0) (o3h.ge.ne (by omega)) (.slice ah q ch)).setNe (g := w.heap.size) (i := 1) (o3h.ge.ne (by omega)) (.slice al q cl)
        have f2 := ((o3l.mono (show w.heap.size ≤ w.heap.size + 1 by omega)).setNe (g := w.heap.size) (i := 0) (o3l.ge.ne (by omega)) (.slice ah q ch)).setNe (g := w.heap.size) (i := 1) (o3l.ge.ne (by omega)) (.slice al q cl)
        have B2f := (BR2.set0 (z := .slice ah q ch)).set1 (z := .slice al q cl)
        have hbf : Below w.heap.size w4 ((w4.setCell ⟨w.heap.size, 0, none⟩ (.slice ah q ch)).setCell ⟨w.heap.size, 1, none⟩ (.slice al q cl)) := ((Below.refl _ _).setCell (p := ⟨w.heap.size, 0, none⟩) (by simp) _).setCell (p := ⟨w.heap.size, 1, none⟩) (by simp) _
        have A3 := A0.later hbf (Nat.le_refl _)
        obtain ⟨x1, x2, x3, x4⟩ := id BR2
        obtain ⟨x5, x6, x7, x8⟩ := id BX
        go_wp2_with fail
        obtain ⟨y1, y2, y3, y4⟩ := id B2f
        refine bodyPost_ret (v := .agg #[.slice ah q ch, .slice al q cl]) (by simp [results, Try.results58, go_sem, *]) rfl ⟨_, _, _, _, _, _, _, _, t4, rfl, f1, f2, ap, by omega, by omega, A3, by omega⟩
    · by_cases e1 : v4 = 1
      · subst e1
        have hkl := boxAt_lt BX
        have hsw : w.heap.size + 1 ≤ w4.heap.size := by omega
        obtain ⟨x1, x2, x3, x4⟩ := id BR2
        obtain ⟨x5, x6, x7, x8⟩ := id BX
        go_wp2_with (at_builtin; refine wpList_append_box _ rfl _ _ rfl (w.heap.size + 1) _ _ _ _ _ rfl rfl o3l (by omega) hsw (w.heap.size + 1) _ _ _ _ o3h ap.symm _ _ _ BX nl ?_; intro a7 c7 w7 ol7 oh7 ap7 st7 X7 n7; obtain ⟨y1, y2, y3, y4⟩ := id X7; have X8 := X7.set1 (z := .slice a7 (q + 1) c7); obtain ⟨y5, y6, y7, y8⟩ := id X8; have R8 := (BR2.below st7 (by omega)).apart (g' := k) (i := 1) (z := .slice a7 (q + 1) c7) (by omega); obtain ⟨u1, u2, u3, u4⟩ := id R8)
        have oh8 := oh7.setNe (g := k) (i := 1) nh (.slice a7 (q + 1) c7)
        have ol8 := ol7.setNe (g := k) (i := 1) n7 (.slice a7 (q + 1) c7)
        have B2f := (R8.set0 (z := .slice ah q ch)).set1 (z := .slice a7 (q + 1) c7)
        have f1 := ((oh8.mono (show w.heap.size ≤ w.heap.size + 1 by omega)).setNe (g := w.heap.size) (i := 0) (oh8.ge.ne (by omega)) (.slice ah q ch)).setNe (g := w.heap.size) (i := 1) (oh8.ge.ne (by omega)) (.slice a7 (q + 1) c7)
        have f2 := ((ol8.mono (show w.heap.size ≤ w.heap.size + 1 by omega)).setNe (g := w.heap.size) (i := 0) (ol8.ge.ne (by omega)) (.slice ah q ch)).setNe (g := w.heap.size) (i := 1) (ol8.ge.ne (by omega)) (.slice a7 (q + 1) c7)
        have hbf := (((st7.mono (show w.heap.size ≤ w.heap.size + 1 by omega)).setCell (p := ⟨k, 1, none⟩) (show w.heap.size ≤ k by omega) (.slice a7 (q + 1) c7)).setCell (p := ⟨w.heap.size, 0, none⟩) (by simp) (.slice ah q ch)).setCell (p := ⟨w.heap.size, 1, none⟩) (by simp) (.slice a7 (q + 1) c7)
        have A3 := A0.later hbf (Nat.le_refl _)
        clear x1 x2 x3 x4 x5 x6 x7 x8 y1 y2 y3 y4 y5 y6 y7 y8 u1 u2 u3 u4
        obtain ⟨y1, y2, y3, y4⟩ := id B2f
        refine bodyPost_ret (v := .agg #[.slice ah q ch, .slice a7 (q + 1) c7]) (by simp [results, Try.results58, go_sem, *]) rfl ⟨_, _, _, _, _, _, _, _, t4, rfl, f1, f2, ap7.symm, by omega, by omega, A3, by omega⟩
      · have hb0 : (v4 == 0) = false := by simp [e0]
        have hb1 : (v4 == 1) = false := by simp [e1]
        clear e0 e1
        have f1 := ((o3h.mono (show w.heap.size ≤ w.heap.size + 1 by omega)).setNe (g := w.heap.size) (i := 0) (o3h.ge.ne (by omega)) (.slice ah q ch)).setNe (g := w.heap.size) (i := 1) (o3h.ge.ne (by omega)) (.slice al q cl)
        have f2 := ((o3l.mono (show w.heap.size ≤ w.heap.size + 1 by omega)).setNe (g := w.heap.size) (i := 0) (o3l.ge.ne (by omega)) (.slice ah q ch)).setNe (g := w.heap.size) (i := 1) (o3l.ge.ne (by omega)) (.slice al q cl)
        have B2f := (BR2.set0 (z := .slice ah q ch)).set1 (z := .slice al q cl)
        have hbf : Below w.heap.size w4 ((w4.setCell ⟨w.heap.size, 0, none⟩ (.slice ah q ch)).setCell ⟨w.heap.size, 1, none⟩ (.slice al q cl)) := ((Below.refl _ _).setCell (p := ⟨w.heap.size, 0, none⟩) (by simp) _).setCell (p := ⟨w.heap.size, 1, none⟩) (by simp) _
        have A3 := A0.later hbf (Nat.le_refl _)
        obtain ⟨x1, x2, x3, x4⟩ := id BR2
        obtain ⟨x5, x6, x7, x8⟩ := id BX
        go_wp2_with fail
        obtain ⟨y1, y2, y3, y4⟩ := id B2f
        refine bodyPost_ret (v := .agg #[.slice ah q ch, .slice al q cl]) (by simp [results, Try.results58, go_sem, *]) rfl ⟨_, _, _, _, _, _, _, _, t4, rfl, f1, f2, ap, by omega, by omega, A3, by omega⟩
  · rw [Bool.eq_false_iff.2 hp]
    clear hp
    obtain ⟨x1, x2, x3, x4⟩ := id BR
    go_wp2_with fail
    clear x1 x2 x3 x4
    refine (heights_cur g t1 most _ A0.cur (by omega) hm).mono ?_
    rintro e w3 ⟨a2, n2, c2, hs, t2, rfl, o2, hn2, hw2, A2, ht2⟩
    have l1 := o1.lt
    have ap : Apart2 a2 a1 := (apart_lt l1 o2.ge).symm
    replace BR := BR.kept A2.grew (by intro e; injection e with e; omega)
    replace o1 := o1.kept A2.grew (.inl (by omega))
    replace o2 := o2.mono (B' := w.heap.size + 1) (by omega)
    replace A0 : AtG w w3 g t2 := ⟨A2.cur, grown_then A0.grew A2.grew, hgl⟩
    clear A2 hw2 l1
    have f1 := ((o2.mono (show w.heap.size ≤ w.heap.size + 1 by omega)).setNe (g := w.heap.size) (i := 0) (o2.ge.ne (by omega)) (.slice a2 n2 c2)).setNe (g := w.heap.size) (i := 1) (o2.ge.ne (by omega)) (.slice a1 n1 c1)
    have f2 := ((o1.mono (show w.heap.size ≤ w.heap.size + 1 by omega)).setNe (g := w.heap.size) (i := 0) (o1.ge.ne (by omega)) (.slice a2 n2 c2)).setNe (g := w.heap.size) (i := 1) (o1.ge.ne (by omega)) (.slice a1 n1 c1)
    have B2f := (BR.set0 (z := .slice a2 n2 c2)).set1 (z := .slice a1 n1 c1)
    have hbf : Below w.heap.size w3 ((w3.setCell ⟨w.heap.size, 0, none⟩ (.slice a2 n2 c2)).setCell ⟨w.heap.size, 1, none⟩ (.slice a1 n1 c1)) := ((Below.refl _ _).setCell (p := ⟨w.heap.size, 0, none⟩) (by simp) _).setCell (p := ⟨w.heap.size, 1, none⟩) (by simp) _
    have A3 := A0.later hbf (Nat.le_refl _)
    obtain ⟨x1, x2, x3, x4⟩ := id BR
    go_wp2_with fail
    obtain ⟨y1, y2, y3, y4⟩ := id B2f
    refine bodyPost_ret (v := .agg #[.slice a2 n2 c2, .slice a1 n1 c1]) (by simp [results, Try.results58, go_sem, *]) rfl ⟨_, _, _, _, _, _, _, _, t2, rfl, f1, f2, ap, by omega, by omega, A3, by omega⟩
theorem alloc_size_le (w : World) (a : Option Addr) (n cap : Nat) : w.heap.size + 1 ≤ (w.alloc (.cells #[.slice a n cap, .int .i64 0, .int .u64 0] 56)).heap.size := by simp
/-- A walk, for the caller of a draw. -/
def DrewWalk (w : World) (e : Ending) (w' : World) : Prop := ∃ a n c b m d, e = .returned (.agg #[.slice a n c, .slice b m d]) ∧ ∃ hs ls, Own w' w.heap.size a n c hs ∧ Own w' w.heap.size b m d ls ∧ Apart2 a b ∧ n ≤ 10 ∧ m ≤ 10 ∧ Below w.heap.size w w'
set_option maxHeartbeats 800000 in
theorem drawWPairsOf_any (a : Option Addr) (n cap : Nat) (w : World) (h : HasB w a n w.heap.size) :
    Calls Try.prog 25 #[.slice a n cap] w (DrewWalk w) := by
  have hbR : Below w.heap.size w (w.alloc (.cells #[.slice none 0 0, .slice none 0 0] 27)) := (Below.refl _ w).alloc (Nat.le_refl _) _
  have BR := boxAt_new w (.slice none 0 0) (.slice none 0 0) 27
  have h1 := h.grow hbR (Nat.le_refl _)
  have hsz : (w.alloc (.cells #[.slice none 0 0, .slice none 0 0] 27)).heap.size = w.heap.size + 1 := by simp
  go_enter Try.func25, Try.ntmps25
  go_wp2_with fail
  generalize w.alloc (.cells #[.slice none 0 0, .slice none 0 0] 27) = R at *
  have C0 := cur_new (cap := cap) h1
  have hb0 := freshH R a n cap
  rw [hsz] at C0 hb0
  refine (walk_cur _ 0 8 _ C0 (by omega) (by omega)).mono ?_
  rintro e w1 ⟨a1, n1, c1, b1, m1, d1, hs, ls, t1, rfl, oh, ol, ap, hn, hm, A, ht⟩
  have hsV := alloc_size_le R a n cap
  have st := hb0.trans (A.below)
  replace BR := BR.below st (by omega)
  have hb1 := hbR.trans (st.mono (by omega))
  have f1 := ((oh.mono (show w.heap.size ≤ _ by omega)).setNe (g := w.heap.size) (i := 0) (oh.ge.ne (by omega)) (.slice a1 n1 c1)).setNe (g := w.heap.size) (i := 1) (oh.ge.ne (by omega)) (.slice b1 m1 d1)
  have f2 := ((ol.mono (show w.heap.size ≤ _ by omega)).setNe (g := w.heap.size) (i := 0) (ol.ge.ne (by omega)) (.slice a1 n1 c1)).setNe (g := w.heap.size) (i := 1) (ol.ge.ne (by omega)) (.slice b1 m1 d1)
  have B2f := (BR.set0 (z := .slice a1 n1 c1)).set1 (z := .slice b1 m1 d1)
  have hbf := (hb1.setCell (p := ⟨w.heap.size, 0, none⟩) (by simp) (.slice a1 n1 c1)).setCell (p := ⟨w.heap.size, 1, none⟩) (by simp) (.slice b1 m1 d1)
  obtain ⟨x1, x2, x3, x4⟩ := id BR
  go_wp2_with fail
  obtain ⟨y1, y2, y3, y4⟩ := id B2f
  refine bodyPost_ret (v := .agg #[.slice a1 n1 c1, .slice b1 m1 d1]) (by simp [results, Try.results25, go_sem, *]) rfl ⟨_, _, _, _, _, _, rfl, _, _, f1, f2, ap, hn, hm, hbf⟩
set_option maxHeartbeats 800000 in
theorem drawWParkingOfWalk_any (a : Option Addr) (n cap : Nat) (w : World) (h : HasB w a n w.heap.size) :
    Calls Try.prog 14 #[.slice a n cap] w (DrewWalk w) := by
  have hbR : Below w.heap.size w (w.alloc (.cells #[.slice none 0 0, .slice none 0 0] 27)) := (Below.refl _ w).alloc (Nat.le_refl _) _
  have BR := boxAt_new w (.slice none 0 0) (.slice none 0 0) 27
  have h1 := h.grow hbR (Nat.le_refl _)
  have hsz : (w.alloc (.cells #[.slice none 0 0, .slice none 0 0] 27)).heap.size = w.heap.size + 1 := by simp
  go_enter Try.func14, Try.ntmps14
  go_wp2_with fail
  generalize w.alloc (.cells #[.slice none 0 0, .slice none 0 0] 27) = R at *
  have C0 := cur_new (cap := cap) h1
  have hb0 := freshH R a n cap
  rw [hsz] at C0 hb0
  refine (walk_cur _ 0 8 _ C0 (by omega) (by omega)).mono ?_
  rintro e w1 ⟨a1, n1, c1, b1, m1, d1, hs, ls, t1, rfl, oh, ol, ap, hn, hm, A, ht⟩
  have hsV := alloc_size_le R a n cap
  have st := hb0.trans (A.below)
  replace BR := BR.below st (by omega)
  have hb1 := hbR.trans (st.mono (by omega))
  have f1 := ((oh.mono (show w.heap.size ≤ _ by omega)).setNe (g := w.heap.size) (i := 0) (oh.ge.ne (by omega)) (.slice a1 n1 c1)).setNe (g := w.heap.size) (i := 1) (oh.ge.ne (by omega)) (.slice b1 m1 d1)
  have f2 := ((ol.mono (show w.heap.size ≤ _ by omega)).setNe (g := w.heap.size) (i := 0) (ol.ge.ne (by omega)) (.slice a1 n1 c1)).setNe (g := w.heap.size) (i := 1) (ol.ge.ne (by omega)) (.slice b1 m1 d1)
  have B2f := (BR.set0 (z := .slice a1 n1 c1)).set1 (z := .slice b1 m1 d1)
  have hbf := (hb1.setCell (p := ⟨w.heap.size, 0, none⟩) (by simp) (.slice a1 n1 c1)).setCell (p := ⟨w.heap.size, 1, none⟩) (by simp) (.slice b1 m1 d1)
  obtain ⟨x1, x2, x3, x4⟩ := id BR
  go_wp2_with fail
  obtain ⟨y1, y2, y3, y4⟩ := id B2f
  refine bodyPost_ret (v := .agg #[.slice a1 n1 c1, .slice b1 m1 d1]) (by simp [results, Try.results14, go_sem, *]) rfl ⟨_, _, _, _, _, _, rfl, _, _, f1, f2, ap, hn, hm, hbf⟩
set_option maxHeartbeats 800000 in
theorem drawWalkOf_any (a : Option Addr) (n cap : Nat) (w : World) (h : HasB w a n w.heap.size) :
    Calls Try.prog 9 #[.slice a n cap] w (DrewList' w) := by
  have C0 := cur_new (cap := cap) h
  go_enter Try.func9, Try.ntmps9
  go_wp2_with fail
  refine (park_cur _ 0 8 _ C0 (by omega) (by omega) (by omega)).mono ?_
  rintro e w1 ⟨a1, n1, cap1, xs1, t1, rfl, o1, hn1, hw1, A1, ht1⟩
  have o1' := o1.mono (B' := w.heap.size) (by simp)
  have hb := (alloc_below w (.cells #[.slice a n cap, .int .i64 0, .int .u64 0] 56)).trans A1.below
  go_wp2_with fail
  go_ret
  exact ⟨_, _, _, _, rfl, o1', hn1, hw1, hb⟩
end Go.Proofs.Ytakadjhbomggbaa

namespace Go.Proofs.Ytakadjhbomggbaa
open Go.RowKit Go.Sort

/-- Of the last c of n rows those that are asked for, the last one first. -/
def dnTo (f : Nat → Bool) (n : Nat) : Nat → List Int
  | 0 => []
  | c + 1 => dnTo f n c ++ if f (n - 1 - c) then [((n - 1 - c : Nat) : Int)] else []
/-- The rows with the t greatest heights that are asked for. -/
def rdTo (hs : List Int) (n : Nat) : Nat → List Int
  | 0 => []
  | t + 1 => rdTo hs n t ++ dnTo (fun i => decide (nth hs i = (n : Int) - (t : Int))) n n
def rdL (hs : List Int) : List Int := rdTo hs hs.length (hs.length + 1)
theorem mem_dnTo {f : Nat → Bool} {n : Nat} {v : Int} : ∀ {c : Nat}, c ≤ n → (v ∈ dnTo f n c ↔ ∃ i : Nat, n - c ≤ i ∧ i < n ∧ f i = true ∧ v = (i : Int))
  | 0, _ => by
    simp only [dnTo, List.not_mem_nil, false_iff]
    rintro ⟨i, h1, h2, _⟩
    omega
  | c + 1, hc => by
    simp only [dnTo, List.mem_append, mem_dnTo (f := f) (n := n) (v := v) (c := c) (by omega)]
    constructor
    · rintro (⟨i, h1, h2, h3, h4⟩ | h)
      · exact ⟨i, by omega, h2, h3, h4⟩
      · by_cases hf : f (n - 1 - c) = true
        · rw [if_pos hf, List.mem_singleton] at h
          exact ⟨n - 1 - c, by omega, by omega, hf, h⟩
        · rw [if_neg hf] at h; cases h
    · rintro ⟨i, h1, h2, h3, h4⟩
      by_cases e : i = n - 1 - c
      · subst e
        right
        rw [if_pos h3, List.mem_singleton]
        exact h4
      · exact .inl ⟨i, by omega, h2, h3, h4⟩
theorem dnTo_sorted {f : Nat → Bool} {n : Nat} : ∀ {c : Nat}, c ≤ n → (dnTo f n c).Pairwise (fun v w => w < v)
  | 0, _ => List.Pairwise.nil
  | c + 1, hc => by
    simp only [dnTo]
    rw [List.pairwise_append]
    refine ⟨dnTo_sorted (by omega), ?_, fun v hv w hw => ?_⟩
    · split
      · exact List.pairwise_singleton _ _
      · exact List.Pairwise.nil
    · obtain ⟨i, h1, h2, _, rfl⟩ := (mem_dnTo (by omega)).1 hv
      split at hw
      · rw [List.mem_singleton] at hw
        omega
      · cases hw
/-- A row's place in the order. -/
def keyR (hs : List Int) (v : Int) : Int := -(nth hs v.toNat * 100 + v)
theorem mem_rdTo {hs : List Int} {n : Nat} {v : Int} (hb : ∀ i, i < n → nth hs i ≤ (n : Int)) : ∀ {t : Nat}, v ∈ rdTo hs n t ↔ ∃ i : Nat, i < n ∧ (n : Int) - (t : Int) < nth hs i ∧ v = (i : Int)
  | 0 => by
    simp only [rdTo, List.not_mem_nil, false_iff]
    rintro ⟨i, h1, h2, _⟩
    have := hb i h1
    omega
  | t + 1 => by
    simp only [rdTo, List.mem_append, mem_rdTo hb, mem_dnTo (Nat.le_refl n), decide_eq_true_eq]
    constructor
    · rintro (⟨i, h1, h2, h3⟩ | ⟨i, _, h1, h2, h3⟩)
      · exact ⟨i, h1, by omega, h3⟩
      · exact ⟨i, h1, by omega, h3⟩
    · rintro ⟨i, h1, h2, h3⟩
      by_cases e : nth hs i = (n : Int) - (t : Int)
      · exact .inr ⟨i, by omega, h1, e, h3⟩
      · exact .inl ⟨i, h1, by omega, h3⟩
theorem rdTo_sorted {hs : List Int} {n : Nat} (h8 : n ≤ 50) (hb : ∀ i, i < n → nth hs i ≤ (n : Int)) : ∀ t : Nat, (rdTo hs n t).Pairwise fun v w => keyR hs v < keyR hs w
  | 0 => List.Pairwise.nil
  | t + 1 => by
    simp only [rdTo]
    rw [List.pairwise_append]
    refine ⟨rdTo_sorted h8 hb t, ?_, fun v hv w hw => ?_⟩
    · refine (dnTo_sorted (Nat.le_refl n)).imp_of_mem fun {a b} ha hb' hab => ?_
      obtain ⟨i, _, h1, h2, rfl⟩ := (mem_dnTo (Nat.le_refl n)).1 ha
      obtain ⟨j, _, h3, h4, rfl⟩ := (mem_dnTo (Nat.le_refl n)).1 hb'
      simp only [decide_eq_true_eq] at h2 h4
      simp only [keyR, Int.toNat_natCast]
      omega
    · obtain ⟨i, h1, h2, rfl⟩ := (mem_rdTo hb).1 hv
      obtain ⟨j, _, h3, h4, rfl⟩ := (mem_dnTo (Nat.le_refl n)).1 hw
      simp only [decide_eq_true_eq] at h4
      simp only [keyR, Int.toNat_natCast]
      omega
theorem rdL_perm {hs : List Int} {n : Nat} (hl : hs.length = n) (h8 : n ≤ 50) (hb : ∀ i, i < n → 0 ≤ nth hs i ∧ nth hs i ≤ (n : Int)) : (rdL hs).Perm (upto n) := by
  subst hl
  have hsorted := rdTo_sorted h8 (fun i hi => (hb i hi).2) (hs.length + 1)
  have hnd : (rdL hs).Nodup := hsorted.imp fun {a b} hab => by rintro rfl; omega
  have hnd2 : (upto hs.length).Nodup := by
    unfold upto
    refine List.Pairwise.map _ (fun a b hab => ?_) (List.nodup_range)
    intro e
    exact hab (by omega)
  refine (List.perm_ext_iff_of_nodup hnd hnd2).2 fun v => ?_
  unfold rdL
  rw [mem_rdTo (fun i hi => (hb i hi).2)]
  unfold upto
  rw [List.mem_map]
  simp only [List.mem_range]
  constructor
  · rintro ⟨c, h1, _, rfl⟩; exact ⟨c, h1, rfl⟩
  · rintro ⟨c, h1, rfl⟩; exact ⟨c, h1, by have := hb c h1; omega, rfl⟩
theorem length_rdL {hs : List Int} {n : Nat} (hl : hs.length = n) (h8 : n ≤ 50) (hb : ∀ i, i < n → 0 ≤ nth hs i ∧ nth hs i ≤ (n : Int)) : (rdL hs).length = n := by
  rw [(rdL_perm hl h8 hb).length_eq, length_upto]
theorem sort_rows {m : Nat} {hs : List Int} {d' : Array (Fin (m + 1))} (hl : hs.length = m + 1) (h8 : m + 1 ≤ 50) (hb : ∀ i, i < m + 1 → 0 ≤ nth hs i ∧ nth hs i ≤ ((m + 1 : Nat) : Int)) {lt : Fin (m + 1) → Fin (m + 1) → Bool}
    (hlt : ∀ x y : Fin (m + 1), lt x y = decide (keyR hs x.val < keyR hs y.val)) (hp : PermIn 0 (m + 1) (allFin m).toArray d') (hs' : SortedIn lt 0 (m + 1) d') : d'.toList.map (fun i => ((i.val : Nat) : Int)) = rdL hs := by
  obtain ⟨q1, q2⟩ := sorted_cars_list (n := m + 1) (ds := allFin m) (by simp [allFin]) hp hs'
  have hsorted := rdTo_sorted (hs := hs) (n := m + 1) h8 (fun i hi => (hb i hi).2) (m + 1 + 1)
  have hsorted' : (rdL hs).Pairwise fun v w => keyR hs v < keyR hs w := by unfold rdL; rw [hl]; exact hsorted
  have hfin : (allFin m).map (fun i => ((i.val : Nat) : Int)) = upto (m + 1) := by
    unfold allFin upto
    apply List.ext_getElem
    · simp
    · intro i h1 h2
      simp
  have hd : (d'.toList.map (fun i => ((i.val : Nat) : Int))).Perm (rdL hs) := (q1.map _).trans (by rw [hfin]; exact (rdL_perm hl h8 hb).symm)
  refine List.Perm.eq_of_pairwise (le := fun v w => keyR hs v ≤ keyR hs w) (fun a b ha hb' h1 h2 => ?_) ?_ (hsorted'.imp fun {a b} hab => by omega) hd
  · have hmem : ∀ v : Int, v ∈ rdL hs → ∃ i : Nat, i < m + 1 ∧ v = (i : Int) := fun v hv => by
      have := (rdL_perm hl h8 hb).subset hv
      unfold upto at this
      obtain ⟨i, hi, rfl⟩ := List.mem_map.1 this
      exact ⟨i, List.mem_range.1 hi, rfl⟩
    obtain ⟨i, hi, rfl⟩ := hmem a (hd.subset ha)
    obtain ⟨j, hj, rfl⟩ := hmem b hb'
    have hi' := hb i hi
    have hj' := hb j hj
    unfold keyR at h1 h2
    rw [Int.toNat_natCast, Int.toNat_natCast] at h1 h2
    omega
  · rw [List.pairwise_map]
    exact q2.imp fun {a b} hab => by rw [hlt] at hab; simp at hab; exact hab
/-- How two rows are compared. -/
def rcmp (hs : List Int) (x y : Nat) : Int := if nth hs y < nth hs x then -1 else if nth hs x < nth hs y then 1 else if y < x then -1 else if x < y then 1 else 0
theorem rcmp_key {hs : List Int} {x y : Nat} (hx : x < 50) (hy : y < 50) : decide (rcmp hs x y < 0) = decide (keyR hs (x : Int) < keyR hs (y : Int)) := by
  unfold rcmp keyR
  rw [Int.toNat_natCast, Int.toNat_natCast, decide_eq_decide]
  split
  · omega
  · split
    · omega
    · split
      · omega
      · split
        · omega
        · omega
def readOf (hs ls : List Int) : List Int × Bool := if walkB hs ls then ((rdL hs).map (fun v => nth ls v.toNat), true) else ([], false)
end Go.Proofs.Ytakadjhbomggbaa

namespace Go.Proofs.Ytakadjhbomggbaa
open Go.RowKit

/-- The index of a number in a list, or -1. -/
def plW (xs : List Int) (y : Int) : Int := if xs.findIdx (· == y) < xs.length then (xs.findIdx (· == y) : Int) else -1
theorem plW_at {xs : List Int} {y : Int} {k : Nat} (hk : k < xs.length) (h : nth xs k = y) (hb : ∀ i, i < k → nth xs i ≠ y) : plW xs y = (k : Int) := by
  have : xs.findIdx (· == y) = k := by
    rw [List.findIdx_eq hk]
    refine ⟨?_, fun j hj => ?_⟩
    · have := h
      simp only [nth, List.getD_eq_getElem?_getD, List.getElem?_eq_getElem hk, Option.getD_some] at this
      simp [this]
    · have := hb j hj
      simp only [nth, List.getD_eq_getElem?_getD, List.getElem?_eq_getElem (show j < xs.length by omega), Option.getD_some] at this
      simp [this]
  unfold plW
  rw [this, if_pos hk]
theorem plW_none {xs : List Int} {y : Int} (hb : ∀ i, i < xs.length → nth xs i ≠ y) : plW xs y = -1 := by
  have : xs.findIdx (· == y) = xs.length := by
    rw [List.findIdx_eq_length]
    intro x hx
    obtain ⟨j, hj, rfl⟩ := List.getElem_of_mem hx
    have := hb j hj
    simp only [nth, List.getD_eq_getElem?_getD, List.getElem?_eq_getElem hj, Option.getD_some] at this
    simp [this]
  unfold plW
  rw [this, if_neg (by omega)]
theorem nth_map_int {f : Int → Int} {xs : List Int} {i : Nat} (h : i < xs.length) : nth (xs.map f) i = f (nth xs i) := by
  simp [nth, h]
/-- Where a row's label stands in the reading. -/
theorem read_place {hs ls : List Int} {n : Nat} (hw : walkB hs ls = true) (hl : hs.length = n) {x : Nat} (hx : x < n) : ∃ k, k < n ∧ nth (rdL hs) k = (x : Int) ∧ plW ((rdL hs).map fun v => nth ls v.toNat) (nth ls x) = (k : Int) := by
  obtain ⟨hg, hll, ho, -⟩ := walkB_iff.1 hw
  obtain ⟨h8, hb⟩ := hgt_of hg hl
  have hb' : ∀ i, i < n → 0 ≤ nth hs i ∧ nth hs i ≤ (n : Int) := fun i hi => by have := hb i hi; omega
  have hp := rdL_perm hl (by omega) hb'
  have hlen := length_rdL hl (by omega) hb'
  have hm : (x : Int) ∈ rdL hs := hp.symm.subset (by unfold upto; exact List.mem_map.2 ⟨x, List.mem_range.2 hx, rfl⟩)
  obtain ⟨k, hk, e⟩ := List.getElem_of_mem hm
  have e' : nth (rdL hs) k = (x : Int) := by simp only [nth, List.getD_eq_getElem?_getD, List.getElem?_eq_getElem hk, Option.getD_some]; exact e
  have hnd : (rdL hs).Pairwise fun v w => keyR hs v < keyR hs w := by
    have := rdTo_sorted (hs := hs) (n := hs.length) (by omega) (fun i hi => by have := hb' i (by omega); omega) (hs.length + 1)
    exact this
  refine ⟨k, by omega, e', plW_at (by simpa using hk) (by rw [nth_map_int hk, e']; simp) fun i hi => ?_⟩
  rw [nth_map_int (by omega)]
  have hmi : nth (rdL hs) i ∈ rdL hs := nth_mem (by omega)
  have := hp.subset hmi
  unfold upto at this
  obtain ⟨c, hc, ec⟩ := List.mem_map.1 this
  have hc2 := List.mem_range.1 hc
  rw [← ec]
  simp only [Int.toNat_natCast]
  intro e2
  have h1 := out_inj ho (i := c) (j := x) (by omega) (by omega) e2
  have h2 := (List.pairwise_iff_getElem.1 hnd) i k (by omega) hk hi
  rw [e] at h2
  have h3 : (rdL hs)[i] = (c : Int) := by
    have := ec.symm
    simp only [nth, List.getD_eq_getElem?_getD, List.getElem?_eq_getElem (show i < (rdL hs).length by omega), Option.getD_some] at this
    exact this
  rw [h3, h1] at h2
  omega
/-- Rows that come earlier in the order stand earlier in the reading. -/
theorem read_before {hs ls : List Int} {n : Nat} (hw : walkB hs ls = true) (hl : hs.length = n) {x y : Nat} (hx : x < n) (hy : y < n) (h : keyR hs (y : Int) < keyR hs (x : Int)) :
    ∃ p q : Nat, plW ((rdL hs).map fun v => nth ls v.toNat) (nth ls x) = (p : Int) ∧ plW ((rdL hs).map fun v => nth ls v.toNat) (nth ls y) = (q : Int) ∧ q ≤ p := by
  obtain ⟨p, hp, ep, e1⟩ := read_place hw hl hx
  obtain ⟨q, hq, eq, e2⟩ := read_place hw hl hy
  refine ⟨p, q, e1, e2, ?_⟩
  obtain ⟨hg, hll, ho, -⟩ := walkB_iff.1 hw
  obtain ⟨h8, hb⟩ := hgt_of hg hl
  have hb' : ∀ i, i < n → 0 ≤ nth hs i ∧ nth hs i ≤ (n : Int) := fun i hi => by have := hb i hi; omega
  have hlen := length_rdL hl (by omega) hb'
  have hnd : (rdL hs).Pairwise fun v w => keyR hs v < keyR hs w := by
    have := rdTo_sorted (hs := hs) (n := hs.length) (by omega) (fun i hi => by have := hb' i (by omega); omega) (hs.length + 1)
    exact this
  rcases Nat.lt_or_ge p q with hlt | hge
  · exfalso
    have h2 := (List.pairwise_iff_getElem.1 hnd) p q (by omega) (by omega) hlt
    simp only [nth, List.getD_eq_getElem?_getD, List.getElem?_eq_getElem (show p < (rdL hs).length by omega), List.getElem?_eq_getElem (show q < (rdL hs).length by omega), Option.getD_some] at ep eq
    rw [ep, eq] at h2
    omega
  · exact hge
/-- A pair of a walk: level or a step, and how its labels stand in the reading. -/
theorem pair_facts {hs ls : List Int} {n : Nat} (hw : walkB hs ls = true) (hl : hs.length = n) {r : List Int} (hr : r ∈ pairsL hs ls) :
    ∃ i j : Nat, r = [(i : Int), (j : Int)] ∧ i < j ∧ j < n ∧ ∃ p q : Nat, q ≤ p ∧
      ((nth hs i = nth hs j ∧ nth ls i < nth ls j ∧ plW ((rdL hs).map fun v => nth ls v.toNat) (nth ls i) = (p : Int) ∧ plW ((rdL hs).map fun v => nth ls v.toNat) (nth ls j) = (q : Int)) ∨
       (nth hs i = nth hs j + 1 ∧ nth ls j < nth ls i ∧ plW ((rdL hs).map fun v => nth ls v.toNat) (nth ls j) = (p : Int) ∧ plW ((rdL hs).map fun v => nth ls v.toNat) (nth ls i) = (q : Int))) := by
  obtain ⟨hg, hll, ho, -⟩ := walkB_iff.1 hw
  obtain ⟨h8, hb⟩ := hgt_of hg hl
  unfold pairsL pairsTo at hr
  obtain ⟨i, hi, hr⟩ := List.mem_flatMap.1 hr
  have hi' := List.mem_range.1 hi
  unfold pairRow at hr
  obtain ⟨d, hd, rfl⟩ := List.mem_map.1 hr
  obtain ⟨hd1, hd2⟩ := List.mem_filter.1 hd
  have hd' := List.mem_range.1 hd1
  have hj : i + 1 + d < n := by omega
  refine ⟨i, i + 1 + d, rfl, by omega, hj, ?_⟩
  unfold pairB at hd2
  simp only [Bool.or_eq_true, Bool.and_eq_true, decide_eq_true_eq] at hd2
  have b1 := hb i (by omega)
  have b2 := hb (i + 1 + d) hj
  rcases hd2 with ⟨e1, e2⟩ | ⟨e1, e2⟩
  · obtain ⟨p, q, h1, h2, h3⟩ := read_before hw hl (x := i) (y := i + 1 + d) (by omega) hj (by unfold keyR; rw [Int.toNat_natCast, Int.toNat_natCast]; omega)
    exact ⟨p, q, h3, .inl ⟨e1, e2, h1, h2⟩⟩
  · obtain ⟨p, q, h1, h2, h3⟩ := read_before hw hl (x := i + 1 + d) (y := i) hj (by omega) (by unfold keyR; rw [Int.toNat_natCast, Int.toNat_natCast]; omega)
    exact ⟨p, q, h3, .inr ⟨e1, e2, h1, h2⟩⟩
end Go.Proofs.Ytakadjhbomggbaa

namespace Go.Proofs.Ytakadjhbomggbaa
open Go.RowKit

set_option maxHeartbeats 400000 in
theorem wSame_any (a b : Option Addr) (n m cap cap' : Nat) (xs ys : List Int) (w : World) (h : Has w a n cap xs) (h' : Has w b m cap' ys) :
    Calls Try.prog 17 #[.slice a n cap, .slice b m cap'] w fun e w' => e = .returned (.bool (same xs ys)) ∧ Quiet w w' := by
  obtain ⟨h0, h1, h2, h3, h4⟩ := h
  obtain ⟨k0, k1, k2, k3, k4⟩ := h'
  by_cases hnm : n = m
  · have hb : ((n : Int) != (m : Int)) = false := by simp [hnm]
    subst hnm
    go_enter Try.func17, Try.ntmps17
    go_wp2_with fail
    go_loopw [13] (fun i wr => ∃ k : Nat, k ≤ n ∧ i = .int .i64 k ∧ FromTo xs ys k ∧ Quiet w wr) (fun i _ => n - (intOf i).toNat)
    case atStart => exact ⟨0, Nat.zero_le _, rfl, fun i hi => by omega, ⟨0, rfl⟩⟩
    case round =>
      obtain ⟨k, hk, rfl, hft, q, hq⟩ := hrel
      subst hq
      by_cases hlt : k < n
      · obtain ⟨b1, off1, rfl, hb1, hc1⟩ := h4 (by omega)
        obtain ⟨b2, off2, rfl, hb2, hc2⟩ := k4 (by omega)
        have hck := hc1 k hlt
        have hdk := hc2 k hlt
        have hkk : (k : Int) < (n : Int) := by omega
        have hkz : (0 : Int) ≤ (k : Int) := by omega
        clear hc1 hc2 h4 k4
        by_cases he : nth xs k = nth ys k
        · have hbe : (nth xs k != nth ys k) = false := by simp [he]
          have HE := hid he
          clear he
          go_wp2_with fail
          go_quiet (fail)
          go_wp2_with fail
          go_roundw
          case rel => exact ⟨k + 1, by omega, by go_num, fun i hi => by rcases Nat.lt_succ_iff_lt_or_eq.1 hi with h | rfl; exact hft i h; exact HE.out.symm, ⟨_, rfl⟩⟩
          case measure => simp [intOf]; omega
        · have hbe : (nth xs k != nth ys k) = true := by simp [he]
          have HE := hid he
          clear he
          go_wp2_with fail
          go_quiet (fail)
          go_wp2_with fail
          go_ret
          exact ⟨ret_bool (same_no HE.out).symm, (Quiet.more ⟨_, rfl⟩ _)⟩
      · obtain rfl : k = n := by omega
        go_wp2_with fail
        go_ret
        exact ⟨ret_bool (same_yes (by omega) (by rw [h0]; exact hft)).symm, ⟨_, rfl⟩⟩
  · have hb : ((n : Int) != (m : Int)) = true := by simp; omega
    go_enter Try.func17, Try.ntmps17
    go_wp2_with fail
    go_ret
    exact ⟨ret_bool (show false = same xs ys from by unfold same; symm; rw [decide_eq_false_iff_not]; rintro rfl; omega), ⟨0, rfl⟩⟩

end Go.Proofs.Ytakadjhbomggbaa

namespace Go.Proofs.Ytakadjhbomggbaa
open Go.RowKit

set_option maxHeartbeats 400000 in
theorem wSameWalk_any (a b c d : Option Addr) (n cap m cap' n' cap1 m' cap2 : Nat) (hs ls hs' ls' : List Int) (w : World) (h : Has w a n cap hs) (h' : Has w b m cap' ls) (k : Has w c n' cap1 hs') (k' : Has w d m' cap2 ls') :
    Calls Try.prog 12 #[.agg #[.slice a n cap, .slice b m cap'], .agg #[.slice c n' cap1, .slice d m' cap2]] w fun e w' => e = .returned (.bool (same hs hs' && same ls ls')) ∧ Below w.heap.size w w' := by
  go_enter Try.func12, Try.ntmps12
  go_wp2_with fail
  generalize hW : ((w.alloc (.cells #[.slice a n cap, .slice b m cap'] 27)).alloc (.cells #[.slice c n' cap1, .slice d m' cap2] 27)) = W
  have hbW : Below w.heap.size w W := by rw [← hW]; exact ((Below.refl _ w).alloc (Nat.le_refl _) _).alloc (by simp) _
  have hsz : W.heap.size = w.heap.size + 2 := by rw [← hW]; simp
  have B1 : BoxAt W w.heap.size (.slice a n cap) (.slice b m cap') := by rw [← hW]; exact (boxAt_new _ _ _ _).alloc _
  have B2 : BoxAt W (w.heap.size + 1) (.slice c n' cap1) (.slice d m' cap2) := by rw [← hW]; have := boxAt_new (w.alloc (.cells #[.slice a n cap, .slice b m cap'] 27)) (.slice c n' cap1) (.slice d m' cap2) 27; simpa using this
  clear hW
  refine (wSame_any _ _ _ _ _ _ _ _ _ (h.below hbW (Nat.le_refl _)) (k.below hbW (Nat.le_refl _))).mono ?_
  rintro e w1 ⟨rfl, q, rfl⟩
  have B1' : BoxAt (W.drewN q) w.heap.size (.slice a n cap) (.slice b m cap') := ⟨B1.c0, B1.c1, B1.f0, B1.f1⟩
  have B2' : BoxAt (W.drewN q) (w.heap.size + 1) (.slice c n' cap1) (.slice d m' cap2) := ⟨B2.c0, B2.c1, B2.f0, B2.f1⟩
  have hb1 : Below w.heap.size w (W.drewN q) := below_drewN hbW _
  generalize W.drewN q = V at *
  obtain ⟨_, _, _, _⟩ := B1'
  obtain ⟨_, _, _, _⟩ := B2'
  by_cases hh : same hs hs' = true
  · rw [hh]
    go_wp2_with fail
    refine (wSame_any _ _ _ _ _ _ _ _ _ (h'.below hb1 (Nat.le_refl _)) (k'.below hb1 (Nat.le_refl _))).mono ?_
    rintro e w2 ⟨rfl, q2, rfl⟩
    have hb2 : Below w.heap.size w (V.drewN q2) := below_drewN hb1 _
    by_cases hl : same ls ls' = true
    · rw [hl]
      go_wp2_with fail
      go_ret
      exact ⟨ret_bool (by rw [hh, hl]; rfl), hb2⟩
    · rw [Bool.eq_false_iff.2 hl]
      go_wp2_with fail
      go_ret
      exact ⟨ret_bool (by rw [hh, Bool.eq_false_iff.2 hl]; rfl), hb2⟩
  · rw [Bool.eq_false_iff.2 hh]
    go_wp2_with fail
    go_ret
    exact ⟨ret_bool (by rw [Bool.eq_false_iff.2 hh]; rfl), hb1⟩

set_option maxHeartbeats 400000 in
theorem wSumX_any (a : Option Addr) (n cap : Nat) (xs : List Int) (w : World) (h : Has w a n cap xs) (h8 : n ≤ 100) (hb : ∀ i, i < n → 0 ≤ nth xs i ∧ nth xs i ≤ 5000) :
    Calls Try.prog 24 #[.slice a n cap] w fun e w' => e = .returned (.int .i64 (total xs)) ∧ w = w' := by
  have HL := hid h.len
  have HB := hid hb
  clear hb
  go_enter Try.func24, Try.ntmps24
  go_wp2_with fail
  go_loop [3, 8] (fun s i => ∃ (k : Nat) (v : Int), k ≤ n ∧ i = .int .i64 (k : Int) ∧ s = .int .i64 v ∧ Hid (v = total (xs.take k)) ∧ 0 ≤ v ∧ v ≤ 5000 * (k : Int)) (fun _ i => n - (intOf i).toNat)
  case atStart => exact ⟨0, 0, by omega, rfl, rfl, hid rfl, by omega, by omega⟩
  case round =>
    obtain ⟨k, v, hk, rfl, rfl, HV, s0, s1⟩ := hrel
    by_cases hlt : k < n
    · obtain ⟨b0, off, rfl, hbb, hc⟩ := h.2.2.2.2 (by omega)
      have hck := hc k hlt
      obtain ⟨u0, u1⟩ := HB.out k hlt
      have HS : Hid (total (xs.take (k + 1)) = v + nth xs k) := hid (by rw [total_succ (by rw [HL.out]; exact hlt), HV.out])
      clear hc
      go_wp2_with fail
      go_round
      case rel => exact ⟨k + 1, v + nth xs k, by omega, by go_num, by go_num, hid HS.out.symm, by omega, by omega⟩
      case measure => simp [intOf]; omega
    · obtain rfl : k = n := by omega
      have HR : Hid (v = total xs) := hid (by rw [HV.out, List.take_of_length_le (by rw [HL.out]; omega)])
      go_wp2_with fail
      go_ret
      exact ⟨ret_int HR.out, rfl⟩
end Go.Proofs.Ytakadjhbomggbaa

namespace Go.Proofs.Ytakadjhbomggbaa
open Go.RowKit Go.Sort

/-- The first number that is not 0. -/
def orL : List Int → Int
  | [] => 0
  | x :: r => if x = 0 then orL r else x
def ZeroTo (xs : List Int) (k : Nat) : Prop := ∀ i, i < k → nth xs i = 0
theorem orL_at : ∀ {xs : List Int} {k : Nat}, ZeroTo xs k → k < xs.length → nth xs k ≠ 0 → orL xs = nth xs k
  | [], k, _, h, _ => by simp at h
  | x :: r, 0, _, _, hn => by
    simp only [nth, List.getD_cons_zero] at hn ⊢
    simp only [orL]; rw [if_neg hn]
  | x :: r, k + 1, hz, h, hn => by
    have h0 := hz 0 (by omega)
    simp only [nth, List.getD_cons_zero] at h0
    simp only [orL]; rw [if_pos h0]
    have := orL_at (xs := r) (k := k) (fun i hi => by have := hz (i + 1) (by omega); simpa [nth] using this) (by simpa using h) (by simpa [nth] using hn)
    rw [this]
    simp [nth]
theorem orL_zero : ∀ {xs : List Int}, ZeroTo xs xs.length → orL xs = 0
  | [], _ => rfl
  | x :: r, hz => by
    have h0 := hz 0 (by simp)
    simp only [nth, List.getD_cons_zero] at h0
    simp only [orL]; rw [if_pos h0]
    exact orL_zero (fun i hi => by have := hz (i + 1) (by simpa using hi); simpa [nth] using this)

set_option maxHeartbeats 400000 in
theorem or_any (a : Option Addr) (n cap : Nat) (xs : List Int) (w : World) (h : Has w a n cap xs) :
    Calls Try.prog 71 #[.slice a n cap] w fun e w' => e = .returned (.int .i64 (orL xs)) ∧ w = w' := by
  have HL := hid h.len
  have hle := h.le
  go_enter Try.func71, Try.ntmps71
  go_wp2_with fail
  go_loop [8] (fun i => ∃ k : Nat, k ≤ n ∧ i = .int .i64 k ∧ Hid (ZeroTo xs k)) (fun i => n - (intOf i).toNat)
  case atStart => exact ⟨0, Nat.zero_le _, rfl, hid (fun i hi => by omega)⟩
  case round =>
    obtain ⟨k, hk, rfl, HZ⟩ := hrel
    by_cases hlt : k < n
    · obtain ⟨b, off, rfl, hb, hc⟩ := h.2.2.2.2 (by omega)
      have hck := hc k hlt
      clear hc
      by_cases he : nth xs k = 0
      · have hbe : (nth xs k != 0) = false := by simp [he]
        have HZ2 : Hid (ZeroTo xs (k + 1)) := hid (fun i hi => by rcases Nat.lt_succ_iff_lt_or_eq.1 hi with h1 | rfl; exact HZ.out i h1; exact he)
        clear he
        go_wp2_with fail
        go_round
        case rel => exact ⟨k + 1, by omega, by go_num, HZ2⟩
        case measure => simp [intOf]; omega
      · have hbe : (nth xs k != 0) = true := by simp [he]
        have HE := hid (orL_at HZ.out (by rw [HL.out]; exact hlt) he)
        clear he
        go_wp2_with fail
        go_ret
        exact ⟨ret_int HE.out.symm, rfl⟩
    · obtain rfl : k = n := by omega
      have HE : Hid (orL xs = 0) := hid (orL_zero (by rw [HL.out]; exact HZ.out))
      go_wp2_with fail
      go_ret
      exact ⟨ret_int HE.out.symm, rfl⟩
theorem or_two (hs : List Int) (x y : Nat) : orL [cmpI (nth hs y) (nth hs x), cmpI (y : Int) (x : Int)] = rcmp hs x y := by
  have e1 : cmpI (y : Int) (x : Int) = if y < x then -1 else if x < y then 1 else 0 := by
    unfold cmpI
    simp only [Int.ofNat_lt]
  rw [e1]
  unfold rcmp cmpI
  simp only [orL]
  by_cases h1 : nth hs y < nth hs x
  · rw [if_pos h1, if_pos h1]; rfl
  · rw [if_neg h1, if_neg h1]
    by_cases h2 : nth hs x < nth hs y
    · rw [if_pos h2, if_pos h2]; rfl
    · rw [if_neg h2, if_neg h2, if_pos rfl]
      by_cases h3 : y < x
      · rw [if_pos h3]; rfl
      · rw [if_neg h3]
        by_cases h4 : x < y
        · rw [if_pos h4]; rfl
        · rw [if_neg h4]; rfl

set_option maxRecDepth 100000 in
set_option maxHeartbeats 8000000 in
theorem rcmp_any (bx : Nat) (a : Option Addr) (n cap : Nat) (hs : List Int) (x y : Nat) (w : World) (hbx : w.cell? ⟨bx, 0, none⟩ = some (.slice a n cap)) (h : Has w a n cap hs) (hx : x < n) (hy : y < n) :
    Calls Try.prog 70 #[.int .i64 (x : Int), .int .i64 (y : Int), .pointer (some ⟨bx, 0, none⟩)] w fun e w' => e = .returned (.int .i64 (rcmp hs x y)) ∧ ∃ q os, w' = grow (w.drewN q) os := by
  obtain ⟨b1, off, rfl, hb, hc⟩ := h.2.2.2.2 (by omega)
  have c1 := hc x hx
  have c2 := hc y hy
  have z1 : (x : Int) < (n : Int) := by omega
  have z2 : (y : Int) < (n : Int) := by omega
  have z3 : (0 : Int) ≤ (x : Int) := by omega
  have z4 : (0 : Int) ≤ (y : Int) := by omega
  have HO := hid (or_two hs x y)
  have hlit : Has (w.alloc (.cells #[.int .i64 (cmpI (nth hs y) (nth hs x)), .int .i64 (cmpI (y : Int) (x : Int))] 3)).drew (some ⟨w.heap.size, 0, none⟩) 2 2 [cmpI (nth hs y) (nth hs x), cmpI (y : Int) (x : Int)] := (own_lit2 w 0 _ _ (Nat.zero_le _)).has
  have HLIT := hid hlit
  have HW : Hid ((w.alloc (.cells #[.int .i64 (cmpI (nth hs y) (nth hs x)), .int .i64 (cmpI (y : Int) (x : Int))] 3)).drew = grow (w.drewN 1) #[.cells #[.int .i64 (cmpI (nth hs y) (nth hs x)), .int .i64 (cmpI (y : Int) (x : Int))] 3]) := hid (by rw [alloc_eq_grow]; rfl)
  clear hc hlit
  go_enter Try.func70, Try.ntmps70
  go_wp2_with fail
  go_region_with (first
    | (go_at_call_of 72 (Value.int IntKind.i64 (nth hs y)); refine (compareJ_any _ _ _).mono ?_; rintro e w' ⟨rfl, rfl⟩)
    | (go_at_call_of 72 (Value.int IntKind.i64 (y : Int)); refine (compareJ_any _ _ _).mono ?_; rintro e w' ⟨rfl, rfl⟩)
    | (go_at_call 71; refine (or_any _ 2 2 _ _ HLIT.out).mono ?_; rintro e w' ⟨rfl, rfl⟩; rw [HO.out]))
  all_goals (go_wp2_with fail; go_ret; exact ⟨rfl, 1, _, HW.out⟩)
end Go.Proofs.Ytakadjhbomggbaa

namespace Go.Proofs.Ytakadjhbomggbaa
open Go.RowKit Go.Sort

set_option maxHeartbeats 1000000 in
theorem sortReading_any (B g m cap bx : Nat) (al : Option Addr) (cl : Nat) (hs : List Int) (w : World) (h8 : m + 1 ≤ 8) (hl : hs.length = m + 1) (hbd : ∀ i, i < m + 1 → 0 ≤ nth hs i ∧ nth hs i ≤ ((m + 1 : Nat) : Int))
    (h : Own w B (some ⟨g, 0, none⟩) (m + 1) cap (upto (m + 1))) (hx : Has w al (m + 1) cl hs) (hal : ∀ p, al = some p → p.block ≠ g) (hbx : w.cell? ⟨bx, 0, none⟩ = some (.slice al (m + 1) cl)) (hbg : bx ≠ g) :
    Calls Try.prog 69 #[.slice (some ⟨g, 0, none⟩) (m + 1) cap, .func (.func 70) #[] #[.pointer (some ⟨bx, 0, none⟩)]] w fun e w' =>
      e = .returned (.tuple #[]) ∧ Own w' B (some ⟨g, 0, none⟩) (m + 1) cap (rdL hs) ∧ w.grownBy w' (some g) := by
  obtain ⟨⟨h1, h2⟩, h3, h4⟩ := h
  rcases h2 with ⟨hv, _⟩ | ⟨g', cap', cur, hv, hg, hh, hnc, hcm, hcs, htake⟩
  · simp at hv
  · simp at hv
    obtain ⟨rfl, rfl⟩ := hv
    have hlen : (allFin m).length = m + 1 := by simp [allFin]
    have hH : Go.Sort.Holds (encF m) w g 0 (allFin m).toArray := holds_of_cells hh (by rw [hlen, allFin_enc]; simpa using htake)
    have hlt : g < w.heap.size := (Array.getElem?_eq_some_iff.1 hh).1
    have eg : ∀ args w, (callFunc 70 args).run Try.prog w = .ok (.enter 70 args) w := by intro args w; go_simp
    have hcmp : CmpLays1 Try.prog 70 #[.pointer (some ⟨bx, 0, none⟩)] (encF m) (fun x y => rcmp hs x.val y.val) g 0 (allFin m).toArray.size w := by
      intro q os dk _ x y
      have hgr : w.grownBy (sortWorld (encF m) w g 0 q dk os) (some g) := grownBy_sortedE (encF m) dk
      have hx' := hx.kept hgr hal
      have hb' : (sortWorld (encF m) w g 0 q dk os).cell? ⟨bx, 0, none⟩ = some (.slice al (m + 1) cl) := hgr.cell hbx (by simpa using hbg)
      refine (rcmp_any bx al (m + 1) cl hs x.val y.val _ hb' hx' x.isLt y.isLt).mono ?_
      rintro e w' ⟨rfl, q2, os2, rfl⟩
      exact ⟨rfl, q2, os2, rfl⟩
    have hlt' : ∀ x y : Fin (m + 1), (ltOf fun x y : Fin (m + 1) => rcmp hs x.val y.val) x y = decide (keyR hs x.val < keyR hs y.val) := fun x y => by
      have h1 := x.isLt
      have h2 := y.isLt
      exact rcmp_key (by omega) (by omega)
    have hswo : SWO (ltOf fun x y : Fin (m + 1) => rcmp hs x.val y.val) := ⟨fun x => by simp [hlt'], fun x y z h1 h2 => by simp [hlt'] at *; omega, fun x y z h1 h2 => by simp [hlt'] at *; omega⟩
    have hs' := Try.slices_SortFunc_f69 (encF m) (fun _ => rfl) (fun x y => rcmp hs x.val y.val) hswo 70 #[.pointer (some ⟨bx, 0, none⟩)] g 0 cap (allFin m).toArray w eg hcmp hH hlt (by simp [allFin]; omega)
    have hsz : (allFin m).toArray.size = m + 1 := by simp [allFin]
    simp only [hsz] at hs'
    refine hs'.mono ?_
    rintro e w' ⟨rfl, d', q, os, hp, hst, rfl⟩
    have hsort := sort_rows hl (by omega) hbd hlt' hp hst
    have hcl : (rdL hs).length = m + 1 := length_rdL hl (by omega) hbd
    have hdl : d'.toList.length = m + 1 := by
      have h5 := congrArg List.length hsort
      rw [List.length_map, hcl] at h5
      exact h5
    have henc : d'.toList.map (encF m) = (rdL hs).map (Value.int .i64) := by
      rw [← hsort, List.map_map]
      rfl
    refine ⟨rfl, ⟨⟨by simp [hcl], .inr ⟨g, cap, _, rfl, hg, heap_sortedE _ d' hh, hnc, hcm, by simpa [putCells] using hcs, ?_⟩⟩, hcl, h4⟩, grownBy_sortedE _ d'⟩
    rw [Nat.mul_one, ← henc]
    have := take_putCellsE (encF m) cur d'.toList (by omega)
    rw [toArr, hdl] at this
    exact this

set_option maxHeartbeats 1000000 in
theorem sortNone_any (a : Option Addr) (cap : Nat) (fv : Value) (w : World) :
    Calls Try.prog 69 #[.slice a 0 cap, fv] w fun e w' => e = .returned (.tuple #[]) ∧ w' = w := by
  have hst : ∀ L : Int, Calls Try.prog 104 #[.slice a 0 cap, .int .i64 0, .int .i64 0, .int .i64 L, fv] w fun e w' => e = .returned (.tuple #[]) ∧ w' = w := fun L => by
    go_enter Try.func104, Try.ntmps104
    go_wp2
    refine wp_loop_rounds 1 ?_
    rw [rounds_succ]
    go_wp2_with (go_at_call 120; refine (insNone_any _ _ _ _).mono ?_; rintro e w1 ⟨rfl, rfl⟩)
    refine bodyPost_ret (results_none rfl _ _ _) rfl ⟨rfl, rfl⟩
  go_enter Try.func69, Try.ntmps69
  go_wp2_with fail
  refine (Try.bits_Len 0 w (by omega) (by omega)).mono ?_
  rintro e w1 ⟨rfl, rfl⟩
  go_wp2_with fail
  refine (hst _).mono ?_
  rintro e w1 ⟨rfl, rfl⟩
  go_wp2_with fail
  go_end0
  exact ⟨rfl, rfl⟩
theorem rd_none {hs : List Int} (h : hs.length = 0) : rdL hs = [] := by obtain rfl := List.eq_nil_of_length_eq_zero h; rfl
theorem sortRd_any (B n : Nat) (a al : Option Addr) (cap cl bx : Nat) (hs : List Int) (w : World) (h8 : n ≤ 8) (hl : hs.length = n) (hbd : ∀ i, i < n → 0 ≤ nth hs i ∧ nth hs i ≤ (n : Int)) (hBw : B ≤ w.heap.size)
    (h : Own w B a n cap (upto n)) (hx : Has w al n cl hs) (hal : 0 < n → BlkLt al B) (hbx : w.cell? ⟨bx, 0, none⟩ = some (.slice al n cl)) (hbg : bx < B) :
    Calls Try.prog 69 #[.slice a n cap, .func (.func 70) #[] #[.pointer (some ⟨bx, 0, none⟩)]] w fun e w' =>
      e = .returned (.tuple #[]) ∧ Own w' B a n cap (rdL hs) ∧ Below B w w' := by
  by_cases hn : n = 0
  · subst hn
    refine (sortNone_any _ _ _ _).mono ?_
    rintro e w1 ⟨rfl, rfl⟩
    exact ⟨rfl, by rw [rd_none hl]; exact h, Below.refl _ _⟩
  · obtain ⟨m, rfl⟩ : ∃ m, n = m + 1 := ⟨n - 1, by omega⟩
    obtain ⟨g, rfl, hg1, hg2, _, _⟩ := h.opened (by omega)
    refine (sortReading_any B g m cap bx al cl hs w h8 hl hbd h hx ((hal (by omega)).ne hg1) hbx (by omega)).mono ?_
    rintro e w1 ⟨rfl, ho, hgr⟩
    exact ⟨rfl, ho, below_grown hgr hBw (fun k hk => by simp at hk; omega)⟩

/-- The labels of the first rows that are read. -/
def RdAt (ls rs ys : List Int) (k : Nat) : Prop := ∀ i, i < k → nth ys i = nth ls (nth rs i).toNat
theorem rda_all {ls rs ys : List Int} {n : Nat} (h : RdAt ls rs ys n) (hl : ys.length = n) (hn : rs.length = n) : ys = rs.map (fun v => nth ls v.toNat) := ext_nth (by simp; omega) fun i hi => by
  rw [h i (by omega)]
  simp [nth, show i < rs.length by omega]
theorem rda_step {ls rs ys : List Int} {k c n : Nat} (h : RdAt ls rs ys k) (hl : ys.length = n) (hk : k < n) (hc : nth rs k = (c : Int)) : RdAt ls rs (ys.set k (nth ls c)) (k + 1) := fun i hi => by
  rw [nth_set (by omega)]
  split
  · subst_vars; rw [hc, Int.toNat_natCast]
  · exact h i (by omega)
theorem rdL_nth {hs : List Int} {n : Nat} (hl : hs.length = n) (h8 : n ≤ 8) (hb : ∀ i, i < n → 0 ≤ nth hs i ∧ nth hs i ≤ (n : Int)) {k : Nat} (hk : k < n) : ∃ c : Nat, nth (rdL hs) k = (c : Int) ∧ c < n := by
  have hp := rdL_perm hl (by omega) hb
  have hm : nth (rdL hs) k ∈ rdL hs := nth_mem (by rw [length_rdL hl (by omega) hb]; exact hk)
  have := hp.subset hm
  unfold upto at this
  obtain ⟨c, hc, e⟩ := List.mem_map.1 this
  exact ⟨c, e.symm, List.mem_range.1 hc⟩

set_option maxHeartbeats 2000000 in
theorem implReading_any (a b : Option Addr) (n cap m cap' : Nat) (hs ls : List Int) (w : World) (h : Has w a n cap hs) (h' : Has w b m cap' ls) :
    Calls Try.prog 29 #[.agg #[.slice a n cap, .slice b m cap']] w (PostInts w (readOf hs ls)) := by
  have HL := hid h.len
  have HL' := hid h'.len
  have hle := h.le
  have hle' := h'.le
  go_enter Try.func29, Try.ntmps29
  go_wp2_with fail
  generalize hW : w.alloc (.cells #[.slice a n cap, .slice b m cap'] 27) = W
  have hbW : Below w.heap.size w W := by rw [← hW]; exact (Below.refl _ w).alloc (Nat.le_refl _) _
  have B1 : BoxAt W w.heap.size (.slice a n cap) (.slice b m cap') := by rw [← hW]; exact boxAt_new _ _ _ _
  clear hW
  refine (rowsOf_any _ _ _ _ _ _ _ _ _ (h.below hbW (Nat.le_refl _)) (h'.below hbW (Nat.le_refl _))).mono ?_
  rintro e w1 ⟨⟨hw, rfl⟩ | ⟨hw, rfl⟩, st⟩
  · have hb1 := hbW.trans (st.mono hbW.size)
    clear st hbW B1
    have HR : Hid (readOf hs ls = ((rdL hs).map (fun v => nth ls v.toNat), true)) := hid (by simp only [readOf]; rw [if_pos hw])
    have hnm : n = m := by have := (walkB_iff.1 hw).2.1; rw [HL.out, HL'.out] at this; exact this
    subst hnm
    have HW := hid (walkB_iff.1 hw)
    obtain ⟨h8, hbd⟩ := hgt_of HW.out.1 HL.out
    have C1 := boxAt_new w1 (.slice a n cap) (.slice b n cap') 64
    have hb2 := hb1.alloc hb1.size (.cells #[.slice a n cap, .slice b n cap'] 64)
    have g1 := h.below hb2 (Nat.le_refl _)
    have g2 := h'.below hb2 (Nat.le_refl _)
    have hsz : (w1.alloc (.cells #[.slice a n cap, .slice b n cap'] 64)).heap.size = w1.heap.size + 1 := by simp
    have hs1 := hb1.size
    clear hw
    have HBN : Hid (∀ i, i < n → 0 ≤ nth hs i ∧ nth hs i ≤ (n : Int)) := hid (fun i hi => by have := hbd i hi; omega)
    have HN : Hid (∀ k, k < n → ∃ c : Nat, nth (rdL hs) k = (c : Int) ∧ c < n) := hid (fun k hk => rdL_nth HL.out h8 HBN.out hk)
    have HCL := hid (length_rdL HL.out (by omega) HBN.out)
    clear hbd
    obtain ⟨x1, x2, x3, x4⟩ := id C1
    go_wp2_with fail
    generalize w1.alloc (.cells #[.slice a n cap, .slice b n cap'] 64) = V at *
    refine (indicesOf_any n _ (by omega)).mono ?_
    rintro e w2 ⟨a2, c2, rfl, own2, st⟩
    have hs2 := st.size
    replace C1 := C1.below st (boxAt_lt C1)
    have hb3 := hb2.trans (st.mono hb2.size)
    clear st x1 x2 x3 x4
    obtain ⟨x1, x2, x3, x4⟩ := id C1
    go_wp2_with fail
    refine (sortRd_any V.heap.size n a2 a c2 cap w1.heap.size hs w2 h8 HL.out HBN.out hs2 own2 (h.below hb3 (Nat.le_refl _)) (fun hn => (h.lt hn).mono (by omega)) x1 (by omega)).mono ?_
    rintro e w3 ⟨rfl, own3, st⟩
    have hs3 := st.size
    replace C1 := C1.below st (by omega)
    have hb4 := hb3.trans (st.mono (by omega))
    clear st own2 hb3 x1 x2 x3 x4
    obtain ⟨x1, x2, x3, x4⟩ := id C1
    go_wp2_with (at_make; refine wpList_make_ints _ rfl _ _ rfl n rfl rfl (by omega) ?_; intro a4 c4 w4 own4 st4)
    have lt3 := own3.lt
    replace C1 := C1.below st4 (by omega)
    replace own3 := own3.below st4 (Nat.le_refl _)
    have hb5 := hb4.trans (st4.mono hb4.size)
    clear st4 hb4 x1 x2 x3 x4
    go_loopw [29] (fun i wr => ∃ (k : Nat) (ys : List Int), k ≤ n ∧ i = .int .i64 k ∧ Own wr w3.heap.size a4 n c4 ys ∧ Hid (RdAt ls (rdL hs) ys k) ∧ Own wr V.heap.size a2 n c2 (rdL hs) ∧ BoxAt wr w1.heap.size (.slice a n cap) (.slice b n cap') ∧ Below w.heap.size w wr) (fun i _ => n - (intOf i).toNat)
    case atStart => exact ⟨0, _, Nat.zero_le _, rfl, own4, hid (fun i hi => by omega), own3, C1, hb5⟩
    case round =>
      obtain ⟨k, ys, hk, rfl, oh, HH, oc, CX, hb⟩ := hrel
      clear own3 own4 hb5 C1
      by_cases hlt : k < n
      · obtain ⟨b1, off1, rfl, hbb1, hc1⟩ := h'.2.2.2.2 (by omega)
        obtain ⟨c, hcv, hcn⟩ := HN.out k hlt
        have hck : wr.cell? ⟨b1, off1 + c, none⟩ = some (.int .i64 (nth ls c)) := by rw [hb.cell (p := ⟨b1, off1 + c, none⟩) hbb1]; exact hc1 c hcn
        obtain ⟨q, rfl, hq1, hq2, hq3, hq4⟩ := oc.opened (by omega)
        have hqk := hq3 k hlt
        rw [hcv] at hqk
        obtain ⟨g, rfl, hg1, hg2, hg3, hg4⟩ := oh.opened (by omega)
        have hgx := hg3 k hlt
        have hgf := hg4 k
        have HH2 := hid (rda_step HH.out oh.len hlt hcv)
        obtain ⟨s1, s2⟩ := oh.set k (nth ls c)
        have oc2 := oc.setNe (g := g) (i := k) (lt3.ne hg1) (.int .i64 (nth ls c))
        have CX2 := CX.apart (g' := g) (i := k) (z := .int .i64 (nth ls c)) (by omega)
        have hb6 := hb.setCell (p := ⟨g, k, none⟩) (by simp; omega) (.int .i64 (nth ls c))
        have z1 : (c : Int) < (n : Int) := by omega
        obtain ⟨y1, y2, y3, y4⟩ := id CX
        clear hc1 hq3 hq4 hg3 hg4
        go_wp2_with fail
        go_roundw
        case rel => exact ⟨k + 1, _, by omega, by go_num, s1, HH2, oc2, CX2, hb6⟩
        case measure => simp [intOf]; omega
      · obtain rfl : k = n := by omega
        have HE := hid (rda_all HH.out oh.len HCL.out)
        go_wp2_with fail
        go_ret2
        exact postInts (HR.out.trans (by rw [HE.out])) (oh.mono (by omega)) hb
  · have hb1 := hbW.trans (st.mono hbW.size)
    clear st hbW B1
    have HR : Hid (readOf hs ls = ([], false)) := hid (by simp only [readOf]; rw [if_neg (by rw [hw]; decide)])
    go_wp2_with fail
    go_ret2
    exact postInts_no HR.out (hb1.alloc hb1.size _)

set_option maxHeartbeats 4000000 in
theorem specReading_any (a b : Option Addr) (n cap m cap' : Nat) (hs ls : List Int) (w : World) (h : Has w a n cap hs) (h' : Has w b m cap' ls) :
    Calls Try.prog 30 #[.agg #[.slice a n cap, .slice b m cap']] w (PostInts w (readOf hs ls)) := by
  have HL := hid h.len
  have HL' := hid h'.len
  have hle := h.le
  have hle' := h'.le
  go_enter Try.func30, Try.ntmps30
  go_wp2_with fail
  generalize hW : w.alloc (.cells #[.slice a n cap, .slice b m cap'] 27) = W
  have hbW : Below w.heap.size w W := by rw [← hW]; exact (Below.refl _ w).alloc (Nat.le_refl _) _
  have B1 : BoxAt W w.heap.size (.slice a n cap) (.slice b m cap') := by rw [← hW]; exact boxAt_new _ _ _ _
  clear hW
  refine (waGood_any _ _ _ _ _ _ _ _ _ (h.below hbW (Nat.le_refl _)) (h'.below hbW (Nat.le_refl _))).mono ?_
  rintro e w1 ⟨rfl, st⟩
  replace B1 := B1.below st (boxAt_lt B1)
  have hb1 := hbW.trans (st.mono hbW.size)
  clear st hbW
  have g1 := h.below hb1 (Nat.le_refl _)
  have g2 := h'.below hb1 (Nat.le_refl _)
  obtain ⟨x1, x2, x3, x4⟩ := id B1
  by_cases hw : walkB hs ls = true
  · rw [hw]
    have HR : Hid (readOf hs ls = ((rdL hs).map (fun v => nth ls v.toNat), true)) := hid (by simp only [readOf]; rw [if_pos hw])
    have hnm : n = m := by have := (walkB_iff.1 hw).2.1; rw [HL.out, HL'.out] at this; exact this
    subst hnm
    have HW := hid (walkB_iff.1 hw)
    obtain ⟨h8, hbd⟩ := hgt_of HW.out.1 HL.out
    clear hw
    have HBN : Hid (∀ i, i < n → 0 ≤ nth hs i ∧ nth hs i ≤ (n : Int)) := hid (fun i hi => by have := hbd i hi; omega)
    have hlB := boxAt_lt B1
    have hs1 := hb1.size
    clear hbd
    go_wp2_with fail
    go_loopw [4, 5] (fun o hv wr => ∃ (t q : Nat) (a' : Option Addr) (cq : Nat), t ≤ n + 1 ∧ q ≤ 8 * t ∧ hv = .int .i64 ((n : Int) - (t : Int)) ∧ o = .slice a' q cq ∧ Own wr w1.heap.size a' q cq ((rdTo hs n t).map (fun v => nth ls v.toNat)) ∧ BoxAt wr w.heap.size (.slice a n cap) (.slice b n cap') ∧ w1.heap.size ≤ wr.heap.size ∧ Below w.heap.size w wr) (fun _ hv _ => (intOf hv + 1).toNat)
    case atStart => exact ⟨0, 0, none, 0, by omega, by omega, by go_num, rfl, Own.nil _ _, B1, Nat.le_refl _, hb1⟩
    case round =>
      obtain ⟨wo, rfl⟩ : ∃ wo : World, wo = wr := ⟨_, rfl⟩
      obtain ⟨t, q, a', cq, ht, hq, rfl, rfl, hown, BX, hsz, hb⟩ := hrel
      clear B1 x1 x2 x3 x4
      by_cases hlt : t ≤ n
      · obtain ⟨hh, hhv⟩ : ∃ hh : Nat, (n : Int) - (t : Int) = (hh : Int) := ⟨n - t, by omega⟩
        have HHV := hid hhv
        have hh8 : hh ≤ 8 := by omega
        rw [hhv]
        clear hhv
        obtain ⟨x1, x2, x3, x4⟩ := id BX
        go_wp2_with fail
        clear x1 x2 x3 x4
        go_loopw [4, 6] (fun o iv wr => ∃ (c q : Nat) (a' : Option Addr) (cq : Nat), c ≤ n ∧ q ≤ 8 * t + c ∧ iv = .int .i64 ((n : Int) - 1 - (c : Int)) ∧ o = .slice a' q cq ∧ Own wr w1.heap.size a' q cq ((rdTo hs n t ++ dnTo (fun i => decide (nth hs i = (n : Int) - (t : Int))) n c).map (fun v => nth ls v.toNat)) ∧ BoxAt wr w.heap.size (.slice a n cap) (.slice b n cap') ∧ w1.heap.size ≤ wr.heap.size ∧ Below w.heap.size w wr) (fun _ iv _ => (intOf iv + 1).toNat)
        case atStart => exact ⟨0, q, a', cq, by omega, by omega, by go_num, rfl, by simpa [dnTo] using hown, BX, hsz, hb⟩
        case round =>
          obtain ⟨c, q1, a1, cq1, hc, hq1, rfl, rfl, hown1, BX1, hsz1, hb1'⟩ := hrel
          clear hown BX hsz hb
          by_cases hlc : c < n
          · obtain ⟨j, hj⟩ : ∃ j : Nat, (n : Int) - 1 - (c : Int) = (j : Int) := ⟨n - 1 - c, by omega⟩
            have HJ : Hid (n - 1 - c = j) := hid (by omega)
            have hjn : j < n := by omega
            rw [hj]
            have HJI := hid hj
            have HJC : Hid ((j : Int) - 1 = (n : Int) - 1 - ((c + 1 : Nat) : Int)) := hid (by omega)
            clear hj
            obtain ⟨b1, off1, rfl, hbb1, hc1⟩ := h.2.2.2.2 (by omega)
            obtain ⟨b2, off2, rfl, hbb2, hc2⟩ := h'.2.2.2.2 (by omega)
            have hck1 : wr.cell? ⟨b1, off1 + j, none⟩ = some (.int .i64 (nth hs j)) := by rw [hb1'.cell (p := ⟨b1, off1 + j, none⟩) hbb1]; exact hc1 j hjn
            have hck2 : wr.cell? ⟨b2, off2 + j, none⟩ = some (.int .i64 (nth ls j)) := by rw [hb1'.cell (p := ⟨b2, off2 + j, none⟩) hbb2]; exact hc2 j hjn
            obtain ⟨x1, x2, x3, x4⟩ := id BX1
            clear hc1 hc2
            by_cases he : nth hs j = (hh : Int)
            · have hbe : (nth hs j == (hh : Int)) = true := by simp [he]
              have HS : Hid ((rdTo hs n t ++ dnTo (fun i => decide (nth hs i = (n : Int) - (t : Int))) n (c + 1)).map (fun v => nth ls v.toNat) = (rdTo hs n t ++ dnTo (fun i => decide (nth hs i = (n : Int) - (t : Int))) n c).map (fun v => nth ls v.toNat) ++ [nth ls j]) := hid (by
                simp only [dnTo, HJ.out]
                rw [if_pos (by rw [HHV.out]; simp [he]), ← List.append_assoc, List.map_append (l₂ := [_])]
                simp)
              clear he
              go_wp2_with (at_builtin; refine wpList_append_int _ rfl _ _ rfl w1.heap.size _ _ _ _ _ rfl rfl hown1 (by omega) hsz1 ?_; intro a3 c3 w3 hown3 hb3)
              go_roundw
              case rel => exact ⟨c + 1, q1 + 1, a3, c3, by omega, by omega, by rw [← HJC.out], rfl, by rw [HS.out]; exact hown3, BX1.below hb3 hlB, Nat.le_trans hsz1 hb3.size, hb1'.trans (hb3.mono hs1)⟩
              case measure => simp [intOf]
            · have hbe : (nth hs j == (hh : Int)) = false := by simp [he]
              have HS : Hid ((rdTo hs n t ++ dnTo (fun i => decide (nth hs i = (n : Int) - (t : Int))) n (c + 1)) = (rdTo hs n t ++ dnTo (fun i => decide (nth hs i = (n : Int) - (t : Int))) n c)) := hid (by
                simp only [dnTo, HJ.out]
                rw [if_neg (by rw [HHV.out]; simp [he]), List.append_nil])
              clear he
              go_wp2_with fail
              go_roundw
              case rel => exact ⟨c + 1, q1, a1, cq1, by omega, by omega, by rw [← HJC.out], rfl, by rw [HS.out]; exact hown1, BX1, hsz1, hb1'⟩
              case measure => simp [intOf]
          · have hcn : Hid (c = n) := hid (by omega)
            have hz : ¬ (0 : Int) ≤ (n : Int) - 1 - (c : Int) := by omega
            have HRD : Hid (rdTo hs n (t + 1) = rdTo hs n t ++ dnTo (fun i => decide (nth hs i = (n : Int) - (t : Int))) n c) := hid (by rw [hcn.out]; rfl)
            have HHC : Hid ((hh : Int) - 1 = (n : Int) - ((t + 1 : Nat) : Int)) := hid (by have := HHV.out; omega)
            have hqt : q1 ≤ 8 * (t + 1) := by omega
            clear hcn
            go_wp2_with fail
            go_roundw
            case rel => exact ⟨t + 1, q1, a1, cq1, by omega, hqt, by rw [← HHC.out], rfl, by rw [HRD.out]; exact hown1, BX1, hsz1, hb1'⟩
            case measure => simp [intOf]
      · have hte : t = n + 1 := by omega
        have HRL : Hid ((rdTo hs n t).map (fun v => nth ls v.toNat) = (rdL hs).map (fun v => nth ls v.toNat)) := hid (by unfold rdL; rw [HL.out, hte])
        have hz : ¬ (0 : Int) ≤ (n : Int) - (t : Int) := by omega
        clear hte
        go_wp2_with fail
        go_ret2
        exact postInts (HR.out.trans (by rw [← HRL.out])) (hown.mono hs1) hb
  · rw [Bool.eq_false_iff.2 hw]
    have HR : Hid (readOf hs ls = ([], false)) := hid (by simp only [readOf]; rw [if_neg hw])
    go_wp2_with fail
    go_ret2
    exact postInts_no HR.out hb1
end Go.Proofs.Ytakadjhbomggbaa

namespace Go.Proofs.Ytakadjhbomggbaa
open Go.RowKit

/-- The first difference decides. -/
def lexLess : List Int → List Int → Bool
  | x :: xs, y :: ys => if x = y then lexLess xs ys else decide (x < y)
  | _, _ => false

theorem mem_upFrom : ∀ (k : Nat) (l x : Int), x ∈ upFrom l k ↔ l ≤ x ∧ x < l + k
  | 0, l, x => by simp only [upFrom, List.not_mem_nil, false_iff]; omega
  | k + 1, l, x => by simp only [upFrom, List.mem_cons, mem_upFrom k]; omega

theorem lex_mem : ∀ (ls hs L : List Int), ls.length = hs.length → L ∈ lex ls hs → L.length = ls.length ∧ ∀ i, i < ls.length → nth ls i ≤ nth L i ∧ nth L i ≤ nth hs i
  | [], [], L, _, h => by
    simp [lex] at h
    subst h
    exact ⟨rfl, fun i hi => by simp at hi⟩
  | l :: ls, h :: hs, L, hl, hm => by
    rw [lex] at hm
    obtain ⟨x, hx, hL⟩ := List.mem_flatMap.1 hm
    obtain ⟨M, hM, rfl⟩ := List.mem_map.1 hL
    obtain ⟨h1, h2⟩ := lex_mem ls hs M (by simpa using hl) hM
    rw [mem_upFrom] at hx
    unfold span at hx
    refine ⟨by simp [h1], fun i hi => ?_⟩
    cases i with
    | zero => simp only [nth_cons_zero]; omega
    | succ i => simp only [nth_cons_succ]; exact h2 i (by simpa using hi)

theorem lex_pairwise : ∀ (ls hs : List Int), (lex ls hs).Pairwise (fun a b => lexLess a b = true)
  | l :: ls, h :: hs => by
    have ih := lex_pairwise ls hs
    have key : ∀ (k : Nat) (x : Int), ((upFrom x k).flatMap fun x => (lex ls hs).map (x :: ·)).Pairwise (fun a b => lexLess a b = true) := by
      intro k
      induction k with
      | zero => intro x; simp [upFrom]
      | succ k ihk =>
        intro x
        simp only [upFrom, List.flatMap_cons]
        rw [List.pairwise_append]
        refine ⟨?_, ihk _, fun a ha b hb => ?_⟩
        · rw [List.pairwise_map]
          exact ih.imp fun h => by simp [lexLess, h]
        · obtain ⟨M, _, rfl⟩ := List.mem_map.1 ha
          obtain ⟨y, hy, hb⟩ := List.mem_flatMap.1 hb
          obtain ⟨M', _, rfl⟩ := List.mem_map.1 hb
          rw [mem_upFrom] at hy
          simp only [lexLess]
          rw [if_neg (by omega)]
          simp
          omega
    rw [lex]
    exact key _ _
  | [], _ => by simp [lex]
  | _ :: _, [] => by simp [lex]

theorem lex_last : ∀ (ls hs : List Int), ls.length = hs.length → (∀ i, i < ls.length → nth ls i ≤ nth hs i) → ∃ M, lex ls hs = M ++ [hs]
  | [], [], _, _ => ⟨[], by simp [lex]⟩
  | l :: ls, h :: hs, hl, hle => by
    obtain ⟨M, hM⟩ := lex_last ls hs (by simpa using hl) (fun i hi => by have := hle (i + 1) (by simpa using hi); simpa only [nth_cons_succ] using this)
    have h0 := hle 0 (by simp)
    simp only [nth_cons_zero] at h0
    have e : span l h = (h - l).toNat + 1 := by unfold span; omega
    have e2 : l + ((h - l).toNat : Int) = h := by omega
    rw [lex, e, upFrom_snoc, e2, List.flatMap_append, hM]
    exact ⟨((upFrom l (h - l).toNat).flatMap fun x => (M ++ [hs]).map (x :: ·)) ++ M.map (h :: ·), by simp⟩

theorem down_mem (t : List Int) : ∀ (x z : Nat), down t x ≤ z → z < x → (z : Int) ∈ t
  | 0, _, _, h => absurd h (by omega)
  | x + 1, z, h1, h2 => by
    by_cases hm : (x : Int) ∈ t
    · rw [down_step hm] at h1
      by_cases e : z = x
      · subst e; exact hm
      · exact down_mem t x z h1 (by omega)
    · rw [down_stop hm] at h1
      omega

/-- A list between the least favourites and the outcome drives to it. -/
theorem drive_out {xs L : List Int} (ho : outB xs = true) (hl : L.length = xs.length) (h : ∀ i, i < xs.length → leastOf xs i ≤ nth L i ∧ nth L i ≤ nth xs i) : ∀ k, k ≤ xs.length → drive xs.length (L.take k) = xs.take k
  | 0, _ => rfl
  | k + 1, hk => by
    have ih := drive_out ho hl h k (by omega)
    have hb := out_nth ho (i := k) (by omega)
    have h2 := h k (by omega)
    have h3 := leastOf_bounds hb.1
    rw [drive_succ (by omega), ih, take_succ_nth (by omega)]
    congr 2
    refine place_is h2.2 hb.2 (fun hm => by have := (out_before ho (i := k) (j := k) (by omega) (by omega)).1 hm; omega) (fun z h4 h5 => ?_)
    have := down_mem (xs.take k) (nth xs k).toNat z.toNat (by unfold leastOf at h2; omega) (by omega)
    rwa [Int.toNat_of_nonneg (by omega)] at this

/-- What each of all lists with an outcome is. -/
theorem outcome_list {xs L : List Int} (ho : outB xs = true) (h : L ∈ lex (leasts xs) xs) : L.length = xs.length ∧ drive xs.length L = xs ∧ ∀ x ∈ L, 0 ≤ x ∧ x ≤ (xs.length : Int) - 1 := by
  obtain ⟨h1, h2⟩ := lex_mem _ _ _ (length_leasts xs) h
  rw [length_leasts] at h1 h2
  have hb : ∀ i, i < xs.length → leastOf xs i ≤ nth L i ∧ nth L i ≤ nth xs i := fun i hi => by have := h2 i hi; rwa [nth_leasts hi] at this
  have hd := drive_out ho h1 hb xs.length (Nat.le_refl _)
  rw [List.take_length, List.take_of_length_le (by omega)] at hd
  refine ⟨h1, hd, fun x hx => ?_⟩
  obtain ⟨i, hi, rfl⟩ := mem_nth hx
  have h3 := hb i (by omega)
  have h4 := out_nth ho (i := i) (by omega)
  have h5 := leastOf_bounds h4.1
  omega
theorem outcome_drives {xs L : List Int} (ho : outB xs = true) (hn : 0 < xs.length) (h : L ∈ lex (leasts xs) xs) : driveCars L (L.length : Int) = (xs, true) := by
  obtain ⟨h1, h2, h3⟩ := outcome_list ho h
  have h8 := out_le ho
  have hg : good L (L.length : Int) = true := good_iff.2 ⟨by omega, by omega, fun x hx => by have := h3 x hx; omega⟩
  have ha : allPark (L.length : Int) L = true := allPark_iff.2 (by
    rw [h1, h2]
    intro hm
    obtain ⟨i, hi, e⟩ := mem_nth hm
    have := out_nth ho hi
    omega)
  unfold driveCars
  rw [if_pos (by rw [hg, ha]; rfl), h1, h2]

theorem leasts_le {xs : List Int} (ho : outB xs = true) : ∀ i, i < (leasts xs).length → nth (leasts xs) i ≤ nth xs i := fun i hi => by
  rw [length_leasts] at hi
  rw [nth_leasts hi]
  exact (leastOf_bounds (out_nth ho hi).1).2
theorem outcomes_last {xs : List Int} (ho : outB xs = true) : ∃ M, lex (leasts xs) xs = M ++ [xs] := lex_last _ _ (length_leasts xs) (leasts_le ho)
theorem outcomes_count {xs : List Int} (ho : outB xs = true) : (((lex (leasts xs) xs).length : Nat) : Int) = prodTo xs xs.length := by
  have := length_lex xs ho xs.length (Nat.le_refl _)
  simpa [prodTo] using this

theorem lexLess_at : ∀ (k : Nat) (xs ys : List Int), k < xs.length → xs.length = ys.length → (∀ i, i < k → nth xs i = nth ys i) → nth xs k ≠ nth ys k → lexLess xs ys = decide (nth xs k < nth ys k)
  | 0, x :: xs, y :: ys, _, _, _, h => by
    simp only [nth_cons_zero] at h ⊢
    simp [lexLess, h]
  | k + 1, x :: xs, y :: ys, hk, hl, hh, h => by
    have h0 := hh 0 (by omega)
    simp only [nth_cons_zero, nth_cons_succ] at h h0 ⊢
    simp only [lexLess, if_pos h0]
    exact lexLess_at k xs ys (by simpa using hk) (by simpa using hl) (fun i hi => by have := hh (i + 1) (by omega); simpa only [nth_cons_succ] using this) h
  | _, [], _, hk, _, _, _ => by simp at hk
  | _, _ :: _, [], _, hl, _, _ => by simp at hl
theorem lexLess_same : ∀ (xs : List Int), lexLess xs xs = false
  | [] => rfl
  | x :: xs => by simp [lexLess, lexLess_same xs]
end Go.Proofs.Ytakadjhbomggbaa

namespace Go.Proofs.Ytakadjhbomggbaa
open Go.RowKit

set_option maxHeartbeats 800000 in
theorem wRows_any (a b : Option Addr) (n m cap cap' : Nat) (rs ss : List Rw) (w : World) (h : HasR w a n cap rs) (h' : HasR w b m cap' ss) :
    Calls Try.prog 31 #[.slice a n cap, .slice b m cap'] w fun e w' => e = .returned (.bool (sameR rs ss)) ∧ Quiet w w' := by
  obtain ⟨h0, h1, h2, h3, h4, h5⟩ := h
  obtain ⟨k0, k1, k2, k3, k4, k5⟩ := h'
  by_cases hnm : n = m
  · have hb : ((n : Int) != (m : Int)) = false := by simp [hnm]
    subst hnm
    have HL := hid h0
    have HL' := hid k0
    have H5 := hid h5
    have K5 := hid k5
    clear h0 k0 h5 k5
    go_enter Try.func31, Try.ntmps31
    go_wp2_with fail
    go_loopw [13] (fun i wr => ∃ k : Nat, k ≤ n ∧ i = .int .i64 k ∧ Hid (∀ j, j < k → same (nthR rs j).xs (nthR ss j).xs = true) ∧ Quiet w wr) (fun i _ => n - (intOf i).toNat)
    case atStart => exact ⟨0, Nat.zero_le _, rfl, hid (fun i hi => by omega), ⟨0, rfl⟩⟩
    case round =>
      obtain ⟨k, hk, rfl, HF, HQ⟩ := hrel
      by_cases hlt : k < n
      · obtain ⟨b1, off1, rfl, hb1, hc1⟩ := h4 (by omega)
        obtain ⟨b2, off2, rfl, hb2, hc2⟩ := k4 (by omega)
        have hck : wr.cell? ⟨b1, off1 + k, none⟩ = some (nthR rs k).v := by obtain ⟨q, hq⟩ := HQ; rw [hq]; exact hc1 k hlt
        have hdk : wr.cell? ⟨b2, off2 + k, none⟩ = some (nthR ss k).v := by obtain ⟨q, hq⟩ := HQ; rw [hq]; exact hc2 k hlt
        have hkk : (k : Int) < (n : Int) := by omega
        have hkz : (0 : Int) ≤ (k : Int) := by omega
        have cq : ∀ j, Calls Try.prog 17 #[(nthR rs k).v, (nthR ss k).v] (wr.drewN j) fun e w' => e = .returned (.bool (same (nthR rs k).xs (nthR ss k).xs)) ∧ ∃ m, w' = (wr.drewN j).drewN m := fun j =>
          wSame_any _ _ _ _ _ _ _ _ _ (by obtain ⟨q, hq⟩ := HQ; rw [hq]; exact H5.out k hlt) (by obtain ⟨q, hq⟩ := HQ; rw [hq]; exact K5.out k hlt)
        clear hc1 hc2 h4 k4
        have HN := hid (sameR_no (rs := rs) (ss := ss) (k := k) (by rw [HL.out]; omega) (by rw [HL'.out]; omega))
        have HF2 := hid (fun (hh : same (nthR rs k).xs (nthR ss k).xs = true) (j : Nat) (hj : j < k + 1) => (show same (nthR rs j).xs (nthR ss j).xs = true from by rcases Nat.lt_succ_iff_lt_or_eq.1 hj with h1 | rfl; exact HF.out j h1; exact hh))
        generalize nthR rs k = rk at *
        generalize nthR ss k = sk at *
        by_cases he : same rk.xs sk.xs = true
        · have HE := hid he
          rw [he] at cq
          have CQ := hid cq
          clear he cq
          go_wp2_with fail
          go_quiet ((go_at_call 17; exact Calls.quiet_of (CQ.out _)))
          go_wp2_with fail
          go_roundw
          case rel => exact ⟨k + 1, by omega, by go_num, hid (HF2.out HE.out), Quiet.more HQ _⟩
          case measure => simp [intOf]; omega
        · have he' := Bool.eq_false_iff.2 he
          have HE := hid he'
          rw [he'] at cq
          have CQ := hid cq
          clear he he' cq
          go_wp2_with fail
          go_quiet ((go_at_call 17; exact Calls.quiet_of (CQ.out _)))
          go_wp2_with fail
          go_ret
          exact ⟨ret_bool (HN.out HE.out).symm, Quiet.more HQ _⟩
      · obtain rfl : k = n := by omega
        go_wp2_with fail
        go_ret
        exact ⟨ret_bool (sameR_yes (by rw [HL.out, HL'.out]) (by rw [HL.out]; exact HF.out)).symm, HQ⟩
  · have hb : ((n : Int) != (m : Int)) = true := by simp; omega
    have HR : Hid (sameR rs ss = false) := hid (by
      unfold sameR; rw [decide_eq_false_iff_not]
      intro e
      have : (numsOf rs).length = (numsOf ss).length := by rw [e]
      simp [numsOf] at this
      omega)
    go_enter Try.func31, Try.ntmps31
    go_wp2_with fail
    go_ret
    exact ⟨ret_bool HR.out.symm, ⟨0, rfl⟩⟩


end Go.Proofs.Ytakadjhbomggbaa

namespace Go.Proofs.Ytakadjhbomggbaa
open Go.RowKit

set_option maxHeartbeats 400000 in
theorem wPlace_any (a : Option Addr) (n cap : Nat) (xs : List Int) (y : Int) (w : World) (h : Has w a n cap xs) :
    Calls Try.prog 32 #[.slice a n cap, .int .i64 y] w fun e w' => e = .returned (.int .i64 (plW xs y)) ∧ w' = w := by
  obtain ⟨h0, h1, h2, h3, h4⟩ := h
  go_enter Try.func32, Try.ntmps32
  go_wp2_with fail
  go_loop [9] (fun i => ∃ k : Nat, k ≤ n ∧ i = .int .i64 k ∧ Hid (∀ i, i < k → nth xs i ≠ y)) (fun i => n - (intOf i).toNat)
  case atStart => exact ⟨0, Nat.zero_le _, rfl, hid (fun i hi => by omega)⟩
  case round =>
    obtain ⟨k, hk, rfl, HR⟩ := hrel
    by_cases hlt : k < n
    · obtain ⟨b, off, rfl, hb, hc⟩ := h4 (by omega)
      have hck := hc k hlt
      clear hc h4
      by_cases he : nth xs k = y
      · have hbe : (nth xs k == y) = true := by simp [he]
        have HE := hid he
        clear he
        go_wp2_with fail
        go_ret
        exact ⟨ret_int (plW_at (by omega) HE.out HR.out).symm, rfl⟩
      · have hbe : (nth xs k == y) = false := by simp [he]
        have HE := hid he
        clear he
        go_wp2_with fail
        go_round
        case rel => exact ⟨k + 1, by omega, by go_num, hid (fun i hi => by rcases Nat.lt_succ_iff_lt_or_eq.1 hi with h | rfl; exact HR.out i h; exact HE.out)⟩
        case measure => simp [intOf]; omega
    · go_wp2_with fail
      go_ret
      exact ⟨ret_int (plW_none (fun i hi => HR.out i (by omega))).symm, rfl⟩
/-- What the functions of the law come to. -/
theorem wpairs_facts (hs ls : List Int) : ∃ ps rs ok, pairsOfW hs ls = (ps, ok) ∧ (∃ c, pairCountOf hs ls = (c, ok) ∧ (ok = true → c = (ps.length : Int))) ∧ readOf hs ls = (rs, ok) ∧ (ok = true → rs.length = ls.length ∧ hs.length = ls.length ∧ hs.length ≤ 8 ∧
    ∀ r ∈ ps, ∃ i j : Nat, r = [(i : Int), (j : Int)] ∧ i < j ∧ j < ls.length ∧ ∃ p q : Nat, q ≤ p ∧ 0 ≤ nth hs j ∧ nth hs j ≤ 8 ∧
      ((nth hs i = nth hs j ∧ nth ls i < nth ls j ∧ plW rs (nth ls i) = (p : Int) ∧ plW rs (nth ls j) = (q : Int)) ∨ (nth hs i = nth hs j + 1 ∧ nth ls j < nth ls i ∧ plW rs (nth ls j) = (p : Int) ∧ plW rs (nth ls i) = (q : Int)))) := by
  by_cases h : walkB hs ls = true
  · obtain ⟨hg, hll, -, -⟩ := walkB_iff.1 h
    obtain ⟨h8, hb⟩ := hgt_of hg rfl
    refine ⟨pairsL hs ls, (rdL hs).map fun v => nth ls v.toNat, true, by simp [pairsOfW, h], ⟨_, by simp only [pairCountOf, h, if_true], fun _ => rfl⟩, by simp [readOf, h], fun _ => ⟨?_, hll, h8, fun r hr => ?_⟩⟩
    · rw [List.length_map, length_rdL rfl (by omega) (fun i hi => by have := hb i hi; omega), hll]
    · obtain ⟨i, j, e, h1, h2, p, q, h3, h4⟩ := pair_facts h rfl hr
      have := hb j h2
      exact ⟨i, j, e, h1, by omega, p, q, h3, by omega, by omega, h4⟩
  · exact ⟨[], [], false, by simp [pairsOfW, h], ⟨0, by simp [pairCountOf, h], fun hx => by cases hx⟩, by simp [readOf, h], fun hx => by cases hx⟩
theorem wp_row {w : World} {b off q cap : Nat} {ps : List (List Int)} {rs : List Rw} (R : HasR w (some ⟨b, off, none⟩) q cap rs) (hn : numsOf rs = ps) {k : Nat} (hk : k < q) :
    ∃ ak mk ck r, w.cell? ⟨b, off + k, none⟩ = some (.slice ak mk ck) ∧ Has w ak mk ck r ∧ r ∈ ps := by
  obtain ⟨r0, r1, r2, r3, r4, r5⟩ := R
  obtain ⟨b', off', e, _, hc⟩ := r4 (by omega)
  simp at e
  obtain ⟨rfl, rfl⟩ := e
  have h3 := hc k hk
  have h4 := r5 k hk
  unfold Rw.v at h3
  have h1 : (numsOf rs)[k]? = some (nthR rs k).xs := map_nthR Rw.xs (by omega)
  exact ⟨_, _, _, _, h3, h4, by rw [← hn]; exact List.mem_of_getElem? h1⟩

set_option maxRecDepth 100000 in
set_option maxHeartbeats 32000000 in
theorem wpairs_walk (a b : Option Addr) (n m cap cap' : Nat) (w : World) (hn : n ≤ maxLen) (h : n ≤ 1048576 → HasB w a n w.heap.size) (h' : m ≤ 1048576 → HasB w b m w.heap.size) :
    Calls Try.prog 4 #[.slice a n cap, .slice b m cap'] w (Holds w) := by
  have H1 := hid h
  have H2 := hid h'
  have HN := hid hn
  clear h h' hn
  have hB : Below w.heap.size w w := Below.refl _ _
  go_enter Try.func4, Try.ntmps4
  go_wp2_with fail
  refine (big_any _ _ _ _ _ _ _ (by have := HN.out; unfold maxLen at this; omega)).mono ?_
  rintro e _ ⟨r, rfl, hr, rfl⟩
  have HR := hid hr
  clear hr
  cases r with
  | true =>
    go_wp2_with fail
    go_ret
    exact ⟨rfl, hB⟩
  | false =>
    have hnm := HR.out rfl
    clear HR
    have HA := hid (H1.out (by omega))
    have HM := hid (H2.out (by omega))
    clear H1 H2 HN
    go_wp2_with fail
    refine (drawWPairsOf_any _ _ _ _ HA.out).mono ?_
    rintro e v1 ⟨a_w, n_w, c_w, b_w, m_w, d_w, rfl, hs, ls, o_wa, o_wb, ap_w, hn9, hm9, st⟩
    replace hB := hB.trans (st.mono hB.size)
    clear st
    have st : Below v1.heap.size v1 (v1.alloc (.cells #[.slice a_w n_w c_w, .slice b_w m_w d_w] 27)) := (Below.refl _ _).alloc (Nat.le_refl _) _
    have X_w : BoxAt (v1.alloc (.cells #[.slice a_w n_w c_w, .slice b_w m_w d_w] 27)) v1.heap.size (.slice a_w n_w c_w) (.slice b_w m_w d_w) := boxAt_new _ _ _ _
    go_wp2_with fail
    generalize v1.alloc (.cells #[.slice a_w n_w c_w, .slice b_w m_w d_w] 27) = v2 at *
    replace o_wa := o_wa.below st (Nat.le_refl _)
    replace o_wb := o_wb.below st (Nat.le_refl _)
    replace hB := hB.trans (st.mono hB.size)
    clear st
    obtain ⟨ps, rs, ok, f1, ⟨c, f2, f3⟩, f4, f5⟩ := wpairs_facts hs ls
    have HP := hid f1
    have HC := hid f2
    have HR := hid f4
    have HF := hid f5
    have HCE := hid f3
    have hok : (ok != ok) = false := by cases ok <;> rfl
    clear f1 f2 f3 f4 f5
    obtain ⟨X_w_1, X_w_2, X_w_3, X_w_4⟩ := id X_w
    go_wp2_with fail
    refine (implPairsW_any _ _ _ _ _ _ _ _ _ o_wa.has o_wb.has).mono ?_
    rw [HP.out]
    rintro e v3 ⟨a_g, n_g, c_g, gs, rfl, R_g, hng, st⟩
    clear X_w_1 X_w_2 X_w_3 X_w_4
    replace X_w := X_w.below st (boxAt_lt X_w)
    replace o_wa := o_wa.below st (Nat.le_refl _)
    replace o_wb := o_wb.below st (Nat.le_refl _)
    replace hB := hB.trans (st.mono hB.size)
    clear st
    obtain ⟨X_w_1, X_w_2, X_w_3, X_w_4⟩ := id X_w
    go_wp2_with fail
    refine (specPairsW_any _ _ _ _ _ _ _ _ _ o_wa.has o_wb.has).mono ?_
    rw [HP.out]
    rintro e v4 ⟨a_s, n_s, c_s, ss, rfl, R_s, hns, st⟩
    clear X_w_1 X_w_2 X_w_3 X_w_4
    replace X_w := X_w.below st (boxAt_lt X_w)
    replace o_wa := o_wa.below st (Nat.le_refl _)
    replace o_wb := o_wb.below st (Nat.le_refl _)
    replace R_g := R_g.below st (Nat.le_refl _)
    replace hB := hB.trans (st.mono hB.size)
    clear st
    have HRS : Hid (sameR gs ss = true) := hid (sameR_self' (hng.trans hns.symm))
    have HNG := hid hng
    clear hng hns
    obtain ⟨X_w_1, X_w_2, X_w_3, X_w_4⟩ := id X_w
    go_wp2_with fail
    refine (implPairCount_any _ _ _ _ _ _ _ _ _ o_wa.has o_wb.has).mono ?_
    rw [HC.out]
    rintro e v5 ⟨rfl, st⟩
    clear X_w_1 X_w_2 X_w_3 X_w_4
    replace X_w := X_w.below st (boxAt_lt X_w)
    replace o_wa := o_wa.below st (Nat.le_refl _)
    replace o_wb := o_wb.below st (Nat.le_refl _)
    replace R_g := R_g.below st (Nat.le_refl _)
    replace R_s := R_s.below st (Nat.le_refl _)
    replace hB := hB.trans (st.mono hB.size)
    clear st
    obtain ⟨X_w_1, X_w_2, X_w_3, X_w_4⟩ := id X_w
    go_wp2_with fail
    refine (implReading_any _ _ _ _ _ _ _ _ _ o_wa.has o_wb.has).mono ?_
    rw [HR.out]
    rintro e v6 ⟨a_r, n_r, c_r, rfl, o_r, st⟩
    clear X_w_1 X_w_2 X_w_3 X_w_4
    replace X_w := X_w.below st (boxAt_lt X_w)
    replace o_wa := o_wa.below st (Nat.le_refl _)
    replace o_wb := o_wb.below st (Nat.le_refl _)
    replace R_g := R_g.below st (Nat.le_refl _)
    replace R_s := R_s.below st (Nat.le_refl _)
    replace hB := hB.trans (st.mono hB.size)
    clear st
    obtain ⟨X_w_1, X_w_2, X_w_3, X_w_4⟩ := id X_w
    go_wp2_with fail
    refine (specReading_any _ _ _ _ _ _ _ _ _ o_wa.has o_wb.has).mono ?_
    rw [HR.out]
    rintro e v7 ⟨a_q, n_q, c_q, rfl, o_q, st⟩
    clear X_w_1 X_w_2 X_w_3 X_w_4
    replace X_w := X_w.below st (boxAt_lt X_w)
    replace o_wa := o_wa.below st (Nat.le_refl _)
    replace o_wb := o_wb.below st (Nat.le_refl _)
    replace o_r := o_r.below st (Nat.le_refl _)
    replace R_g := R_g.below st (Nat.le_refl _)
    replace R_s := R_s.below st (Nat.le_refl _)
    replace hB := hB.trans (st.mono hB.size)
    clear st
    obtain ⟨X_w_1, X_w_2, X_w_3, X_w_4⟩ := id X_w
    go_wp2_with fail
    refine (wRows_any _ _ _ _ _ _ _ _ _ R_g.has R_s.has).mono ?_
    rintro e v8 ⟨rfl, q⟩
    clear X_w_1 X_w_2 X_w_3 X_w_4
    have st : Below v7.heap.size v7 v8 := q.below _
    replace X_w := X_w.below st (boxAt_lt X_w)
    replace o_wa := o_wa.below st (Nat.le_refl _)
    replace o_wb := o_wb.below st (Nat.le_refl _)
    replace o_r := o_r.below st (Nat.le_refl _)
    replace o_q := o_q.below st (Nat.le_refl _)
    replace R_g := R_g.below st (Nat.le_refl _)
    replace R_s := R_s.below st (Nat.le_refl _)
    replace hB := hB.trans (st.mono hB.size)
    clear st
    clear q
    rw [HRS.out]
    clear HRS R_s
    obtain ⟨X_w_1, X_w_2, X_w_3, X_w_4⟩ := id X_w
    go_wp2_with fail
    refine (wSame_any _ _ _ _ _ _ _ _ _ o_r.has o_q.has).mono ?_
    rintro e v9 ⟨rfl, q⟩
    clear X_w_1 X_w_2 X_w_3 X_w_4
    have st : Below v8.heap.size v8 v9 := q.below _
    replace X_w := X_w.below st (boxAt_lt X_w)
    replace o_wa := o_wa.below st (Nat.le_refl _)
    replace o_wb := o_wb.below st (Nat.le_refl _)
    replace o_r := o_r.below st (Nat.le_refl _)
    replace o_q := o_q.below st (Nat.le_refl _)
    replace R_g := R_g.below st (Nat.le_refl _)
    replace hB := hB.trans (st.mono hB.size)
    clear st
    clear q
    rw [same_self]
    clear o_q
    cases ok
    · skip
      obtain ⟨X_w_1, X_w_2, X_w_3, X_w_4⟩ := id X_w
      go_wp2_with fail
      go_ret
      exact ⟨rfl, hB⟩
    · skip
      have hlg : ps.length = n_g := by rw [← HNG.out]; simpa [numsOf] using R_g.len
      obtain ⟨f1, f2, f3, f4⟩ := HF.out rfl
      have HQ := hid f4
      have hlr : rs.length = n_r := o_r.len
      have hla : hs.length = n_w := o_wa.len
      have hlb : ls.length = m_w := o_wb.len
      obtain rfl : n_w = m_w := by omega
      obtain rfl : n_w = n_r := by omega
      have hce : c = (n_g : Int) := by rw [HCE.out rfl, hlg]
      subst hce
      have hc1 := neq_self_int (n_g : Int)
      have hc2 := neq_self_int (n_w : Int)
      have hgb : n_g ≤ 2097152 := R_g.has.2.2.2.1
      have HLB := hid hlb
      clear f1 f2 f4 hlg hlr hla hlb
      obtain ⟨X_w_1, X_w_2, X_w_3, X_w_4⟩ := id X_w
      go_wp2_with fail
      go_loopw [100] (fun i wr => ∃ k : Nat, k ≤ n_g ∧ i = .int .i64 (k : Int) ∧ Quiet v9 wr) (fun i _ => n_g - (intOf i).toNat)
      case atStart => exact ⟨0, by omega, rfl, ⟨0, rfl⟩⟩
      case round =>
        clear X_w_1 X_w_2 X_w_3 X_w_4
        obtain ⟨k, hk, rfl, q0, hq0⟩ := hrel
        subst hq0
        by_cases hlt : k < n_g
        · skip
          obtain ⟨bg, offg, rfl, hbg, -⟩ := R_g.has.2.2.2.2.1 (by omega)
          obtain ⟨ak, mk, ck, r, hck, H_k, hm⟩ := wp_row R_g.has HNG.out (k := k) hlt
          obtain ⟨i, j, rfl, hij, hjn, p, q, hqp, y0, y8, hcase⟩ := HQ.out r hm
          have HCS := hid hcase
          rw [HLB.out] at hjn
          obtain rfl : mk = 2 := by have := H_k.len; simpa using this.symm
          clear hm hcase
          obtain ⟨b2, off2, rfl, hb2, hc2x⟩ := H_k.2.2.2.2 (by omega)
          have hp0 : v9.cell? ⟨b2, off2, none⟩ = some (.int .i64 (i : Int)) := hc2x 0 (by omega)
          have hp1 : v9.cell? ⟨b2, off2 + 1, none⟩ = some (.int .i64 (j : Int)) := hc2x 1 (by omega)
          obtain ⟨bh, oh, rfl, hbh, hch⟩ := o_wa.has.2.2.2.2 (by omega)
          have hhi := hch i (by omega)
          have hhj := hch j hjn
          obtain ⟨bl, ol, rfl, hbl, hcl⟩ := o_wb.has.2.2.2.2 (by omega)
          have hli := hcl i (by omega)
          have hlj := hcl j hjn
          have cp : ∀ z jj, Calls Try.prog 32 #[.slice a_r n_w c_r, .int .i64 z] (v9.drewN jj) fun e w' => e = .returned (.int .i64 (plW rs z)) ∧ w' = v9.drewN jj := fun z jj => wPlace_any _ _ _ _ _ _ (o_r.below (below_drewN (Below.refl v9.heap.size v9) jj) (Nat.le_refl _)).has
          have cpi := cp (nth ls i)
          have cpj := cp (nth ls j)
          clear hc2x hch hcl cp
          have hi2 : (i : Int) < (n_w : Int) := by omega
          have hj2 : (j : Int) < (n_w : Int) := by omega
          have hi0 : (0 : Int) ≤ (i : Int) := by omega
          have hj0 : (0 : Int) ≤ (j : Int) := by omega
          have hge : ¬ (j : Int) ≤ (i : Int) := by omega
          have hpq : ¬ (p : Int) < (q : Int) := by omega
          have hgb : decide ((j : Int) ≤ (i : Int)) = false := decide_eq_false hge
          have hpb : decide ((p : Int) < (q : Int)) = false := decide_eq_false hpq
          have hgn : ¬ j ≤ i := by omega
          have hgm : decide (j ≤ i) = false := decide_eq_false hgn
          rcases HCS.out with hx | hx
          · skip
            clear HCS
            have HCS := hid hx
            clear hx
            generalize nth ls i = li at *
            generalize nth ls j = lj at *
            generalize nth hs j = x at *
            generalize nth hs i = z at *
            obtain ⟨e1, e2, e3, e4⟩ := HCS.out
            subst e1
            rw [e3] at cpi
            rw [e4] at cpj
            have hne : (z == z + 1) = false := by rw [beq_eq_false_iff_ne]; omega
            have hw : IntKind.i64.wrap (z + 1) = z + 1 := by rw [IntKind.wrap_i64]; omega
            clear e3 e4
            have CPI := hid cpi
            have CPJ := hid cpj
            clear cpi cpj HCS
            obtain ⟨X_w_1, X_w_2, X_w_3, X_w_4⟩ := id X_w
            go_wp2_with fail
            go_quiet (fail)
            go_wp2_with fail
            go_quiet (fail)
            go_wp2_with fail
            go_quiet (fail)
            go_wp2_with fail
            have CPI2 : ∀ b x, Calls Try.prog 32 #[.slice a_r n_w c_r, .int .i64 li] (v9.drewN (b + x)) fun e w'' => e = .returned (.int .i64 (p : Int)) ∧ ∃ n, w'' = v9.drewN (b + n) := fun b x => (CPI.out (b + x)).mono (fun e w'' ⟨h1, h2⟩ => ⟨h1, x, h2⟩)
            have CPJ2 : ∀ b x, Calls Try.prog 32 #[.slice a_r n_w c_r, .int .i64 lj] (v9.drewN (b + x)) fun e w'' => e = .returned (.int .i64 (q : Int)) ∧ ∃ n, w'' = v9.drewN (b + n) := fun b x => (CPJ.out (b + x)).mono (fun e w'' ⟨h1, h2⟩ => ⟨h1, x, h2⟩)
            have CI := hid CPI2
            have CJ := hid CPJ2
            clear CPI CPJ CPI2 CPJ2
            go_quiet (first | (go_at_call_of 32 (Value.int .i64 li); exact CI.out _ _) | (go_at_call_of 32 (Value.int .i64 lj); exact CJ.out _ _))
            go_wp2_with fail
            go_roundw
            case rel => exact ⟨k + 1, by omega, by go_num, ⟨_, rfl⟩⟩
            case measure => simp [intOf]; omega
          · skip
            clear HCS
            have HCS := hid hx
            clear hx
            generalize nth ls i = li at *
            generalize nth ls j = lj at *
            generalize nth hs j = x at *
            generalize nth hs i = z at *
            obtain ⟨e1, e2, e3, e4⟩ := HCS.out
            subst e1
            rw [e4] at cpi
            rw [e3] at cpj
            have hne : (x + 1 == x) = false := by rw [beq_eq_false_iff_ne]; omega
            have hw : IntKind.i64.wrap (x + 1) = x + 1 := by rw [IntKind.wrap_i64]; omega
            clear e3 e4
            have CPI := hid cpi
            have CPJ := hid cpj
            clear cpi cpj HCS
            obtain ⟨X_w_1, X_w_2, X_w_3, X_w_4⟩ := id X_w
            go_wp2_with fail
            go_quiet (fail)
            go_wp2_with fail
            go_quiet (fail)
            go_wp2_with fail
            go_quiet (fail)
            go_wp2_with fail
            have CPI2 : ∀ b x, Calls Try.prog 32 #[.slice a_r n_w c_r, .int .i64 li] (v9.drewN (b + x)) fun e w'' => e = .returned (.int .i64 (q : Int)) ∧ ∃ n, w'' = v9.drewN (b + n) := fun b x => (CPI.out (b + x)).mono (fun e w'' ⟨h1, h2⟩ => ⟨h1, x, h2⟩)
            have CPJ2 : ∀ b x, Calls Try.prog 32 #[.slice a_r n_w c_r, .int .i64 lj] (v9.drewN (b + x)) fun e w'' => e = .returned (.int .i64 (p : Int)) ∧ ∃ n, w'' = v9.drewN (b + n) := fun b x => (CPJ.out (b + x)).mono (fun e w'' ⟨h1, h2⟩ => ⟨h1, x, h2⟩)
            have CI := hid CPI2
            have CJ := hid CPJ2
            clear CPI CPJ CPI2 CPJ2
            go_quiet (first | (go_at_call_of 32 (Value.int .i64 li); exact CI.out _ _) | (go_at_call_of 32 (Value.int .i64 lj); exact CJ.out _ _))
            go_wp2_with fail
            go_roundw
            case rel => exact ⟨k + 1, by omega, by go_num, ⟨_, rfl⟩⟩
            case measure => simp [intOf]; omega
        · skip
          obtain rfl : k = n_g := by omega
          obtain ⟨X_w_1, X_w_2, X_w_3, X_w_4⟩ := id X_w
          go_wp2_with fail
          go_ret
          exact ⟨rfl, hB.trans ((show Quiet v9 _ from ⟨_, rfl⟩).below _)⟩
end Go.Proofs.Ytakadjhbomggbaa

