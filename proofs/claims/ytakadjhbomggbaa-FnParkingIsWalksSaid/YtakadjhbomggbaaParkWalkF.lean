/- The law of parking functions and walks, walked. -/
import Derived.Test.YtakadjhbomggbaaLawKit
import Derived.Test.YtakadjhbomggbaaSpecS
import Derived.Test.YtakadjhbomggbaaMathT
import Derived.Deep.LoopGhost
import Derived.Test.YtakadjhbomggbaaSortF
import Derived.Test.YtakadjhbomggbaaMathSt
import Derived.Deep.AppendLies
import Derived.Test.YtakadjhbomggbaaSpecTv
import Derived.Test.YtakadjhbomggbaaMathUn
import Derived.Test.YtakadjhbomggbaaWkH
import Derived.Test.YtakadjhbomggbaaSpecB
import Derived.Test.YtakadjhbomggbaaImplC
import Derived.Deep.DeepCutAuto
import Derived.Test.YtakadjhbomggbaaMath1
import Derived.Test.YtakadjhbomggbaaMathX
import Derived.Test.YtakadjhbomggbaaMathL
import Derived.Test.YtakadjhbomggbaaMathP
import Derived.Test.YtakadjhbomggbaaMathSl
import Derived.Test.YtakadjhbomggbaaMathUp
import Derived.Test.YtakadjhbomggbaaMathR
import Derived.Test.YtakadjhbomggbaaMathH
import Derived.Test.YtakadjhbomggbaaHelp
import Derived.Test.YtakadjhbomggbaaSpecA
import Derived.Test.YtakadjhbomggbaaWlk
import Derived.Test.YtakadjhbomggbaaImplWk
import Derived.Test.YtakadjhbomggbaaSpecC
import Derived.Test.YtakadjhbomggbaaSpecD
import Derived.Test.YtakadjhbomggbaaSpecO
import Derived.Test.YtakadjhbomggbaaWkB
import Derived.Test.YtakadjhbomggbaaWkQ
namespace Go.Proofs.Ytakadjhbomggbaa
open Go.RowKit

/-- A slice of bytes below block K. -/
def HasB (w : World) (a : Option Addr) (n : Nat) (K : Nat) : Prop :=
  n ≤ 1099511627776 ∧ (0 < n → ∃ b off, a = some ⟨b, off, none⟩ ∧ b < K ∧ ∀ i, i < n → ∃ u : Int, 0 ≤ u ∧ u ≤ 255 ∧ w.cell? ⟨b, off + i, none⟩ = some (.int .u8 u))

/-- The cursor in block g, that has drawn t numbers. -/
structure Cur (w : World) (g t : Nat) : Prop where
  code : ∃ a n cap, w.cell? ⟨g, 0, none⟩ = some (.slice a n cap) ∧ HasB w a n g
  pos : w.cell? ⟨g, 1, none⟩ = some (.int .i64 t)
  seed : ∃ s : Int, 0 ≤ s ∧ s ≤ 18446744073709551615 ∧ w.cell? ⟨g, 2, none⟩ = some (.int .u64 s)
  free : ∀ i, w.frozen? ⟨g, i, none⟩ = false
  lt : g < w.heap.size

theorem Cur.below {w w' : World} {g t K : Nat} (h : Cur w g t) (hb : Below K w w') (hK : g < K) : Cur w' g t := by
  obtain ⟨⟨a, n, cap, h1, h2, h3⟩, h4, ⟨s, h5, h6, h7⟩, h8, h9⟩ := h
  refine ⟨⟨a, n, cap, by rw [hb.cell (p := ⟨g, 0, none⟩) hK]; exact h1, h2, fun hn => ?_⟩, by rw [hb.cell (p := ⟨g, 1, none⟩) hK]; exact h4, ⟨s, h5, h6, by rw [hb.cell (p := ⟨g, 2, none⟩) hK]; exact h7⟩, fun i => by rw [hb.frozen (p := ⟨g, i, none⟩) hK]; exact h8 i, Nat.lt_of_lt_of_le h9 hb.size⟩
  obtain ⟨b, off, ha, hbk, hc⟩ := h3 hn
  refine ⟨b, off, ha, hbk, fun i hi => ?_⟩
  obtain ⟨u, u0, u1, hu⟩ := hc i hi
  exact ⟨u, u0, u1, by rw [hb.cell (p := ⟨b, off + i, none⟩) (by simp; omega)]; exact hu⟩

theorem cell_other' {w : World} {b c i j : Nat} {v : Value} (h : b ≠ c ∨ i ≠ j) : (w.setCell ⟨b, i, none⟩ v).cell? ⟨c, j, none⟩ = w.cell? ⟨c, j, none⟩ :=
  World.cell?_setCell_other _ _ _ _ (by
    intro hh
    injection hh with h1 h2 _
    rcases h with h | h
    · exact h h1
    · exact h h2)

theorem cur_after {w : World} {g t k1 k2 : Nat} {s' : Int} (h : Cur w g t) (h0 : 0 ≤ s') (h1 : s' ≤ 18446744073709551615) :
    Cur ((((w.drewN k1).setCell ⟨g, 1, none⟩ (.int .i64 ((t : Int) + 1))).setCell ⟨g, 2, none⟩ (.int .u64 s')).drewN k2) g (t + 1) ∧
      w.grownBy ((((w.drewN k1).setCell ⟨g, 1, none⟩ (.int .i64 ((t : Int) + 1))).setCell ⟨g, 2, none⟩ (.int .u64 s')).drewN k2) (some g) := by
  obtain ⟨⟨a, n, cap, c0, hn, hb⟩, c1, ⟨s, _, _, c2⟩, hf, hlt⟩ := h
  have e : ∀ p, ((((w.drewN k1).setCell ⟨g, 1, none⟩ (.int .i64 ((t : Int) + 1))).setCell ⟨g, 2, none⟩ (.int .u64 s')).drewN k2).cell? p = (((w.setCell ⟨g, 1, none⟩ (.int .i64 ((t : Int) + 1))).setCell ⟨g, 2, none⟩ (.int .u64 s'))).cell? p := fun _ => rfl
  refine ⟨⟨⟨a, n, cap, ?_, hn, fun hp => ?_⟩, ?_, ⟨s', h0, h1, ?_⟩, fun i => ?_, ?_⟩, ⟨rfl, rfl, rfl, by simp, fun k _ hk => ?_⟩⟩
  · rw [e, cell_other' (.inr (by omega)), cell_other' (.inr (by omega))]; exact c0
  · obtain ⟨b, off, ha, hbg, hc⟩ := hb hp
    refine ⟨b, off, ha, hbg, fun i hi => ?_⟩
    obtain ⟨u, u0, u1, hu⟩ := hc i hi
    exact ⟨u, u0, u1, by rw [e, cell_other' (.inl (by omega)), cell_other' (.inl (by omega))]; exact hu⟩
  · rw [e, cell_other' (.inr (by omega)), World.cell?_setCell_same _ _ _ c1]; rfl
  · rw [e, World.cell?_setCell_same (u := .int .u64 s)]
    rw [cell_other' (.inr (by omega))]; exact c2
  · show ((w.setCell ⟨g, 1, none⟩ (.int .i64 ((t : Int) + 1))).setCell ⟨g, 2, none⟩ (.int .u64 s')).frozen? ⟨g, i, none⟩ = false
    rw [World.frozen?_setCell, World.frozen?_setCell]; exact hf i
  · simpa using hlt
  · show ((w.setCell ⟨g, 1, none⟩ (.int .i64 ((t : Int) + 1))).setCell ⟨g, 2, none⟩ (.int .u64 s')).heap[k]? = _
    have hkg : k ≠ g := fun e => hk (by rw [e])
    rw [heap_setCell_other _ _ _ _ hkg, heap_setCell_other _ _ _ _ hkg]

theorem and255 {x : Int} (h0 : 0 ≤ x) (h1 : x < 18446744073709551616) : 0 ≤ wrap64 (bits .and .u64 x 255) ∧ wrap64 (bits .and .u64 x 255) ≤ 255 := by
  have e := u64_and x 255 h0 h1 (by omega) (by omega)
  have hle : (x.toNat &&& (255 : Int).toNat : Nat) ≤ 255 := Nat.and_le_right
  rw [e, IntWalk.wrap64_in _ ⟨by omega, by omega⟩]
  omega

/-- A number of the cursor, and the cursor behind it. -/
def Drew (w : World) (g t : Nat) (hi : Int) (e : Ending) (w' : World) : Prop := ∃ v : Int, e = .returned (.int .i64 v) ∧ 0 ≤ v ∧ v ≤ hi ∧ Cur w' g t ∧ w.grownBy w' (some g)

set_option maxHeartbeats 2000000 in
theorem next_cur (g t : Nat) (w : World) (h : Cur w g t) (ht : t ≤ 1000000) :
    Calls Try.prog 114 #[.pointer (some ⟨g, 0, none⟩)] w (Drew w g (t + 1) 255) := by
  have HC := hid h
  obtain ⟨⟨a, n, cap, h1, h2, h3⟩, h4, ⟨s, h5, h6, h7⟩, h8, h9⟩ := h
  have f1 := h8 1
  have f2 := h8 2
  by_cases hlt : t < n
  · obtain ⟨b, off, rfl, hbk, hc⟩ := h3 (by omega)
    obtain ⟨u, u0, u1, hu⟩ := hc t hlt
    have hti : (t : Int) < (n : Int) := by omega
    have htz : (0 : Int) ≤ (t : Int) := by omega
    have htd : decide ((t : Int) < (n : Int)) = true := by simpa using hti
    clear hc h3
    go_enter Try.func114, Try.ntmps114
    go_wp2_with fail
    go_quiet (fail)
    go_wp2_with fail
    go_quiet (fail)
    go_wp2_with fail
    have hle : (t : Int) + 1 ≤ (n : Int) := by omega
    have hld : decide ((t : Int) + 1 ≤ (n : Int)) = true := by simpa using hle
    generalize hs' : IntKind.u64.wrap (IntKind.u64.wrap (IntKind.u64.wrap (s * 6364136223846793005) + u) + 1442695040888963407) = s'
    have HS := hid hs'
    clear hs'
    go_quiet (fail)
    go_wp2_with fail
    go_ret
    have hs := HS.out
    have hs0 : 0 ≤ s' := by rw [← hs, IntKind.wrap_u64]; omega
    have hs1 : s' ≤ 18446744073709551615 := by rw [← hs, IntKind.wrap_u64]; omega
    obtain ⟨r1, r2⟩ := cur_after HC.out hs0 hs1
    exact ⟨u, rfl, u0, u1, r1, r2⟩
  · have hti : ¬ (t : Int) < (n : Int) := by omega
    have htd : decide ((t : Int) < (n : Int)) = false := by simp; omega
    have hle : ¬ (t : Int) + 1 ≤ (n : Int) := by omega
    have hld : decide ((t : Int) + 1 ≤ (n : Int)) = false := by simp; omega
    clear h3
    go_enter Try.func114, Try.ntmps114
    go_wp2_with fail
    go_quiet (fail)
    go_wp2_with fail
    generalize hs' : IntKind.u64.wrap (IntKind.u64.wrap (IntKind.u64.wrap (s * 6364136223846793005)) + 1442695040888963407) = s'
    have hs0 : 0 ≤ s' := by rw [← hs', IntKind.wrap_u64]; omega
    have hs1 : s' ≤ 18446744073709551615 := by rw [← hs', IntKind.wrap_u64]; omega
    clear hs'
    have HS0 := hid hs0
    have HS1 := hid hs1
    clear hs0 hs1
    go_quiet (fail)
    go_wp2_with fail
    go_ret
    obtain ⟨r1, r2⟩ := cur_after HC.out HS0.out HS1.out
    obtain ⟨b0, b1⟩ := and255 (x := s' / 1099511627776) (by have := HS0.out; omega) (by have := HS1.out; omega)
    exact ⟨_, rfl, b0, b1, r1, r2⟩

set_option maxHeartbeats 800000 in
theorem pick_cur (g t : Nat) (n : Int) (w : World) (h : Cur w g t) (ht : t ≤ 100000) (hn : n ≤ 65000) :
    Calls Try.prog 90 #[.pointer (some ⟨g, 0, none⟩), .int .i64 n] w fun e w' => ∃ v : Int, e = .returned (.int .i64 v) ∧ 0 ≤ v ∧ (v < n ∨ n ≤ 1 ∧ v = 0) ∧ (∃ t', t ≤ t' ∧ t' ≤ t + 2 ∧ Cur w' g t') ∧ w.grownBy w' (some g) := by
  by_cases h1 : n ≤ 1
  · go_enter Try.func90, Try.ntmps90
    go_wp2_with fail
    go_ret
    exact ⟨0, rfl, Int.le_refl _, .inr ⟨h1, rfl⟩, ⟨t, Nat.le_refl _, by omega, h⟩, World.grownBy.refl _ _⟩
  · have h2 : 1 < n := by omega
    by_cases h3 : 200 < n
    · go_enter Try.func90, Try.ntmps90
      go_wp2_with fail
      refine (next_cur g t _ h (by omega)).mono ?_
      rintro e w1 ⟨v, rfl, v0, v1, hc1, hg1⟩
      go_wp2_with fail
      refine (next_cur g (t + 1) _ hc1 (by omega)).mono ?_
      rintro e w2 ⟨u, rfl, u0, u1, hc2, hg2⟩
      have hm0 : 0 ≤ (v * 256 + u) % n := Int.emod_nonneg _ (by omega)
      have hm1 : (v * 256 + u) % n < n := Int.emod_lt_of_pos _ (by omega)
      go_wp2_with fail
      go_ret
      exact ⟨_, rfl, hm0, .inl hm1, ⟨t + 2, by omega, by omega, hc2⟩, ⟨hg2.os.trans hg1.os, hg2.tape.trans hg1.tape, hg2.output.trans hg1.output, Nat.le_trans hg1.size hg2.size, fun j hj hne => (hg2.block j (Nat.lt_of_lt_of_le hj hg1.size) hne).trans (hg1.block j hj hne)⟩⟩
    · go_enter Try.func90, Try.ntmps90
      go_wp2_with fail
      refine (next_cur g t _ h (by omega)).mono ?_
      rintro e w1 ⟨v, rfl, v0, v1, hc1, hg1⟩
      have hm0 : 0 ≤ v % n := Int.emod_nonneg _ (by omega)
      have hm1 : v % n < n := Int.emod_lt_of_pos _ (by omega)
      go_wp2_with fail
      go_ret
      exact ⟨_, rfl, hm0, .inl hm1, ⟨t + 1, by omega, by omega, hc1⟩, hg1⟩

set_option maxHeartbeats 800000 in
theorem one_cur (g t : Nat) (n : Int) (w : World) (h : Cur w g t) (ht : t ≤ 100000) (hn : n ≤ 65000) :
    Calls Try.prog 107 #[.pointer (some ⟨g, 0, none⟩), .int .i64 n] w fun e w' => ∃ b : Bool, e = .returned (.bool b) ∧ (∃ t', t ≤ t' ∧ t' ≤ t + 2 ∧ Cur w' g t') ∧ w.grownBy w' (some g) := by
  go_enter Try.func107, Try.ntmps107
  go_wp2_with fail
  refine (pick_cur g t n _ h ht hn).mono ?_
  rintro e w1 ⟨v, rfl, v0, v1, hc1, hg1⟩
  go_wp2_with fail
  go_ret
  exact ⟨_, rfl, hc1, hg1⟩

set_option maxHeartbeats 800000 in
theorem among_cur (g t : Nat) (a : Option Addr) (n cap : Nat) (xs : List Int) (w : World) (h : Cur w g t) (ht : t ≤ 100000) (hh : Has w a n cap xs) (hn : 0 < n) (hn2 : n ≤ 60000) (hne : ∀ p, a = some p → p.block ≠ g) :
    Calls Try.prog 91 #[.pointer (some ⟨g, 0, none⟩), .slice a n cap] w fun e w' => ∃ v : Int, e = .returned (.int .i64 v) ∧ v ∈ xs ∧ (∃ t', t ≤ t' ∧ t' ≤ t + 2 ∧ Cur w' g t') ∧ w.grownBy w' (some g) := by
  have HL := hid hh.len
  obtain ⟨b, off, rfl, hbb, hc⟩ := hh.2.2.2.2 hn
  have hbg := hne _ rfl
  clear hne
  go_enter Try.func91, Try.ntmps91
  go_wp2_with fail
  refine (pick_cur g t n _ h ht (by omega)).mono ?_
  rintro e w1 ⟨v, rfl, v0, v1, hc1, hg1⟩
  obtain ⟨k, rfl⟩ : ∃ k : Nat, v = (k : Int) := ⟨_, (Int.toNat_of_nonneg v0).symm⟩
  have hk : k < n := by omega
  have hck : w1.cell? ⟨b, off + k, none⟩ = some (.int .i64 (nth xs k)) := hg1.cell (hc k hk) (by simpa using hbg)
  clear hc v1
  go_wp2_with fail
  go_ret
  exact ⟨_, rfl, nth_mem (by rw [HL.out]; exact hk), hc1, hg1⟩
end Go.Proofs.Ytakadjhbomggbaa

namespace Go.Proofs.Ytakadjhbomggbaa
open Go.RowKit

theorem HasB.below {w w' : World} {a : Option Addr} {n K : Nat} (h : HasB w a n K) (hb : Below K w w') : HasB w' a n K := by
  refine ⟨h.1, fun hx => ?_⟩
  obtain ⟨b, off, ha, hbk, hc⟩ := h.2 hx
  refine ⟨b, off, ha, hbk, fun i hi => ?_⟩
  obtain ⟨u, u0, u1, hu⟩ := hc i hi
  exact ⟨u, u0, u1, by rw [hb.cell (p := ⟨b, off + i, none⟩) hbk]; exact hu⟩

/-- An argument's slice of bytes. -/
theorem hasB_of_row {w : World} {a : Option Addr} {len cap : Nat} {zs : List Int}
    (h : (a = none ∧ len = 0 ∧ cap = 0 ∧ zs = []) ∨ ∃ x, a = some x ∧ len ≤ cap ∧ cap ≤ maxLen ∧ zs.length = cap ∧ (∀ i, i < zs.length → w.cell? (x.add i) = some (.int .u8 (zs.getD i 0))) ∧ ∀ n ∈ zs, (Lit.int .u8 n).wf = true) :
    len ≤ maxLen ∧ (len ≤ 1048576 → HasB w a len w.heap.size) := by
  rcases h with ⟨rfl, rfl, rfl, rfl⟩ | ⟨x, rfl, h1, h2, h3, h4, h5⟩
  · exact ⟨by unfold maxLen; omega, fun _ => ⟨by omega, by omega⟩⟩
  · refine ⟨by omega, fun hl => ⟨by omega, fun hx => ?_⟩⟩
    obtain ⟨b, off, spot⟩ := x
    have hc := h4 0 (by omega)
    have hspot : spot = none := by simpa [Addr.add] using World.cell?_spot hc
    subst hspot
    refine ⟨b, off, rfl, by have := World.block_lt_of_cell? w _ hc; simpa [Addr.add] using this, fun i hi => ?_⟩
    have := h4 i (by omega)
    have e : (⟨b, off, none⟩ : Addr).add i = ⟨b, off + i, none⟩ := by unfold Addr.add; split <;> simp_all
    rw [e] at this
    have hm : zs.getD i 0 ∈ zs := by simp [show i < zs.length by omega]
    have hw := h5 _ hm
    generalize zs.getD i 0 = u at *
    have hw' : (0 : Int) ≤ u ∧ u ≤ 255 := by simpa [Lit.wf, IntKind.min, IntKind.max, IntKind.signed, IntKind.bits] using hw
    exact ⟨u, hw'.1, hw'.2, this⟩

/-- The law's answer. -/
def Holds (w : World) (e : Ending) (w' : World) : Prop := e = .returned (.bool true) ∧ Below w.heap.size w w'
end Go.Proofs.Ytakadjhbomggbaa

namespace Go.Proofs.Ytakadjhbomggbaa
open Go.RowKit

/-- Whether the bytes are too many. -/
def Big (n m : Nat) (w : World) (e : Ending) (w' : World) : Prop := ∃ r : Bool, e = .returned (.bool r) ∧ (r = false → n + m ≤ 1048576) ∧ w = w'

theorem big_any (a b : Option Addr) (n m cap cap' : Nat) (w : World) (hn : n ≤ 9223372036854775807) :
    Calls Try.prog 8 #[.slice a n cap, .slice b m cap'] w (Big n m w) := by
  by_cases h1 : (1048576 : Int) < (n : Int)
  · go_enter Try.func8, Try.ntmps8
    go_wp2_with fail
    go_ret
    exact ⟨true, ret_bool (by simp), by simp, rfl⟩
  · by_cases h2 : (1048576 : Int) - n < (m : Int)
    · go_enter Try.func8, Try.ntmps8
      go_wp2_with fail
      go_ret
      exact ⟨true, ret_bool (by simp), by simp, rfl⟩
    · go_enter Try.func8, Try.ntmps8
      go_wp2_with fail
      go_ret
      exact ⟨false, ret_bool (by simp), fun _ => by omega, rfl⟩

set_option maxHeartbeats 400000 in
theorem jSum_any (a : Option Addr) (n cap : Nat) (ys : List Int) (w : World) (h : Has w a n cap ys) (hs : Small ys) :
    Calls Try.prog 50 #[.slice a n cap] w fun e w' => e = .returned (.int .i64 (total ys)) ∧ w = w' := by
  obtain ⟨h0, h1, h2, h3, h4⟩ := h
  go_enter Try.func50, Try.ntmps50
  go_wp2_with fail
  go_loop [3, 8] (fun c i => ∃ k : Nat, k ≤ n ∧ i = .int .i64 k ∧ c = .int .i64 (total (ys.take k))) (fun _ i => n - (intOf i).toNat)
  case atStart => exact ⟨0, Nat.zero_le _, rfl, rfl⟩
  case round =>
    obtain ⟨k, hk, rfl, rfl⟩ := hrel
    by_cases hlt : k < n
    · obtain ⟨b, off, rfl, hb, hc⟩ := h4 (by omega)
      have hck := hc k hlt
      have ht := total_bounds hs k (by omega)
      obtain ⟨hv0, hv1⟩ := hs k (by omega)
      have HS := hid (total_succ (xs := ys) (k := k) (by omega))
      clear hc h4 hs
      go_wp2_with fail
      go_round
      case rel => exact ⟨k + 1, by omega, by go_num, by rw [HS.out]⟩
      case measure => simp [intOf]; omega
    · obtain rfl : k = n := by omega
      go_wp2_with fail
      go_ret
      exact ⟨ret_int (by rw [List.take_of_length_le (by omega)]), rfl⟩

end Go.Proofs.Ytakadjhbomggbaa

namespace Go.Proofs.Ytakadjhbomggbaa
open Go.RowKit

/-- The cursor stands, and below its block all is as it was. -/
structure At (w0 w : World) (g t : Nat) : Prop where
  cur : Cur w g t
  below : Below g w0 w

theorem At.pick {w0 w w' : World} {g t t' : Nat} (h : At w0 w g t) (hc : Cur w' g t') (hg : w.grownBy w' (some g)) : At w0 w' g t' :=
  ⟨hc, h.below.trans (below_grown hg (Nat.le_of_lt h.cur.lt) (by intro k hk; cases hk; exact Nat.le_refl _))⟩
theorem At.later {w0 w w' : World} {g t K : Nat} (h : At w0 w g t) (hb : Below K w w') (hK : g < K) : At w0 w' g t :=
  ⟨h.cur.below hb hK, h.below.trans (hb.mono (Nat.le_of_lt hK))⟩
theorem At.size {w0 w : World} {g t : Nat} (h : At w0 w g t) : w0.heap.size ≤ w.heap.size := h.below.size

theorem has_lit (w : World) (xs : List Int) (hx : xs.length ≤ 100) : Has (w.alloc (.cells (xs.map (Value.int .i64)).toArray 3)) (some ⟨w.heap.size, 0, none⟩) xs.length xs.length xs := by
  have := World.ownsRow_lit (base := w.heap.size) (e := 3) (size := 1) w (xs.map (Value.int .i64)).toArray xs.length (Nat.le_refl _) (by unfold maxLen; omega) (by simp)
  exact Own.has (B := w.heap.size) ⟨by simpa using this, rfl, by omega⟩
theorem has_lit3 (w : World) (a b c : Int) : Has (w.alloc (.cells #[.int .i64 a, .int .i64 b, .int .i64 c] 3)) (some ⟨w.heap.size, 0, none⟩) 3 3 [a, b, c] := has_lit w [a, b, c] (by simp)
theorem has_lit4 (w : World) (a b c d : Int) : Has (w.alloc (.cells #[.int .i64 a, .int .i64 b, .int .i64 c, .int .i64 d] 3)) (some ⟨w.heap.size, 0, none⟩) 4 4 [a, b, c, d] := has_lit w [a, b, c, d] (by simp)
theorem has_lit6 (w : World) (a b c d e f : Int) : Has (w.alloc (.cells #[.int .i64 a, .int .i64 b, .int .i64 c, .int .i64 d, .int .i64 e, .int .i64 f] 3)) (some ⟨w.heap.size, 0, none⟩) 6 6 [a, b, c, d, e, f] := has_lit w [a, b, c, d, e, f] (by simp)
theorem alloc_below (w : World) (o : Obj) : Below w.heap.size w (w.alloc o) := (Below.refl _ _).alloc (Nat.le_refl _) _
theorem lit_ne {w : World} {g t : Nat} (h : Cur w g t) : ∀ p, (some ⟨w.heap.size, 0, none⟩ : Option Addr) = some p → p.block ≠ g := by
  intro p hp
  cases hp
  have := h.lt
  simp
  omega

/-- Favourites and a number of places, whatever they are. -/
def DrewFav (w : World) (g : Nat) (e : Ending) (w' : World) : Prop :=
  ∃ a n cap xs p, e = .returned (.tuple #[.slice a n cap, .int .i64 p]) ∧ Own w' w.heap.size a n cap xs ∧ n ≤ 10 ∧ -1 ≤ p ∧ p ≤ 13 ∧ Below g w w'

/-- The same, and the cursor stands. -/
def DrewFavC (w : World) (g : Nat) (e : Ending) (w' : World) : Prop :=
  ∃ a n cap xs p, e = .returned (.tuple #[.slice a n cap, .int .i64 p]) ∧ Own w' w.heap.size a n cap xs ∧ n ≤ 10 ∧ -1 ≤ p ∧ p ≤ 13 ∧ ∃ t', At w w' g t' ∧ t' ≤ 4000

/-- A slice of bytes that came in. -/
theorem cur_new {w : World} {a : Option Addr} {n cap : Nat} (h : HasB w a n w.heap.size) : Cur (w.alloc (.cells #[.slice a n cap, .int .i64 0, .int .u64 0] 56)) w.heap.size 0 := by
  refine ⟨⟨a, n, cap, ?_, h.1, fun hp => ?_⟩, ?_, ⟨0, by omega, by omega, ?_⟩, fun i => ?_, by simp⟩
  · rw [World.cell?_alloc_at _ _ _ _ rfl]; rfl
  · obtain ⟨b, off, ha, hb, hc⟩ := h.2 hp
    refine ⟨b, off, ha, hb, fun i hi => ?_⟩
    obtain ⟨u, u0, u1, hu⟩ := hc i hi
    exact ⟨u, u0, u1, by rw [World.cell?_alloc_past _ _ _ hb]; exact hu⟩
  · rw [World.cell?_alloc_at _ _ _ _ rfl]; rfl
  · rw [World.cell?_alloc_at _ _ _ _ rfl]; rfl
  · rw [World.frozen?_alloc_at _ _ _ _ rfl]

/-- What a draw of favourites leaves to its caller. -/
def DrewFav' (w : World) (e : Ending) (w' : World) : Prop :=
  ∃ a n cap xs p, e = .returned (.tuple #[.slice a n cap, .int .i64 p]) ∧ Own w' w.heap.size a n cap xs ∧ n ≤ 10 ∧ -1 ≤ p ∧ p ≤ 13 ∧ Below w.heap.size w w'

end Go.Proofs.Ytakadjhbomggbaa

namespace Go.Proofs.Ytakadjhbomggbaa
open Go.RowKit

theorem HasB.grow {w w' : World} {a : Option Addr} {n K : Nat} (h : HasB w a n K) (hb : Below K w w') (hK : K ≤ w.heap.size) : HasB w' a n w'.heap.size := by
  refine ⟨h.1, fun hx => ?_⟩
  obtain ⟨b, off, ha, hbk, hc⟩ := h.2 hx
  refine ⟨b, off, ha, Nat.lt_of_lt_of_le hbk (Nat.le_trans hK hb.size), fun i hi => ?_⟩
  obtain ⟨u, u0, u1, hu⟩ := hc i hi
  exact ⟨u, u0, u1, by rw [hb.cell (p := ⟨b, off + i, none⟩) hbk]; exact hu⟩

/-- A number put into a list. -/
def putIn (xs : List Int) (j : Nat) (x : Int) : List Int := xs.take j ++ [x] ++ xs.drop j
theorem mem_putIn {xs : List Int} {j : Nat} {x y : Int} : y ∈ putIn xs j x ↔ y = x ∨ y ∈ xs := by
  unfold putIn
  have : y ∈ xs ↔ y ∈ xs.take j ∨ y ∈ xs.drop j := by rw [← List.mem_append, List.take_append_drop]
  simp only [List.mem_append, List.mem_singleton, this]
  constructor
  · rintro ((h | h) | h)
    · exact .inr (.inl h)
    · exact .inl h
    · exact .inr (.inr h)
  · rintro (h | h | h)
    · exact .inl (.inr h)
    · exact .inl (.inl h)
    · exact .inr h
def Within (xs : List Int) (lo hi : Int) : Prop := ∀ x ∈ xs, lo ≤ x ∧ x ≤ hi
theorem Within.put {xs : List Int} {lo hi x : Int} {j : Nat} (h : Within xs lo hi) (hx : lo ≤ x ∧ x ≤ hi) : Within (putIn xs j x) lo hi := by
  intro y hy
  rcases mem_putIn.1 hy with rfl | hy
  · exact hx
  · exact h y hy
theorem Within.snoc {xs : List Int} {lo hi x : Int} (h : Within xs lo hi) (hx : lo ≤ x ∧ x ≤ hi) : Within (xs ++ [x]) lo hi := by
  intro y hy
  rcases List.mem_append.1 hy with hy | hy
  · exact h y hy
  · rw [List.mem_singleton] at hy; subst hy; exact hx
theorem Within.set {xs : List Int} {lo hi x : Int} {i : Nat} (h : Within xs lo hi) (hx : lo ≤ x ∧ x ≤ hi) : Within (xs.set i x) lo hi := by
  intro y hy
  rcases List.mem_or_eq_of_mem_set hy with hy | rfl
  · exact h y hy
  · exact hx
theorem Within.wide {xs : List Int} {lo hi lo' hi' : Int} (h : Within xs lo hi) (h1 : lo' ≤ lo) (h2 : hi ≤ hi') : Within xs lo' hi' := fun y hy => by have := h y hy; omega

/-- The cursor stands; its block alone was written among those that were there. -/
structure AtG (w0 w : World) (g t : Nat) : Prop where
  cur : Cur w g t
  grew : w0.grownBy w (some g)
  lt : g < w0.heap.size
theorem AtG.new {w : World} {g t : Nat} (h : Cur w g t) : AtG w w g t := ⟨h, World.grownBy.refl _ _, h.lt⟩
theorem AtG.size {w0 w : World} {g t : Nat} (h : AtG w0 w g t) : w0.heap.size ≤ w.heap.size := h.grew.size
theorem grown_then {w w1 w2 : World} {r : Option Nat} (h : w.grownBy w1 r) (h' : w1.grownBy w2 r) : w.grownBy w2 r :=
  ⟨h'.os.trans h.os, h'.tape.trans h.tape, h'.output.trans h.output, Nat.le_trans h.size h'.size, fun j hj hne => (h'.block j (Nat.lt_of_lt_of_le hj h.size) hne).trans (h.block j hj hne)⟩
theorem AtG.pick {w0 w w' : World} {g t t' : Nat} (h : AtG w0 w g t) (hc : Cur w' g t') (hg : w.grownBy w' (some g)) : AtG w0 w' g t' := ⟨hc, grown_then h.grew hg, h.lt⟩
theorem AtG.later {w0 w w' : World} {g t K : Nat} (h : AtG w0 w g t) (hb : Below K w w') (hK : w0.heap.size ≤ K) : AtG w0 w' g t :=
  ⟨h.cur.below hb (Nat.lt_of_lt_of_le h.lt hK), ⟨hb.os.trans h.grew.os, hb.tape.trans h.grew.tape, hb.output.trans h.grew.output, Nat.le_trans h.grew.size hb.size, fun j hj hne => (hb.block j (Nat.lt_of_lt_of_le hj hK)).trans (h.grew.block j hj hne)⟩, h.lt⟩
theorem AtG.below {w0 w : World} {g t : Nat} (h : AtG w0 w g t) : Below g w0 w := below_grown h.grew (Nat.le_of_lt h.lt) fun k hk => by cases hk; exact Nat.le_refl _
theorem AtG.trans {w0 w w' : World} {g t t' : Nat} (h : AtG w0 w g t) (h' : AtG w w' g t') : AtG w0 w' g t' := ⟨h'.cur, grown_then h.grew h'.grew, h.lt⟩

/-- A list that was drawn. -/
def DrewList (w : World) (g t : Nat) (e : Ending) (w' : World) : Prop :=
  ∃ a n cap xs t', e = .returned (.slice a n cap) ∧ Own w' w.heap.size a n cap xs ∧ n ≤ 10 ∧ Within xs (-1) 100 ∧ AtG w w' g t' ∧ t' ≤ t + 100

set_option maxHeartbeats 8000000 in
theorem park_cur (g t : Nat) (most : Int) (w : World) (h : Cur w g t) (ht : t ≤ 1000) (hm0 : 0 ≤ most) (hm : most ≤ 8) :
    Calls Try.prog 52 #[.pointer (some ⟨g, 0, none⟩), .int .i64 most] w (DrewList w g t) := by
  have hgl := h.lt
  have A0 := AtG.new h
  go_enter Try.func52, Try.ntmps52
  go_wp2_with fail
  refine (pick_cur g t (most + 1) _ A0.cur (by omega) (by omega)).mono ?_
  rintro e w1 ⟨v, rfl, v0, v1, ⟨t1, ta, tb, hc1⟩, hg1⟩
  obtain ⟨nn, rfl⟩ : ∃ nn : Nat, v = (nn : Int) := ⟨_, (Int.toNat_of_nonneg v0).symm⟩
  have hnn : nn ≤ 8 := by omega
  have A1 := A0.pick hc1 hg1
  clear hc1 hg1 v0 v1 A0
  go_wp2_with fail
  go_loopw [5, 6] (fun o n wr => ∃ (k j : Nat) (a' : Option Addr) (cap' : Nat) (xs : List Int) (t' : Nat), k + j ≤ 8 ∧ n = .int .i64 (k : Int) ∧ o = .slice a' j cap' ∧ Own wr w.heap.size a' j cap' xs ∧ Within xs 0 8 ∧ AtG w wr g t' ∧ t' ≤ t + 2 + 4 * j) (fun _ n _ => (intOf n).toNat)
  case atStart => exact ⟨nn, 0, none, 0, [], t1, by omega, rfl, rfl, Own.nil _ _, (fun x hx => by simp at hx), A1, by omega⟩
  case round =>
    obtain ⟨k, j, a', cap', xs, t', hkj, rfl, rfl, hown, hin, A, ht'⟩ := hrel
    have HI := hid hin
    clear A1 hin
    by_cases hk : 0 < k
    · skip
      go_wp2_with fail
      refine (pick_cur g t' ((j : Int) + 1) _ A.cur (by omega) (by omega)).mono ?_
      rintro e w5 ⟨qx, rfl, q0, q1, ⟨t2, x1, x2, hcc⟩, hgg⟩
      obtain ⟨x, rfl⟩ : ∃ x : Nat, qx = (x : Int) := ⟨_, (Int.toNat_of_nonneg q0).symm⟩
      have hx : x ≤ j := by omega
      replace hown := hown.kept hgg (.inl hgl)
      replace A := A.pick hcc hgg
      clear hcc hgg q0 q1
      go_wp2_with fail
      refine (pick_cur g t2 ((j : Int) + 1) _ A.cur (by omega) (by omega)).mono ?_
      rintro e w6 ⟨qy, rfl, q0, q1, ⟨t3, x1, x2, hcc⟩, hgg⟩
      obtain ⟨y, rfl⟩ : ∃ y : Nat, qy = (y : Int) := ⟨_, (Int.toNat_of_nonneg q0).symm⟩
      have hy : y ≤ j := by omega
      replace hown := hown.kept hgg (.inl hgl)
      replace A := A.pick hcc hgg
      clear hcc hgg q0 q1
      cases a' with
      | none =>
        obtain ⟨hk1, hcap1, hnil⟩ := hown.noneOf
        have hk0 : j ≤ 0 := by omega
        have hcap0 : cap' ≤ 0 := by omega
        have hat0 : y ≤ 0 := by omega
        subst hnil
        obtain rfl : y = 0 := by omega
        clear hk1 hcap1
        go_wp2_with fail
        refine (l1Own_any _ _ _ _ _ (Has.empty none (Nat.le_refl _) (Nat.le_refl _))).mono ?_
        rintro e w2 ⟨a2, cap2, rfl, hown2, hb2⟩
        go_wp2_with (first | (at_builtin; refine wpList_append_int _ rfl _ _ rfl w6.heap.size _ _ _ _ _ rfl rfl hown2 (by omega) hb2.size ?_; intro a3 cap3 w3 hown3 hb3) | (at_builtin; refine wpList_append_ints _ rfl _ _ rfl w6.heap.size _ none _ _ _ _ _ [] rfl rfl hown3 (Has.empty none (by omega) (by omega)) (by omega) (Nat.le_trans hb2.size hb3.size) ?_; intro a4 n4 cap4 w4 hn4 hown4 hb4))
        have hbb := (hb2.trans hb3).trans hb4
        have A4 := A.later hbb (A.size)
        have hown5 : Own w4 w.heap.size a4 (j + 1) cap4 (putIn [] 0 (x : Int)) := (hown4.mono A.size).relen (by omega) (by simp [putIn])
        have hn5 : n4 = j + 1 := by omega
        clear hown4 hown3 hown2 hb2 hb3 hb4 hbb hn4
        go_roundw
        case rel => exact ⟨k - 1, j + 1, a4, cap4, _, t3, by omega, by go_num, slice_len (by omega), hown5, HI.out.put ⟨by omega, by omega⟩, A4, by omega⟩
        case measure => simp [intOf]; omega
      | some pp =>
        obtain ⟨gg, rfl, hg1, hg2, hg3, hg4, hkc⟩ := hown.someOf
        have HA := hown.has
        have HLO := hid hown.len
        clear hg3 hg4
        by_cases hjk : y < j
        · skip
          have hcj : ¬ cap' = y := by omega
          go_wp2_with fail
          refine (l1Own_any _ _ _ _ _ (HA.take (k := y) (by omega))).mono ?_
          rintro e w2 ⟨a2, cap2, rfl, hown2, hb2⟩
          have hd2 := (HA.drop (k := y) (by omega)).below hb2 (Nat.le_refl _)
          rw [Nat.zero_add] at hd2
          have hblk : ∀ p, (some ⟨gg, y, none⟩ : Option Addr) = some p → p.block < w6.heap.size := fun p hp => by cases hp; exact hg2
          have HBK := hid hblk
          clear hblk
          go_wp2_with (first | (at_builtin; refine wpList_append_int _ rfl _ _ rfl w6.heap.size _ _ _ _ _ rfl rfl hown2 (by omega) hb2.size ?_; intro a3 cap3 w3 hown3 hb3) | (at_builtin; refine wpList_append_ints _ rfl _ _ rfl w6.heap.size _ _ _ _ _ _ _ _ rfl rfl hown3 (hd2.belowB hb3 HBK.out) (by omega) (Nat.le_trans hb2.size hb3.size) ?_; intro a4 n4 cap4 w4 hn4 hown4 hb4))
          clear hd2 HBK
          have hbb := (hb2.trans hb3).trans hb4
          have A4 := A.later hbb (A.size)
          have hown5 : Own w4 w.heap.size a4 (j + 1) cap4 (putIn xs y (x : Int)) := (hown4.mono A.size).relen (by omega) (by unfold putIn; rfl)
          have hn5 : n4 = j + 1 := by omega
          clear hown4 hown3 hown2 hb2 hb3 hb4 hbb hn4
          go_roundw
          case rel => exact ⟨k - 1, j + 1, a4, cap4, _, t3, by omega, by go_num, slice_len (by omega), hown5, HI.out.put ⟨by omega, by omega⟩, A4, by omega⟩
          case measure => simp [intOf]; omega
        · skip
          obtain rfl : j = y := by omega
          clear hjk
          by_cases hcj : cap' = j
          · skip
            obtain rfl : j = cap' := hcj.symm
            clear hcj
            have hmax : 0 ≤ maxLen := by unfold maxLen; omega
            have HMX := hid hmax
            clear hmax
            go_wp2_with fail
            refine (l1Own_any _ _ _ _ _ (HA.take (k := j) (by omega))).mono ?_
            rintro e w2 ⟨a2, cap2, rfl, hown2, hb2⟩
            go_wp2_with (first | (at_builtin; refine wpList_append_int _ rfl _ _ rfl w6.heap.size _ _ _ _ _ rfl rfl hown2 (by omega) hb2.size ?_; intro a3 cap3 w3 hown3 hb3) | (at_builtin; refine wpList_append_ints _ rfl _ _ rfl w6.heap.size _ _ _ _ _ _ _ [] rfl rfl hown3 (Has.nilAt _ (by unfold maxLen; omega)) (by omega) (Nat.le_trans hb2.size hb3.size) ?_; intro a4 n4 cap4 w4 hn4 hown4 hb4))
            have hbb := (hb2.trans hb3).trans hb4
            have A4 := A.later hbb (A.size)
            have hown5 : Own w4 w.heap.size a4 (j + 1) cap4 (putIn xs j (x : Int)) := (hown4.mono A.size).relen (by omega) (by unfold putIn; rw [List.drop_eq_nil_of_le (by rw [HLO.out]; exact Nat.le_refl _)])
            have hn5 : n4 = j + 1 := by omega
            clear hown4 hown3 hown2 hb2 hb3 hb4 hbb hn4
            go_roundw
            case rel => exact ⟨k - 1, j + 1, a4, cap4, _, t3, by omega, by go_num, slice_len (by omega), hown5, HI.out.put ⟨by omega, by omega⟩, A4, by omega⟩
            case measure => simp [intOf]; omega
          · skip
            have hmax : cap' - j ≤ maxLen := by have := HA.2.2.1; omega
            have HMX := hid hmax
            clear hmax
            go_wp2_with fail
            refine (l1Own_any _ _ _ _ _ (HA.take (k := j) (by omega))).mono ?_
            rintro e w2 ⟨a2, cap2, rfl, hown2, hb2⟩
            go_wp2_with (first | (at_builtin; refine wpList_append_int _ rfl _ _ rfl w6.heap.size _ _ _ _ _ rfl rfl hown2 (by omega) hb2.size ?_; intro a3 cap3 w3 hown3 hb3) | (at_builtin; refine wpList_append_ints _ rfl _ _ rfl w6.heap.size _ _ _ _ _ _ _ [] rfl rfl hown3 (Has.nilAt _ HMX.out) (by omega) (Nat.le_trans hb2.size hb3.size) ?_; intro a4 n4 cap4 w4 hn4 hown4 hb4))
            have hbb := (hb2.trans hb3).trans hb4
            have A4 := A.later hbb (A.size)
            have hown5 : Own w4 w.heap.size a4 (j + 1) cap4 (putIn xs j (x : Int)) := (hown4.mono A.size).relen (by omega) (by unfold putIn; rw [List.drop_eq_nil_of_le (by rw [HLO.out]; exact Nat.le_refl _)])
            have hn5 : n4 = j + 1 := by omega
            clear hown4 hown3 hown2 hb2 hb3 hb4 hbb hn4
            go_roundw
            case rel => exact ⟨k - 1, j + 1, a4, cap4, _, t3, by omega, by go_num, slice_len (by omega), hown5, HI.out.put ⟨by omega, by omega⟩, A4, by omega⟩
            case measure => simp [intOf]; omega
    · skip
      obtain rfl : k = 0 := by omega
      go_wp2_with fail
      refine (pick_cur g t' 20 _ A.cur (by omega) (by omega)).mono ?_
      rintro e w5 ⟨z, rfl, z0, z1, ⟨t5, x1, x2, hc5⟩, hg5⟩
      have o5 := hown.kept hg5 (.inl hgl)
      have A5 := A.pick hc5 hg5
      clear hc5 hg5 hown A
      by_cases h0 : (z == 0) = true
      · skip
        go_wp2_with fail
        refine (among_cur g t5 _ 6 6 [-1, 0, (j : Int), (j : Int) + 1, 99, 100] _ (A5.later (alloc_below _ _) (A5.size)).cur (by omega) (has_lit6 w5 (-1) 0 (j : Int) ((j : Int) + 1) 99 100) (by omega) (by omega) (lit_ne A5.cur)).mono ?_
        rintro e w6 ⟨v6, rfl, hv6, ⟨t6, x3, x4, hc6⟩, hg6⟩
        have hv6b : -1 ≤ v6 ∧ v6 ≤ 100 := by simp at hv6; omega
        have A5' := A5.later (alloc_below w5 (.cells #[.int .i64 (-1), .int .i64 0, .int .i64 (j : Int), .int .i64 ((j : Int) + 1), .int .i64 99, .int .i64 100] 3)) (A5.size)
        have A6 := A5'.pick hc6 hg6
        have o6 := (o5.below (alloc_below w5 (.cells #[.int .i64 (-1), .int .i64 0, .int .i64 (j : Int), .int .i64 ((j : Int) + 1), .int .i64 99, .int .i64 100] 3)) (Nat.le_refl _)).kept hg6 (.inl hgl)
        have hs6 := A6.size
        clear hc6 hg6 o5 A5 A5' hv6
        go_wp2_with (at_builtin; refine wpList_append_int _ rfl _ _ rfl w.heap.size _ _ _ _ _ rfl rfl o6 (by omega) hs6 ?_; intro a7 cap7 w7 o7 hb7)
        have A7 := A6.later hb7 (Nat.le_refl _)
        go_ret
        exact ⟨_, _, _, _, t6, rfl, o7, by omega, (HI.out.wide (by omega) (by omega)).snoc hv6b, A7, by omega⟩
      · skip
        have h0' := Bool.eq_false_iff.2 h0
        clear h0
        by_cases h1 : (z == 1) = true
        · skip
          by_cases hj0 : 0 < j
          · skip
            go_wp2_with fail
            refine (pick_cur g t5 (j : Int) _ A5.cur (by omega) (by omega)).mono ?_
            rintro e w6 ⟨qx, rfl, q0, q1, ⟨t6, x3, x4, hc6⟩, hg6⟩
            obtain ⟨x, rfl⟩ : ∃ x : Nat, qx = (x : Int) := ⟨_, (Int.toNat_of_nonneg q0).symm⟩
            have hx : x < j := by omega
            have o6 := o5.kept hg6 (.inl hgl)
            have A6 := A5.pick hc6 hg6
            clear hc6 hg6 o5 A5 q0 q1
            go_wp2_with fail
            refine (pick_cur g t6 (j : Int) _ A6.cur (by omega) (by omega)).mono ?_
            rintro e w7 ⟨qy, rfl, q0, q1, ⟨t7, x5, x6, hc7⟩, hg7⟩
            obtain ⟨y, rfl⟩ : ∃ y : Nat, qy = (y : Int) := ⟨_, (Int.toNat_of_nonneg q0).symm⟩
            have hy : y < j := by omega
            have o7 := o6.kept hg7 (.inl hgl)
            have A7 := A6.pick hc7 hg7
            clear hc7 hg7 o6 A6 q0 q1
            obtain ⟨gg, rfl, hgB, hg2, hg3, hg4⟩ := o7.opened hj0
            have hgk := hg3 x hx
            have hgf := hg4 x
            have hxi : (x : Int) < (j : Int) := by omega
            clear hg3 hg4
            go_wp2_with fail
            go_ret
            obtain ⟨s1, s2⟩ := o7.set x (y : Int)
            exact ⟨_, _, _, _, t7, rfl, s1, by omega, (HI.out.wide (by omega) (by omega)).set ⟨by omega, by omega⟩, A7.later ((Below.refl w.heap.size w7).setCell hgB _) (Nat.le_refl _), by omega⟩
          · skip
            go_wp2_with fail
            go_ret
            exact ⟨_, _, _, _, t5, rfl, o5, by omega, HI.out.wide (by omega) (by omega), A5, by omega⟩
        · skip
          have h1' := Bool.eq_false_iff.2 h1
          clear h1
          by_cases h2 : (z == 2) = true
          · skip
            go_wp2_with fail
            go_loopg [5] (10 - j) (fun q2 o wr => ∃ (m : Nat) (a' : Option Addr) (cap' : Nat) (xs : List Int), m + q2 = 10 ∧ 0 < q2 ∧ o = .slice a' m cap' ∧ Own wr w.heap.size a' m cap' xs ∧ Within xs (-1) 100 ∧ AtG w wr g t5)
            case atStart => exact ⟨j, a', cap', xs, by omega, by omega, rfl, o5, HI.out.wide (by omega) (by omega), A5⟩
            case round =>
              obtain ⟨m, a', cap', xs, hmq, hq0, rfl, hown, hin, A⟩ := hrel
              have HI2 := hid hin
              have hs := A.size
              clear A5 o5 hin
              by_cases hm9 : m < 9
              · skip
                go_wp2_with (at_builtin; refine wpList_append_int _ rfl _ _ rfl w.heap.size _ _ _ _ _ rfl rfl hown (by omega) hs ?_; intro a8 cap8 w8 o8 hb8)
                have A8 := A.later hb8 (Nat.le_refl _)
                go_roundg (gk - 1)
                case rel => exact ⟨m + 1, a8, cap8, _, by omega, by omega, rfl, o8, HI2.out.snoc ⟨by omega, by omega⟩, A8⟩
                case measure => omega
              · skip
                go_wp2_with fail
                go_ret
                exact ⟨_, _, _, _, t5, rfl, hown, by omega, HI2.out, A, by omega⟩
          · skip
            have h2' := Bool.eq_false_iff.2 h2
            clear h2
            go_wp2_with fail
            go_ret
            exact ⟨_, _, _, _, t5, rfl, o5, by omega, HI.out.wide (by omega) (by omega), A5, by omega⟩
end Go.Proofs.Ytakadjhbomggbaa

namespace Go.Proofs.Ytakadjhbomggbaa
open Go.RowKit

/-- A list of nn numbers that was drawn. -/
def DrewListN (nn : Nat) (w : World) (g t : Nat) (e : Ending) (w' : World) : Prop :=
  ∃ a n cap xs t', e = .returned (.slice a n cap) ∧ Own w' w.heap.size a n cap xs ∧ n = nn ∧ Within xs (-1) 100 ∧ AtG w w' g t' ∧ t' ≤ t + 100
/-- A list that was drawn, for the caller of a draw. -/
def DrewList' (w : World) (e : Ending) (w' : World) : Prop :=
  ∃ a n cap xs, e = .returned (.slice a n cap) ∧ Own w' w.heap.size a n cap xs ∧ n ≤ 10 ∧ Within xs (-1) 100 ∧ Below w.heap.size w w'

/-- Two lists that were drawn. -/
def DrewTwo (w : World) (e : Ending) (w' : World) : Prop :=
  ∃ a n cap xs a' n' cap' ys, e = .returned (.tuple #[.slice a n cap, .slice a' n' cap']) ∧ Own w' w.heap.size a n cap xs ∧ Own w' w.heap.size a' n' cap' ys ∧ n ≤ 10 ∧ n' ≤ 10 ∧ Below w.heap.size w w'

/-- Two lists and a bool that were drawn. -/
def DrewTwoB (w : World) (e : Ending) (w' : World) : Prop :=
  ∃ a n cap xs a' n' cap' ys b, e = .returned (.tuple #[.slice a n cap, .slice a' n' cap', .bool b]) ∧ Own w' w.heap.size a n cap xs ∧ Own w' w.heap.size a' n' cap' ys ∧ n ≤ 10 ∧ n' ≤ 10 ∧ Below w.heap.size w w'

end Go.Proofs.Ytakadjhbomggbaa

namespace Go.Proofs.Ytakadjhbomggbaa
open Go.RowKit

theorem freshH (w : World) (a : Option Addr) (n cap : Nat) : Below w.heap.size w (w.alloc (.cells #[.slice a n cap, .int .i64 0, .int .u64 0] 56)) := (Below.refl _ _).alloc (Nat.le_refl _) _
theorem Within.at {xs : List Int} {lo up : Int} (h : Within xs lo up) {i : Nat} (hl : i < xs.length) : lo ≤ Go.Proofs.Ytakadjhbomggbaa.nth xs i ∧ Go.Proofs.Ytakadjhbomggbaa.nth xs i ≤ up := h _ (nth_mem hl)
/-- Heights, whatever they are, and the cursor stands. -/
def DrewHts (w : World) (g t : Nat) (e : Ending) (w' : World) : Prop :=
  ∃ a n cap hs t', e = .returned (.slice a n cap) ∧ Own w' w.heap.size a n cap hs ∧ n ≤ 9 ∧ Within hs (-1) 100 ∧ AtG w w' g t' ∧ t' ≤ t + 100
set_option maxRecDepth 100000 in
set_option maxHeartbeats 2000000 in
theorem heights_cur (g t most : Nat) (w : World) (h : Cur w g t) (ht : t ≤ 1000) (hm : most ≤ 8) :
    Calls Try.prog 73 #[.pointer (some ⟨g, 0, none⟩), .int .i64 (most : Int)] w (DrewHts w g t) := by
  have hgl := h.lt
  have A0 := AtG.new h
  have hw1 : IntKind.i64.wrap ((most : Int) + 1) = (most : Int) + 1 := by rw [IntKind.wrap_i64]; omega
  go_enter Try.func73, Try.ntmps73
  go_wp2_with fail
  refine (pick_cur g t ((most : Int) + 1) _ A0.cur (by omega) (by omega)).mono ?_
  rintro e w3 ⟨n0, rfl, n1, n2, ⟨t3, te, tf, hc3⟩, hg3⟩
  have A4 := A0.pick hc3 hg3
  obtain ⟨nn, rfl⟩ : ∃ nn : Nat, n0 = (nn : Int) := ⟨_, (Int.toNat_of_nonneg n1).symm⟩
  have hnn : nn ≤ 8 := by omega
  clear hc3 hg3 A0 n2 n1
  go_wp2_with fail
  go_loopw [5, 6, 7] (fun o lf n wr => ∃ (k j : Nat) (l : Int) (a' : Option Addr) (cap' : Nat) (xs : List Int) (t' : Nat), k + j ≤ 8 ∧ -1 ≤ l ∧ l ≤ (j : Int) ∧ n = .int .i64 (k : Int) ∧ lf = .int .i64 l ∧ o = .slice a' j cap' ∧ Own wr w.heap.size a' j cap' xs ∧ Within xs (-1) (j : Int) ∧ AtG w wr g t' ∧ t' ≤ t + 2 + 4 * j) (fun _ _ n _ => (intOf n).toNat)
  case atStart => exact ⟨nn, 0, -1, none, 0, [], t3, by omega, by omega, by omega, rfl, rfl, rfl, Own.nil _ _, (fun x hx => by simp at hx), A4, by omega⟩
  case round =>
    obtain ⟨k, j, l, a', cap', xs, t', hkj, l0, l1, rfl, rfl, rfl, hown, hwi, A, ht'⟩ := hrel
    clear A4
    by_cases hk0 : 0 < k
    · have hwl : IntKind.i64.wrap (l + 2) = l + 2 := by rw [IntKind.wrap_i64]; omega
      go_wp2_with fail
      refine (pick_cur g t' (l + 2) _ A.cur (by omega) (by omega)).mono ?_
      rintro e w5 ⟨v5, rfl, v50, v51, ⟨t5, x1, x2, hc5⟩, hg5⟩
      have A5 := A.pick hc5 hg5
      have o5 := hown.kept hg5 (.inl hgl)
      have hv5 : v5 ≤ (j : Int) + 1 := by omega
      clear hc5 hg5 hown A v51
      go_wp2_with fail
      refine (one_cur g t5 4 _ A5.cur (by omega) (by omega)).mono ?_
      rintro e w6 ⟨b6, rfl, ⟨t6, x3, x4, hc6⟩, hg6⟩
      have A6 := A5.pick hc6 hg6
      have o6 := o5.kept hg6 (.inl hgl)
      have hs6 := A6.size
      clear hc6 hg6 o5 A5
      have hw4 : IntKind.i64.wrap ((k : Int) - 1) = (k : Int) - 1 := by rw [IntKind.wrap_i64]; omega
      have HW := hid hwi
      clear hwi
      cases b6 with
      | false =>
        go_wp2_with (at_builtin; refine wpList_append_int _ rfl _ _ rfl w.heap.size _ _ _ _ _ rfl rfl o6 (by omega) hs6 ?_; intro a7 cap7 w7 o7 hb7)
        have A7 := A6.later hb7 (Nat.le_refl _)
        clear A6 o6 hb7
        go_roundw
        case rel => exact ⟨k - 1, j + 1, v5, a7, cap7, _, t6, by omega, by omega, by omega, congrArg (Value.int .i64) (by omega), rfl, rfl, o7, (HW.out.wide (by omega) (by omega)).snoc ⟨by omega, by omega⟩, A7, by omega⟩
        case measure => simp [intOf]; omega
      | true =>
        by_cases hj0 : 0 < j
        · obtain ⟨gg, rfl, q1, q2, q3, q4⟩ := o6.opened hj0
          have hck := q3 (j - 1) (by omega)
          have hb := HW.out.at (i := j - 1) (by have := o6.len; omega)
          obtain ⟨x, hx⟩ : ∃ x, nth xs (j - 1) = x := ⟨_, rfl⟩
          rw [hx] at hck hb
          have hwj : IntKind.i64.wrap ((j : Int) - 1) = ((j - 1 : Nat) : Int) := by rw [IntKind.wrap_i64]; omega
          have hwx : IntKind.i64.wrap (x + 1) = x + 1 := by clear hwj; rw [IntKind.wrap_i64]; omega
          have hjp : (0 : Int) < (j : Int) := by omega
          clear q3 q4 hx
          go_wp2_with (at_builtin; refine wpList_append_int _ rfl _ _ rfl w.heap.size _ _ _ _ _ rfl rfl o6 (by omega) hs6 ?_; intro a7 cap7 w7 o7 hb7)
          have A7 := A6.later hb7 (Nat.le_refl _)
          clear A6 o6 hb7
          go_roundw
          case rel => exact ⟨k - 1, j + 1, x + 1, a7, cap7, _, t6, by omega, by omega, by omega, congrArg (Value.int .i64) (by omega), rfl, rfl, o7, (HW.out.wide (by omega) (by omega)).snoc ⟨by omega, by omega⟩, A7, by omega⟩
          case measure => simp [intOf]; omega
        · obtain rfl : j = 0 := by omega
          go_wp2_with (at_builtin; refine wpList_append_int _ rfl _ _ rfl w.heap.size _ _ _ _ _ rfl rfl o6 (by omega) hs6 ?_; intro a7 cap7 w7 o7 hb7)
          have A7 := A6.later hb7 (Nat.le_refl _)
          clear A6 o6 hb7
          go_roundw
          case rel => exact ⟨k - 1, 0 + 1, v5, a7, cap7, _, t6, by omega, by omega, by omega, congrArg (Value.int .i64) (by omega), rfl, rfl, o7, (HW.out.wide (by omega) (by omega)).snoc ⟨by omega, by omega⟩, A7, by omega⟩
          case measure => simp [intOf]; omega
    · obtain rfl : k = 0 := by omega
      have hs1 := A.size
      have HW := hid hwi
      clear hwi
      go_wp2_with fail
      refine (pick_cur g t' 14 _ A.cur (by omega) (by omega)).mono ?_
      rintro e w5 ⟨v5, rfl, v50, v51, ⟨t5, x1, x2, hc5⟩, hg5⟩
      have A5 := A.pick hc5 hg5
      have o5 := hown.kept hg5 (.inl hgl)
      have hs5 := A5.size
      clear hc5 hg5 hown A v51
      by_cases e0 : v5 = 0
      · subst e0
        go_wp2_with fail
        refine (pick_cur g t5 4 _ A5.cur (by omega) (by omega)).mono ?_
        rintro e w6 ⟨v6, rfl, v60, v61, ⟨t6, x3, x4, hc6⟩, hg6⟩
        have A6 := A5.pick hc6 hg6
        have o6 := o5.kept hg6 (.inl hgl)
        have hs6 := A6.size
        clear hc6 hg6 o5 A5
        have hwv : IntKind.i64.wrap (v6 - 1) = v6 - 1 := by rw [IntKind.wrap_i64]; omega
        go_wp2_with (at_builtin; refine wpList_append_int _ rfl _ _ rfl w.heap.size _ _ _ _ _ rfl rfl o6 (by omega) hs6 ?_; intro a7 cap7 w7 o7 hb7)
        go_ret
        exact ⟨_, _, _, _, t6, rfl, o7, by omega, (HW.out.wide (by omega) (by omega)).snoc ⟨by omega, by omega⟩, A6.later hb7 (Nat.le_refl _), by omega⟩
      · by_cases e1 : v5 = 1
        · subst e1
          go_wp2_with fail
          refine (pick_cur g t5 2 _ A5.cur (by omega) (by omega)).mono ?_
          rintro e w6 ⟨v6, rfl, v60, v61, ⟨t6, x3, x4, hc6⟩, hg6⟩
          have A6 := A5.pick hc6 hg6
          obtain ⟨u, rfl⟩ : ∃ u : Nat, v6 = (u : Int) := ⟨_, (Int.toNat_of_nonneg v60).symm⟩
          have hwv : IntKind.i64.wrap (8 + (u : Int)) = ((8 + u : Nat) : Int) := by rw [IntKind.wrap_i64]; omega
          have hs6 := A6.size
          clear hc6 hg6 o5 A5
          go_wp2_with (at_make; refine wpList_make_ints _ rfl _ _ rfl (8 + u) (by first | (simp [Act.eval]; done) | (simp [Act.eval]; omega)) (by first | (simp [Act.eval]; done) | (simp [Act.eval]; omega)) (by omega) ?_; intro a7 cap7 w7 o7 hb7)
          go_ret
          exact ⟨_, _, _, _, t6, rfl, o7.mono hs6, by omega, (fun y hy => by have := List.eq_of_mem_replicate hy; omega), A6.later hb7 hs6, by omega⟩
        · have hb0 : (v5 == 0) = false := by simp [e0]
          have hb1 : (v5 == 1) = false := by simp [e1]
          clear e0 e1
          go_wp2_with fail
          refine bodyPost_ret (v := .slice a' j cap') (by simp [results, Try.results73, go_sem]) rfl ?_
          exact ⟨_, _, _, _, t5, rfl, o5, by omega, HW.out.wide (by omega) (by omega), A5, by omega⟩

/-- Heights, for the caller of a draw. -/
def DrewHeights (w : World) (e : Ending) (w' : World) : Prop := ∃ a n cap hs, e = .returned (.slice a n cap) ∧ Own w' w.heap.size a n cap hs ∧ n ≤ 9 ∧ Within hs (-1) 100 ∧ Below w.heap.size w w'
theorem drawTurnHeights_any (a : Option Addr) (n cap : Nat) (w : World) (h : HasB w a n w.heap.size) :
    Calls Try.prog 33 #[.slice a n cap] w (DrewHeights w) := by
  have C0 := cur_new (cap := cap) h
  have hb0 := freshH w a n cap
  go_enter Try.func33, Try.ntmps33
  go_wp2_with fail
  refine (heights_cur _ 0 8 _ C0 (by omega) (by omega)).mono ?_
  rintro e w1 ⟨a1, n1, c1, hs, t1, rfl, o, hn, hw, A, ht⟩
  go_wp2_with fail
  go_ret
  exact ⟨_, _, _, _, rfl, o.mono (by simp), hn, hw, hb0.trans A.below⟩
theorem drawFirstLabels_any (a : Option Addr) (n cap : Nat) (w : World) (h : HasB w a n w.heap.size) :
    Calls Try.prog 36 #[.slice a n cap] w (DrewHeights w) := by
  have C0 := cur_new (cap := cap) h
  have hb0 := freshH w a n cap
  go_enter Try.func36, Try.ntmps36
  go_wp2_with fail
  refine (heights_cur _ 0 8 _ C0 (by omega) (by omega)).mono ?_
  rintro e w1 ⟨a1, n1, c1, hs, t1, rfl, o, hn, hw, A, ht⟩
  go_wp2_with fail
  go_ret
  exact ⟨_, _, _, _, rfl, o.mono (by simp), hn, hw, hb0.trans A.below⟩
theorem drawBounceOf_any (a : Option Addr) (n cap : Nat) (w : World) (h : HasB w a n w.heap.size) :
    Calls Try.prog 39 #[.slice a n cap] w (DrewHeights w) := by
  have C0 := cur_new (cap := cap) h
  have hb0 := freshH w a n cap
  go_enter Try.func39, Try.ntmps39
  go_wp2_with fail
  refine (heights_cur _ 0 8 _ C0 (by omega) (by omega)).mono ?_
  rintro e w1 ⟨a1, n1, c1, hs, t1, rfl, o, hn, hw, A, ht⟩
  go_wp2_with fail
  go_ret
  exact ⟨_, _, _, _, rfl, o.mono (by simp), hn, hw, hb0.trans A.below⟩
end Go.Proofs.Ytakadjhbomggbaa

namespace Go.Proofs.Ytakadjhbomggbaa
open Go.RowKit Go.Sort

theorem isNaNJ_any (x : Int) (w : World) : Calls Try.prog 106 #[.int .i64 x] w fun e w' => e = .returned (.bool false) ∧ w = w' := by
  have hx : (x != x) = false := by simp
  go_enter Try.func106, Try.ntmps106
  go_wp2_with fail
  go_ret
  exact ⟨rfl, rfl⟩
set_option maxHeartbeats 400000 in
theorem compareJ_any (x y : Int) (w : World) : Calls Try.prog 72 #[.int .i64 x, .int .i64 y] w fun e w' => e = .returned (.int .i64 (cmpI x y)) ∧ w = w' := by
  by_cases h1 : x < y
  · have HR : Hid (cmpI x y = -1) := hid (by simp [cmpI, h1])
    go_enter Try.func72, Try.ntmps72
    go_wp2_with (go_at_call 106; refine (isNaNJ_any _ _).mono ?_; rintro e w' ⟨rfl, rfl⟩)
    go_ret
    exact ⟨ret_int HR.out.symm, rfl⟩
  · by_cases h2 : y < x
    · have HR : Hid (cmpI x y = 1) := hid (by simp [cmpI, h1, h2])
      go_enter Try.func72, Try.ntmps72
      go_wp2_with (go_at_call 106; refine (isNaNJ_any _ _).mono ?_; rintro e w' ⟨rfl, rfl⟩)
      go_ret
      exact ⟨ret_int HR.out.symm, rfl⟩
    · have HR : Hid (cmpI x y = 0) := hid (by simp [cmpI, h1, h2])
      go_enter Try.func72, Try.ntmps72
      go_wp2_with (go_at_call 106; refine (isNaNJ_any _ _).mono ?_; rintro e w' ⟨rfl, rfl⟩)
      go_ret
      exact ⟨ret_int HR.out.symm, rfl⟩

theorem wcmp_any (bx : Nat) (a : Option Addr) (n cap : Nat) (xs : List Int) (x y : Nat) (w : World) (hbx : w.cell? ⟨bx, 0, none⟩ = some (.slice a n cap)) (h : Has w a n cap xs) (hx : x < n) (hy : y < n) :
    Calls Try.prog 96 #[.int .i64 (x : Int), .int .i64 (y : Int), .pointer (some ⟨bx, 0, none⟩)] w fun e w' => e = .returned (.int .i64 (cmpI (nth xs x) (nth xs y))) ∧ Quiet w w' := by
  obtain ⟨b, off, rfl, hb, hc⟩ := h.2.2.2.2 (by omega)
  have c1 := hc x hx
  have c2 := hc y hy
  have z1 : (x : Int) < (n : Int) := by omega
  have z2 : (y : Int) < (n : Int) := by omega
  have z3 : (0 : Int) ≤ (x : Int) := by omega
  have z4 : (0 : Int) ≤ (y : Int) := by omega
  have cq : ∀ j, Calls Try.prog 72 #[.int .i64 (nth xs x), .int .i64 (nth xs y)] (w.drewN j) fun e w'' => e = .returned (.int .i64 (cmpI (nth xs x) (nth xs y))) ∧ w'' = w.drewN j := fun j => (compareJ_any _ _ _).mono fun e w'' ⟨he, hw⟩ => ⟨he, hw.symm⟩
  have CQ := hid cq
  clear hc cq
  go_enter Try.func96, Try.ntmps96
  go_wp2_with fail
  go_quiet ((go_at_call 72; exact Calls.quiet_of_same (CQ.out _)))
  go_wp2_with fail
  go_ret
  exact ⟨rfl, ⟨_, rfl⟩⟩

def encF (m : Nat) (i : Fin (m + 1)) : Value := .int .i64 ((i.val : Nat) : Int)
theorem allFin_enc (m : Nat) : (allFin m).map (encF m) = (upto (m + 1)).map (Value.int .i64) := by
  unfold allFin upto encF
  apply List.ext_getElem
  · simp
  · intro i h1 h2
    simp

set_option maxHeartbeats 1000000 in
theorem insCars_any (B g m cap bx : Nat) (al : Option Addr) (cl : Nat) (xs : List Int) (w : World) (h8 : m + 1 ≤ 8) (hl : xs.length = m + 1) (hbd : ∀ c, c < m + 1 → 0 ≤ nth xs c ∧ nth xs c < (m : Int) + 1)
    (h : Own w B (some ⟨g, 0, none⟩) (m + 1) cap (upto (m + 1))) (hx : Has w al (m + 1) cl xs) (hal : ∀ p, al = some p → p.block ≠ g) (hbx : w.cell? ⟨bx, 0, none⟩ = some (.slice al (m + 1) cl)) (hbg : bx ≠ g) :
    Calls Try.prog 120 #[.slice (some ⟨g, 0, none⟩) (m + 1) cap, .int .i64 0, .int .i64 ((m + 1 : Nat) : Int), .func (.func 96) #[] #[.pointer (some ⟨bx, 0, none⟩)]] w fun e w' =>
      e = .returned (.tuple #[]) ∧ Own w' B (some ⟨g, 0, none⟩) (m + 1) cap (carsL xs) ∧ w.grownBy w' (some g) := by
  have hown := h
  obtain ⟨⟨h1, h2⟩, h3, h4⟩ := h
  rcases h2 with ⟨hv, _⟩ | ⟨g', cap', cur, hv, hg, hh, hnc, hcm, hcs, htake⟩
  · simp at hv
  · simp at hv
    obtain ⟨rfl, rfl⟩ := hv
    have hlen : (allFin m).length = m + 1 := by simp [allFin]
    have hH : Go.Sort.Holds (encF m) w g 0 (allFin m).toArray := holds_of_cells hh (by rw [hlen, allFin_enc]; simpa using htake)
    have hlt : g < w.heap.size := (Array.getElem?_eq_some_iff.1 hh).1
    have eg : ∀ args w, (callFunc 96 args).run Try.prog w = .ok (.enter 96 args) w := by intro args w; go_simp
    have hcmp : CmpReads Try.prog 96 #[.pointer (some ⟨bx, 0, none⟩)] (encF m) (fun x y => cmpI (nth xs x.val) (nth xs y.val)) g 0 (allFin m).toArray.size w := by
      intro q os dk _ x y
      have hgr : w.grownBy (sortWorld (encF m) w g 0 q dk os) (some g) := grownBy_sortedE (encF m) dk
      have hx' := hx.kept hgr hal
      have hb' : (sortWorld (encF m) w g 0 q dk os).cell? ⟨bx, 0, none⟩ = some (.slice al (m + 1) cl) := hgr.cell hbx (by simpa using hbg)
      refine (wcmp_any bx al (m + 1) cl xs x.val y.val _ hb' hx' x.isLt y.isLt).mono ?_
      rintro e w' ⟨rfl, q2, rfl⟩
      exact ⟨rfl, q2, rfl⟩
    have hs := Try.insertionSortCmpFunc_one_f120 (encF m) (fun _ => rfl) (fun x y => cmpI (nth xs x.val) (nth xs y.val)) 96 #[.pointer (some ⟨bx, 0, none⟩)] g 0 cap 0 (m + 1) (allFin m).toArray w eg hcmp hH (Nat.zero_le _) (by simp [allFin]) (by simp [allFin]; omega)
    have hsz : (allFin m).toArray.size = m + 1 := by simp [allFin]
    simp only [hsz] at hs
    refine hs.mono ?_
    rintro e w' ⟨rfl, q, rfl⟩
    rw [← sortWorld_none]
    have hlt' : (ltOf fun x y : Fin (m + 1) => cmpI (nth xs x.val) (nth xs y.val)) = fun x y => decide (nth xs x.val < nth xs y.val) := by
      funext x y
      have := ltOf_cmpI (nth xs x.val) (nth xs y.val)
      simpa [ltOf] using this
    have hsort := sort_cars hl (by omega) hbd
    rw [← hlt'] at hsort
    generalize insertionSort (ltOf fun x y : Fin (m + 1) => cmpI (nth xs x.val) (nth xs y.val)) (allFin m).toArray 0 (m + 1) = d' at hsort ⊢
    have hcl : (carsL xs).length = m + 1 := length_carsL hl (by omega) (fun c hc => by have := hbd c hc; omega)
    have hdl : d'.toList.length = m + 1 := by
      have h5 := congrArg List.length hsort
      rw [List.length_map, hcl] at h5
      exact h5
    have henc : d'.toList.map (encF m) = (carsL xs).map (Value.int .i64) := by
      rw [← hsort, List.map_map]
      rfl
    refine ⟨rfl, ⟨⟨by simp [hcl], .inr ⟨g, cap, _, rfl, hg, heap_sortedE _ d' hh, hnc, hcm, by simpa [putCells] using hcs, ?_⟩⟩, hcl, h4⟩, grownBy_sortedE _ d'⟩
    rw [Nat.mul_one, ← henc]
    have := take_putCellsE (encF m) cur d'.toList (by omega)
    rw [toArr, hdl] at this
    exact this

set_option maxHeartbeats 400000 in
theorem insNone_any (a : Option Addr) (cap : Nat) (fv : Value) (w : World) :
    Calls Try.prog 120 #[.slice a 0 cap, .int .i64 0, .int .i64 0, fv] w fun e w' => e = .returned (.tuple #[]) ∧ w' = w := by
  go_enter Try.func120, Try.ntmps120
  go_wp2
  refine wp_loop_rounds 1 ?_
  rw [rounds_succ]
  go_wp2
  all_goals first | (exfalso; omega) | (go_end0; exact ⟨rfl, rfl⟩)

set_option maxHeartbeats 1000000 in
theorem stableCars_any (B m g cap bx : Nat) (al : Option Addr) (cl : Nat) (xs : List Int) (w : World) (h8 : m + 1 ≤ 8) (hl : xs.length = m + 1) (hbd : ∀ c, c < m + 1 → 0 ≤ nth xs c ∧ nth xs c < (m : Int) + 1)
    (h : Own w B (some ⟨g, 0, none⟩) (m + 1) cap (upto (m + 1))) (hx : Has w al (m + 1) cl xs) (hal : ∀ p, al = some p → p.block ≠ g) (hbx : w.cell? ⟨bx, 0, none⟩ = some (.slice al (m + 1) cl)) (hbg : bx ≠ g) :
    Calls Try.prog 95 #[.slice (some ⟨g, 0, none⟩) (m + 1) cap, .func (.func 96) #[] #[.pointer (some ⟨bx, 0, none⟩)]] w fun e w' =>
      e = .returned (.tuple #[]) ∧ Own w' B (some ⟨g, 0, none⟩) (m + 1) cap (carsL xs) ∧ w.grownBy w' (some g) := by
  have hins := insCars_any B g m cap bx al cl xs w h8 hl hbd h hx hal hbx hbg
  have HI := hid hins
  clear hins h hx hal hbx hbg hbd
  have hst : Calls Try.prog 117 #[.slice (some ⟨g, 0, none⟩) (m + 1) cap, .int .i64 ((m + 1 : Nat) : Int), .func (.func 96) #[] #[.pointer (some ⟨bx, 0, none⟩)]] w fun e w' =>
      e = .returned (.tuple #[]) ∧ Own w' B (some ⟨g, 0, none⟩) (m + 1) cap (carsL xs) ∧ w.grownBy w' (some g) := by
    have hn1 : ¬ (20 : Int) ≤ ((m + 1 : Nat) : Int) := by omega
    have hn2 : ¬ (20 : Int) < ((m + 1 : Nat) : Int) := by omega
    go_enter Try.func117, Try.ntmps117
    go_wp2
    refine wp_loop_rounds 1 ?_
    rw [rounds_succ]
    go_wp2_with (go_at_call 120; refine HI.out.mono ?_; rintro e w1 ⟨rfl, hq1, hq2⟩)
    refine wp_loop_rounds 1 ?_
    rw [rounds_succ]
    go_wp2
    all_goals first | (exfalso; omega) | (go_end0; exact ⟨rfl, hq1, hq2⟩)
  go_enter Try.func95, Try.ntmps95
  go_wp2_with fail
  refine hst.mono ?_
  rintro e w1 ⟨rfl, hq1, hq2⟩
  go_wp2_with fail
  go_end0
  exact ⟨rfl, hq1, hq2⟩

set_option maxHeartbeats 1000000 in
theorem stableNone_any (a : Option Addr) (cap : Nat) (fv : Value) (w : World) :
    Calls Try.prog 95 #[.slice a 0 cap, fv] w fun e w' => e = .returned (.tuple #[]) ∧ w' = w := by
  have hst : Calls Try.prog 117 #[.slice a 0 cap, .int .i64 0, fv] w fun e w' => e = .returned (.tuple #[]) ∧ w' = w := by
    go_enter Try.func117, Try.ntmps117
    go_wp2
    refine wp_loop_rounds 1 ?_
    rw [rounds_succ]
    go_wp2_with (go_at_call 120; refine (insNone_any _ _ _ _).mono ?_; rintro e w1 ⟨rfl, rfl⟩)
    refine wp_loop_rounds 1 ?_
    rw [rounds_succ]
    go_wp2
    all_goals first | (exfalso; omega) | (go_end0; exact ⟨rfl, rfl⟩)
  go_enter Try.func95, Try.ntmps95
  go_wp2_with fail
  refine hst.mono ?_
  rintro e w1 ⟨rfl, rfl⟩
  go_wp2_with fail
  go_end0
  exact ⟨rfl, rfl⟩
end Go.Proofs.Ytakadjhbomggbaa

namespace Go.Proofs.Ytakadjhbomggbaa
open Go.RowKit

/-- Two slices lie in different blocks. -/
def Apart (a b : Option Addr) : Prop := ∀ p q : Addr, a = some p → b = some q → p.block ≠ q.block
theorem Apart.symm {a b : Option Addr} (h : Apart a b) : Apart b a := fun p q hp hq e => h q p hq hp e.symm
theorem Apart.noneL (b : Option Addr) : Apart none b := fun _ _ h => by cases h
theorem Apart.noneR (a : Option Addr) : Apart a none := fun _ _ _ h => by cases h

/-- 'append(out, y)' of one number to a slice of the call's own, beside another one. -/
theorem wpList_append_two {ops : Array Oper} {rest : List Oper} {o : Oper} {a : Act} {Q : Exit → Act → World → Prop} (w : World) (hgd : o.guard = none) (s x : Operand)
    (ho : o.op = .call { callee := .builtin .append, args := #[s, x], argTypes := #[24, 24] })
    (B : Nat) (a0 : Option Addr) (n cap : Nat) (xs : List Int) (y : Int) (hs : a.eval s = .slice a0 n cap) (hx : a.eval x = .slice (some ⟨w.heap.size, 0, none⟩) 1 1)
    (hown : Own w B a0 n cap xs) (hl : n + 1 ≤ 2097152) (hB : B ≤ w.heap.size) (B2 : Nat) (a2 : Option Addr) (n2 cap2 : Nat) (ys : List Int) (h2 : Own w B2 a2 n2 cap2 ys) (hap : Apart a0 a2)
    (h : ∀ a' cap' w', Own w' B a' (n + 1) cap' (xs ++ [y]) → Own w' B2 a2 n2 cap2 ys → Apart a' a2 → Below B w w' → wpList Try.prog ops Q rest (a.put o.dst (.slice a' (n + 1) cap')) w') :
    wpList Try.prog ops Q (o :: rest) a (w.alloc (.cells #[.int .i64 y] 3)) := by
  obtain ⟨i0, hi, hz0, hz1, hz2⟩ := info_parts Try.infoInt
  have hlen := hown.len
  have hba : Below w.heap.size w (w.alloc (.cells #[.int .i64 y] 3)) := (Below.refl _ _).alloc (Nat.le_refl _) _
  refine wpList_append_lies (P := Try.prog) _ hgd s x 24 ho B 3 i0 (.int .i64 0) 1 8 Try.underlying24 hi hz0 hz1 hz2 rfl (by decide) _ n (xs.map (Value.int .i64)) hs (hown.1.alloc _) ⟨w.heap.size, 0, none⟩ 1 1 [.int .i64 y] hx rfl (one_cell w y) (by intro u hu; simp at hu; subst hu; rfl) (by decide) (by unfold maxLen; omega) (by omega) (by simp; omega) _ rfl ?_
  intro g cap' w' hown' hgrow hg hlt
  have hb : Below B w w' := ((Below.refl B w).alloc hB _).grown hgrow (by simp; omega) (fun k hk => (hown.1.lt k hk).1)
  have h2a := h2.below hba (Nat.le_refl _)
  have hk2 : Own w' B2 a2 n2 cap2 ys := by
    cases a0 with
    | none =>
      exact ⟨h2a.1.kept hgrow ((Classical.em _).elim .inl fun h => .inr h), h2.2⟩
    | some p =>
      refine Own.kept (g := p.block) h2a (by simpa [Value.ownBlock] using hgrow) (.inr fun q hq e => hap p q rfl hq e.symm)
  obtain ⟨a', cap'', hv, ho'⟩ := own_of_row (xs := xs ++ [y]) hown' (by simp [hlen]) (by simp) (by simp; omega)
  cases hv
  refine h _ _ _ ho' hk2 (fun p q hp hq => ?_) hb
  cases hp
  rcases hg with hg | hg
  · cases a0 with
    | none => simp [Value.ownBlock] at hg
    | some p0 =>
      simp [Value.ownBlock] at hg
      have := hap p0 q rfl hq
      rw [hg] at this
      exact this
  · have hq2 : q.block < w.heap.size := by subst hq; exact (h2.1.lt q.block rfl).2
    simp at hg
    show g ≠ q.block
    omega
theorem apart_of {a b : Option Addr} {K : Nat} (h : BlkLt a K) (h' : BlkGe b K) : Apart a b := fun p q hp hq e => by
  have := h p hp
  have := h' q hq
  omega

end Go.Proofs.Ytakadjhbomggbaa

namespace Go.Proofs.Ytakadjhbomggbaa
open Go.RowKit

def pruB (xs : List Int) : List Int × Bool := if treeB xs && decide (0 < xs.length) then (pruOf xs, true) else ([], false)

theorem pruB_yes {xs : List Int} (h : treeB xs = true) (hn : 0 < xs.length) : pruB xs = (pruOf xs, true) := by simp [pruB, h, hn]
theorem pruB_no {xs : List Int} (h : treeB xs = false ∨ xs.length = 0) : pruB xs = ([], false) := by
  unfold pruB
  rcases h with h | h <;> simp [h]

end Go.Proofs.Ytakadjhbomggbaa

namespace Go.Proofs.Ytakadjhbomggbaa
open Go.RowKit

theorem park_facts {xs : List Int} {n : Nat} (h : isPark xs = true) (hl : xs.length = n) : n ≤ 8 ∧ ∀ c, c < n → 0 ≤ nth xs c ∧ nth xs c < (n : Int) := by
  subst hl
  obtain ⟨h1, h2, _⟩ := isPark_iff.1 h
  exact ⟨h1, fun c hc => by have := h2 _ (nth_mem hc); omega⟩
theorem carsL_nth {xs : List Int} {n : Nat} (hl : xs.length = n) (h8 : n ≤ 8) (hb : ∀ c, c < n → 0 ≤ nth xs c ∧ nth xs c < (n : Int)) {k : Nat} (hk : k < n) : ∃ c : Nat, nth (carsL xs) k = (c : Int) ∧ c < n := by
  have hp := carsL_perm hl (by omega) hb
  have hm : nth (carsL xs) k ∈ carsL xs := nth_mem (by rw [length_carsL hl (by omega) hb]; exact hk)
  have := hp.subset hm
  unfold upto at this
  obtain ⟨c, hc, e⟩ := List.mem_map.1 this
  exact ⟨c, e.symm, List.mem_range.1 hc⟩
def HgAt (xs ls ys : List Int) (k : Nat) : Prop := ∀ i, i < k → nth ys i = (i : Int) - nth xs (nth ls i).toNat
theorem hg_all {xs ls ys : List Int} {n : Nat} (h : HgAt xs ls ys n) (hl : ys.length = n) (hn : ls.length = n) : ys = hgtOf xs ls := ext_nth (by rw [length_hgtOf]; omega) fun i hi => by rw [h i (by omega), nth_hgtOf (by omega)]
theorem hg_step {xs ls ys : List Int} {k c n : Nat} (h : HgAt xs ls ys k) (hl : ys.length = n) (hk : k < n) (hc : nth ls k = (c : Int)) : HgAt xs ls (ys.set k ((k : Int) - nth xs c)) (k + 1) := fun i hi => by
  rw [nth_set (by omega)]
  split
  · subst_vars; rw [hc, Int.toNat_natCast]
  · exact h i (by omega)
theorem walk_of_none {xs : List Int} (h : xs.length = 0) : carsL xs = [] := by obtain rfl := List.eq_nil_of_length_eq_zero h; rfl

/-- The stable sort of the cars in order. -/
theorem sortCars_any (B n : Nat) (a al : Option Addr) (cap cl bx : Nat) (xs : List Int) (w : World) (h8 : n ≤ 8) (hl : xs.length = n) (hbd : ∀ c, c < n → 0 ≤ nth xs c ∧ nth xs c < (n : Int)) (hBw : B ≤ w.heap.size)
    (h : Own w B a n cap (upto n)) (hx : Has w al n cl xs) (hal : 0 < n → BlkLt al B) (hbx : w.cell? ⟨bx, 0, none⟩ = some (.slice al n cl)) (hbg : bx < B) :
    Calls Try.prog 95 #[.slice a n cap, .func (.func 96) #[] #[.pointer (some ⟨bx, 0, none⟩)]] w fun e w' =>
      e = .returned (.tuple #[]) ∧ Own w' B a n cap (carsL xs) ∧ Below B w w' := by
  by_cases hn : n = 0
  · subst hn
    refine (stableNone_any _ _ _ _).mono ?_
    rintro e w1 ⟨rfl, rfl⟩
    exact ⟨rfl, by rw [walk_of_none hl]; exact h, Below.refl _ _⟩
  · obtain ⟨m, rfl⟩ : ∃ m, n = m + 1 := ⟨n - 1, by omega⟩
    obtain ⟨g, rfl, hg1, hg2, _, _⟩ := h.opened (by omega)
    refine (stableCars_any B m g cap bx al cl xs w h8 hl (fun c hc => by have := hbd c hc; omega) h hx ((hal (by omega)).ne hg1) hbx (by omega)).mono ?_
    rintro e w1 ⟨rfl, ho, hgr⟩
    exact ⟨rfl, ho, below_grown hgr hBw (fun k hk => by simp at hk; omega)⟩

set_option maxHeartbeats 1000000 in
theorem carsBy_any (a : Option Addr) (n cap : Nat) (xs : List Int) (w : World) (h : Has w a n cap xs) (h8 : n ≤ 8) (hbd : ∀ c, c < n → 0 ≤ nth xs c ∧ nth xs c < (n : Int)) :
    Calls Try.prog 54 #[.slice a n cap] w fun e w' => ∃ a2 c2, e = .returned (.slice a2 n c2) ∧ Own w' w.heap.size a2 n c2 (carsL xs) ∧ Below w.heap.size w w' := by
  have HL := hid h.len
  have HBD := hid hbd
  have hle := h.le
  clear hbd
  go_enter Try.func54, Try.ntmps54
  go_wp2_with fail
  generalize hW : w.alloc (.cells #[.slice a n cap] 24) = W
  have hbW : Below w.heap.size w W := by rw [← hW]; exact (Below.refl _ w).alloc (Nat.le_refl _) _
  have hsz : W.heap.size = w.heap.size + 1 := by rw [← hW]; simp
  have hbx : W.cell? ⟨w.heap.size, 0, none⟩ = some (.slice a n cap) := by rw [← hW, World.cell?_alloc_at _ _ _ _ rfl]; rfl
  clear hW
  refine (indicesOf_any n _ (by omega)).mono ?_
  rintro e w2 ⟨a2, c2, rfl, own2, st⟩
  have hs2 := st.size
  replace hbx : w2.cell? ⟨w.heap.size, 0, none⟩ = some (.slice a n cap) := by rw [st.cell (p := ⟨w.heap.size, 0, none⟩) (by simp; omega)]; exact hbx
  have hb2 := hbW.trans (st.mono hbW.size)
  clear st hbW
  go_wp2_with fail
  refine (sortCars_any W.heap.size n a2 a c2 cap w.heap.size xs w2 h8 HL.out HBD.out hs2 own2 (h.below hb2 (Nat.le_refl _)) (fun hn => (h.lt hn).mono (by omega)) hbx (by omega)).mono ?_
  rintro e w3 ⟨rfl, own3, st⟩
  have hb3 := hb2.trans (st.mono (by omega))
  clear st hb2 own2
  go_wp2_with fail
  go_ret
  exact ⟨_, _, rfl, own3.mono (by omega), hb3⟩
set_option maxHeartbeats 2000000 in
theorem implWalkOf_any (a : Option Addr) (n cap : Nat) (xs : List Int) (w : World) (h : Has w a n cap xs) :
    Calls Try.prog 10 #[.slice a n cap] w (PostWalk w (walkOf xs)) := by
  have HL := hid h.len
  have hle := h.le
  go_enter Try.func10, Try.ntmps10
  go_wp2_with fail
  generalize hW : w.alloc (.cells #[.slice none 0 0, .slice none 0 0] 27) = W
  have hbW : Below w.heap.size w W := by rw [← hW]; exact (Below.refl _ w).alloc (Nat.le_refl _) _
  have hsz : W.heap.size = w.heap.size + 1 := by rw [← hW]; simp
  have BR : BoxAt W w.heap.size (.slice none 0 0) (.slice none 0 0) := by rw [← hW]; exact boxAt_new _ _ _ _
  clear hW
  refine (isParkingFunction_any _ _ _ _ _ (h.below hbW (Nat.le_refl _))).mono ?_
  rintro e w1 ⟨rfl, st⟩
  have hs1 := st.size
  replace BR := BR.below st (by omega)
  have hb1 := hbW.trans (st.mono hbW.size)
  clear st hbW
  by_cases hp : isPark xs = true
  · rw [hp]
    have HR : Hid (walkOf xs = ((hgtOf xs (carsL xs), carsL xs), true)) := hid (by unfold walkOf; rw [if_pos hp])
    obtain ⟨h8, hbd⟩ := park_facts hp h.len
    have HBD := hid hbd
    have HN : Hid (∀ k, k < n → ∃ c : Nat, nth (carsL xs) k = (c : Int) ∧ c < n) := hid (fun k hk => carsL_nth HL.out h8 hbd hk)
    have HCL := hid (length_carsL HL.out (by omega) hbd)
    clear hp hbd
    go_wp2_with fail
    refine (carsBy_any _ _ _ _ _ (h.below hb1 (Nat.le_refl _)) h8 HBD.out).mono ?_
    rintro e w3 ⟨a2, c2, rfl, own3, st⟩
    have hs3 := st.size
    replace BR := BR.below st (by omega)
    have hb3 := hb1.trans (st.mono hb1.size)
    clear st hb1
    go_wp2_with (at_make; refine wpList_make_ints _ rfl _ _ rfl n rfl rfl (by omega) ?_; intro a4 c4 w4 own4 st4)
    have lt3 := own3.lt
    replace BR := BR.below st4 (by omega)
    replace own3 := own3.below st4 (Nat.le_refl _)
    have hb4 := hb3.trans (st4.mono hb3.size)
    clear st4 hb3
    go_loopw [19] (fun i wr => ∃ (k : Nat) (ys : List Int), k ≤ n ∧ i = .int .i64 k ∧ Own wr w3.heap.size a4 n c4 ys ∧ Hid (HgAt xs (carsL xs) ys k) ∧ Own wr w1.heap.size a2 n c2 (carsL xs) ∧ BoxAt wr w.heap.size (.slice none 0 0) (.slice none 0 0) ∧ Below w.heap.size w wr) (fun i _ => n - (intOf i).toNat)
    case atStart => exact ⟨0, _, Nat.zero_le _, rfl, own4, hid (fun i hi => by omega), own3, BR, hb4⟩
    case round =>
      obtain ⟨k, ys, hk, rfl, oh, HH, oc, BR, hb⟩ := hrel
      clear own3 own4 hb4
      by_cases hlt : k < n
      · obtain ⟨b1, off1, rfl, hbb1, hc1⟩ := h.2.2.2.2 (by omega)
        obtain ⟨c, hcv, hcn⟩ := HN.out k hlt
        have hxc := HBD.out c hcn
        have hck : wr.cell? ⟨b1, off1 + c, none⟩ = some (.int .i64 (nth xs c)) := by rw [hb.cell (p := ⟨b1, off1 + c, none⟩) hbb1]; exact hc1 c hcn
        obtain ⟨q, rfl, hq1, hq2, hq3, hq4⟩ := oc.opened (by omega)
        have hqk := hq3 k hlt
        rw [hcv] at hqk
        obtain ⟨g, rfl, hg1, hg2, hg3, hg4⟩ := oh.opened (by omega)
        have hqg := lt3 _ rfl
        have hgx := hg3 k hlt
        have hgf := hg4 k
        have HH2 := hid (hg_step HH.out oh.len hlt hcv)
        obtain ⟨s1, s2⟩ := oh.set k ((k : Int) - nth xs c)
        have oc2 := oc.setNe (g := g) (i := k) (lt3.ne hg1) (.int .i64 ((k : Int) - nth xs c))
        have BR2 := BR.apart (g' := g) (i := k) (z := .int .i64 ((k : Int) - nth xs c)) (by omega)
        have hb5 := hb.setCell (p := ⟨g, k, none⟩) (by simp; omega) (.int .i64 ((k : Int) - nth xs c))
        have z1 : (c : Int) < (n : Int) := by omega
        clear hc1 hq3 hq4 hg3 hg4
        go_wp2_with fail
        go_roundw
        case rel => exact ⟨k + 1, _, by omega, by go_num, s1, HH2, oc2, BR2, hb5⟩
        case measure => simp [intOf]; omega
      · obtain rfl : k = n := by omega
        have HE := hid (hg_all HH.out oh.len HCL.out)
        have ap := (apart_lt lt3 oh.ge).symm
        rw [HE.out] at oh
        have f1 := ((oh.mono (show w.heap.size ≤ w3.heap.size by omega)).setNe (g := w.heap.size) (i := 0) (oh.ge.ne (by omega)) (.slice a4 k c4)).setNe (g := w.heap.size) (i := 1) (oh.ge.ne (by omega)) (.slice a2 k c2)
        have f2 := ((oc.mono (show w.heap.size ≤ w1.heap.size by omega)).setNe (g := w.heap.size) (i := 0) (oc.ge.ne (by omega)) (.slice a4 k c4)).setNe (g := w.heap.size) (i := 1) (oc.ge.ne (by omega)) (.slice a2 k c2)
        have B2f := (BR.set0 (z := .slice a4 k c4)).set1 (z := .slice a2 k c2)
        have hb5 := (hb.setCell (p := ⟨w.heap.size, 0, none⟩) (by simp) (.slice a4 k c4)).setCell (p := ⟨w.heap.size, 1, none⟩) (by simp) (.slice a2 k c2)
        obtain ⟨t1, t2, t3, t4⟩ := id BR
        go_wp2_with fail
        obtain ⟨y1, y2, y3, y4⟩ := id B2f
        refine bodyPost_ret (v := .tuple #[.agg #[.slice a4 k c4, .slice a2 k c2], .bool true]) (by simp [results, Try.results10, go_sem, *]) rfl (postWalk HR.out f1 f2 ap hb5)
  · rw [Bool.eq_false_iff.2 hp]
    have HR : Hid (walkOf xs = (([], []), false)) := hid (by unfold walkOf; rw [if_neg hp])
    have B2 := (BR.set0 (z := .slice none 0 0)).set1 (z := .slice none 0 0)
    obtain ⟨x1, x2, x3, x4⟩ := id BR
    go_wp2_with fail
    obtain ⟨y1, y2, y3, y4⟩ := id B2
    refine bodyPost_ret (v := .tuple #[.agg #[.slice none 0 0, .slice none 0 0], .bool false]) (by simp [results, Try.results10, go_sem, *]) rfl (postWalk_no HR.out ((hb1.setCell (by simp) _).setCell (by simp) _))

/-- The cars with a favourite less than x, and those of the first c with the favourite x. -/
def lx (xs : List Int) (x c : Nat) : List Int := carsTo xs x ++ idxs (fun i => decide (nth xs i = (x : Int))) c
theorem lx_zero (xs : List Int) (x : Nat) : lx xs x 0 = carsTo xs x := by simp [lx, idxs]
theorem lx_full {xs : List Int} {n x : Nat} (hl : xs.length = n) : lx xs x n = carsTo xs (x + 1) := by subst hl; rfl
theorem lx_yes {xs : List Int} {x c : Nat} (h : nth xs c = (x : Int)) : lx xs x (c + 1) = lx xs x c ++ [(c : Int)] := by unfold lx; rw [idxs_succ, if_pos (by simp [h]), List.append_assoc]
theorem lx_no {xs : List Int} {x c : Nat} (h : ¬ nth xs c = (x : Int)) : lx xs x (c + 1) = lx xs x c := by unfold lx; rw [idxs_succ, if_neg (by simp [h]), List.append_nil]
theorem hgtOf_snoc (xs ls : List Int) (c : Nat) : hgtOf xs (ls ++ [(c : Int)]) = hgtOf xs ls ++ [(ls.length : Int) - nth xs c] := by
  refine ext_nth (by simp [length_hgtOf]) fun i hi => ?_
  rw [length_hgtOf, List.length_append, List.length_singleton] at hi
  rw [nth_hgtOf (by simp; omega)]
  by_cases e : i < ls.length
  · rw [nth_append_left e, nth_append_left (by rw [length_hgtOf]; exact e), nth_hgtOf e]
  · obtain rfl : i = ls.length := by omega
    rw [nth_append_at, Int.toNat_natCast]
    have : nth (hgtOf xs ls ++ [(ls.length : Int) - nth xs c]) (hgtOf xs ls).length = (ls.length : Int) - nth xs c := nth_append_at
    rw [length_hgtOf] at this
    exact this.symm

set_option maxRecDepth 100000 in
set_option maxHeartbeats 4000000 in
theorem waOf_any (a : Option Addr) (n cap : Nat) (xs : List Int) (w : World) (h : Has w a n cap xs) (h8 : n ≤ 8) :
    Calls Try.prog 56 #[.slice a n cap] w fun e w' => ∃ ah q ch al cl, e = .returned (.agg #[.slice ah q ch, .slice al q cl]) ∧ Own w' w.heap.size ah q ch (hgtOf xs (carsL xs)) ∧ Own w' w.heap.size al q cl (carsL xs) ∧ Apart2 ah al ∧ Below w.heap.size w w' := by
  have HL := hid h.len
  go_enter Try.func56, Try.ntmps56
  go_wp2_with fail
  generalize hW : (w.alloc (.cells #[.slice none 0 0, .slice none 0 0] 27)).alloc (.cells #[.slice none 0 0, .slice none 0 0] 27) = W
  have hbW : Below w.heap.size w W := by rw [← hW]; exact ((Below.refl _ w).alloc (Nat.le_refl _) _).alloc (by simp) _
  have hsz : W.heap.size = w.heap.size + 2 := by rw [← hW]; simp
  have BR : BoxAt W w.heap.size (.slice none 0 0) (.slice none 0 0) := by rw [← hW]; exact (boxAt_new _ _ _ _).alloc _
  have BX : BoxAt W (w.heap.size + 1) (.slice none 0 0) (.slice none 0 0) := by rw [← hW]; have := boxAt_new (w.alloc (.cells #[.slice none 0 0, .slice none 0 0] 27)) (.slice none 0 0) (.slice none 0 0) 27; simpa using this
  clear hW
  go_loopw [10] (fun i wr => ∃ (x q : Nat) (ah al : Option Addr) (ch cl : Nat), x ≤ n ∧ q ≤ 8 * x ∧ i = .int .i64 x ∧ Own wr (w.heap.size + 2) ah q ch (hgtOf xs (carsTo xs x)) ∧ Own wr (w.heap.size + 2) al q cl (carsTo xs x) ∧ Apart ah al ∧ w.heap.size + 2 ≤ wr.heap.size ∧ BoxAt wr w.heap.size (.slice none 0 0) (.slice none 0 0) ∧ BoxAt wr (w.heap.size + 1) (.slice ah q ch) (.slice al q cl) ∧ Below w.heap.size w wr) (fun i _ => n - (intOf i).toNat)
  case atStart => exact ⟨0, 0, none, none, 0, 0, Nat.zero_le _, Nat.zero_le _, rfl, Own.nil _ _, Own.nil _ _, Apart.noneL _, by omega, BR, BX, hbW⟩
  case round =>
    obtain ⟨wo, rfl⟩ : ∃ wo : World, wo = wr := ⟨_, rfl⟩
    obtain ⟨x, q, ah, al, ch, cl, hx, hq, rfl, oh, ol, hap, hszr, hR, hX, hb⟩ := hrel
    clear BR BX hbW
    by_cases hlt : x < n
    · go_wp2_with fail
      go_loopw [15] (fun i wr => ∃ (c q : Nat) (ah al : Option Addr) (ch cl : Nat), c ≤ n ∧ q ≤ 8 * x + c ∧ i = .int .i64 c ∧ Own wr (w.heap.size + 2) ah q ch (hgtOf xs (lx xs x c)) ∧ Own wr (w.heap.size + 2) al q cl (lx xs x c) ∧ Apart ah al ∧ w.heap.size + 2 ≤ wr.heap.size ∧ BoxAt wr w.heap.size (.slice none 0 0) (.slice none 0 0) ∧ BoxAt wr (w.heap.size + 1) (.slice ah q ch) (.slice al q cl) ∧ Below w.heap.size w wr) (fun i _ => n - (intOf i).toNat)
      case atStart => exact ⟨0, q, ah, al, ch, cl, Nat.zero_le _, by omega, rfl, by rw [lx_zero]; exact oh, by rw [lx_zero]; exact ol, hap, hszr, hR, hX, hb⟩
      case round =>
        clear oh ol hap hR hX hb
        obtain ⟨c, q, ah, al, ch, cl, hc, hq, rfl, oh, ol, hap, hszr, hR, hX, hb⟩ := hrel
        by_cases hlc : c < n
        · obtain ⟨b1, off1, rfl, hbb1, hc1⟩ := h.2.2.2.2 (by omega)
          have hck : wr.cell? ⟨b1, off1 + c, none⟩ = some (.int .i64 (nth xs c)) := by rw [hb.cell (p := ⟨b1, off1 + c, none⟩) hbb1]; exact hc1 c hlc
          have z1 : (c : Int) < (n : Int) := by omega
          clear hc1
          by_cases he : nth xs c = (x : Int)
          · have hbe : ((x : Int) == nth xs c) = true := by simp [he]
            have HS := hid (lx_yes he)
            have HQ := hid ol.len
            have HH : Hid (hgtOf xs (lx xs x (c + 1)) = hgtOf xs (lx xs x c) ++ [(q : Int) - (x : Int)]) := hid (by rw [HS.out, hgtOf_snoc, HQ.out, he])
            obtain ⟨x1, x2, x3, x4⟩ := id hX
            clear he
            go_upto_region 10 with (at_builtin; refine wpList_append_two _ rfl _ _ rfl (w.heap.size + 2) _ _ _ _ _ rfl rfl oh (by omega) hszr (w.heap.size + 2) _ _ _ _ ol hap ?_; intro a5 c5 w5 oh5 ol5 hap5 st5; have X5 := hX.below st5 (by omega); obtain ⟨y1, y2, y3, y4⟩ := id X5)
            have X6 := X5.set0 (z := .slice a5 (q + 1) c5)
            have oh6 := oh5.setNe (g := w.heap.size + 1) (i := 0) (oh5.ge.ne (by omega)) (.slice a5 (q + 1) c5)
            have ol6 := ol5.setNe (g := w.heap.size + 1) (i := 0) (ol5.ge.ne (by omega)) (.slice a5 (q + 1) c5)
            have hR6 := (hR.below st5 (by omega)).apart (g' := w.heap.size + 1) (i := 0) (z := .slice a5 (q + 1) c5) (by omega)
            have hb6 := (hb.trans (st5.mono (by omega))).setCell (p := ⟨w.heap.size + 1, 0, none⟩) (by simp) (.slice a5 (q + 1) c5)
            have hsz6 : w.heap.size + 2 ≤ (w5.setCell ⟨w.heap.size + 1, 0, none⟩ (.slice a5 (q + 1) c5)).heap.size := by have := st5.size; simp; omega
            clear oh ol hX hR hb X5 oh5 ol5 st5 x1 x2 x3 x4 y1 y2 y3 y4
            generalize w5.setCell ⟨w.heap.size + 1, 0, none⟩ (.slice a5 (q + 1) c5) = V at *
            obtain ⟨x1, x2, x3, x4⟩ := id X6
            go_wp2_with (at_builtin; refine wpList_append_two _ rfl _ _ rfl (w.heap.size + 2) _ _ _ _ _ rfl rfl ol6 (by omega) hsz6 (w.heap.size + 2) _ _ _ _ oh6 hap5.symm ?_; intro a7 c7 w7 ol7 oh7 hap7 st7; have X7 := X6.below st7 (by omega); obtain ⟨y1, y2, y3, y4⟩ := id X7)
            have X8 := X7.set1 (z := .slice a7 (q + 1) c7)
            have oh8 := oh7.setNe (g := w.heap.size + 1) (i := 1) (oh7.ge.ne (by omega)) (.slice a7 (q + 1) c7)
            have ol8 := ol7.setNe (g := w.heap.size + 1) (i := 1) (ol7.ge.ne (by omega)) (.slice a7 (q + 1) c7)
            have hR8 := (hR6.below st7 (by omega)).apart (g' := w.heap.size + 1) (i := 1) (z := .slice a7 (q + 1) c7) (by omega)
            have hb8 := (hb6.trans (st7.mono (by omega))).setCell (p := ⟨w.heap.size + 1, 1, none⟩) (by simp) (.slice a7 (q + 1) c7)
            go_roundw
            case rel => exact ⟨c + 1, q + 1, a5, a7, c5, c7, by omega, by omega, by go_num, by rw [HH.out]; exact oh8, by rw [HS.out]; exact ol8, hap7.symm, by have := st7.size; simp; omega, hR8, X8, hb8⟩
            case measure => simp [intOf]; omega
          · have hbe : ((x : Int) == nth xs c) = false := by simp; exact fun e => he e.symm
            have HS := hid (lx_no he)
            clear he
            go_wp2_with fail
            go_roundw
            case rel => exact ⟨c + 1, q, ah, al, ch, cl, by omega, by omega, by go_num, by rw [HS.out]; exact oh, by rw [HS.out]; exact ol, hap, hszr, hR, hX, hb⟩
            case measure => simp [intOf]; omega
        · obtain rfl : c = n := by omega
          have HF := hid (lx_full (x := x) HL.out)
          go_wp2_with fail
          go_roundw
          case rel => exact ⟨x + 1, q, ah, al, ch, cl, by omega, by omega, by go_num, by rw [← HF.out]; exact oh, by rw [← HF.out]; exact ol, hap, hszr, hR, hX, hb⟩
          case measure => simp [intOf]; omega
    · obtain rfl : x = n := by omega
      have HC : Hid (carsL xs = carsTo xs x) := hid (by unfold carsL; rw [HL.out])
      have f1 := ((oh.mono (show w.heap.size ≤ w.heap.size + 2 by omega)).setNe (g := w.heap.size) (i := 0) (oh.ge.ne (by omega)) (.slice ah q ch)).setNe (g := w.heap.size) (i := 1) (oh.ge.ne (by omega)) (.slice al q cl)
      have f2 := ((ol.mono (show w.heap.size ≤ w.heap.size + 2 by omega)).setNe (g := w.heap.size) (i := 0) (ol.ge.ne (by omega)) (.slice ah q ch)).setNe (g := w.heap.size) (i := 1) (ol.ge.ne (by omega)) (.slice al q cl)
      have B2f := (hR.set0 (z := .slice ah q ch)).set1 (z := .slice al q cl)
      have hb5 := (hb.setCell (p := ⟨w.heap.size, 0, none⟩) (by simp) (.slice ah q ch)).setCell (p := ⟨w.heap.size, 1, none⟩) (by simp) (.slice al q cl)
      rw [← HC.out] at f1 f2
      obtain ⟨t1, t2, t3, t4⟩ := id hX
      obtain ⟨s1, s2, s3, s4⟩ := id hR
      go_wp2_with fail
      obtain ⟨y1, y2, y3, y4⟩ := id B2f
      refine bodyPost_ret (v := .agg #[.slice ah q ch, .slice al q cl]) (by simp [results, Try.results56, go_sem, *]) rfl ⟨ah, q, ch, al, cl, rfl, f1, f2, hap, hb5⟩

set_option maxHeartbeats 1000000 in
theorem specWalkOf_any (a : Option Addr) (n cap : Nat) (xs : List Int) (w : World) (h : Has w a n cap xs) :
    Calls Try.prog 11 #[.slice a n cap] w (PostWalk w (walkOf xs)) := by
  have hbW : Below w.heap.size w (w.alloc (.cells #[.slice none 0 0, .slice none 0 0] 27)) := (Below.refl _ w).alloc (Nat.le_refl _) _
  have BR := boxAt_new w (.slice none 0 0) (.slice none 0 0) 27
  go_enter Try.func11, Try.ntmps11
  go_wp2_with fail
  have hsz : (w.alloc (.cells #[.slice none 0 0, .slice none 0 0] 27)).heap.size = w.heap.size + 1 := by simp
  generalize w.alloc (.cells #[.slice none 0 0, .slice none 0 0] 27) = W at *
  refine (paParking_any _ _ _ _ _ (h.below hbW (Nat.le_refl _))).mono ?_
  rintro e w1 ⟨rfl, st⟩
  have hs1 := st.size
  replace BR := BR.below st (by omega)
  have hb1 := hbW.trans (st.mono hbW.size)
  clear st hbW
  by_cases hp : isPark xs = true
  · rw [hp]
    have HR : Hid (walkOf xs = ((hgtOf xs (carsL xs), carsL xs), true)) := hid (by unfold walkOf; rw [if_pos hp])
    obtain ⟨h8, _⟩ := park_facts hp h.len
    clear hp
    go_wp2_with fail
    refine (waOf_any _ _ _ _ _ (h.below hb1 (Nat.le_refl _)) h8).mono ?_
    rintro e w2 ⟨ah, q, ch, al, cl, rfl, oh, ol, ap, st⟩
    replace BR := BR.below st (by omega)
    have hb2 := hb1.trans (st.mono hb1.size)
    have f1 := ((oh.mono (show w.heap.size ≤ w1.heap.size by omega)).setNe (g := w.heap.size) (i := 0) (oh.ge.ne (by omega)) (.slice ah q ch)).setNe (g := w.heap.size) (i := 1) (oh.ge.ne (by omega)) (.slice al q cl)
    have f2 := ((ol.mono (show w.heap.size ≤ w1.heap.size by omega)).setNe (g := w.heap.size) (i := 0) (ol.ge.ne (by omega)) (.slice ah q ch)).setNe (g := w.heap.size) (i := 1) (ol.ge.ne (by omega)) (.slice al q cl)
    have B2f := (BR.set0 (z := .slice ah q ch)).set1 (z := .slice al q cl)
    have hb5 := (hb2.setCell (p := ⟨w.heap.size, 0, none⟩) (by simp) (.slice ah q ch)).setCell (p := ⟨w.heap.size, 1, none⟩) (by simp) (.slice al q cl)
    obtain ⟨t1, t2, t3, t4⟩ := id BR
    go_wp2_with fail
    obtain ⟨y1, y2, y3, y4⟩ := id B2f
    refine bodyPost_ret (v := .tuple #[.agg #[.slice ah q ch, .slice al q cl], .bool true]) (by simp [results, Try.results11, go_sem, *]) rfl (postWalk HR.out f1 f2 ap hb5)
  · rw [Bool.eq_false_iff.2 hp]
    have HR : Hid (walkOf xs = (([], []), false)) := hid (by unfold walkOf; rw [if_neg hp])
    have B2 := (BR.set0 (z := .slice none 0 0)).set1 (z := .slice none 0 0)
    obtain ⟨x1, x2, x3, x4⟩ := id BR
    go_wp2_with fail
    obtain ⟨y1, y2, y3, y4⟩ := id B2
    refine bodyPost_ret (v := .tuple #[.agg #[.slice none 0 0, .slice none 0 0], .bool false]) (by simp [results, Try.results11, go_sem, *]) rfl (postWalk_no HR.out ((hb1.setCell (by simp) _).setCell (by simp) _))
end Go.Proofs.Ytakadjhbomggbaa

namespace Go.Proofs.Ytakadjhbomggbaa
open Go.RowKit


/-- An append to a slice of the call's own; another one and a box elsewhere stay. -/
theorem wpList_append_box {ops : Array Oper} {rest : List Oper} {o : Oper} {a : Act} {Q : Exit → Act → World → Prop} (w : World) (hgd : o.guard = none) (s x : Operand)
    (ho : o.op = .call { callee := .builtin .append, args := #[s, x], argTypes := #[24, 24] })
    (B : Nat) (a0 : Option Addr) (n cap : Nat) (xs : List Int) (y : Int) (hs : a.eval s = .slice a0 n cap) (hx : a.eval x = .slice (some ⟨w.heap.size, 0, none⟩) 1 1)
    (hown : Own w B a0 n cap xs) (hl : n + 1 ≤ 2097152) (hB : B ≤ w.heap.size) (B2 : Nat) (a2 : Option Addr) (n2 cap2 : Nat) (ys : List Int) (h2 : Own w B2 a2 n2 cap2 ys) (hap : Apart a0 a2) (gb : Nat) (vx vy : Value) (hbx : BoxAt w gb vx vy) (hne : ∀ p, a0 = some p → p.block ≠ gb)
    (h : ∀ a' cap' w', Own w' B a' (n + 1) cap' (xs ++ [y]) → Own w' B2 a2 n2 cap2 ys → Apart a' a2 → Below B w w' → BoxAt w' gb vx vy → (∀ p, a' = some p → p.block ≠ gb) → wpList Try.prog ops Q rest (a.put o.dst (.slice a' (n + 1) cap')) w') :
    wpList Try.prog ops Q (o :: rest) a (w.alloc (.cells #[.int .i64 y] 3)) := by
  obtain ⟨i0, hi, hz0, hz1, hz2⟩ := info_parts Try.infoInt
  have hlen := hown.len
  have hba : Below w.heap.size w (w.alloc (.cells #[.int .i64 y] 3)) := (Below.refl _ _).alloc (Nat.le_refl _) _
  refine wpList_append_lies (P := Try.prog) _ hgd s x 24 ho B 3 i0 (.int .i64 0) 1 8 Try.underlying24 hi hz0 hz1 hz2 rfl (by decide) _ n (xs.map (Value.int .i64)) hs (hown.1.alloc _) ⟨w.heap.size, 0, none⟩ 1 1 [.int .i64 y] hx rfl (one_cell w y) (by intro u hu; simp at hu; subst hu; rfl) (by decide) (by unfold maxLen; omega) (by omega) (by simp; omega) _ rfl ?_
  intro g cap' w' hown' hgrow hg hlt
  have hb : Below B w w' := ((Below.refl B w).alloc hB _).grown hgrow (by simp; omega) (fun k hk => (hown.1.lt k hk).1)
  have h2a := h2.below hba (Nat.le_refl _)
  have hbx2 : BoxAt w' gb vx vy := (hbx.alloc _).kept hgrow (by
    cases a0 with
    | none => simp [Value.ownBlock]
    | some p => have := hne p rfl; simpa [Value.ownBlock] using this)
  have hk2 : Own w' B2 a2 n2 cap2 ys := by
    cases a0 with
    | none =>
      exact ⟨h2a.1.kept hgrow ((Classical.em _).elim .inl fun h => .inr h), h2.2⟩
    | some p =>
      refine Own.kept (g := p.block) h2a (by simpa [Value.ownBlock] using hgrow) (.inr fun q hq e => hap p q rfl hq e.symm)
  obtain ⟨a', cap'', hv, ho'⟩ := own_of_row (xs := xs ++ [y]) hown' (by simp [hlen]) (by simp) (by simp; omega)
  cases hv
  refine h _ _ _ ho' hk2 (fun p q hp hq => ?_) hb hbx2 (fun p hp => ?_)
  rotate_left
  · cases hp
    rcases hg with hg | hg
    · cases a0 with
      | none => simp [Value.ownBlock] at hg
      | some p0 =>
        simp [Value.ownBlock] at hg
        have := hne p0 rfl
        rw [hg] at this
        exact this
    · have := boxAt_lt hbx
      simp at hg
      show g ≠ gb
      omega
  cases hp
  rcases hg with hg | hg
  · cases a0 with
    | none => simp [Value.ownBlock] at hg
    | some p0 =>
      simp [Value.ownBlock] at hg
      have := hap p0 q rfl hq
      rw [hg] at this
      exact this
  · have hq2 : q.block < w.heap.size := by subst hq; exact (h2.1.lt q.block rfl).2
    simp at hg
    show g ≠ q.block
    omega

/-- A walk or two lists beside, and the cursor stands. -/
def DrewWk (w : World) (g t : Nat) (e : Ending) (w' : World) : Prop :=
  ∃ a n c b m d hs ls t', e = .returned (.agg #[.slice a n c, .slice b m d]) ∧ Own w' w.heap.size a n c hs ∧ Own w' w.heap.size b m d ls ∧ Apart2 a b ∧ n ≤ 10 ∧ m ≤ 10 ∧ AtG w w' g t' ∧ t' ≤ t + 400
set_option maxRecDepth 100000 in
set_option maxHeartbeats 4000000 in
theorem walk_cur (g t most : Nat) (w : World) (h : Cur w g t) (ht : t ≤ 500) (hm : most ≤ 8) :
    Calls Try.prog 58 #[.pointer (some ⟨g, 0, none⟩), .int .i64 (most : Int)] w (DrewWk w g t) := by
  have hgl := h.lt
  have hbW : Below w.heap.size w (w.alloc (.cells #[.slice none 0 0, .slice none 0 0] 27)) := (Below.refl _ w).alloc (Nat.le_refl _) _
  have BR := boxAt_new w (.slice none 0 0) (.slice none 0 0) 27
  have A0 := (AtG.new h).later hbW (Nat.le_refl _)
  go_enter Try.func58, Try.ntmps58
  go_wp2_with fail
  have hsz : (w.alloc (.cells #[.slice none 0 0, .slice none 0 0] 27)).heap.size = w.heap.size + 1 := by simp
  generalize w.alloc (.cells #[.slice none 0 0, .slice none 0 0] 27) = W at *
  clear hbW
  refine (park_cur g t (most : Int) _ A0.cur (by omega) (by omega) (by omega)).mono ?_
  rintro e w1 ⟨a1, n1, c1, xs, t1, rfl, o1, hn1, hw1, A1, ht1⟩
  replace BR := BR.kept A1.grew (by intro e; injection e with e; omega)
  replace A0 : AtG w w1 g t1 := ⟨A1.cur, grown_then A0.grew A1.grew, hgl⟩
  have hs1 := A1.size
  rw [hsz] at hs1
  replace o1 := o1.mono (B' := w.heap.size + 1) (by omega)
  clear A1 hw1 hsz
  go_wp2_with fail
  refine (paParking_any _ _ _ _ _ o1.has).mono ?_
  rintro e w2 ⟨rfl, st⟩
  replace BR := BR.below st (boxAt_lt BR)
  replace o1 := o1.below st (Nat.le_refl _)
  replace A0 := A0.later st (by omega)
  replace hs1 := Nat.le_trans hs1 st.size
  clear st
  by_cases hp : isPark xs = true
  · rw [hp]
    obtain ⟨h8, _⟩ := park_facts hp o1.len
    have hlc := length_carsL o1.len (by omega) (park_facts hp o1.len).2
    clear hp
    go_wp2_with fail
    refine (waOf_any _ _ _ _ _ o1.has h8).mono ?_
    rintro e w3 ⟨ah, q, ch, al, cl, rfl, oh, ol, ap, st⟩
    have hlc2 := ol.len
    have hq8 : q ≤ 8 := by omega
    have o3h := oh.mono (B' := w.heap.size + 1) (by omega)
    have o3l := ol.mono (B' := w.heap.size + 1) (by omega)
    have lh := oh.ge
    have ll := ol.ge
    replace BR := BR.below st (boxAt_lt BR)
    replace A0 := A0.later st (by omega)
    replace hs1 := Nat.le_trans hs1 st.size
    have nh := box_old oh.lt
    have nl := box_old ol.lt
    clear st hlc hlc2 oh ol lh ll o1
    have hbV : Below w3.heap.size w3 (w3.alloc (.cells #[.slice ah q ch, .slice al q cl] 27)) := (Below.refl _ _).alloc (Nat.le_refl _) _
    have BX := boxAt_new w3 (.slice ah q ch) (.slice al q cl) 27
    have BR2 := BR.below hbV (boxAt_lt BR)
    obtain ⟨x1, x2, x3, x4⟩ := id BR
    go_wp2_with fail
    clear x1 x2 x3 x4 BR
    generalize hkk : w3.heap.size = k at *
    generalize w3.alloc (.cells #[.slice ah q ch, .slice al q cl] 27) = V at *
    replace o3h := o3h.below hbV (by omega)
    replace o3l := o3l.below hbV (by omega)
    replace A0 := A0.later hbV (by omega)
    have hsV := hbV.size
    clear hbV hkk
    refine (pick_cur g _ 14 _ A0.cur (by omega) (by omega)).mono ?_
    rintro e w4 ⟨v4, rfl, v40, v41, ⟨t4, ta, tb, hc4⟩, hg4⟩
    replace BR2 := BR2.kept hg4 (by intro e; injection e with e; omega)
    replace BX := BX.kept hg4 (by intro e; injection e with e; omega)
    replace o3h := o3h.kept hg4 (.inl (by omega))
    replace o3l := o3l.kept hg4 (.inl (by omega))
    replace hsV := Nat.le_trans hsV hg4.size
    replace A0 := A0.pick hc4 hg4
    clear hc4 hg4 v41
    generalize carsL xs = ls at *
    generalize hgtOf xs ls = hs at *
    by_cases e0 : v4 = 0
    · subst e0
      by_cases hq1 : 1 < q
      · obtain ⟨gl, rfl, q1, q2, q3, q4⟩ := o3l.opened (by omega)
        have hqd : (1 : Int) < (q : Int) := by omega
        have hwq : IntKind.i64.wrap ((q : Int) - 1) = (q : Int) - 1 := by rw [IntKind.wrap_i64]; omega
        have hgk : gl ≠ k := nl _ rfl
        obtain ⟨x5, x6, x7, x8⟩ := id BX
        go_wp2_with fail
        clear x5 x6 x7 x8 q3 q4 q2
        refine (pick_cur g t4 ((q : Int) - 1) _ A0.cur (by omega) (by omega)).mono ?_
        rintro e w5 ⟨v5, rfl, v50, v51, ⟨t5, tc, td, hc5⟩, hg5⟩
        obtain ⟨i, rfl⟩ : ∃ i : Nat, v5 = (i : Int) := ⟨_, (Int.toNat_of_nonneg v50).symm⟩
        have hi : i + 1 < q := by omega
        replace BR2 := BR2.kept hg5 (by intro e; injection e with e; omega)
        replace BX := BX.kept hg5 (by intro e; injection e with e; omega)
        replace o3h := o3h.kept hg5 (.inl (by omega))
        replace o3l := o3l.kept hg5 (.inl (by omega))
        replace A0 := A0.pick hc5 hg5
        clear hc5 hg5 v50 v51
        have hwi : IntKind.i64.wrap ((i : Int) + 1) = ((i + 1 : Nat) : Int) := by rw [IntKind.wrap_i64]; omega
        have hiq : (i : Int) < (q : Int) := by omega
        have hiq2 : ((i + 1 : Nat) : Int) < (q : Int) := by omega
        have hi0 : (0 : Int) ≤ ((i + 1 : Nat) : Int) := by omega
        obtain ⟨gl', hgl', -, -, q3, q4⟩ := o3l.opened (by omega)
        obtain rfl : gl = gl' := by injection hgl' with h; injection h
        clear hgl'
        have k1 := q3 i (by omega)
        have k2 := q3 (i + 1) hi
        have z1 := q4 i
        have z2 := q4 (i + 1)
        obtain ⟨x5, x6, x7, x8⟩ := id BX
        generalize nth ls i = x at *
        generalize nth ls (i + 1) = y at *
        clear q3 q4
        go_upto_region 9 with fail
        go_quiet (fail)
        clear x5 x6 x7 x8 k1 k2 z1 z2
        have st := below_drewN (Below.refl w5.heap.size w5) nq
        replace BR2 := BR2.below st (boxAt_lt BR2)
        replace BX := BX.below st (boxAt_lt BX)
        replace o3h := o3h.below st (Nat.le_refl _)
        replace o3l := o3l.below st (Nat.le_refl _)
        have hkl := boxAt_lt BX
        replace A0 := A0.later st (by have := boxAt_lt BR2; simpa using Nat.le_of_lt this)
        clear st
        generalize w5.drewN nq = W5 at *
        obtain ⟨gl', hgl', -, -, q3, q4⟩ := o3l.opened (by omega)
        obtain rfl : gl = gl' := by injection hgl' with h; injection h
        clear hgl'
        have k1 := q3 i (by omega)
        have z1 := q4 i
        clear q3 q4
        obtain ⟨x5, x6, x7, x8⟩ := id BX
        go_upto_region 11 with fail
        clear x5 x6 x7 x8 k1 z1
        have hap : ∀ p, ah = some p → p.block ≠ gl := fun p hp => ap p _ hp rfl
        replace BR2 := BR2.apart (g' := gl) (i := i) (z := .int .i64 y) (by omega)
        replace BX := BX.apart (g' := gl) (i := i) (z := .int .i64 y) hgk
        replace o3h := o3h.setNe (g := gl) (i := i) hap (.int .i64 y)
        replace A0 := A0.later ((Below.refl w.heap.size W5).setCell (p := ⟨gl, i, none⟩) (show w.heap.size ≤ gl by omega) (.int .i64 y)) (Nat.le_refl _)
        obtain ⟨o3l, -⟩ := o3l.set i y
        generalize W5.setCell ⟨gl, i, none⟩ (.int .i64 y) = W6 at *
        generalize ls.set i y = ls6 at *
        obtain ⟨gl', hgl', -, -, q3, q4⟩ := o3l.opened (by omega)
        obtain rfl : gl = gl' := by injection hgl' with h; injection h
        clear hgl'
        have k1 := q3 (i + 1) (by omega)
        have z1 := q4 (i + 1)
        clear q3 q4
        obtain ⟨x5, x6, x7, x8⟩ := id BX
        go_upto_region 14 with fail
        clear x5 x6 x7 x8 k1 z1
        replace BR2 := BR2.apart (g' := gl) (i := i + 1) (z := .int .i64 x) (by omega)
        replace BX := BX.apart (g' := gl) (i := i + 1) (z := .int .i64 x) hgk
        replace o3h := o3h.setNe (g := gl) (i := i + 1) hap (.int .i64 x)
        replace A0 := A0.later ((Below.refl w.heap.size W6).setCell (p := ⟨gl, i + 1, none⟩) (show w.heap.size ≤ gl by omega) (.int .i64 x)) (Nat.le_refl _)
        obtain ⟨o3l, -⟩ := o3l.set (i + 1) x
        generalize W6.setCell ⟨gl, i + 1, none⟩ (.int .i64 x) = W7 at *
        have f1 := ((o3h.mono (show w.heap.size ≤ w.heap.size + 1 by omega)).setNe (g := w.heap.size) (i := 0) (o3h.ge.ne (by omega)) (.slice ah q ch)).setNe (g := w.heap.size) (i := 1) (o3h.ge.ne (by omega)) (.slice (some ⟨gl, 0, none⟩) q cl)
        have f2 := ((o3l.mono (show w.heap.size ≤ w.heap.size + 1 by omega)).setNe (g := w.heap.size) (i := 0) (o3l.ge.ne (by omega)) (.slice ah q ch)).setNe (g := w.heap.size) (i := 1) (o3l.ge.ne (by omega)) (.slice (some ⟨gl, 0, none⟩) q cl)
        have B2f := (BR2.set0 (z := .slice ah q ch)).set1 (z := .slice (some ⟨gl, 0, none⟩) q cl)
        have hbf : Below w.heap.size W7 ((W7.setCell ⟨w.heap.size, 0, none⟩ (.slice ah q ch)).setCell ⟨w.heap.size, 1, none⟩ (.slice (some ⟨gl, 0, none⟩) q cl)) := ((Below.refl _ _).setCell (p := ⟨w.heap.size, 0, none⟩) (by simp) _).setCell (p := ⟨w.heap.size, 1, none⟩) (by simp) _
        have A3 := A0.later hbf (Nat.le_refl _)
        obtain ⟨x1, x2, x3, x4⟩ := id BR2
        obtain ⟨x5, x6, x7, x8⟩ := id BX
        go_wp2_with fail
        obtain ⟨y1, y2, y3, y4⟩ := id B2f
        refine bodyPost_ret (v := .agg #[.slice ah q ch, .slice (some ⟨gl, 0, none⟩) q cl]) (by simp [results, Try.results58, go_sem, *]) rfl ⟨_, _, _, _, _, _, _, _, t5, rfl, f1, f2, ap, by omega, by omega, A3, by omega⟩
      · have hqd : ¬ (1 : Int) < (q : Int) := by omega
        have hqb : decide ((1 : Int) < (q : Int)) = false := by simp; omega
        have f1 := ((o3h.mono (show w.heap.size ≤ w.heap.size + 1 by omega)).setNe (g := w.heap.size) (i := 0) (o3h.ge.ne (by omega)) (.slice ah q ch)).setNe (g := w.heap.size) (i := 1) (o3h.ge.ne (by omega)) (.slice al q cl)
        have f2 := ((o3l.mono (show w.heap.size ≤ w.heap.size + 1 by omega)).setNe (g := w.heap.size) (i := 0) (o3l.ge.ne (by omega)) (.slice ah q ch)).setNe (g := w.heap.size) (i := 1) (o3l.ge.ne (by omega)) (.slice al q cl)
        have B2f := (BR2.set0 (z := .slice ah q ch)).set1 (z := .slice al q cl)
        have hbf : Below w.heap.size w4 ((w4.setCell ⟨w.heap.size, 0, none⟩ (.slice ah q ch)).setCell ⟨w.heap.size, 1, none⟩ (.slice al q cl)) := ((Below.refl _ _).setCell (p := ⟨w.heap.size, 0, none⟩) (by simp) _).setCell (p := ⟨w.heap.size, 1, none⟩) (by simp) _
        have A3 := A0.later hbf (Nat.le_refl _)
        obtain ⟨x1, x2, x3, x4⟩ := id BR2
        obtain ⟨x5, x6, x7, x8⟩ := id BX
        go_wp2_with fail
        obtain ⟨y1, y2, y3, y4⟩ := id B2f
        refine bodyPost_ret (v := .agg #[.slice ah q ch, .slice al q cl]) (by simp [results, Try.results58, go_sem, *]) rfl ⟨_, _, _, _, _, _, _, _, t4, rfl, f1, f2, ap, by omega, by omega, A3, by omega⟩
    · by_cases e1 : v4 = 1
      · subst e1
        have hkl := boxAt_lt BX
        have hsw : w.heap.size + 1 ≤ w4.heap.size := by omega
        obtain ⟨x1, x2, x3, x4⟩ := id BR2
        obtain ⟨x5, x6, x7, x8⟩ := id BX
        go_wp2_with (at_builtin; refine wpList_append_box _ rfl _ _ rfl (w.heap.size + 1) _ _ _ _ _ rfl rfl o3l (by omega) hsw (w.heap.size + 1) _ _ _ _ o3h ap.symm _ _ _ BX nl ?_; intro a7 c7 w7 ol7 oh7 ap7 st7 X7 n7; obtain ⟨y1, y2, y3, y4⟩ := id X7; have X8 := X7.set1 (z := .slice a7 (q + 1) c7); obtain ⟨y5, y6, y7, y8⟩ := id X8; have R8 := (BR2.below st7 (by omega)).apart (g' := k) (i := 1) (z := .slice a7 (q + 1) c7) (by omega); obtain ⟨u1, u2, u3, u4⟩ := id R8)
        have oh8 := oh7.setNe (g := k) (i := 1) nh (.slice a7 (q + 1) c7)
        have ol8 := ol7.setNe (g := k) (i := 1) n7 (.slice a7 (q + 1) c7)
        have B2f := (R8.set0 (z := .slice ah q ch)).set1 (z := .slice a7 (q + 1) c7)
        have f1 := ((oh8.mono (show w.heap.size ≤ w.heap.size + 1 by omega)).setNe (g := w.heap.size) (i := 0) (oh8.ge.ne (by omega)) (.slice ah q ch)).setNe (g := w.heap.size) (i := 1) (oh8.ge.ne (by omega)) (.slice a7 (q + 1) c7)
        have f2 := ((ol8.mono (show w.heap.size ≤ w.heap.size + 1 by omega)).setNe (g := w.heap.size) (i := 0) (ol8.ge.ne (by omega)) (.slice ah q ch)).setNe (g := w.heap.size) (i := 1) (ol8.ge.ne (by omega)) (.slice a7 (q + 1) c7)
        have hbf := (((st7.mono (show w.heap.size ≤ w.heap.size + 1 by omega)).setCell (p := ⟨k, 1, none⟩) (show w.heap.size ≤ k by omega) (.slice a7 (q + 1) c7)).setCell (p := ⟨w.heap.size, 0, none⟩) (by simp) (.slice ah q ch)).setCell (p := ⟨w.heap.size, 1, none⟩) (by simp) (.slice a7 (q + 1) c7)
        have A3 := A0.later hbf (Nat.le_refl _)
        clear x1 x2 x3 x4 x5 x6 x7 x8 y1 y2 y3 y4 y5 y6 y7 y8 u1 u2 u3 u4
        obtain ⟨y1, y2, y3, y4⟩ := id B2f
        refine bodyPost_ret (v := .agg #[.slice ah q ch, .slice a7 (q + 1) c7]) (by simp [results, Try.results58, go_sem, *]) rfl ⟨_, _, _, _, _, _, _, _, t4, rfl, f1, f2, ap7.symm, by omega, by omega, A3, by omega⟩
      · have hb0 : (v4 == 0) = false := by simp [e0]
        have hb1 : (v4 == 1) = false := by simp [e1]
        clear e0 e1
        have f1 := ((o3h.mono (show w.heap.size ≤ w.heap.size + 1 by omega)).setNe (g := w.heap.size) (i := 0) (o3h.ge.ne (by omega)) (.slice ah q ch)).setNe (g := w.heap.size) (i := 1) (o3h.ge.ne (by omega)) (.slice al q cl)
        have f2 := ((o3l.mono (show w.heap.size ≤ w.heap.size + 1 by omega)).setNe (g := w.heap.size) (i := 0) (o3l.ge.ne (by omega)) (.slice ah q ch)).setNe (g := w.heap.size) (i := 1) (o3l.ge.ne (by omega)) (.slice al q cl)
        have B2f := (BR2.set0 (z := .slice ah q ch)).set1 (z := .slice al q cl)
        have hbf : Below w.heap.size w4 ((w4.setCell ⟨w.heap.size, 0, none⟩ (.slice ah q ch)).setCell ⟨w.heap.size, 1, none⟩ (.slice al q cl)) := ((Below.refl _ _).setCell (p := ⟨w.heap.size, 0, none⟩) (by simp) _).setCell (p := ⟨w.heap.size, 1, none⟩) (by simp) _
        have A3 := A0.later hbf (Nat.le_refl _)
        obtain ⟨x1, x2, x3, x4⟩ := id BR2
        obtain ⟨x5, x6, x7, x8⟩ := id BX
        go_wp2_with fail
        obtain ⟨y1, y2, y3, y4⟩ := id B2f
        refine bodyPost_ret (v := .agg #[.slice ah q ch, .slice al q cl]) (by simp [results, Try.results58, go_sem, *]) rfl ⟨_, _, _, _, _, _, _, _, t4, rfl, f1, f2, ap, by omega, by omega, A3, by omega⟩
  · rw [Bool.eq_false_iff.2 hp]
    clear hp
    obtain ⟨x1, x2, x3, x4⟩ := id BR
    go_wp2_with fail
    clear x1 x2 x3 x4
    refine (heights_cur g t1 most _ A0.cur (by omega) hm).mono ?_
    rintro e w3 ⟨a2, n2, c2, hs, t2, rfl, o2, hn2, hw2, A2, ht2⟩
    have l1 := o1.lt
    have ap : Apart2 a2 a1 := (apart_lt l1 o2.ge).symm
    replace BR := BR.kept A2.grew (by intro e; injection e with e; omega)
    replace o1 := o1.kept A2.grew (.inl (by omega))
    replace o2 := o2.mono (B' := w.heap.size + 1) (by omega)
    replace A0 : AtG w w3 g t2 := ⟨A2.cur, grown_then A0.grew A2.grew, hgl⟩
    clear A2 hw2 l1
    have f1 := ((o2.mono (show w.heap.size ≤ w.heap.size + 1 by omega)).setNe (g := w.heap.size) (i := 0) (o2.ge.ne (by omega)) (.slice a2 n2 c2)).setNe (g := w.heap.size) (i := 1) (o2.ge.ne (by omega)) (.slice a1 n1 c1)
    have f2 := ((o1.mono (show w.heap.size ≤ w.heap.size + 1 by omega)).setNe (g := w.heap.size) (i := 0) (o1.ge.ne (by omega)) (.slice a2 n2 c2)).setNe (g := w.heap.size) (i := 1) (o1.ge.ne (by omega)) (.slice a1 n1 c1)
    have B2f := (BR.set0 (z := .slice a2 n2 c2)).set1 (z := .slice a1 n1 c1)
    have hbf : Below w.heap.size w3 ((w3.setCell ⟨w.heap.size, 0, none⟩ (.slice a2 n2 c2)).setCell ⟨w.heap.size, 1, none⟩ (.slice a1 n1 c1)) := ((Below.refl _ _).setCell (p := ⟨w.heap.size, 0, none⟩) (by simp) _).setCell (p := ⟨w.heap.size, 1, none⟩) (by simp) _
    have A3 := A0.later hbf (Nat.le_refl _)
    obtain ⟨x1, x2, x3, x4⟩ := id BR
    go_wp2_with fail
    obtain ⟨y1, y2, y3, y4⟩ := id B2f
    refine bodyPost_ret (v := .agg #[.slice a2 n2 c2, .slice a1 n1 c1]) (by simp [results, Try.results58, go_sem, *]) rfl ⟨_, _, _, _, _, _, _, _, t2, rfl, f1, f2, ap, by omega, by omega, A3, by omega⟩
theorem alloc_size_le (w : World) (a : Option Addr) (n cap : Nat) : w.heap.size + 1 ≤ (w.alloc (.cells #[.slice a n cap, .int .i64 0, .int .u64 0] 56)).heap.size := by simp
/-- A walk, for the caller of a draw. -/
def DrewWalk (w : World) (e : Ending) (w' : World) : Prop := ∃ a n c b m d, e = .returned (.agg #[.slice a n c, .slice b m d]) ∧ ∃ hs ls, Own w' w.heap.size a n c hs ∧ Own w' w.heap.size b m d ls ∧ Apart2 a b ∧ n ≤ 10 ∧ m ≤ 10 ∧ Below w.heap.size w w'
set_option maxHeartbeats 800000 in
theorem drawWPairsOf_any (a : Option Addr) (n cap : Nat) (w : World) (h : HasB w a n w.heap.size) :
    Calls Try.prog 25 #[.slice a n cap] w (DrewWalk w) := by
  have hbR : Below w.heap.size w (w.alloc (.cells #[.slice none 0 0, .slice none 0 0] 27)) := (Below.refl _ w).alloc (Nat.le_refl _) _
  have BR := boxAt_new w (.slice none 0 0) (.slice none 0 0) 27
  have h1 := h.grow hbR (Nat.le_refl _)
  have hsz : (w.alloc (.cells #[.slice none 0 0, .slice none 0 0] 27)).heap.size = w.heap.size + 1 := by simp
  go_enter Try.func25, Try.ntmps25
  go_wp2_with fail
  generalize w.alloc (.cells #[.slice none 0 0, .slice none 0 0] 27) = R at *
  have C0 := cur_new (cap := cap) h1
  have hb0 := freshH R a n cap
  rw [hsz] at C0 hb0
  refine (walk_cur _ 0 8 _ C0 (by omega) (by omega)).mono ?_
  rintro e w1 ⟨a1, n1, c1, b1, m1, d1, hs, ls, t1, rfl, oh, ol, ap, hn, hm, A, ht⟩
  have hsV := alloc_size_le R a n cap
  have st := hb0.trans (A.below)
  replace BR := BR.below st (by omega)
  have hb1 := hbR.trans (st.mono (by omega))
  have f1 := ((oh.mono (show w.heap.size ≤ _ by omega)).setNe (g := w.heap.size) (i := 0) (oh.ge.ne (by omega)) (.slice a1 n1 c1)).setNe (g := w.heap.size) (i := 1) (oh.ge.ne (by omega)) (.slice b1 m1 d1)
  have f2 := ((ol.mono (show w.heap.size ≤ _ by omega)).setNe (g := w.heap.size) (i := 0) (ol.ge.ne (by omega)) (.slice a1 n1 c1)).setNe (g := w.heap.size) (i := 1) (ol.ge.ne (by omega)) (.slice b1 m1 d1)
  have B2f := (BR.set0 (z := .slice a1 n1 c1)).set1 (z := .slice b1 m1 d1)
  have hbf := (hb1.setCell (p := ⟨w.heap.size, 0, none⟩) (by simp) (.slice a1 n1 c1)).setCell (p := ⟨w.heap.size, 1, none⟩) (by simp) (.slice b1 m1 d1)
  obtain ⟨x1, x2, x3, x4⟩ := id BR
  go_wp2_with fail
  obtain ⟨y1, y2, y3, y4⟩ := id B2f
  refine bodyPost_ret (v := .agg #[.slice a1 n1 c1, .slice b1 m1 d1]) (by simp [results, Try.results25, go_sem, *]) rfl ⟨_, _, _, _, _, _, rfl, _, _, f1, f2, ap, hn, hm, hbf⟩
set_option maxHeartbeats 800000 in
theorem drawWParkingOfWalk_any (a : Option Addr) (n cap : Nat) (w : World) (h : HasB w a n w.heap.size) :
    Calls Try.prog 14 #[.slice a n cap] w (DrewWalk w) := by
  have hbR : Below w.heap.size w (w.alloc (.cells #[.slice none 0 0, .slice none 0 0] 27)) := (Below.refl _ w).alloc (Nat.le_refl _) _
  have BR := boxAt_new w (.slice none 0 0) (.slice none 0 0) 27
  have h1 := h.grow hbR (Nat.le_refl _)
  have hsz : (w.alloc (.cells #[.slice none 0 0, .slice none 0 0] 27)).heap.size = w.heap.size + 1 := by simp
  go_enter Try.func14, Try.ntmps14
  go_wp2_with fail
  generalize w.alloc (.cells #[.slice none 0 0, .slice none 0 0] 27) = R at *
  have C0 := cur_new (cap := cap) h1
  have hb0 := freshH R a n cap
  rw [hsz] at C0 hb0
  refine (walk_cur _ 0 8 _ C0 (by omega) (by omega)).mono ?_
  rintro e w1 ⟨a1, n1, c1, b1, m1, d1, hs, ls, t1, rfl, oh, ol, ap, hn, hm, A, ht⟩
  have hsV := alloc_size_le R a n cap
  have st := hb0.trans (A.below)
  replace BR := BR.below st (by omega)
  have hb1 := hbR.trans (st.mono (by omega))
  have f1 := ((oh.mono (show w.heap.size ≤ _ by omega)).setNe (g := w.heap.size) (i := 0) (oh.ge.ne (by omega)) (.slice a1 n1 c1)).setNe (g := w.heap.size) (i := 1) (oh.ge.ne (by omega)) (.slice b1 m1 d1)
  have f2 := ((ol.mono (show w.heap.size ≤ _ by omega)).setNe (g := w.heap.size) (i := 0) (ol.ge.ne (by omega)) (.slice a1 n1 c1)).setNe (g := w.heap.size) (i := 1) (ol.ge.ne (by omega)) (.slice b1 m1 d1)
  have B2f := (BR.set0 (z := .slice a1 n1 c1)).set1 (z := .slice b1 m1 d1)
  have hbf := (hb1.setCell (p := ⟨w.heap.size, 0, none⟩) (by simp) (.slice a1 n1 c1)).setCell (p := ⟨w.heap.size, 1, none⟩) (by simp) (.slice b1 m1 d1)
  obtain ⟨x1, x2, x3, x4⟩ := id BR
  go_wp2_with fail
  obtain ⟨y1, y2, y3, y4⟩ := id B2f
  refine bodyPost_ret (v := .agg #[.slice a1 n1 c1, .slice b1 m1 d1]) (by simp [results, Try.results14, go_sem, *]) rfl ⟨_, _, _, _, _, _, rfl, _, _, f1, f2, ap, hn, hm, hbf⟩
set_option maxHeartbeats 800000 in
theorem drawWalkOf_any (a : Option Addr) (n cap : Nat) (w : World) (h : HasB w a n w.heap.size) :
    Calls Try.prog 9 #[.slice a n cap] w (DrewList' w) := by
  have C0 := cur_new (cap := cap) h
  go_enter Try.func9, Try.ntmps9
  go_wp2_with fail
  refine (park_cur _ 0 8 _ C0 (by omega) (by omega) (by omega)).mono ?_
  rintro e w1 ⟨a1, n1, cap1, xs1, t1, rfl, o1, hn1, hw1, A1, ht1⟩
  have o1' := o1.mono (B' := w.heap.size) (by simp)
  have hb := (alloc_below w (.cells #[.slice a n cap, .int .i64 0, .int .u64 0] 56)).trans A1.below
  go_wp2_with fail
  go_ret
  exact ⟨_, _, _, _, rfl, o1', hn1, hw1, hb⟩
end Go.Proofs.Ytakadjhbomggbaa

namespace Go.Proofs.Ytakadjhbomggbaa
open Go.RowKit Go.Sort

/-- The cars in order, sorted by favourites, are those that are listed. -/
theorem sort_carsP {m P : Nat} {xs : List Int} (hl : xs.length = m + 1) (h8 : m + 1 ≤ 50) (hb : ∀ c, c < m + 1 → 0 ≤ nth xs c ∧ nth xs c < (P : Int)) :
    (insertionSort (fun x y : Fin (m + 1) => decide (nth xs x.val < nth xs y.val)) (allFin m).toArray 0 (m + 1)).toList.map (fun i => ((i.val : Nat) : Int)) = carsTo xs P := by
  have hsz : (allFin m).toArray.size = m + 1 := by simp [allFin]
  have hcong : insertionSort (fun x y : Fin (m + 1) => decide (nth xs x.val < nth xs y.val)) (allFin m).toArray 0 (m + 1) = insertionSort (fun x y : Fin (m + 1) => decide (keyC xs x.val < keyC xs y.val)) (allFin m).toArray 0 (m + 1) := by
    unfold insertionSort
    refine insOuter_congr (fun x y hxy => ?_) (m + 1) m 1 _ (by omega) (by rw [hsz]; omega) (by rw [hsz]; omega) (fun k hk hs => ?_) (fun k hk hs => ?_)
    · have hx := hb x.val x.isLt
      have hy := hb y.val y.isLt
      have h1 := x.isLt
      unfold keyC
      rw [Int.toNat_natCast, Int.toNat_natCast]
      rw [decide_eq_decide]
      omega
    · rw [allFin_get (by omega)]; exact hk
    · rw [allFin_get (by omega)]
  rw [hcong]
  have hswo : SWO (fun x y : Fin (m + 1) => decide (keyC xs x.val < keyC xs y.val)) := ⟨fun x => by simp, fun x y z h1 h2 => by simp at *; omega, fun x y z h1 h2 => by simp at *; omega⟩
  obtain ⟨hp, hs⟩ := insertionSort_holds hswo (allFin m).toArray 0 (m + 1) (by omega) (by rw [hsz]; omega)
  generalize insertionSort (fun x y : Fin (m + 1) => decide (keyC xs x.val < keyC xs y.val)) (allFin m).toArray 0 (m + 1) = d' at hp hs ⊢
  have hlen : (allFin m).length = m + 1 := by simp [allFin]
  obtain ⟨q1, q2⟩ := sorted_cars_list hlen hp hs
  have h0 : ∀ c, c < xs.length → 0 ≤ nth xs c := fun c hc => (hb c (by omega)).1
  have hsorted := carsTo_sorted (by omega) h0 P
  have hmem : ∀ v : Int, v ∈ carsTo xs P ↔ v ∈ (allFin m).map (fun i => ((i.val : Nat) : Int)) := fun v => by
    rw [mem_carsTo h0, List.mem_map]
    constructor
    · rintro ⟨c, h1, h2, rfl⟩
      exact ⟨⟨c, by omega⟩, by simp [allFin], rfl⟩
    · rintro ⟨c, _, rfl⟩
      have h1 := c.isLt
      exact ⟨c.val, by omega, by have := hb c.val h1; omega, rfl⟩
  have hnd : (carsTo xs P).Nodup := hsorted.imp fun {a b} hab => by rintro rfl; omega
  have hnd2 : ((allFin m).map (fun i => ((i.val : Nat) : Int))).Nodup := by
    unfold allFin
    refine List.Pairwise.map _ (fun a b hab => ?_) (List.nodup_finRange (m + 1))
    intro e
    exact hab (Fin.ext (by omega))
  have hperm : (carsTo xs P).Perm ((allFin m).map (fun i => ((i.val : Nat) : Int))) := (List.perm_ext_iff_of_nodup hnd hnd2).2 hmem
  have hd : (d'.toList.map (fun i => ((i.val : Nat) : Int))).Perm (carsTo xs P) := (q1.map _).trans hperm.symm
  refine List.Perm.eq_of_pairwise (le := fun v w => keyC xs v ≤ keyC xs w) (fun a b ha hb' h1 h2 => ?_) ?_ (hsorted.imp fun {a b} hab => by omega) hd
  · have ha' := (hmem a).1 (hd.subset ha)
    have hb'' := (hmem b).1 hb'
    simp only [List.mem_map] at ha' hb''
    obtain ⟨i, _, rfl⟩ := ha'
    obtain ⟨j, _, rfl⟩ := hb''
    have hi := hb i.val i.isLt
    have hj := hb j.val j.isLt
    have h3 := i.isLt
    have h4 := j.isLt
    unfold keyC at h1 h2
    rw [Int.toNat_natCast, Int.toNat_natCast] at h1 h2
    omega
  · rw [List.pairwise_map]
    exact q2.imp fun {a b} hab => by simp at hab; omega
theorem carsP_perm {xs : List Int} {n P : Nat} (hl : xs.length = n) (h8 : n ≤ 50) (hb : ∀ c, c < n → 0 ≤ nth xs c ∧ nth xs c < (P : Int)) : (carsTo xs P).Perm (upto n) := by
  subst hl
  have h0 : ∀ c, c < xs.length → 0 ≤ nth xs c := fun c hc => (hb c hc).1
  have hsorted := carsTo_sorted h8 h0 P
  have hnd : (carsTo xs P).Nodup := hsorted.imp fun {a b} hab => by rintro rfl; omega
  have hnd2 : (upto xs.length).Nodup := by
    unfold upto
    refine List.Pairwise.map _ (fun a b hab => ?_) (List.nodup_range)
    intro e
    exact hab (by omega)
  refine (List.perm_ext_iff_of_nodup hnd hnd2).2 fun v => ?_
  rw [mem_carsTo h0]
  unfold upto
  rw [List.mem_map]
  simp only [List.mem_range]
  constructor
  · rintro ⟨c, h1, _, rfl⟩; exact ⟨c, h1, rfl⟩
  · rintro ⟨c, h1, rfl⟩; exact ⟨c, h1, (hb c h1).2, rfl⟩
theorem length_carsP {xs : List Int} {n P : Nat} (hl : xs.length = n) (h8 : n ≤ 50) (hb : ∀ c, c < n → 0 ≤ nth xs c ∧ nth xs c < (P : Int)) : (carsTo xs P).length = n := by
  rw [(carsP_perm hl h8 hb).length_eq, length_upto]
/-- A car behind all that are not farther, in a list of cars. -/
def insC (xs : List Int) (v : Int) : List Int → List Int
  | [] => [v]
  | u :: r => if nth xs u.toNat ≤ nth xs v.toNat then u :: insC xs v r else v :: u :: r
def fairTo (xs : List Int) : Nat → List Int
  | 0 => []
  | k + 1 => insC xs (k : Int) (fairTo xs k)
theorem insC_at {xs : List Int} {v : Int} : ∀ (k : Nat) (out : List Int), k ≤ out.length → (∀ j, j < k → nth xs (nth out j).toNat ≤ nth xs v.toNat) → (k = out.length ∨ nth xs v.toNat < nth xs (nth out k).toNat) → insC xs v out = out.take k ++ [v] ++ out.drop k
  | 0, [], _, _, _ => rfl
  | 0, y :: ys, _, _, h => by
    rcases h with h | h
    · simp at h
    · rw [nth_cons_zero] at h
      simp only [insC, if_neg (by omega : ¬ nth xs y.toNat ≤ nth xs v.toNat)]
      rfl
  | k + 1, [], h, _, _ => by simp at h
  | k + 1, y :: ys, hk, h, he => by
    have h0 := h 0 (by omega)
    rw [nth_cons_zero] at h0
    simp only [insC, if_pos h0]
    rw [insC_at k ys (by simp at hk; omega) (fun j hj => by have := h (j + 1) (by omega); rwa [nth_cons_succ] at this) (by rw [nth_cons_succ] at he; simpa using he)]
    simp
theorem insC_perm (xs : List Int) (v : Int) : ∀ out, (insC xs v out).Perm (v :: out)
  | [] => List.Perm.refl _
  | u :: r => by
    simp only [insC]
    split
    · exact ((insC_perm xs v r).cons u).trans (List.Perm.swap v u r)
    · exact List.Perm.refl _
theorem fairTo_perm (xs : List Int) : ∀ k, (fairTo xs k).Perm (upto k)
  | 0 => List.Perm.refl _
  | k + 1 => by
    have e : upto (k + 1) = upto k ++ [(k : Int)] := by simp [upto, List.range_succ]
    rw [e]
    exact ((insC_perm xs k _).trans ((fairTo_perm xs k).cons _)).trans (List.perm_append_comm (l₁ := [(k : Int)]))
theorem mem_upto {k : Nat} {v : Int} : v ∈ upto k ↔ ∃ c : Nat, c < k ∧ v = (c : Int) := by
  unfold upto
  simp only [List.mem_map, List.mem_range]
  constructor
  · rintro ⟨c, h, rfl⟩; exact ⟨c, h, rfl⟩
  · rintro ⟨c, h, rfl⟩; exact ⟨c, h, rfl⟩
theorem insC_sorted {xs : List Int} {v : Nat} (hv : v < 50) : ∀ out : List Int, (∀ u ∈ out, ∃ c : Nat, c < v ∧ u = (c : Int)) → out.Pairwise (fun a b => keyC xs a ≤ keyC xs b) → (insC xs v out).Pairwise fun a b => keyC xs a ≤ keyC xs b
  | [], _, _ => by simp [insC]
  | u :: r, hm, h => by
    obtain ⟨hu, hr⟩ := List.pairwise_cons.1 h
    simp only [insC]
    split
    · rename_i hle
      refine List.pairwise_cons.2 ⟨fun z hz => ?_, insC_sorted hv r (fun x hx => hm x (List.mem_cons_of_mem _ hx)) hr⟩
      rcases List.mem_cons.1 ((insC_perm xs v r).subset hz) with rfl | hz
      · obtain ⟨c, hc, rfl⟩ := hm u (List.mem_cons_self ..)
        unfold keyC
        simp only [Int.toNat_natCast] at *
        omega
      · exact hu z hz
    · rename_i hle
      refine List.pairwise_cons.2 ⟨fun z hz => ?_, h⟩
      have key : ∀ z ∈ u :: r, keyC xs u ≤ keyC xs z := fun z hz => by
        rcases List.mem_cons.1 hz with rfl | hz
        · exact Int.le_refl _
        · exact hu z hz
      have := key z hz
      obtain ⟨c, hc, rfl⟩ := hm u (List.mem_cons_self ..)
      unfold keyC at this ⊢
      simp only [Int.toNat_natCast] at *
      omega
theorem fairTo_sorted {xs : List Int} : ∀ k, k ≤ 50 → (fairTo xs k).Pairwise fun a b => keyC xs a ≤ keyC xs b
  | 0, _ => List.Pairwise.nil
  | k + 1, hk => insC_sorted (by omega) _ (fun u hu => mem_upto.1 ((fairTo_perm xs k).subset hu)) (fairTo_sorted k (by omega))
/-- Two lists of cars by favourites, equal ones by their numbers, are one. -/
theorem keyC_unique {xs ys zs : List Int} {n : Nat} (hn : n ≤ 50) (hy : ys.Perm (upto n)) (h : zs.Perm ys) (sy : ys.Pairwise fun a b => keyC xs a ≤ keyC xs b) (sz : zs.Pairwise fun a b => keyC xs a ≤ keyC xs b) : zs = ys := by
  refine List.Perm.eq_of_pairwise (le := fun v w => keyC xs v ≤ keyC xs w) (fun a b ha hb' h1 h2 => ?_) sz sy h
  obtain ⟨i, hi, rfl⟩ := mem_upto.1 ((h.trans hy).subset ha)
  obtain ⟨j, hj, rfl⟩ := mem_upto.1 (hy.subset hb')
  unfold keyC at h1 h2
  rw [Int.toNat_natCast, Int.toNat_natCast] at h1 h2
  omega
/-- The order by favourites: of 12 places at most. -/
def fairL (xs : List Int) : List Int := carsTo xs 12
theorem fairTo_cars {xs : List Int} {n P : Nat} (hl : xs.length = n) (h8 : n ≤ 50) (hb : ∀ c, c < n → 0 ≤ nth xs c ∧ nth xs c < (P : Int)) : fairTo xs n = carsTo xs P :=
  keyC_unique h8 (carsP_perm hl h8 hb) ((fairTo_perm xs n).trans (carsP_perm hl h8 hb).symm) ((carsTo_sorted (by omega) (fun c hc => (hb c (by omega)).1) P).imp fun h => by omega) (fairTo_sorted n h8)
theorem carsP_nth {xs : List Int} {n P : Nat} (hl : xs.length = n) (h8 : n ≤ 50) (hb : ∀ c, c < n → 0 ≤ nth xs c ∧ nth xs c < (P : Int)) {k : Nat} (hk : k < n) : ∃ c : Nat, nth (carsTo xs P) k = (c : Int) ∧ c < n := by
  have hp := carsP_perm hl h8 hb
  have hm : nth (carsTo xs P) k ∈ carsTo xs P := nth_mem (by rw [length_carsP hl h8 hb]; exact hk)
  obtain ⟨c, hc, e⟩ := mem_upto.1 (hp.subset hm)
  exact ⟨c, e, hc⟩
/-- On a street that is longer the order is the same. -/
theorem carsTo_same {xs : List Int} {n P Q : Nat} (hl : xs.length = n) (h8 : n ≤ 50) (hb : ∀ c, c < n → 0 ≤ nth xs c ∧ nth xs c < (P : Int)) (hPQ : P ≤ Q) : carsTo xs P = carsTo xs Q := by
  rw [← fairTo_cars hl h8 hb, ← fairTo_cars hl h8 (P := Q) (fun c hc => by have := hb c hc; omega)]
end Go.Proofs.Ytakadjhbomggbaa

namespace Go.Proofs.Ytakadjhbomggbaa
open Go.RowKit

def primeB (xs : List Int) : Bool := decide (0 < xs.length) && decide (idxs (isCut xs) xs.length = [])
def primeOf (xs : List Int) : Bool × Bool := if isPark xs then (primeB xs, true) else (false, false)
def cntPrimeOf (n : Int) : Int × Bool := if inB n 1 8 then ((((n.toNat - 1) ^ (n.toNat - 1) : Nat) : Int), true) else (0, false)
end Go.Proofs.Ytakadjhbomggbaa

namespace Go.Proofs.Ytakadjhbomggbaa
open Go.RowKit

/-- The lists that do not fall and go on a beginning, each number at most its index. -/
def sortL : Nat → List Int → List (List Int)
  | 0, p => [p]
  | k + 1, p => (upFrom (nth p (p.length - 1)) ((p.length : Int) + 1 - nth p (p.length - 1)).toNat).flatMap fun x => sortL k (p ++ [x])
/-- The next one, looked for from a car down. -/
def nextS (xs : List Int) : Nat → List Int × Bool
  | 0 => ([], false)
  | c + 1 => if nth xs c = (c : Int) then nextS xs c else (xs.take c ++ List.replicate (xs.length - c) (nth xs c + 1), true)
def chainB (f : List Int → List Int × Bool) : List (List Int) → Bool
  | [] => false
  | [x] => decide (f x = ([], false))
  | x :: y :: r => decide (f x = (y, true)) && chainB f (y :: r)
theorem chain_of {f : List Int → List Int × Bool} : ∀ {L : List (List Int)}, chainB f L = true → Chain f L
  | [], h => by simp [chainB] at h
  | [x], h => by
    simp [chainB] at h
    exact ⟨by simp, fun k hk => by simp at hk, by simpa using h⟩
  | x :: y :: r, h => by
    simp only [chainB, Bool.and_eq_true, decide_eq_true_eq] at h
    obtain ⟨_, h2, h3⟩ := chain_of h.2
    refine ⟨by simp, fun k hk => ?_, by simpa using h3⟩
    match k, hk with
    | 0, _ => simpa using h.1
    | k + 1, hk => simpa using h2 k (by simpa using hk)
theorem sorted_chain : ∀ n, n < 7 → chainB (fun xs => nextS xs xs.length) (sortL n []) = true ∧ (sortL n []).getD 0 [] = List.replicate n 0 ∧ (sortL n []).length ≤ 132 ∧ (sortL n []).all (fun xs => decide (xs.length = n) && allB xs 0 n) = true := by decide +kernel
def allSortedOf (n : Int) : List (List Int) × Bool := if inB n 0 6 then (sortL n.toNat [], true) else ([], false)
def countSortedOf (n : Int) : Int × Bool := if inB n 0 8 then ((chs (2 * n.toNat) n.toNat / (n.toNat + 1) : Nat), true) else (0, false)
/-- The coefficients behind i factors. -/
def lucky (n : Nat) : Nat → Nat → Nat
  | 0, l => if l = 1 then 1 else 0
  | _ + 1, 0 => 0
  | i + 1, l + 1 => (i + 1) * lucky n i (l + 1) + (n - i) * lucky n i l
theorem lucky_zero (n : Nat) : ∀ i, lucky n i 0 = 0
  | 0 => rfl
  | _ + 1 => rfl
theorem lucky_le : ∀ n, n < 9 → ∀ i, i < n → ∀ l, l < 9 → lucky n i l ≤ 4782969 := by decide +kernel
def luckyOfN (n : Int) : List Int × Bool := if inB n 1 8 then ((List.range (n.toNat + 1)).map fun (l : Nat) => (lucky n.toNat (n.toNat - 1) l : Int), true) else ([], false)
end Go.Proofs.Ytakadjhbomggbaa

namespace Go.Proofs.Ytakadjhbomggbaa
open Go.RowKit

/-- The first difference decides. -/
def lexLess : List Int → List Int → Bool
  | x :: xs, y :: ys => if x = y then lexLess xs ys else decide (x < y)
  | _, _ => false

theorem mem_upFrom : ∀ (k : Nat) (l x : Int), x ∈ upFrom l k ↔ l ≤ x ∧ x < l + k
  | 0, l, x => by simp only [upFrom, List.not_mem_nil, false_iff]; omega
  | k + 1, l, x => by simp only [upFrom, List.mem_cons, mem_upFrom k]; omega

theorem lex_mem : ∀ (ls hs L : List Int), ls.length = hs.length → L ∈ lex ls hs → L.length = ls.length ∧ ∀ i, i < ls.length → nth ls i ≤ nth L i ∧ nth L i ≤ nth hs i
  | [], [], L, _, h => by
    simp [lex] at h
    subst h
    exact ⟨rfl, fun i hi => by simp at hi⟩
  | l :: ls, h :: hs, L, hl, hm => by
    rw [lex] at hm
    obtain ⟨x, hx, hL⟩ := List.mem_flatMap.1 hm
    obtain ⟨M, hM, rfl⟩ := List.mem_map.1 hL
    obtain ⟨h1, h2⟩ := lex_mem ls hs M (by simpa using hl) hM
    rw [mem_upFrom] at hx
    unfold span at hx
    refine ⟨by simp [h1], fun i hi => ?_⟩
    cases i with
    | zero => simp only [nth_cons_zero]; omega
    | succ i => simp only [nth_cons_succ]; exact h2 i (by simpa using hi)

theorem lex_pairwise : ∀ (ls hs : List Int), (lex ls hs).Pairwise (fun a b => lexLess a b = true)
  | l :: ls, h :: hs => by
    have ih := lex_pairwise ls hs
    have key : ∀ (k : Nat) (x : Int), ((upFrom x k).flatMap fun x => (lex ls hs).map (x :: ·)).Pairwise (fun a b => lexLess a b = true) := by
      intro k
      induction k with
      | zero => intro x; simp [upFrom]
      | succ k ihk =>
        intro x
        simp only [upFrom, List.flatMap_cons]
        rw [List.pairwise_append]
        refine ⟨?_, ihk _, fun a ha b hb => ?_⟩
        · rw [List.pairwise_map]
          exact ih.imp fun h => by simp [lexLess, h]
        · obtain ⟨M, _, rfl⟩ := List.mem_map.1 ha
          obtain ⟨y, hy, hb⟩ := List.mem_flatMap.1 hb
          obtain ⟨M', _, rfl⟩ := List.mem_map.1 hb
          rw [mem_upFrom] at hy
          simp only [lexLess]
          rw [if_neg (by omega)]
          simp
          omega
    rw [lex]
    exact key _ _
  | [], _ => by simp [lex]
  | _ :: _, [] => by simp [lex]

theorem lex_last : ∀ (ls hs : List Int), ls.length = hs.length → (∀ i, i < ls.length → nth ls i ≤ nth hs i) → ∃ M, lex ls hs = M ++ [hs]
  | [], [], _, _ => ⟨[], by simp [lex]⟩
  | l :: ls, h :: hs, hl, hle => by
    obtain ⟨M, hM⟩ := lex_last ls hs (by simpa using hl) (fun i hi => by have := hle (i + 1) (by simpa using hi); simpa only [nth_cons_succ] using this)
    have h0 := hle 0 (by simp)
    simp only [nth_cons_zero] at h0
    have e : span l h = (h - l).toNat + 1 := by unfold span; omega
    have e2 : l + ((h - l).toNat : Int) = h := by omega
    rw [lex, e, upFrom_snoc, e2, List.flatMap_append, hM]
    exact ⟨((upFrom l (h - l).toNat).flatMap fun x => (M ++ [hs]).map (x :: ·)) ++ M.map (h :: ·), by simp⟩

theorem down_mem (t : List Int) : ∀ (x z : Nat), down t x ≤ z → z < x → (z : Int) ∈ t
  | 0, _, _, h => absurd h (by omega)
  | x + 1, z, h1, h2 => by
    by_cases hm : (x : Int) ∈ t
    · rw [down_step hm] at h1
      by_cases e : z = x
      · subst e; exact hm
      · exact down_mem t x z h1 (by omega)
    · rw [down_stop hm] at h1
      omega

/-- A list between the least favourites and the outcome drives to it. -/
theorem drive_out {xs L : List Int} (ho : outB xs = true) (hl : L.length = xs.length) (h : ∀ i, i < xs.length → leastOf xs i ≤ nth L i ∧ nth L i ≤ nth xs i) : ∀ k, k ≤ xs.length → drive xs.length (L.take k) = xs.take k
  | 0, _ => rfl
  | k + 1, hk => by
    have ih := drive_out ho hl h k (by omega)
    have hb := out_nth ho (i := k) (by omega)
    have h2 := h k (by omega)
    have h3 := leastOf_bounds hb.1
    rw [drive_succ (by omega), ih, take_succ_nth (by omega)]
    congr 2
    refine place_is h2.2 hb.2 (fun hm => by have := (out_before ho (i := k) (j := k) (by omega) (by omega)).1 hm; omega) (fun z h4 h5 => ?_)
    have := down_mem (xs.take k) (nth xs k).toNat z.toNat (by unfold leastOf at h2; omega) (by omega)
    rwa [Int.toNat_of_nonneg (by omega)] at this

/-- What each of all lists with an outcome is. -/
theorem outcome_list {xs L : List Int} (ho : outB xs = true) (h : L ∈ lex (leasts xs) xs) : L.length = xs.length ∧ drive xs.length L = xs ∧ ∀ x ∈ L, 0 ≤ x ∧ x ≤ (xs.length : Int) - 1 := by
  obtain ⟨h1, h2⟩ := lex_mem _ _ _ (length_leasts xs) h
  rw [length_leasts] at h1 h2
  have hb : ∀ i, i < xs.length → leastOf xs i ≤ nth L i ∧ nth L i ≤ nth xs i := fun i hi => by have := h2 i hi; rwa [nth_leasts hi] at this
  have hd := drive_out ho h1 hb xs.length (Nat.le_refl _)
  rw [List.take_length, List.take_of_length_le (by omega)] at hd
  refine ⟨h1, hd, fun x hx => ?_⟩
  obtain ⟨i, hi, rfl⟩ := mem_nth hx
  have h3 := hb i (by omega)
  have h4 := out_nth ho (i := i) (by omega)
  have h5 := leastOf_bounds h4.1
  omega
theorem outcome_drives {xs L : List Int} (ho : outB xs = true) (hn : 0 < xs.length) (h : L ∈ lex (leasts xs) xs) : driveCars L (L.length : Int) = (xs, true) := by
  obtain ⟨h1, h2, h3⟩ := outcome_list ho h
  have h8 := out_le ho
  have hg : good L (L.length : Int) = true := good_iff.2 ⟨by omega, by omega, fun x hx => by have := h3 x hx; omega⟩
  have ha : allPark (L.length : Int) L = true := allPark_iff.2 (by
    rw [h1, h2]
    intro hm
    obtain ⟨i, hi, e⟩ := mem_nth hm
    have := out_nth ho hi
    omega)
  unfold driveCars
  rw [if_pos (by rw [hg, ha]; rfl), h1, h2]

theorem leasts_le {xs : List Int} (ho : outB xs = true) : ∀ i, i < (leasts xs).length → nth (leasts xs) i ≤ nth xs i := fun i hi => by
  rw [length_leasts] at hi
  rw [nth_leasts hi]
  exact (leastOf_bounds (out_nth ho hi).1).2
theorem outcomes_last {xs : List Int} (ho : outB xs = true) : ∃ M, lex (leasts xs) xs = M ++ [xs] := lex_last _ _ (length_leasts xs) (leasts_le ho)
theorem outcomes_count {xs : List Int} (ho : outB xs = true) : (((lex (leasts xs) xs).length : Nat) : Int) = prodTo xs xs.length := by
  have := length_lex xs ho xs.length (Nat.le_refl _)
  simpa [prodTo] using this

theorem lexLess_at : ∀ (k : Nat) (xs ys : List Int), k < xs.length → xs.length = ys.length → (∀ i, i < k → nth xs i = nth ys i) → nth xs k ≠ nth ys k → lexLess xs ys = decide (nth xs k < nth ys k)
  | 0, x :: xs, y :: ys, _, _, _, h => by
    simp only [nth_cons_zero] at h ⊢
    simp [lexLess, h]
  | k + 1, x :: xs, y :: ys, hk, hl, hh, h => by
    have h0 := hh 0 (by omega)
    simp only [nth_cons_zero, nth_cons_succ] at h h0 ⊢
    simp only [lexLess, if_pos h0]
    exact lexLess_at k xs ys (by simpa using hk) (by simpa using hl) (fun i hi => by have := hh (i + 1) (by omega); simpa only [nth_cons_succ] using this) h
  | _, [], _, hk, _, _, _ => by simp at hk
  | _, _ :: _, [], _, hl, _, _ => by simp at hl
theorem lexLess_same : ∀ (xs : List Int), lexLess xs xs = false
  | [] => rfl
  | x :: xs => by simp [lexLess, lexLess_same xs]
end Go.Proofs.Ytakadjhbomggbaa

namespace Go.Proofs.Ytakadjhbomggbaa
open Go.RowKit

/-! ### Walks: lists that do not fall -/
def RunTo {α : Type} (f : α → Option α) : List α → Option α → Prop
  | [], _ => False
  | [x], t => f x = t
  | x :: y :: r, t => f x = some y ∧ RunTo f (y :: r) t
theorem RunTo.append {α : Type} {f : α → Option α} {m : α} {t : Option α} {L2 : List α} (h2 : RunTo f (m :: L2) t) : ∀ {L1 : List α}, RunTo f L1 (some m) → RunTo f (L1 ++ m :: L2) t
  | [], h => h.elim
  | [_], h => ⟨h, h2⟩
  | _ :: y :: r, h => ⟨h.1, RunTo.append h2 (L1 := y :: r) h.2⟩
theorem RunTo.map {α β : Type} {g : α → Option α} {f : β → Option β} {h : α → β} {t : Option β} (h1 : ∀ y z, g y = some z → f (h y) = some (h z)) (h2 : ∀ y, g y = none → f (h y) = t) : ∀ {L : List α}, RunTo g L none → RunTo f (L.map h) t
  | [], hh => hh.elim
  | [x], hh => h2 x hh
  | x :: y :: r, hh => ⟨h1 x y hh.1, RunTo.map h1 h2 (L := y :: r) hh.2⟩
/-- All walks under bounds from a number on. -/
def wlk : List Int → Int → List (List Int)
  | [], _ => [[]]
  | b :: bs, lo => (upFrom lo (b + 1 - lo).toNat).flatMap fun x => (wlk bs x).map (x :: ·)
/-- The next one. -/
def nx : List Int → List Int → Option (List Int)
  | b :: bs, x :: xs => match nx bs xs with
    | some ys => some (x :: ys)
    | none => if x = b then none else some (List.replicate (bs.length + 1) (x + 1))
  | _, _ => none
theorem upFrom_cons (x : Int) (k : Nat) : upFrom x (k + 1) = x :: upFrom (x + 1) k := rfl
theorem wlk_head : ∀ (bs : List Int) (lo : Int), bs.Pairwise (· ≤ ·) → (∀ b ∈ bs, lo ≤ b) → ∃ L, wlk bs lo = List.replicate bs.length lo :: L
  | [], lo, _, _ => ⟨[], rfl⟩
  | b :: bs, lo, hp, hb => by
    have h1 := hb b (by simp)
    obtain ⟨k, hk⟩ : ∃ k, (b + 1 - lo).toNat = k + 1 := ⟨(b - lo).toNat, by omega⟩
    obtain ⟨L, hL⟩ := wlk_head bs lo (List.pairwise_cons.1 hp).2 (fun c hc => hb c (by simp [hc]))
    simp only [wlk, hk, upFrom_cons, List.flatMap_cons, hL, List.map_cons, List.length_cons, List.replicate_succ, List.cons_append]
    exact ⟨_, rfl⟩
theorem wlk_run : ∀ (bs : List Int) (lo : Int), bs.Pairwise (· ≤ ·) → (∀ b ∈ bs, lo ≤ b) → RunTo (nx bs) (wlk bs lo) none
  | [], lo, _, _ => rfl
  | b :: bs, lo, hp, hb => by
    have hp2 := (List.pairwise_cons.1 hp)
    have key : ∀ (k : Nat) (x : Int), x + k = b → RunTo (nx (b :: bs)) ((upFrom x (k + 1)).flatMap fun x => (wlk bs x).map (x :: ·)) none := by
      intro k
      induction k with
      | zero =>
        intro x hx
        have hxb : x = b := by omega
        subst hxb
        simp only [upFrom, List.flatMap_cons, List.flatMap_nil, List.append_nil]
        refine RunTo.map (g := nx bs) ?_ ?_ (wlk_run bs x hp2.2 (fun c hc => hp2.1 c hc))
        · intro y z h
          simp only [nx, h]
        · intro y h
          simp [nx, h]
      | succ k ih =>
        intro x hx
        have h1 := ih (x + 1) (by omega)
        rw [upFrom_cons, List.flatMap_cons]
        have hblk : ∀ c ∈ bs, x + 1 ≤ c := fun c hc => by have := hp2.1 c hc; omega
        obtain ⟨L, hL⟩ := wlk_head (b :: bs) (x + 1) hp (fun c hc => by
          rcases List.mem_cons.1 hc with rfl | hc
          · omega
          · exact hblk c hc)
        have e : wlk (b :: bs) (x + 1) = (upFrom (x + 1) (k + 1)).flatMap fun x => (wlk bs x).map (x :: ·) := by
          simp only [wlk]
          rw [show (b + 1 - (x + 1)).toNat = k + 1 by omega]
        rw [← e, hL] at h1 ⊢
        refine RunTo.append h1 (RunTo.map (g := nx bs) ?_ ?_ (wlk_run bs x hp2.2 (fun c hc => by have := hblk c hc; omega)))
        · intro y z h
          simp only [nx, h]
        · intro y h
          simp only [nx, h]
          rw [if_neg (by omega)]
          simp
    simp only [wlk]
    have := hb b (by simp)
    have := key (b - lo).toNat lo (by omega)
    rw [show (b + 1 - lo).toNat = (b - lo).toNat + 1 by omega]
    exact this
/-- The next one, looked for from the last number down. -/
def nextW (bs xs : List Int) : Nat → List Int × Bool
  | 0 => ([], false)
  | c + 1 => if nth xs c = nth bs c then nextW bs xs c else (xs.take c ++ List.replicate (xs.length - c) (nth xs c + 1), true)
def optL : Option (List Int) → List Int × Bool
  | some ys => (ys, true)
  | none => ([], false)
theorem nextW_cons (b : Int) (bs : List Int) (x : Int) (xs : List Int) : ∀ c, nextW (b :: bs) (x :: xs) (c + 1) = if (nextW bs xs c).2 = true then (x :: (nextW bs xs c).1, true) else if x = b then ([], false) else (List.replicate (xs.length + 1) (x + 1), true)
  | 0 => by simp [nextW, nth]
  | c + 1 => by
    have ih := nextW_cons b bs x xs c
    rw [nextW, nth_cons_succ, nth_cons_succ]
    by_cases e : nth xs c = nth bs c
    · rw [if_pos e, ih, nextW, if_pos e]
    · rw [if_neg e, nextW, if_neg e]
      simp
theorem nextW_nx : ∀ (bs xs : List Int), xs.length = bs.length → nextW bs xs xs.length = optL (nx bs xs)
  | [], [], _ => rfl
  | b :: bs, x :: xs, h => by
    have ih := nextW_nx bs xs (by simpa using h)
    rw [List.length_cons, nextW_cons, ih]
    simp only [nx]
    cases hn : nx bs xs with
    | some ys => simp [optL]
    | none =>
      have : xs.length = bs.length := by simpa using h
      simp only [optL, this]
      by_cases e : x = b
      · simp [e]
      · simp [e]
theorem run_chain {f : List Int → Option (List Int)} {g : List Int → List Int × Bool} : ∀ {L : List (List Int)}, (∀ x ∈ L, g x = optL (f x)) → RunTo f L none → Chain g L
  | [], _, h => h.elim
  | [x], hg, h => by
    refine ⟨by simp, fun k hk => by simp at hk, ?_⟩
    have := hg x (by simp)
    have h' : f x = none := h
    simp [this, h', optL]
  | x :: y :: r, hg, h => by
    obtain ⟨_, h2, h3⟩ := run_chain (L := y :: r) (fun z hz => hg z (by simp [hz])) h.2
    refine ⟨by simp, fun k hk => ?_, by simpa using h3⟩
    match k, hk with
    | 0, _ =>
      have := hg x (by simp)
      have h' : f x = some y := h.1
      simp [this, h', optL]
    | k + 1, hk => simpa using h2 k (by simpa using hk)
/-- What walks are. -/
theorem wlk_mem : ∀ {bs : List Int} {lo : Int} {xs : List Int}, xs ∈ wlk bs lo ↔ xs.length = bs.length ∧ (lo :: xs).Pairwise (· ≤ ·) ∧ ∀ i, i < bs.length → nth xs i ≤ nth bs i
  | [], lo, xs => by
    simp only [wlk, List.mem_singleton]
    constructor
    · rintro rfl; simp
    · rintro ⟨h, _⟩; exact List.eq_nil_of_length_eq_zero h
  | b :: bs, lo, xs => by
    simp only [wlk, List.mem_flatMap, List.mem_map]
    constructor
    · rintro ⟨x, hx, ys, hys, rfl⟩
      obtain ⟨h1, h2, h3⟩ := wlk_mem.1 hys
      have hx' := (mem_upFrom _ _ _).1 hx
      refine ⟨by simp [h1], ?_, ?_⟩
      · rw [List.pairwise_cons]
        refine ⟨fun z hz => ?_, h2⟩
        rcases List.mem_cons.1 hz with rfl | hz
        · omega
        · have := (List.pairwise_cons.1 h2).1 z hz; omega
      · intro i hi
        match i, hi with
        | 0, _ => simp only [nth_cons_zero]; omega
        | i + 1, hi => rw [nth_cons_succ, nth_cons_succ]; exact h3 i (by simpa using hi)
    · rintro ⟨h1, h2, h3⟩
      match xs, h1 with
      | x :: ys, h1 =>
        have hp := List.pairwise_cons.1 h2
        have h0 := h3 0 (by simp)
        simp only [nth_cons_zero] at h0
        have hlx := hp.1 x (by simp)
        refine ⟨x, (mem_upFrom _ _ _).2 ⟨hlx, by omega⟩, ys, wlk_mem.2 ⟨by simpa using h1, hp.2, fun i hi => ?_⟩, rfl⟩
        have := h3 (i + 1) (by simpa using hi)
        rwa [nth_cons_succ, nth_cons_succ] at this
def allW (bs : List Int) : List (List Int) := wlk bs 0
theorem allW_chain {bs : List Int} (hb : Bnd bs) : Chain (fun xs => nextW bs xs xs.length) (allW bs) ∧ (allW bs).getD 0 [] = List.replicate bs.length 0 ∧
    ∀ k, k < (allW bs).length → ((allW bs).getD k []).length = bs.length ∧ ((allW bs).getD k []).Pairwise (· ≤ ·) ∧ ∀ i, i < bs.length → 0 ≤ nth ((allW bs).getD k []) i ∧ nth ((allW bs).getD k []) i ≤ nth bs i := by
  refine ⟨run_chain (fun x hx => nextW_nx bs x (wlk_mem.1 hx).1) (wlk_run bs 0 hb.1 hb.2), ?_, fun k hk => ?_⟩
  · obtain ⟨L, hL⟩ := wlk_head bs 0 hb.1 hb.2
    unfold allW
    rw [hL]
    rfl
  · have hm : (allW bs).getD k [] ∈ wlk bs 0 := by
      simp only [List.getD_eq_getElem?_getD, List.getElem?_eq_getElem hk, Option.getD_some]
      exact List.getElem_mem hk
    obtain ⟨h1, h2, h3⟩ := wlk_mem.1 hm
    have hp := List.pairwise_cons.1 h2
    exact ⟨h1, hp.2, fun i hi => ⟨hp.1 _ (nth_mem (by omega)), h3 i hi⟩⟩
/-! ### Slopes -/
def bnds (n a : Nat) : List Int := (List.range n).map fun (i : Nat) => ((i * a / n : Nat) : Int)
def slN (n a : Nat) : Bool := decide (1 ≤ n) && decide (n ≤ 6) && decide (1 ≤ a) && decide (a ≤ 13) && decide (Nat.gcd n a = 1)
def slB (n a : Int) : Bool := inB n 1 6 && inB a 1 13 && decide (Nat.gcd n.toNat a.toNat = 1)
theorem slB_iff {n a : Int} : slB n a = true ↔ ∃ m q : Nat, n = m ∧ a = q ∧ slN m q = true := by
  simp only [slB, slN, Bool.and_eq_true, decide_eq_true_eq, inB_iff]
  constructor
  · rintro ⟨⟨⟨h1, h2⟩, h3, h4⟩, h5⟩
    exact ⟨n.toNat, a.toNat, by omega, by omega, ⟨⟨⟨⟨by omega, by omega⟩, by omega⟩, by omega⟩, h5⟩⟩
  · rintro ⟨m, q, rfl, rfl, ⟨⟨⟨⟨h1, h2⟩, h3⟩, h4⟩, h5⟩⟩
    exact ⟨⟨⟨by omega, by omega⟩, by omega, by omega⟩, by simpa using h5⟩
theorem slN_iff {n a : Nat} : slN n a = true ↔ (1 ≤ n ∧ n ≤ 6) ∧ (1 ≤ a ∧ a ≤ 13) ∧ Nat.gcd n a = 1 := by
  simp only [slN, Bool.and_eq_true, decide_eq_true_eq]
  constructor
  · rintro ⟨⟨⟨⟨h1, h2⟩, h3⟩, h4⟩, h5⟩; exact ⟨⟨h1, h2⟩, ⟨h3, h4⟩, h5⟩
  · rintro ⟨⟨h1, h2⟩, ⟨h3, h4⟩, h5⟩; exact ⟨⟨⟨⟨h1, h2⟩, h3⟩, h4⟩, h5⟩
theorem slB_nat (n a : Nat) : slB (n : Int) (a : Int) = slN n a := by
  rw [Bool.eq_iff_iff, slB_iff]
  constructor
  · rintro ⟨m, q, h1, h2, h3⟩
    have : n = m := by omega
    have : a = q := by omega
    subst n a; exact h3
  · intro h; exact ⟨n, a, rfl, rfl, h⟩
theorem length_bnds (n a : Nat) : (bnds n a).length = n := by simp [bnds]
theorem nth_bnds {n a i : Nat} (h : i < n) : nth (bnds n a) i = ((i * a / n : Nat) : Int) := by simp [nth, bnds, h]
theorem bnds_bnd (n a : Nat) : Bnd (bnds n a) := by
  refine ⟨?_, fun b hb => ?_⟩
  · unfold bnds
    rw [List.pairwise_map]
    refine List.Pairwise.imp ?_ (List.pairwise_lt_range (n := n))
    intro i j hij
    exact Int.ofNat_le.2 (Nat.div_le_div_right (Nat.mul_le_mul_right _ (Nat.le_of_lt hij)))
  · obtain ⟨i, _, rfl⟩ := List.mem_map.1 hb
    exact Int.natCast_nonneg _
theorem bnds_lt {n a : Nat} (ha : 1 ≤ a) : ∀ b ∈ bnds n a, b < (a : Int) := by
  intro b hb
  obtain ⟨i, hi, rfl⟩ := List.mem_map.1 hb
  rw [List.mem_range] at hi
  have : i * a / n < a := by
    rw [Nat.div_lt_iff_lt_mul (by omega), Nat.mul_comm a n]
    exact Nat.mul_lt_mul_of_pos_right hi ha
  omega
theorem numB_slope {n a : Nat} (ha : 1 ≤ a) : numB (bnds n a) ≤ a := by
  unfold numB
  rcases foldl_max_mem (bnds n a) (-1) with h | h
  · omega
  · have := bnds_lt ha _ h
    omega
theorem cnt_slope : ∀ n, n < 7 → ∀ a, a < 14 → slN n a = true → cntB (bnds n a) = a ^ (n - 1) := by decide +kernel
/-- What is small enough to be counted. -/
def Sml (bs : List Int) : Prop := Bnd bs ∧ bs.length ≤ 8 ∧ numB bs ≤ 13 ∧ numB bs ^ bs.length ≤ 16777216
theorem pow_slope : ∀ n, n < 7 → ∀ a, a < 14 → a ^ n ≤ 4826809 := by decide +kernel
theorem sml_bnds {n a : Nat} (h : slN n a = true) : Sml (bnds n a) := by
  obtain ⟨⟨h1, h2⟩, ⟨h3, h4⟩, _⟩ := slN_iff.1 h
  have := numB_slope (n := n) h3
  refine ⟨bnds_bnd n a, by rw [length_bnds]; omega, by omega, ?_⟩
  rw [length_bnds]
  have := pow_slope n (by omega) (numB (bnds n a)) (by omega)
  omega
theorem NU_le {bs p : List Int} (h : Sml bs) : NU (shp bs) p ≤ 16777216 := by
  obtain ⟨_, h1, h2, h3⟩ := h
  unfold NU
  refine Nat.le_trans (U_le _ _ _ (by simp only [shp]; omega) _ (by simp only [shp]; omega)) ?_
  simp only [shp]
  by_cases h0 : numB bs = 0
  · rw [h0]
    cases bs.length - p.length with
    | zero => simp
    | succ k => simp
  · exact Nat.le_trans (Nat.pow_le_pow_right (by omega) (by omega)) h3
theorem U_small {bs : List Int} (h : Sml bs) (b : Nat → Nat) {P L : Nat} (hP : P ≤ numB bs) (hL : L ≤ bs.length) : ∀ s, s ≤ L → U (shp bs).need b P s ≤ 16777216 := fun s hs => by
  obtain ⟨_, h1, h2, h3⟩ := h
  refine Nat.le_trans (U_le _ _ _ (by omega) _ (by omega)) ?_
  by_cases h0 : numB bs = 0
  · obtain rfl : P = 0 := by omega
    cases s with
    | zero => simp
    | succ k => simp
  · refine Nat.le_trans (Nat.pow_le_pow_left hP _) ?_
    exact Nat.le_trans (Nat.pow_le_pow_right (by omega) (by omega)) h3
/-- Behind the greatest bound nothing more is chosen. -/
theorem U_past {d b : Nat → Nat} {n m P s : Nat} (hs : s = n - m) (hm : m ≤ n) (hb : ∀ i, b i ≤ m) (hmono : ∀ i, b i ≤ b (i + 1)) (hP : d P = n) (hQ : d (P + 1) = n) : U d b (P + 1 + 1) s = U d b (P + 1) s := by
  have hz : ∀ k, k < s → U d b (P + 1) k = 0 := by
    intro k hk
    simp only [U]
    rw [if_neg]
    have := hb P
    omega
  have key : sumTo (fun k => chs s k * U d b (P + 1) k) (s + 1) = U d b (P + 1) s := by
    rw [sumTo, sumTo_zero fun k hk => by rw [hz k hk, Nat.mul_zero], chs_self]
    omega
  rw [U, key]
  by_cases h : d (P + 1) ≤ b (P + 1) + s
  · rw [if_pos h]
  · rw [if_neg h]
    simp only [U]
    rw [if_neg]
    have := hmono P
    omega
theorem U_across {bs p : List Int} (hb : Bnd bs) (hl : 0 < bs.length) (hp : p.length ≤ bs.length) : ∀ k, U (shp bs).need (fun P => below p ((P : Int) + 1)) (numB bs + k) (bs.length - p.length) = NU (shp bs) p
  | 0 => rfl
  | k + 1 => by
    obtain ⟨q, hq⟩ : ∃ q, numB bs + k = q + 1 := ⟨numB bs + k - 1, by have := (numB_top hb hl).1; omega⟩
    have hn : ∀ j : Nat, numB bs ≤ j + 1 → (shp bs).need j = bs.length := by
      intro j hj
      refine below_full fun x hx => ?_
      have := (numB_top hb hl).2 x hx
      omega
    have ih := U_across (p := p) hb hl hp k
    rw [show numB bs + (k + 1) = q + 1 + 1 by omega, U_past (n := bs.length) (m := p.length) rfl hp (fun i => below_le _ _) (fun i => ?_) (hn q (by omega)) (hn (q + 1) (by omega)), ← hq, ih]
    unfold below
    exact List.countP_mono_left fun x _ h => by simp at *; omega
/-! ### Streets as bounds -/
def idx (n : Nat) : List Int := (List.range n).map fun (i : Nat) => (i : Int)
theorem length_idx (n : Nat) : (idx n).length = n := by simp [idx]
theorem nth_idx {n i : Nat} (h : i < n) : nth (idx n) i = (i : Int) := by simp [nth, idx, h]
theorem idx_bnd (n : Nat) : Bnd (idx n) := by
  refine ⟨?_, fun b hb => ?_⟩
  · unfold idx
    rw [List.pairwise_map]
    exact List.Pairwise.imp (fun h => by omega) (List.pairwise_lt_range (n := n))
  · obtain ⟨i, _, rfl⟩ := List.mem_map.1 hb
    omega
theorem numB_idx (n : Nat) : numB (idx n) = n := by
  cases n with
  | zero => rfl
  | succ k =>
    have h1 := lt_numB (bs := idx (k + 1)) (b := (k : Int)) (List.mem_map.2 ⟨k, by simp, rfl⟩) (by omega)
    have h2 : numB (idx (k + 1)) ≤ k + 1 := by
      unfold numB
      rcases foldl_max_mem (idx (k + 1)) (-1) with h | h
      · omega
      · obtain ⟨i, hi, e⟩ := List.mem_map.1 h
        rw [List.mem_range] at hi
        omega
    omega
theorem below_idx {n j : Nat} (h : j < n) : below (idx n) ((j : Int) + 1) = j + 1 := by
  have h1 := below_cut (idx n) (j + 1) ((j : Int) + 1)
  have h2 : below ((idx n).take (j + 1)) ((j : Int) + 1) = ((idx n).take (j + 1)).length := by
    refine below_full fun x hx => ?_
    obtain ⟨i, hi, rfl⟩ := mem_nth hx
    rw [List.length_take] at hi
    rw [nth_take (by omega), nth_idx (by omega)]
    omega
  have h3 : below ((idx n).drop (j + 1)) ((j : Int) + 1) = 0 := by
    unfold below
    rw [List.countP_eq_zero]
    intro x hx
    obtain ⟨i, hi, rfl⟩ := mem_nth hx
    rw [List.length_drop, length_idx] at hi
    rw [nth_dropP, nth_idx (by omega)]
    simp
    omega
  rw [h1, h2, h3, List.length_take, length_idx]
  omega
theorem N_idx (n : Nat) (p : List Int) : NU (shp (idx n)) p = N p n := by
  unfold NU N
  rw [V_U]
  simp only [shp, numB_idx, length_idx]
  exact U_congr n (fun _ _ => rfl) (fun i hi => below_idx hi) _
theorem zf_idx (n : Nat) (p : List Int) : zf (shp (idx n)) p ↔ zpark p n := by
  unfold zf zpark
  simp only [shp, numB_idx, length_idx]
  constructor
  · intro h i hi
    have := h i hi
    rw [below_idx hi] at this
    omega
  · intro h i hi
    have := h i hi
    rw [below_idx hi]
    omega
theorem sml_idx {n : Nat} (h : n ≤ 8) : Sml (idx n) := by
  have : ∀ n, n < 9 → n ^ n ≤ 16777216 := by decide +kernel
  exact ⟨idx_bnd n, by rw [length_idx]; exact h, by rw [numB_idx]; omega, by rw [numB_idx, length_idx]; exact this n (by omega)⟩
theorem und_idx {xs : List Int} {n : Nat} (hl : xs.length = n) (h8 : n ≤ 8) : und (idx n) xs = isPark xs := by
  rw [Bool.eq_iff_iff, und_iff (idx_bnd n) (by rw [length_idx]; exact hl), zf_idx]
  subst hl
  constructor
  · rintro ⟨h0, hz⟩
    exact (isPark_zpark h8 h0).2 hz
  · intro h
    have h0 : ∀ x ∈ xs, 0 ≤ x := fun x hx => ((isPark_bounds h).2 x hx).1
    exact ⟨h0, (isPark_zpark h8 h0).1 h⟩
theorem rk_idx (n : Nat) : ∀ (r : List Nat) (p : List Int), rkU (shp (idx n)) p r = rk n p r
  | [], _ => rfl
  | x :: r, p => by
    simp only [rkU, rk]
    rw [rk_idx n r, sumTo_congr (f := fun y : Nat => NU (shp (idx n)) (p ++ [(y : Int)])) (g := fun y : Nat => N (p ++ [(y : Int)]) n) fun y _ => N_idx n _]
theorem nextU_idx {xs : List Int} {n : Nat} (hl : xs.length = n) (h8 : n ≤ 8) : ∀ c, c ≤ n → nextU (idx n) xs c = nextP xs c
  | 0, _ => rfl
  | c + 1, h => by
    simp only [nextU, nextP]
    rw [und_idx (by rw [length_cand (by omega)]; exact hl) h8, nextU_idx hl h8 c (by omega)]
theorem nextW_idx {xs : List Int} {n : Nat} : ∀ c, c ≤ n → nextW (idx n) xs c = nextS xs c
  | 0, _ => rfl
  | c + 1, h => by
    simp only [nextW, nextS]
    rw [nth_idx (by omega), nextW_idx c (by omega)]
theorem pick_congr {f g : Nat → Nat} (h : ∀ y, f y = g y) (k y r : Nat) : pick f k y r = pick g k y r := by rw [funext h]
theorem at_idx (n : Nat) : ∀ (k : Nat) (p : List Int) (R : Nat), atU (shp (idx n)) k p R = atL n k p R
  | 0, _, _ => rfl
  | k + 1, p, R => by
    simp only [atU, atL]
    have e : (fun y : Nat => NU (shp (idx n)) (p ++ [(y : Int)])) = fun y : Nat => N (p ++ [(y : Int)]) n := funext fun y => N_idx n _
    rw [e, show (shp (idx n)).A = n from numB_idx n, at_idx n k]
theorem list_idx (n : Nat) : ∀ (k : Nat) (p : List Int), liU (shp (idx n)) k p = listL n k p
  | 0, p => by
    simp only [liU, listL]
    by_cases h : zpark p n
    · rw [if_pos h, if_pos ((zf_idx n p).2 h)]
    · rw [if_neg h, if_neg fun hh => h ((zf_idx n p).1 hh)]
  | k + 1, p => by
    simp only [liU, listL]
    rw [show (shp (idx n)).A = n from numB_idx n]
    congr 1
    funext x
    exact list_idx n k _
theorem cnt_idx {n : Nat} (h : n ≤ 8) : cntB (idx n) = cnt n := by unfold cntB; rw [N_idx, N_nil h]
end Go.Proofs.Ytakadjhbomggbaa

namespace Go.Proofs.Ytakadjhbomggbaa
open Go.RowKit

def allPrimeOf (n : Int) : List (List Int) × Bool := if inB n 1 5 then ((listL n.toNat n.toNat []).filter primeB, true) else ([], false)
/-- The bounds of prime lists. -/
def pbs (n : Nat) : List Int := (List.range n).map fun (i : Nat) => ((i - 1 : Nat) : Int)
theorem length_pbs (n : Nat) : (pbs n).length = n := by simp [pbs]
theorem nth_pbs {n i : Nat} (h : i < n) : nth (pbs n) i = ((i - 1 : Nat) : Int) := by simp [nth, pbs, h]
theorem pbs_bnd (n : Nat) : Bnd (pbs n) := by
  refine ⟨?_, fun b hb => ?_⟩
  · unfold pbs
    rw [List.pairwise_map]
    exact (List.pairwise_lt_range).imp fun h => by omega
  · unfold pbs at hb
    obtain ⟨i, _, rfl⟩ := List.mem_map.1 hb
    omega
theorem prime_list : ∀ n, n < 6 → 0 < n → allB' (pbs n) = (listL n n []).filter primeB := by decide +kernel
theorem cnt_prime : ∀ n, n < 6 → 0 < n → cntB (pbs n) = (n - 1) ^ (n - 1) := by decide +kernel

/-! ### The first place of a part -/
/-- A cut, or 0. -/
def st (xs : List Int) (b : Nat) : Bool := decide (below xs (b : Int) = b)
def begF (xs : List Int) : Nat → Nat
  | 0 => 0
  | b + 1 => if b + 1 < below xs ((b + 1 : Nat) : Int) then begF xs b else b + 1
theorem begF_le (xs : List Int) : ∀ b, begF xs b ≤ b
  | 0 => Nat.le_refl _
  | b + 1 => by
    unfold begF
    split
    · exact Nat.le_succ_of_le (begF_le xs b)
    · exact Nat.le_refl _
theorem below_zero {xs : List Int} (h : ∀ x ∈ xs, 0 ≤ x) : below xs 0 = 0 := by
  unfold below
  rw [List.countP_eq_zero]
  intro x hx
  have := h x hx
  simp
  omega
theorem begF_go {xs : List Int} {b : Nat} (h : b < below xs (b : Int)) (h0 : ∀ x ∈ xs, 0 ≤ x) : 0 < b ∧ begF xs b = begF xs (b - 1) := by
  cases b with
  | zero => rw [show ((0 : Nat) : Int) = 0 from rfl, below_zero h0] at h; omega
  | succ b => exact ⟨by omega, by rw [begF, if_pos h, Nat.add_sub_cancel]⟩
theorem begF_stop {xs : List Int} {b : Nat} (h : ¬ b < below xs (b : Int)) : begF xs b = b := by
  cases b with
  | zero => rfl
  | succ b => rw [begF, if_neg h]
/-- In increasing order. -/
theorem park_sorted {xs : List Int} (h : isPark xs = true) : ∀ i, i < xs.length → 0 ≤ nth (insSort xs) i ∧ nth (insSort xs) i ≤ (i : Int) := by
  have hb := isPark_bounds h
  have h1 : ∀ x ∈ xs, 0 ≤ x := fun x hx => (hb.2 x hx).1
  have h2 := (isPark_zpark hb.1 h1).1 h
  intro i hi
  have hl := length_insSort xs
  refine ⟨h1 _ ((insSort_perm xs).subset (nth_mem (by rw [hl]; exact hi))), ?_⟩
  have := h2 i hi
  rw [Nat.sub_self, Nat.add_zero, ← below_perm (insSort_perm xs)] at this
  have h3 := (below_sorted (insSort_sorted xs) (k := i) (by rw [hl]; exact hi) ((i : Int) + 1)).1 this
  omega
theorem below_ge {xs : List Int} (h : isPark xs = true) {b : Nat} (hb : b ≤ xs.length) : b ≤ below xs (b : Int) := by
  cases b with
  | zero => exact Nat.zero_le _
  | succ b =>
    have hl := length_insSort xs
    have h1 := park_sorted h b (by omega)
    have h2 := (below_sorted (insSort_sorted xs) (k := b) (by omega) ((b : Int) + 1)).2 (by omega)
    rw [below_perm (insSort_perm xs)] at h2
    have : ((b + 1 : Nat) : Int) = (b : Int) + 1 := by omega
    rw [this]
    omega
theorem st_iff {xs : List Int} (h : isPark xs = true) {b : Nat} (hb : b ≤ xs.length) : st xs b = true ↔ ¬ b < below xs (b : Int) := by
  have := below_ge h hb
  simp only [st, decide_eq_true_eq]
  omega
theorem st_at {xs : List Int} (h : isPark xs = true) {b : Nat} (hb : b < xs.length) : st xs b = true ↔ nth (insSort xs) b = (b : Int) := by
  rw [st_iff h (by omega), ← below_perm (insSort_perm xs), below_sorted (insSort_sorted xs) (by rw [length_insSort]; exact hb)]
  have := park_sorted h b hb
  omega
theorem begF_st {xs : List Int} (h : isPark xs = true) : ∀ b, b ≤ xs.length → st xs (begF xs b) = true ∧ ∀ c, begF xs b < c → c ≤ b → st xs c = false
  | 0, _ => ⟨by
      show st xs 0 = true
      rw [st_iff h (Nat.zero_le _), show ((0 : Nat) : Int) = 0 from rfl, below_zero (fun x hx => ((isPark_bounds h).2 x hx).1)]
      omega, fun c h1 h2 => by simp [begF] at h1; omega⟩
  | b + 1, hb => by
    obtain ⟨g1, g2⟩ := begF_st h b (by omega)
    by_cases hc : b + 1 < below xs ((b + 1 : Nat) : Int)
    · rw [begF, if_pos hc]
      refine ⟨g1, fun c h1 h2 => ?_⟩
      by_cases e : c = b + 1
      · subst e
        rw [Bool.eq_false_iff]
        intro hh
        exact ((st_iff h hb).1 hh) hc
      · exact g2 c h1 (by omega)
    · rw [begF, if_neg hc]
      exact ⟨(st_iff h hb).2 hc, fun c h1 h2 => by omega⟩
theorem begF_eq {xs : List Int} (h : isPark xs = true) {a b : Nat} (hb : b ≤ xs.length) (ha : a ≤ b) (h1 : st xs a = true) (h2 : ∀ c, a < c → c ≤ b → st xs c = false) : begF xs b = a := by
  obtain ⟨g1, g2⟩ := begF_st h b hb
  have := begF_le xs b
  rcases Nat.lt_trichotomy (begF xs b) a with h3 | h3 | h3
  · rw [g2 a h3 ha] at h1; cases h1
  · exact h3
  · rw [h2 _ h3 this] at g1; cases g1

/-! ### Cars by the parts in which they are -/
def begC (xs : List Int) (c : Int) : Nat := begF xs (nth xs c.toNat).toNat
def grp (xs cars : List Int) (b : Nat) : List Int := cars.filter fun c => decide (begC xs c = b)
def partRows (xs cars : List Int) : List (List Int) := ((List.range 8).map (grp xs cars)).filter fun r => !r.isEmpty
theorem grp_snoc (xs cars : List Int) (c : Int) (b : Nat) : grp xs (cars ++ [c]) b = if begC xs c = b then grp xs cars b ++ [c] else grp xs cars b := by
  unfold grp
  rw [List.filter_append]
  by_cases h : begC xs c = b <;> simp [h]

/-! ### Parts between neighbouring cuts -/
def cutList (xs : List Int) : List Int := 0 :: (idxs (isCut xs) xs.length ++ [(xs.length : Int)])
def partAt (xs : List Int) (a b : Int) : List Int := (xs.filter fun x => decide (a ≤ x) && decide (x < b)).map (· - a)
def primeParts (xs : List Int) : List (List Int) := (List.range ((cutList xs).length - 1)).map fun k => partAt xs (nth (cutList xs) k) (nth (cutList xs) (k + 1))
def primePartsOf (xs : List Int) : List (List Int) × Bool := if isPark xs then (if xs = [] then [] else primeParts xs, true) else ([], false)
end Go.Proofs.Ytakadjhbomggbaa

namespace Go.Proofs.Ytakadjhbomggbaa
open Go.RowKit

theorem filter_lt_range (q : Nat → Bool) (n : Nat) : ∀ m, (List.range m).filter (fun b => decide (b < n) && q b) = (List.range (min m n)).filter q
  | 0 => by simp
  | m + 1 => by
    rw [List.range_succ, List.filter_append, filter_lt_range q n m]
    by_cases h : m < n
    · rw [show min (m + 1) n = m + 1 by omega, show min m n = m by omega, List.range_succ, List.filter_append]
      simp [h, List.filter_cons]
    · rw [show min (m + 1) n = min m n by omega]
      simp [h]
/-- The starts of parts. -/
def starts (xs : List Int) : List Nat := (List.range xs.length).filter (st xs)
theorem mem_starts {xs : List Int} {b : Nat} : b ∈ starts xs ↔ b < xs.length ∧ st xs b = true := by simp [starts]
theorem starts_lt (xs : List Int) : (starts xs).Pairwise (· < ·) := List.Pairwise.filter _ List.pairwise_lt_range
theorem begC_facts {xs : List Int} (h : isPark xs = true) {c : Nat} (hc : c < xs.length) : begC xs (c : Int) < xs.length ∧ st xs (begC xs (c : Int)) = true := by
  have hb := (isPark_bounds h).2 _ (nth_mem hc)
  unfold begC
  rw [Int.toNat_natCast]
  have h1 := begF_le xs (nth xs c).toNat
  exact ⟨by omega, (begF_st h _ (by omega)).1⟩
theorem start_car {xs : List Int} (h : isPark xs = true) {b : Nat} (hb : b < xs.length) (hs : st xs b = true) : ∃ c : Nat, c < xs.length ∧ nth xs c = (b : Int) ∧ begC xs (c : Int) = b := by
  have h1 := (st_at h hb).1 hs
  have h2 : (b : Int) ∈ xs := (insSort_perm xs).subset (by rw [← h1]; exact nth_mem (by rw [length_insSort]; exact hb))
  obtain ⟨c, hc, e⟩ := mem_nth h2
  refine ⟨c, hc, e, ?_⟩
  unfold begC
  rw [Int.toNat_natCast, e, Int.toNat_natCast]
  exact begF_eq h (by omega) (Nat.le_refl _) hs (fun c h1 h2 => by omega)
theorem partRows_starts {xs cars : List Int} (h : isPark xs = true) (hp : cars.Perm (upto xs.length)) : partRows xs cars = (starts xs).map (grp xs cars) := by
  have h8 := (isPark_bounds h).1
  unfold partRows starts
  rw [List.filter_map]
  congr 1
  rw [← show min 8 xs.length = xs.length by omega, ← filter_lt_range]
  refine List.filter_congr fun b _ => ?_
  simp only [Function.comp]
  rw [Bool.eq_iff_iff, Bool.and_eq_true, decide_eq_true_eq, Bool.not_eq_true', List.isEmpty_eq_false_iff]
  constructor
  · intro hne
    obtain ⟨c, hc⟩ := List.exists_mem_of_ne_nil _ hne
    unfold grp at hc
    rw [List.mem_filter, decide_eq_true_eq] at hc
    obtain ⟨i, hi, rfl⟩ := mem_upto.1 (hp.subset hc.1)
    rw [← hc.2]
    have := begC_facts h hi
    exact ⟨by omega, this.2⟩
  · rintro ⟨hb, hs⟩
    obtain ⟨c, hc, _, e⟩ := start_car h hb hs
    refine List.ne_nil_of_mem (a := (c : Int)) ?_
    unfold grp
    rw [List.mem_filter, decide_eq_true_eq]
    exact ⟨hp.symm.subset (mem_upto.2 ⟨c, hc, rfl⟩), e⟩
theorem self_upto (xs : List Int) : xs = (upto xs.length).map fun c => nth xs c.toNat := ext_nth (by simp [length_upto]) fun i hi => by
  simp [nth, upto, hi]
theorem grp_values {xs : List Int} (a : Nat) : (grp xs (upto xs.length) a).map (fun c => nth xs c.toNat) = xs.filter fun x => decide (begF xs x.toNat = a) := by
  conv => rhs; rw [self_upto xs]
  rw [List.filter_map, ← self_upto xs]
  rfl

/-! ### The cuts with both ends -/
theorem idxs_starts {xs : List Int} (h : isPark xs = true) (hn : 0 < xs.length) : (starts xs).map (fun (b : Nat) => (b : Int)) = 0 :: idxs (isCut xs) xs.length := by
  unfold starts idxs
  obtain ⟨m, hm⟩ : ∃ m, xs.length = m + 1 := ⟨xs.length - 1, by omega⟩
  have h0 : st xs 0 = true := (st_iff h (Nat.zero_le _)).2 (by rw [show ((0 : Nat) : Int) = 0 from rfl, below_zero (fun x hx => ((isPark_bounds h).2 x hx).1)]; omega)
  have h1 : isCut xs 0 = false := by simp [isCut]
  rw [hm, List.range_succ_eq_map, List.filter_cons, List.filter_cons, if_pos h0, h1, if_neg (by simp)]
  rw [List.map_cons]
  congr 2
  refine List.filter_congr fun b hb => ?_
  obtain ⟨c, _, rfl⟩ := List.mem_map.1 hb
  simp [isCut, st]
  omega
theorem cutList_starts {xs : List Int} (h : isPark xs = true) (hn : 0 < xs.length) : cutList xs = (starts xs ++ [xs.length]).map fun (b : Nat) => (b : Int) := by
  unfold cutList
  rw [List.map_append, idxs_starts h hn]
  rfl
def nthN (l : List Nat) (i : Nat) : Nat := l.getD i 0
theorem nth_cast (l : List Nat) (i : Nat) : nth (l.map fun (b : Nat) => (b : Int)) i = (nthN l i : Int) := by
  unfold nth nthN
  by_cases h : i < l.length
  · simp [h]
  · simp [h]
/-- A start and what comes behind it. -/
def ends (xs : List Int) : List Nat := starts xs ++ [xs.length]
theorem ends_lt (xs : List Int) : (ends xs).Pairwise (· < ·) := by
  unfold ends
  rw [List.pairwise_append]
  refine ⟨starts_lt xs, List.pairwise_singleton _ _, fun a ha b hb => ?_⟩
  rw [List.mem_singleton] at hb
  subst hb
  exact (mem_starts.1 ha).1
theorem nthN_lt {l : List Nat} (h : l.Pairwise (· < ·)) {i j : Nat} (hij : i < j) (hj : j < l.length) : nthN l i < nthN l j := by
  have := List.pairwise_iff_getElem.1 h i j (by omega) hj hij
  simpa [nthN, hj, show i < l.length by omega] using this
theorem ends_left {xs : List Int} {k : Nat} (hk : k < (starts xs).length) : nthN (ends xs) k = (starts xs)[k] := by
  unfold ends nthN
  simp [List.getElem?_append, hk]
/-- A number lies in a part. -/
theorem part_iff {xs : List Int} (h : isPark xs = true) {k x : Nat} (hk : k < (starts xs).length) (hx : x < xs.length) : (nthN (ends xs) k ≤ x ∧ x < nthN (ends xs) (k + 1)) ↔ begF xs x = nthN (ends xs) k := by
  have hl : (ends xs).length = (starts xs).length + 1 := by simp [ends]
  have hm : nthN (ends xs) k ∈ starts xs := by rw [ends_left hk]; exact List.getElem_mem hk
  obtain ⟨m1, m2⟩ := mem_starts.1 hm
  constructor
  · rintro ⟨h1, h2⟩
    refine begF_eq h (by omega) h1 m2 fun c hc1 hc2 => ?_
    rw [Bool.eq_false_iff]
    intro hs
    have hc : c ∈ starts xs := mem_starts.2 ⟨by omega, hs⟩
    obtain ⟨j, hj, rfl⟩ := List.getElem_of_mem hc
    rw [← ends_left hj] at hc1 hc2
    have hkj : k < j := by
      rcases Nat.lt_trichotomy k j with h3 | h3 | h3
      · exact h3
      · subst h3; omega
      · have := nthN_lt (ends_lt xs) h3 (by omega); omega
    rcases Nat.lt_or_eq_of_le (show k + 1 ≤ j from hkj) with h3 | h3
    · have := nthN_lt (ends_lt xs) h3 (by omega); omega
    · subst h3; omega
  · intro e
    have h1 := begF_le xs x
    refine ⟨by omega, ?_⟩
    obtain ⟨g1, g2⟩ := begF_st h x (by omega)
    refine Classical.byContradiction fun hge => ?_
    by_cases hk1 : k + 1 < (starts xs).length
    · have : nthN (ends xs) k < nthN (ends xs) (k + 1) := nthN_lt (ends_lt xs) (Nat.lt_succ_self k) (by omega)
      have hm' : nthN (ends xs) (k + 1) ∈ starts xs := by rw [ends_left hk1]; exact List.getElem_mem hk1
      have := g2 (nthN (ends xs) (k + 1)) (by omega) (by omega)
      rw [(mem_starts.1 hm').2] at this
      cases this
    · have : nthN (ends xs) (k + 1) = xs.length := by
        unfold ends nthN
        simp [show k + 1 = (starts xs).length by omega]
      omega
theorem primeParts_rows {xs : List Int} (h : isPark xs = true) (hn : 0 < xs.length) : primeParts xs = (starts xs).map fun a => (xs.filter fun x => decide (begF xs x.toNat = a)).map (· - (a : Int)) := by
  have hcl := cutList_starts h hn
  unfold primeParts
  apply List.ext_getElem
  · rw [hcl]; simp
  · intro i h1 h2
    have hi : i < (starts xs).length := by simpa using h2
    simp only [List.getElem_map, List.getElem_range]
    rw [hcl, nth_cast, nth_cast]
    have e1 : nthN (starts xs ++ [xs.length]) i = (starts xs)[i] := ends_left hi
    unfold partAt
    rw [← e1]
    congr 1
    refine List.filter_congr fun x hx => ?_
    have hb := (isPark_bounds h).2 x hx
    have := part_iff h hi (x := x.toNat) (by omega)
    unfold ends at this
    rw [Bool.eq_iff_iff, Bool.and_eq_true, decide_eq_true_eq, decide_eq_true_eq, decide_eq_true_eq, ← this]
    omega
/-- How many are before a part. -/
theorem grp_length {xs cars : List Int} (h : isPark xs = true) (hp : cars.Perm (upto xs.length)) {k : Nat} (hk : k < (starts xs).length) : nthN (ends xs) k + (grp xs cars (nthN (ends xs) k)).length = nthN (ends xs) (k + 1) := by
  have e1 : (grp xs cars (nthN (ends xs) k)).length = (xs.filter fun x => decide (begF xs x.toNat = nthN (ends xs) k)).length := by
    rw [← grp_values, List.length_map]
    unfold grp
    rw [← List.countP_eq_length_filter, ← List.countP_eq_length_filter]
    exact hp.countP_eq _
  have hl : (ends xs).length = (starts xs).length + 1 := by simp [ends]
  have hlt : nthN (ends xs) k < nthN (ends xs) (k + 1) := nthN_lt (ends_lt xs) (Nat.lt_succ_self k) (by omega)
  have hend : ∀ j, j < (ends xs).length → below xs ((nthN (ends xs) j : Nat) : Int) = nthN (ends xs) j := fun j hj => by
    by_cases hj1 : j < (starts xs).length
    · have hm : nthN (ends xs) j ∈ starts xs := by rw [ends_left hj1]; exact List.getElem_mem hj1
      have := (mem_starts.1 hm).2
      simp only [st, decide_eq_true_eq] at this
      omega
    · have e2 : nthN (ends xs) j = xs.length := by
        unfold ends nthN
        simp [show j = (starts xs).length by omega]
      rw [e2]
      exact below_full (fun x hx => by have := (isPark_bounds h).2 x hx; omega)
  have b1 := hend k (by omega)
  have b2 := hend (k + 1) (by omega)
  rw [e1]
  have e3 : below xs ((nthN (ends xs) (k + 1) : Nat) : Int) = below xs ((nthN (ends xs) k : Nat) : Int) + (xs.filter fun x => decide (begF xs x.toNat = nthN (ends xs) k)).length := by
    rw [← List.countP_eq_length_filter]
    unfold below
    have key : ∀ ys : List Int, (∀ x ∈ ys, x ∈ xs) → ys.countP (fun x => decide (x < ((nthN (ends xs) (k + 1) : Nat) : Int))) = ys.countP (fun x => decide (x < ((nthN (ends xs) k : Nat) : Int))) + ys.countP (fun x => decide (begF xs x.toNat = nthN (ends xs) k)) := by
      intro ys
      induction ys with
      | nil => intro _; rfl
      | cons y ys ih =>
        intro hy
        have ih := ih fun x hx => hy x (List.mem_cons_of_mem _ hx)
        have hb := (isPark_bounds h).2 y (hy y (List.mem_cons_self ..))
        have hpi := part_iff h hk (x := y.toNat) (by omega)
        rw [List.countP_cons, List.countP_cons, List.countP_cons, ih]
        by_cases q1 : y < ((nthN (ends xs) k : Nat) : Int)
        · have q2 : y < ((nthN (ends xs) (k + 1) : Nat) : Int) := by omega
          have q3 : ¬ begF xs y.toNat = nthN (ends xs) k := fun e => by have := hpi.2 e; omega
          simp [q1, q2, q3]
          omega
        · by_cases q2 : y < ((nthN (ends xs) (k + 1) : Nat) : Int)
          · have q3 : begF xs y.toNat = nthN (ends xs) k := hpi.1 (by omega)
            simp [q1, q2, q3]
            omega
          · have q3 : ¬ begF xs y.toNat = nthN (ends xs) k := fun e => by have := hpi.2 e; omega
            simp [q1, q2, q3]
    exact key xs fun x hx => hx
  omega
end Go.Proofs.Ytakadjhbomggbaa

namespace Go.Proofs.Ytakadjhbomggbaa
open Go.RowKit

/-! ### Distances on a longer street -/
theorem place_longer {p q : Int} {out : List Int} {x : Int} (hx : x ≤ p) (hpq : p ≤ q) (h : place p out x ≠ -1) : place q out x = place p out x := by
  rcases place_spec (out := out) (p := p) _ x hx rfl with ⟨e, _⟩ | ⟨a1, a2, a3, a4⟩
  · exact absurd e h
  · exact place_is a1 (by omega) a3 a4
theorem drive_longer {p q : Int} {xs : List Int} (hb : ∀ x ∈ xs, 0 ≤ x ∧ x ≤ p - 1) (hq : p ≤ q) (ha : allPark p xs = true) : ∀ k, k ≤ xs.length → drive q (xs.take k) = drive p (xs.take k)
  | 0, _ => by simp [drive]
  | k + 1, hk => by
    have h1 := drive_longer hb hq ha k (by omega)
    rw [drive_succ (by omega), drive_succ (by omega), h1]
    have hbk := hb _ (nth_mem (show k < xs.length by omega))
    have hne : place p (drive p (xs.take k)) (nth xs k) ≠ -1 := by
      intro e
      refine allPark_iff.1 ha ?_
      rw [← e]
      refine drive_take_mem (k + 1) ?_
      rw [drive_succ (by omega)]
      simp
    rw [place_longer (by omega) hq hne]
theorem dists_longer {p q : Int} {xs : List Int} (hb : ∀ x ∈ xs, 0 ≤ x ∧ x ≤ p - 1) (hq : p ≤ q) (ha : allPark p xs = true) : dists q xs = dists p xs := by
  have := drive_longer hb hq ha xs.length (Nat.le_refl _)
  rw [List.take_length] at this
  unfold dists
  rw [this]
theorem park_longer {p q : Int} {xs : List Int} (hb : ∀ x ∈ xs, 0 ≤ x ∧ x ≤ p - 1) (hq : p ≤ q) (ha : allPark p xs = true) : allPark q xs = true := by
  have := drive_longer hb hq ha xs.length (Nat.le_refl _)
  rw [List.take_length] at this
  rw [allPark_iff] at ha ⊢
  rw [this]
  exact ha
theorem dists_ge {p : Int} {xs : List Int} (hb : ∀ x ∈ xs, 0 ≤ x ∧ x ≤ p - 1) (ha : allPark p xs = true) : ∀ y ∈ dists p xs, 0 ≤ y ∧ y < p := by
  intro y hy
  obtain ⟨k, hk, rfl⟩ := mem_nth hy
  rw [length_dists] at hk
  rw [nth_dists hk]
  have hbk := hb _ (nth_mem hk)
  have h1 := drive_get (p := p) hk
  have hm : nth (drive p xs) k ∈ drive p xs := nth_mem (by rw [length_drive]; exact hk)
  have h2 := drive_bounds hb ha _ hm
  have h3 := (place_bounds (p := p) (out := drive p (xs.take k)) hbk.1).2.2
  omega
def greatL (ys : List Int) : Int := ys.foldl max 0
theorem fmax_ge : ∀ (bs : List Int) (m : Int), m ≤ bs.foldl max m ∧ ∀ b ∈ bs, b ≤ bs.foldl max m
  | [], m => by simp
  | c :: bs, m => by
    obtain ⟨h1, h2⟩ := fmax_ge bs (max m c)
    refine ⟨by simp only [List.foldl_cons]; omega, fun b hb => ?_⟩
    simp only [List.foldl_cons]
    rcases List.mem_cons.1 hb with rfl | hb
    · omega
    · exact h2 b hb
theorem fmax_mem : ∀ (bs : List Int) (m : Int), bs.foldl max m = m ∨ bs.foldl max m ∈ bs
  | [], m => by simp
  | c :: bs, m => by
    simp only [List.foldl_cons]
    rcases fmax_mem bs (max m c) with h | h
    · rw [h]
      rcases Int.le_total m c with h1 | h1
      · right; rw [Int.max_eq_right h1]; exact List.mem_cons_self ..
      · left; exact Int.max_eq_left h1
    · exact .inr (List.mem_cons_of_mem _ h)
theorem great_le {ys : List Int} {m : Int} (h0 : ∀ y ∈ ys, 0 ≤ y) (hm : 0 ≤ m) : decide (greatL ys ≤ m) = allB ys 0 m := by
  rw [Bool.eq_iff_iff, decide_eq_true_eq, allB_iff]
  constructor
  · intro h y hy
    exact ⟨h0 y hy, Int.le_trans ((fmax_ge ys 0).2 y hy) h⟩
  · intro h
    rcases fmax_mem ys 0 with e | e
    · unfold greatL; omega
    · exact (h _ e).2
theorem great_succ {ys : List Int} {k : Nat} (h : k < ys.length) : greatL (ys.take (k + 1)) = max (greatL (ys.take k)) (nth ys k) := by
  unfold greatL
  rw [take_succ_nth h, List.foldl_append]
  rfl
def unitB (xs : List Int) (m : Int) : Bool := allB (dists xs.length xs) 0 m
def isUnitOf (xs : List Int) (m : Int) : Bool × Bool := if isPark xs && inB m 0 8 then (unitB xs m, true) else (false, false)
theorem park_good {xs : List Int} (h : isPark xs = true) : good xs 12 = true ∧ allPark 12 xs = true ∧ dists 12 xs = dists xs.length xs := by
  obtain ⟨h1, h2, h3⟩ := isPark_iff.1 h
  exact ⟨good_iff.2 ⟨by omega, h1, fun x hx => by have := h2 x hx; omega⟩, park_longer h2 (by omega) h3, dists_longer h2 (by omega) h3⟩
theorem unit_great {xs : List Int} {m : Int} (h : isPark xs = true) (hm : 0 ≤ m) : decide (greatL (dists 12 xs) ≤ m) = unitB xs m := by
  obtain ⟨g1, g2, g3⟩ := park_good h
  obtain ⟨h1, h2, h3⟩ := isPark_iff.1 h
  rw [great_le (fun y hy => (dists_ge (fun x hx => by have := h2 x hx; omega) g2 y hy).1) hm, g3]
  rfl

end Go.Proofs.Ytakadjhbomggbaa

namespace Go.Proofs.Ytakadjhbomggbaa
open Go.RowKit

/-! ### Blocks -/
def addLast (L : List (List Int)) (v : Int) : List (List Int) := L.dropLast ++ [L.getLast?.getD [] ++ [v]]
def blk (xs ls : List Int) : Nat → List (List Int)
  | 0 => []
  | k + 1 => if nth xs (nth ls k).toNat = (k : Int) then blk xs ls k ++ [[nth ls k]] else addLast (blk xs ls k) (nth ls k)
theorem addLast_snoc (L : List (List Int)) (r : List Int) (v : Int) : addLast (L ++ [r]) v = L ++ [r ++ [v]] := by simp [addLast]
def unitBlocksOf (xs : List Int) : List (List Int) × Bool := if isPark xs && unitB xs 1 then (blk xs (fairL xs) xs.length, true) else ([], false)
theorem fair_bounds {xs : List Int} (h : isPark xs = true) : ∀ c, c < xs.length → 0 ≤ nth xs c ∧ nth xs c < ((12 : Nat) : Int) := fun c hc => by
  have h1 := isPark_bounds h
  have := h1.2 _ (nth_mem hc)
  omega
theorem fair_perm {xs : List Int} (h : isPark xs = true) : (fairL xs).Perm (upto xs.length) := carsP_perm rfl (by have := (isPark_bounds h).1; omega) (fair_bounds h)
theorem fair_length {xs : List Int} (h : isPark xs = true) : (fairL xs).length = xs.length := by rw [(fair_perm h).length_eq, length_upto]
theorem keyC_le {xs : List Int} {u v : Int} (hu : 0 ≤ u) (hu2 : u < 50) (hv : 0 ≤ v) (hv2 : v < 50) (h : keyC xs u ≤ keyC xs v) : nth xs u.toNat ≤ nth xs v.toNat := by
  unfold keyC at h
  omega
/-- In the order by favourites, favourites do not fall. -/
theorem fair_sorted {xs : List Int} {n P : Nat} (hl : xs.length = n) (h8 : n ≤ 50) (hb : ∀ c, c < n → 0 ≤ nth xs c ∧ nth xs c < (P : Int)) : ((carsTo xs P).map fun c => nth xs c.toNat) = insSort xs := by
  have hp := carsP_perm hl h8 hb
  refine sorted_unique ?_ (insSort_sorted xs) ?_
  · rw [List.pairwise_map]
    refine (carsTo_sorted (by omega) (fun c hc => (hb c (by omega)).1) P).imp_of_mem fun {a b} ha hb' h => ?_
    obtain ⟨i, hi, rfl⟩ := mem_upto.1 (hp.subset ha)
    obtain ⟨j, hj, rfl⟩ := mem_upto.1 (hp.subset hb')
    exact keyC_le (by omega) (by omega) (by omega) (by omega) (by omega)
  · refine (hp.map _).trans ?_
    rw [← hl, ← self_upto xs]
    exact (insSort_perm xs).symm
theorem fair_at {xs : List Int} (h : isPark xs = true) {k : Nat} (hk : k < xs.length) : nth xs (nth (fairL xs) k).toNat = nth (insSort xs) k := by
  have h8 := (isPark_bounds h).1
  rw [← fair_sorted rfl (by omega) (fair_bounds h)]
  have hl := fair_length h
  unfold fairL at hl ⊢
  generalize carsTo xs 12 = ls at *
  simp [nth, hl, hk]
theorem app_congr {α : Type} {A B C D : List α} (h1 : A = B) (h2 : C = D) : A ++ C = B ++ D := by rw [h1, h2]
set_option maxHeartbeats 1000000 in
theorem blk_step {xs : List Int} (h : isPark xs = true) : ∀ k, k ≤ xs.length → blk xs (fairL xs) k = ((List.range k).filter (st xs)).map (grp xs ((fairL xs).take k))
  | 0, _ => rfl
  | k + 1, hk => by
    have ih := blk_step h k (by omega)
    have hl := fair_length h
    have hv : (fairL xs).take (k + 1) = (fairL xs).take k ++ [nth (fairL xs) k] := take_succ_nth (by omega)
    have hs := fair_at h (k := k) (by omega)
    have hps := park_sorted h k (by omega)
    have hst := st_at h (b := k) (by omega)
    obtain ⟨c, hc, hcn⟩ := carsP_nth rfl (by have := (isPark_bounds h).1; omega) (fair_bounds h) (k := k) (by omega)
    have hc : nth (fairL xs) k = (c : Int) := hc
    rw [blk, hs, hv, List.range_succ, List.filter_append]
    have hbc : begC xs (nth (fairL xs) k) = begF xs (nth (insSort xs) k).toNat := by unfold begC; rw [hs]
    by_cases e : nth (insSort xs) k = (k : Int)
    · have hsk := hst.2 e
      rw [if_pos e, ih]
      have e1 : begC xs (nth (fairL xs) k) = k := by
        rw [hbc, e, Int.toNat_natCast]
        exact begF_stop ((st_iff h (by omega)).1 hsk)
      have e2 : ([k].filter (st xs)) = [k] := by simp [hsk]
      rw [e2, List.map_append, List.map_singleton]
      refine app_congr ?_ ?_
      · refine List.map_congr_left fun a ha => ?_
        have := List.mem_range.1 (List.mem_filter.1 ha).1
        rw [grp_snoc, if_neg (by omega)]
      · rw [grp_snoc, if_pos e1]
        have : grp xs ((fairL xs).take k) k = [] := by
          unfold grp
          rw [List.filter_eq_nil_iff]
          intro u hu
          obtain ⟨j, hj, rfl⟩ := mem_nth hu
          have hjk : j < k := by rw [List.length_take] at hj; omega
          rw [nth_take hjk]
          have h1 := fair_at h (k := j) (by omega)
          have h2 := park_sorted h j (by omega)
          have h3 := begF_le xs (nth xs (nth (fairL xs) j).toNat).toNat
          unfold begC
          simp only [decide_eq_true_eq]
          omega
        rw [this]
        rfl
    · have hsk : st xs k = false := by rw [Bool.eq_false_iff]; exact fun hh => e (hst.1 hh)
      have hk0 : 0 < k := by
        rcases Nat.eq_zero_or_pos k with rfl | h0
        · exfalso; apply e; omega
        · exact h0
      have e2 : ([k].filter (st xs)) = [] := by simp [hsk]
      rw [if_neg e, e2, List.append_nil, ih]
      have h0 : st xs 0 = true := (st_iff h (Nat.zero_le _)).2 (by rw [show ((0 : Nat) : Int) = 0 from rfl, below_zero (fun x hx => ((isPark_bounds h).2 x hx).1)]; omega)
      have hne : (List.range k).filter (st xs) ≠ [] := List.ne_nil_of_mem (a := 0) (List.mem_filter.2 ⟨List.mem_range.2 hk0, h0⟩)
      have hsp := List.dropLast_concat_getLast hne
      have hlt : ((List.range k).filter (st xs)).Pairwise (· < ·) := List.Pairwise.filter _ List.pairwise_lt_range
      have hma := List.getLast_mem hne
      have hmem : ∀ z, z < k → st xs z = true → z ∈ (List.range k).filter (st xs) := fun z h1 h2 => List.mem_filter.2 ⟨List.mem_range.2 h1, h2⟩
      have hall : ∀ z ∈ (List.range k).filter (st xs), z < k ∧ st xs z = true := fun z hz => ⟨List.mem_range.1 (List.mem_filter.1 hz).1, (List.mem_filter.1 hz).2⟩
      generalize (List.range k).filter (st xs) = F at *
      generalize F.getLast hne = a at *
      generalize F.dropLast = G at *
      subst hsp
      rw [List.pairwise_append] at hlt
      have hGa : ∀ g ∈ G, g < a := fun g hg => hlt.2.2 g hg a (by simp)
      obtain ⟨ha1, ha2⟩ := hall a hma
      have e1 : begC xs (nth (fairL xs) k) = a := by
        rw [hbc]
        have q1 := (st_at h (b := a) (by omega)).1 ha2
        have q2 := sorted_nth (insSort_sorted xs) (i := a) (j := k) (by omega) (by rw [length_insSort]; omega)
        refine begF_eq h (by omega) (by omega) ha2 fun z h1 h2 => ?_
        rw [Bool.eq_false_iff]
        intro hz
        rcases List.mem_append.1 (hmem z (by omega) hz) with h3 | h3
        · have := hGa z h3; omega
        · rw [List.mem_singleton] at h3; omega
      rw [List.map_append, List.map_singleton, addLast_snoc, List.map_append, List.map_singleton]
      refine app_congr ?_ ?_
      · refine List.map_congr_left fun g hg => ?_
        have := hGa g hg
        rw [grp_snoc, if_neg (by omega)]
      · rw [grp_snoc, if_pos e1]
theorem blk_rows {xs : List Int} (h : isPark xs = true) : blk xs (fairL xs) xs.length = partRows xs (fairL xs) := by
  rw [blk_step h _ (Nat.le_refl _), partRows_starts h (fair_perm h), List.take_of_length_le (by rw [fair_length h]; exact Nat.le_refl _)]
  rfl
end Go.Proofs.Ytakadjhbomggbaa

namespace Go.Proofs.Ytakadjhbomggbaa
open Go.RowKit

/-- The first place from x on, going round, that is not taken. -/
def cnext (out : List Int) (p : Int) : Nat → Int → Int
  | 0, x => x
  | f + 1, x => if x ∈ out then cnext out p f ((x + 1) % p) else x
/-- From x on k places are taken, going round. -/
def CRuns (out : List Int) (p x : Int) (k : Nat) : Prop := ∀ i : Nat, i < k → (x + i) % p ∈ out
theorem CRuns.zero (out : List Int) (p x : Int) : CRuns out p x 0 := fun i hi => by omega
theorem CRuns.step {out : List Int} {p x : Int} {k : Nat} (h : CRuns out p x k) (h2 : (x + k) % p ∈ out) : CRuns out p x (k + 1) := fun i hi => by
  rcases Nat.lt_succ_iff_lt_or_eq.1 hi with h3 | rfl
  · exact h i h3
  · exact h2
theorem round_next {p x : Int} {k : Nat} : ((x + k) % p + 1) % p = (x + ((k + 1 : Nat) : Int)) % p := by
  rw [Int.emod_add_emod]
  congr 1
  omega
theorem cnext_of {out : List Int} {p x : Int} {k : Nat} (h : CRuns out p x k) (hn : (x + k) % p ∉ out) : ∀ (f j : Nat), j ≤ k → k - j ≤ f → cnext out p f ((x + j) % p) = (x + k) % p
  | 0, j, hj, hf => by
    obtain rfl : j = k := by omega
    rfl
  | f + 1, j, hj, hf => by
    simp only [cnext]
    by_cases e : j = k
    · subst e
      rw [if_neg hn]
    · rw [if_pos (h j (by omega)), round_next]
      exact cnext_of h hn f (j + 1) (by omega) (by omega)
/-- Where a car comes to stand on the circle. -/
def cplace (p : Int) (out : List Int) (x : Int) : Int := cnext out p p.toNat x
theorem cplace_of {out : List Int} {p x : Int} {k : Nat} (h : CRuns out p x k) (hn : (x + k) % p ∉ out) (hk : k < p) (h0 : 0 ≤ x) (h1 : x < p) : cplace p out x = (x + k) % p := by
  have := cnext_of h hn p.toNat 0 (by omega) (by omega)
  rw [show (x + ((0 : Nat) : Int)) % p = x from by rw [show x + ((0 : Nat) : Int) = x by omega]; exact Int.emod_eq_of_lt h0 h1] at this
  exact this
/-- Fewer cars than places: some place is free. -/
theorem cruns_lt {out : List Int} {p x : Int} {k : Nat} (h : CRuns out p x k) (hl : (out.length : Int) < p) : (k : Int) < p := by
  apply Classical.byContradiction
  intro hn
  have hall : ∀ z, 0 ≤ z → z < p → z ∈ out := by
    intro z hz0 hz1
    have h1 := h ((z - x) % p).toNat (by have := Int.emod_lt_of_pos (z - x) (show 0 < p by omega); have := Int.emod_nonneg (z - x) (show p ≠ 0 by omega); omega)
    have h2 := Int.emod_nonneg (z - x) (show p ≠ 0 by omega)
    rw [show (((z - x) % p).toNat : Int) = (z - x) % p by omega, Int.add_emod_emod, show x + (z - x) = z by omega, Int.emod_eq_of_lt hz0 hz1] at h1
    exact h1
  have h3 := from_all (xs := out) (p := p) p.toNat 0 (by omega) hall
  have h4 := from_le out 0
  omega
/-- The places of cars on a circle. -/
def cdrive (p : Int) (xs : List Int) : List Int := xs.foldl (fun out x => out ++ [cplace p out x]) []
theorem cdrive_succ {p : Int} {xs : List Int} {k : Nat} (h : k < xs.length) : cdrive p (xs.take (k + 1)) = cdrive p (xs.take k) ++ [cplace p (cdrive p (xs.take k)) (nth xs k)] := by
  rw [take_succ_nth h]
  simp [cdrive]
theorem length_cfoldl {p : Int} : ∀ (xs out : List Int), (xs.foldl (fun out x => out ++ [cplace p out x]) out).length = out.length + xs.length
  | [], _ => by simp
  | x :: xs, out => by simp [length_cfoldl xs]; omega
theorem length_cdrive (p : Int) (xs : List Int) : (cdrive p xs).length = xs.length := by simp [cdrive, length_cfoldl]
/-- A free place is found. -/
theorem cplace_spec {out : List Int} {p x : Int} (hl : (out.length : Int) < p) (h0 : 0 ≤ x) (h1 : x < p) : ∃ k : Nat, CRuns out p x k ∧ (x + k) % p ∉ out ∧ (k : Int) < p ∧ cplace p out x = (x + k) % p := by
  have hex : ∀ n : Nat, CRuns out p x n ∨ ∃ k : Nat, k < n ∧ CRuns out p x k ∧ (x + k) % p ∉ out := by
    intro n
    induction n with
    | zero => exact .inl (CRuns.zero _ _ _)
    | succ n ih =>
      rcases ih with h | ⟨k, hk, h2, h3⟩
      · by_cases hm : (x + n) % p ∈ out
        · exact .inl (h.step hm)
        · exact .inr ⟨n, by omega, h, hm⟩
      · exact .inr ⟨k, by omega, h2, h3⟩
  rcases hex p.toNat with h | ⟨k, hk, h2, h3⟩
  · have := cruns_lt h hl
    omega
  · exact ⟨k, h2, h3, by omega, cplace_of h2 h3 (by omega) h0 h1⟩
theorem cdrive_ok {p : Int} {xs : List Int} (hb : ∀ x ∈ xs, 0 ≤ x ∧ x ≤ p - 1) : ∀ k, k ≤ xs.length → (k : Int) ≤ p → (cdrive p (xs.take k)).Nodup ∧ ∀ y ∈ cdrive p (xs.take k), 0 ≤ y ∧ y < p
  | 0, _, _ => by simp [cdrive]
  | k + 1, h, hp => by
    obtain ⟨i1, i2⟩ := cdrive_ok hb k (by omega) (by omega)
    have hx := hb _ (nth_mem (xs := xs) (i := k) (by omega))
    have hl : (cdrive p (xs.take k)).length = k := by rw [length_cdrive]; simp; omega
    obtain ⟨j, h1, h2, h3, h4⟩ := cplace_spec (out := cdrive p (xs.take k)) (p := p) (x := nth xs k) (by omega) hx.1 (by omega)
    rw [cdrive_succ (by omega), h4]
    constructor
    · rw [List.nodup_append]
      refine ⟨i1, by simp, ?_⟩
      intro a ha b hb e
      simp at hb
      subst hb
      subst e
      exact h2 ha
    · intro y hy
      rcases List.mem_append.1 hy with hy | hy
      · exact i2 y hy
      · simp at hy
        subst hy
        exact ⟨Int.emod_nonneg _ (by omega), Int.emod_lt_of_pos _ (by omega)⟩
/-- The first place from x on that is not taken. -/
def freeFrom (t : List Int) : Nat → Int → Int
  | 0, x => x
  | f + 1, x => if x ∈ t then freeFrom t f (x + 1) else x
theorem freeFrom_of {t : List Int} {y : Int} (hn : y ∉ t) : ∀ (f : Nat) (x : Int), (∀ z, x ≤ z → z < y → z ∈ t) → x ≤ y → y - x ≤ f → freeFrom t f x = y
  | 0, x, _, h1, h2 => by simp only [freeFrom]; omega
  | f + 1, x, h, h1, h2 => by
    simp only [freeFrom]
    by_cases e : x = y
    · subst e
      rw [if_neg hn]
    · rw [if_pos (h x (Int.le_refl _) (by omega))]
      exact freeFrom_of hn f (x + 1) (fun z a b => h z (by omega) b) (by omega) (by omega)
def cfree (xs : List Int) : Int := freeFrom (cdrive ((xs.length : Int) + 1) xs) (xs.length + 1) 0
/-- 0, 1, .., n - 1. -/
theorem total_upto : ∀ n : Nat, 2 * total (upto n) = (n : Int) * ((n : Int) - 1)
  | 0 => by simp [upto, total]
  | n + 1 => by
    have ih := total_upto n
    unfold upto at *
    rw [List.range_succ, List.map_append, List.map_cons, List.map_nil, total_snoc, Int.mul_add, ih]
    rw [show ((n + 1 : Nat) : Int) = (n : Int) + 1 by omega, Int.add_mul, Int.mul_sub, Int.mul_sub, Int.mul_add]
    omega
/-- n different places of n + 1: one stays free. -/
theorem one_free {t : List Int} {n : Nat} (hd : t.Nodup) (hl : t.length = n) (hb : ∀ y ∈ t, 0 ≤ y ∧ y < (n : Int) + 1) :
    ∃ m : Int, 0 ≤ m ∧ m ≤ n ∧ m ∉ t ∧ (∀ z : Int, 0 ≤ z → z ≤ n → z ≠ m → z ∈ t) ∧ m + total t = (n + 1 : Int) * n / 2 := by
  have hex : ∃ m : Int, 0 ≤ m ∧ m ≤ n ∧ m ∉ t := by
    apply Classical.byContradiction
    intro hno
    have h3 := from_all (xs := t) (p := (n : Int) + 1) (n + 1) 0 (by omega) (fun z h1 h2 => Classical.byContradiction fun hz => hno ⟨z, h1, by omega, hz⟩)
    have h4 := from_le t 0
    omega
  obtain ⟨m, h1, h2, h3⟩ := hex
  have hall : ∀ z : Int, 0 ≤ z → z ≤ n → z ≠ m → z ∈ t := by
    intro z hz0 hz1 hzm
    apply Classical.byContradiction
    intro hz
    have := nodup_le (n + 1) (z :: m :: t) (by
      rw [List.nodup_cons, List.nodup_cons]
      exact ⟨by simp [hzm, hz], h3, hd⟩) (fun x hx => by
      rcases List.mem_cons.1 hx with rfl | hx
      · omega
      · rcases List.mem_cons.1 hx with rfl | hx
        · omega
        · have := hb x hx; omega)
    simp at this
    omega
  refine ⟨m, h1, h2, h3, hall, ?_⟩
  have hperm : (m :: t).Perm (upto (n + 1)) := by
    have hd1 : (m :: t).Nodup := List.nodup_cons.2 ⟨h3, hd⟩
    have hd2 : (upto (n + 1)).Nodup := by
      unfold upto List.Nodup
      rw [List.pairwise_map]
      exact List.nodup_range.imp fun h e => h (by omega)
    rw [List.perm_ext_iff_of_nodup hd1 hd2]
    intro z
    unfold upto
    rw [List.mem_cons, List.mem_map]
    constructor
    · rintro (rfl | hz)
      · exact ⟨z.toNat, by rw [List.mem_range]; omega, by omega⟩
      · have := hb z hz
        exact ⟨z.toNat, by rw [List.mem_range]; omega, by omega⟩
    · rintro ⟨i, hi, rfl⟩
      rw [List.mem_range] at hi
      by_cases e : (i : Int) = m
      · exact .inl e
      · exact .inr (hall i (by omega) (by omega) e)
  have ht := total_perm hperm
  rw [total_cons] at ht
  have hu := total_upto (n + 1)
  rw [← ht] at hu
  rw [show ((n + 1 : Nat) : Int) = (n : Int) + 1 by omega, show (n : Int) + 1 - 1 = n by omega] at hu
  omega
/-- A circle list. -/
def circB (xs : List Int) : Bool := decide (xs.length ≤ 8) && allB xs 0 xs.length
theorem circ_good {xs : List Int} (h8 : xs.length ≤ 8) : circB xs = good xs ((xs.length : Int) + 1) := by
  have : inB ((xs.length : Int) + 1) 1 12 = true := inB_iff.2 ⟨by omega, by omega⟩
  simp [circB, good, this]
theorem circB_iff {xs : List Int} : circB xs = true ↔ xs.length ≤ 8 ∧ ∀ x ∈ xs, 0 ≤ x ∧ x ≤ (xs.length : Int) := by simp [circB, allB_iff]
theorem circ_bounds {xs : List Int} (h : circB xs = true) : ∀ x ∈ xs, 0 ≤ x ∧ x ≤ (xs.length : Int) + 1 - 1 := fun x hx => by
  have := (circB_iff.1 h).2 x hx
  omega
theorem cfree_spec {xs : List Int} (h : circB xs = true) : 0 ≤ cfree xs ∧ cfree xs ≤ xs.length ∧ cfree xs ∉ cdrive ((xs.length : Int) + 1) xs ∧ (∀ z, 0 ≤ z → z < cfree xs → z ∈ cdrive ((xs.length : Int) + 1) xs) ∧
    cfree xs + total (cdrive ((xs.length : Int) + 1) xs) = ((xs.length : Int) + 1) * xs.length / 2 := by
  have hb := circ_bounds h
  obtain ⟨d1, d2⟩ := cdrive_ok hb xs.length (Nat.le_refl _) (by omega)
  rw [List.take_length] at d1 d2
  obtain ⟨m, m1, m2, m3, m4, m5⟩ := one_free d1 (length_cdrive _ _) d2
  have e : cfree xs = m := freeFrom_of m3 _ 0 (fun z a b => m4 z a (by omega) (by omega)) m1 (by omega)
  rw [e]
  exact ⟨m1, m2, m3, fun z a b => m4 z a (by omega) (by omega), m5⟩
/-- Turned favourites. -/
def turn (xs : List Int) (p b : Int) : List Int := xs.map fun x => (x + b) % p
theorem turn_succ {xs : List Int} {p b : Int} {k : Nat} (h : k < xs.length) : turn (xs.take (k + 1)) p b = turn (xs.take k) p b ++ [(nth xs k + b) % p] := by
  rw [take_succ_nth h]
  simp [turn]
theorem turn_tmod (x b p : Int) (hp : 0 < p) : (((x + b).tmod p) + p).tmod p = (x + b) % p := by
  have h1 := Int.tmod_add_mul_tdiv (x + b) p
  have h2 := Int.lt_tmod_of_pos (x + b) hp
  rw [Int.tmod_eq_emod_of_nonneg (a := (x + b).tmod p + p) (by omega), Int.add_emod_right]
  conv => rhs; rw [← h1]
  rw [Int.add_mul_emod_self_left]
theorem turn_tmod2 (x b p : Int) (hp : 0 < p) (hx : 0 ≤ x) : (x + b.tmod p + p).tmod p = (x + b) % p := by
  have h1 := Int.tmod_add_mul_tdiv b p
  have h2 := Int.lt_tmod_of_pos b hp
  rw [Int.tmod_eq_emod_of_nonneg (a := x + b.tmod p + p) (by omega), Int.add_emod_right]
  conv => rhs; rw [← h1]
  rw [← Int.add_assoc, Int.add_mul_emod_self_left]
/-! ### What the functions come to -/
def circleOf (xs : List Int) (p : Int) : List Int × Bool := if good xs p && decide ((xs.length : Int) ≤ p) then (cdrive p xs, true) else ([], false)
def freeOf (xs : List Int) : Int × Bool := if circB xs then (cfree xs, true) else (0, false)
def turnOf (xs : List Int) (p b : Int) : List Int × Bool := if good xs p && inB b (-1000) 1000 then (turn xs p b, true) else ([], false)
def classOf (xs : List Int) : List Int × Int × Bool := if circB xs then (turn xs ((xs.length : Int) + 1) ((xs.length : Int) - cfree xs), (xs.length : Int) - cfree xs, true) else ([], 0, false)
end Go.Proofs.Ytakadjhbomggbaa

namespace Go.Proofs.Ytakadjhbomggbaa
open Go.RowKit

/-- The total distance: the places are those from 0 on. -/
def tot (xs : List Int) : Int := total (upto xs.length) - total xs
theorem drive_upto {xs : List Int} (h : isPark xs = true) : total (drive xs.length xs) = total (upto xs.length) := by
  obtain ⟨h1, h2, h3⟩ := isPark_iff.1 h
  have hnd := drive_nodup h2 h3
  have hbd := drive_bounds h2 h3
  have hl := length_drive (xs.length : Int) xs
  refine total_perm ?_
  have hd2 : (upto xs.length).Nodup := by
    unfold upto List.Nodup
    rw [List.pairwise_map]
    exact List.nodup_range.imp fun h e => h (by omega)
  rw [List.perm_ext_iff_of_nodup hnd hd2]
  intro z
  unfold upto
  rw [List.mem_map]
  constructor
  · intro hz
    have := hbd z hz
    exact ⟨z.toNat, by rw [List.mem_range]; omega, by omega⟩
  · rintro ⟨i, hi, rfl⟩
    rw [List.mem_range] at hi
    apply Classical.byContradiction
    intro hz
    have := nodup_le xs.length ((i : Int) :: drive xs.length xs) (List.nodup_cons.2 ⟨hz, hnd⟩) (fun x hx => by
      rcases List.mem_cons.1 hx with rfl | hx
      · omega
      · exact hbd x hx)
    simp at this
    omega
theorem dists_tot {xs : List Int} (h : isPark xs = true) : total (dists xs.length xs) = tot xs := by
  rw [total_dists, drive_upto h]
  rfl
theorem total_nonneg {ys : List Int} (h : ∀ y ∈ ys, 0 ≤ y) : 0 ≤ total ys := by
  have : ∀ (ys : List Int) (c : Int), 0 ≤ c → (∀ y ∈ ys, 0 ≤ y) → 0 ≤ ys.foldl (· + ·) c := by
    intro ys
    induction ys with
    | nil => intro c hc _; exact hc
    | cons y ys ih =>
      intro c hc hy
      have := hy y (by simp)
      exact ih (c + y) (by omega) fun z hz => hy z (by simp [hz])
  exact this ys 0 (Int.le_refl _) h
theorem dists_nonneg {xs : List Int} (h : isPark xs = true) : ∀ y ∈ dists xs.length xs, 0 ≤ y := by
  obtain ⟨h1, h2, h3⟩ := isPark_iff.1 h
  intro y hy
  obtain ⟨i, hi, rfl⟩ := mem_nth hy
  rw [length_dists] at hi
  rw [nth_dists hi]
  have := (car_at hi h2 h3).1
  omega
/-- The greatest total distance. -/
def mostD (n : Nat) : Nat := n * (n - 1) / 2
theorem total_upto' (n : Nat) : total (upto n) = (mostD n : Int) := by
  have h := total_upto n
  unfold mostD
  cases n with
  | zero => rfl
  | succ n =>
    rw [show ((n + 1 : Nat) : Int) - 1 = (n : Int) by omega, ← Int.natCast_mul] at h
    rw [Nat.add_sub_cancel]
    omega
theorem tot_bounds {xs : List Int} (h : isPark xs = true) : 0 ≤ tot xs ∧ tot xs < ((mostD xs.length + 1 : Nat) : Int) := by
  have h1 := dists_tot h
  have h2 := total_nonneg (dists_nonneg h)
  have h3 := total_nonneg fun x hx => ((isPark_bounds h).2 x hx).1
  have h4 := total_upto' xs.length
  unfold tot at *
  omega
/-- A parking function with a total distance. -/
def wit (n : Nat) (s : Int) : List Int := (List.range n).map fun (i : Nat) => max 0 (min (i : Int) (s - (i : Int) * ((i : Int) - 1) / 2))
theorem wits : ∀ n, n < 6 → ∀ d, d < mostD n + 1 → isPark (wit n ((mostD n : Int) - (d : Int))) = true ∧ tot (wit n ((mostD n : Int) - (d : Int))) = (d : Int) ∧ (wit n ((mostD n : Int) - (d : Int))).length = n := by decide +kernel
theorem mem_list {xs : List Int} {n : Nat} (h : isPark xs = true) (hn : xs.length = n) : xs ∈ listL n n [] := by
  obtain ⟨h8, hb⟩ := isPark_bounds h
  subst hn
  have hz := (isPark_zpark h8 fun x hx => (hb x hx).1).1 h
  have e := toI_toN (xs := xs) fun x hx => (hb x hx).1
  have hlt : ∀ x ∈ toN xs, x < xs.length := fun x hx => by
    obtain ⟨y, hy, rfl⟩ := List.mem_map.1 hx
    have := hb y hy
    omega
  have h1 := rk_lt (n := xs.length) (toN xs) [] (by simp [length_toN]) hlt (by rw [e]; simpa using hz)
  have h2 := at_rk (n := xs.length) (toN xs) [] (by simp [length_toN]) hlt (by rw [e]; simpa using hz)
  rw [length_toN] at h2
  rw [list_at xs.length [] (by simp), List.mem_map]
  exact ⟨rk xs.length [] (toN xs), by rw [List.mem_range]; exact h1, by rw [h2, e]; rfl⟩
/-- The total distances of all. -/
def tots (n : Nat) : List Int := (listL n n []).map tot
theorem list_parks {n : Nat} (h8 : n ≤ 8) {xs : List Int} (h : xs ∈ listL n n []) : isPark xs = true ∧ xs.length = n := by
  obtain ⟨_, _, _, hp⟩ := all_chain h8
  obtain ⟨i, hi, e⟩ := List.getElem_of_mem h
  have := hp i hi
  simpa [hi, e] using this
theorem tots_bounds {n : Nat} (h8 : n ≤ 8) : ∀ t ∈ tots n, 0 ≤ t ∧ t < ((mostD n + 1 : Nat) : Int) := by
  intro t ht
  obtain ⟨xs, hx, rfl⟩ := List.mem_map.1 ht
  obtain ⟨h1, h2⟩ := list_parks h8 hx
  have := tot_bounds h1
  rw [h2] at this
  exact this
/-- How many have each total distance. -/
def distCounts (n : Nat) : List Int := (List.range (mostD n + 1)).map fun (d : Nat) => occ (tots n) d
theorem runs_dist {n : Nat} (h5 : n ≤ 5) : runsTo (insSort (tots n)) (tots n).length = distCounts n := by
  have hperm := insSort_perm (tots n)
  have h1 := runs_all (s := insSort (tots n)) (m := mostD n + 1) (insSort_sorted _) (fun x hx => tots_bounds (by omega) x (hperm.mem_iff.1 hx))
  rw [length_insSort, occs_perm hperm] at h1
  rw [h1]
  refine occs_full fun v hv => ?_
  obtain ⟨w1, w2, w3⟩ := wits n (by omega) v hv
  exact List.mem_map.2 ⟨_, mem_list w1 w3, w2⟩
def distOfN (n : Int) : List Int × Bool := if inB n 0 5 then (distCounts n.toNat, true) else ([], false)
theorem distOfN_yes {n : Nat} (h : inB (n : Int) 0 5 = true) : distOfN n = (distCounts n, true) := by simp [distOfN, h]
theorem distOfN_no {n : Int} (h : ¬ inB n 0 5 = true) : distOfN n = ([], false) := by simp [distOfN, h]
theorem mostD_small {n : Nat} (h : n ≤ 5) : mostD n ≤ 10 := by
  have : ∀ n, n < 6 → mostD n ≤ 10 := by decide
  exact this n (by omega)
end Go.Proofs.Ytakadjhbomggbaa

namespace Go.Proofs.Ytakadjhbomggbaa
open Go.RowKit

theorem out_perm {os : List Int} {n : Nat} (h8 : n ≤ 8) (h : os.Perm (upto n)) : outB os = true := by
  have hl : os.length = n := by rw [h.length_eq]; simp [upto]
  have hnd : os.Nodup := h.nodup_iff.2 (by unfold upto; rw [List.Nodup, List.pairwise_map]; exact List.nodup_range.imp fun h e => h (by omega))
  unfold outB
  rw [Bool.and_eq_true]
  refine ⟨?_, ?_⟩
  · unfold carsB
    rw [Bool.and_eq_true, decide_eq_true_eq, allB_iff]
    refine ⟨by omega, fun x hx => ?_⟩
    obtain ⟨c, hc, rfl⟩ := mem_upto.1 (h.subset hx)
    omega
  · unfold distB
    rw [List.all_eq_true]
    intro i hi
    rw [List.mem_range] at hi
    rw [Bool.not_eq_true', Bool.eq_false_iff]
    intro hh
    have hm : nth os i ∈ os.take i := by simpa [hasB] using hh
    obtain ⟨j, hj, e⟩ := mem_nth hm
    rw [List.length_take] at hj
    have e2 : nth (os.take i) j = nth os j := by simp [nth, show j < i by omega]
    rw [e2] at e
    have h3 := List.pairwise_iff_getElem.1 hnd j i (by omega) hi (by omega)
    simp only [nth, List.getD_eq_getElem?_getD, List.getElem?_eq_getElem (show j < os.length by omega), List.getElem?_eq_getElem hi, Option.getD_some] at e
    exact h3 e
/-- The cars in order, and what their favourites are. -/
theorem cars_facts {xs : List Int} (h : isPark xs = true) : xs.length ≤ 8 ∧ (carsL xs).length = xs.length ∧ (carsL xs).Perm (upto xs.length) ∧
    (∀ k, k < xs.length → ∃ c : Nat, nth (carsL xs) k = (c : Int) ∧ c < xs.length ∧ nth xs c = nth (insSort xs) k) ∧
    (∀ k, k < xs.length → 0 ≤ nth (insSort xs) k ∧ nth (insSort xs) k ≤ (k : Int)) ∧
    (∀ i k, i < k → k < xs.length → nth (insSort xs) i ≤ nth (insSort xs) k ∧ (nth (insSort xs) i = nth (insSort xs) k → nth (carsL xs) i < nth (carsL xs) k)) := by
  obtain ⟨h8, hb⟩ := isPark_bounds h
  have hb' : ∀ c, c < xs.length → 0 ≤ nth xs c ∧ nth xs c < (xs.length : Int) := fun c hc => by have := hb _ (nth_mem hc); omega
  have hp := carsL_perm rfl (by omega) hb'
  have hl : (carsL xs).length = xs.length := length_carsL rfl (by omega) hb'
  have hs := fair_sorted rfl (by omega) hb'
  have hso := carsTo_sorted (xs := xs) (by omega) (fun c hc => (hb' c hc).1) xs.length
  have hat : ∀ k, k < xs.length → ∃ c : Nat, nth (carsL xs) k = (c : Int) ∧ c < xs.length ∧ nth xs c = nth (insSort xs) k := fun k hk => by
    have hm : nth (carsL xs) k ∈ carsL xs := nth_mem (by omega)
    obtain ⟨c, hc, e⟩ := mem_upto.1 (hp.subset hm)
    refine ⟨c, e, hc, ?_⟩
    rw [← hs]
    have e2 : nth ((carsTo xs xs.length).map fun c => nth xs c.toNat) k = nth xs (nth (carsTo xs xs.length) k).toNat := by
      have hl2 : (carsTo xs xs.length).length = xs.length := hl
      generalize carsTo xs xs.length = ls at *
      simp [nth, hl2, hk]
    rw [e2]
    show nth xs c = nth xs (nth (carsL xs) k).toNat
    rw [e, Int.toNat_natCast]
  refine ⟨h8, hl, hp, hat, park_sorted h, fun i k hik hk => ?_⟩
  refine ⟨sorted_nth (insSort_sorted xs) (by omega) (by rw [length_insSort]; exact hk), fun e => ?_⟩
  obtain ⟨c, e1, c1, c2⟩ := hat i (by omega)
  obtain ⟨d, e2, d1, d2⟩ := hat k hk
  have := List.pairwise_iff_getElem.1 hso i k (by have : (carsTo xs xs.length).length = xs.length := hl; omega) (by have : (carsTo xs xs.length).length = xs.length := hl; omega) hik
  have g1 : (carsTo xs xs.length)[i]'(by have : (carsTo xs xs.length).length = xs.length := hl; omega) = (c : Int) := by
    have := e1
    simp only [nth, carsL, List.getD_eq_getElem?_getD, List.getElem?_eq_getElem (show i < (carsTo xs xs.length).length by have : (carsTo xs xs.length).length = xs.length := hl; omega), Option.getD_some] at this
    exact this
  have g2 : (carsTo xs xs.length)[k]'(by have : (carsTo xs xs.length).length = xs.length := hl; omega) = (d : Int) := by
    have := e2
    simp only [nth, carsL, List.getD_eq_getElem?_getD, List.getElem?_eq_getElem (show k < (carsTo xs xs.length).length by have : (carsTo xs xs.length).length = xs.length := hl; omega), Option.getD_some] at this
    exact this
  rw [g1, g2] at this
  unfold keyC at this
  rw [Int.toNat_natCast, Int.toNat_natCast] at this
  rw [e1, e2]
  omega
theorem hgt_at {xs : List Int} (h : isPark xs = true) {k : Nat} (hk : k < xs.length) : nth (hgtOf xs (carsL xs)) k = (k : Int) - nth (insSort xs) k := by
  obtain ⟨h8, hl, hp, hat, -, -⟩ := cars_facts h
  obtain ⟨c, e1, c1, c2⟩ := hat k hk
  rw [nth_hgtOf (by omega), e1, Int.toNat_natCast, c2]
/-- The walk of a parking function is one. -/
theorem walk_park {xs : List Int} (h : isPark xs = true) : walkB (hgtOf xs (carsL xs)) (carsL xs) = true := by
  obtain ⟨h8, hl, hp, hat, hs, hso⟩ := cars_facts h
  have hlh : (hgtOf xs (carsL xs)).length = xs.length := by rw [length_hgtOf, hl]
  refine walkB_iff.2 ⟨hgtB_iff.2 ⟨by omega, fun i hi => ?_⟩, by rw [length_hgtOf], out_perm h8 hp, riseTo_iff.2 fun i hi => ?_⟩
  · rw [hlh] at hi
    have h1 := hs i hi
    rw [hgt_at h hi]
    cases i with
    | zero => simp only [mostAt]; omega
    | succ i =>
      have h2 := (hso i (i + 1) (by omega) hi).1
      simp only [mostAt]
      rw [hgt_at h (by omega)]
      omega
  · rw [hl] at hi
    unfold riseOk raisedB
    cases i with
    | zero => simp
    | succ i =>
      rw [Nat.add_sub_cancel, hgt_at h hi, hgt_at h (by omega)]
      have h2 := hso i (i + 1) (by omega) hi
      simp only [Bool.not_eq_true', Bool.and_eq_false_iff, decide_eq_false_iff_not]
      by_cases e : nth (insSort xs) i = nth (insSort xs) (i + 1)
      · right
        have := h2.2 e
        omega
      · left
        right
        omega
/-- A filled list at the labels that came. -/
theorem pow_at {hs ls : List Int} (ho : outB ls = true) : ∀ k, k ≤ ls.length → ∀ i, i < k → nth (powTo hs ls k) (nth ls i).toNat = (i : Int) - nth hs i
  | 0, _, i, hi => by omega
  | k + 1, hk, i, hi => by
    have hb := out_nth ho (i := k) (by omega)
    have hbi := out_nth ho (i := i) (by omega)
    simp only [powTo]
    by_cases e : i = k
    · subst e
      rw [nth_set (by rw [length_powTo]; omega), if_pos rfl]
    · have hne : (nth ls k).toNat ≠ (nth ls i).toNat := fun h2 => e (out_inj ho (by omega) (by omega) (by omega))
      rw [nth_set (by rw [length_powTo]; omega), if_neg hne]
      exact pow_at ho k (by omega) i (by omega)
/-- The parking function of its walk. -/
theorem pow_park {xs : List Int} (h : isPark xs = true) : powTo (hgtOf xs (carsL xs)) (carsL xs) (carsL xs).length = xs := by
  obtain ⟨h8, hl, hp, hat, hs, hso⟩ := cars_facts h
  have ho := out_perm h8 hp
  refine ext_nth (by rw [length_powTo, hl]) fun c hc => ?_
  rw [length_powTo, hl] at hc
  obtain ⟨k, hk, e⟩ := mem_nth (out_all ho (z := c) (by omega))
  have := pow_at (hs := hgtOf xs (carsL xs)) ho (carsL xs).length (Nat.le_refl _) k hk
  rw [e, Int.toNat_natCast] at this
  rw [this]
  obtain ⟨d, e1, d1, d2⟩ := hat k (by omega)
  rw [hgt_at h (by omega), ← d2]
  have : d = c := by omega
  rw [this]
  omega
/-- The area is the total distance. -/
theorem area_park {xs : List Int} (h : isPark xs = true) : 2 * total (hgtOf xs (carsL xs)) = (xs.length : Int) * ((xs.length : Int) - 1) - 2 * total xs ∧ total (dists xs.length xs) = total (hgtOf xs (carsL xs)) := by
  obtain ⟨h8, hl, hp, hat, hs, hso⟩ := cars_facts h
  have h1 : total (hgtOf xs (carsL xs)) = total (upto xs.length) - total (insSort xs) := by
    have hk : ∀ k, k ≤ xs.length → total ((hgtOf xs (carsL xs)).take k) = total ((upto xs.length).take k) - total ((insSort xs).take k) := by
      intro k
      induction k with
      | zero => intro _; simp [total]
      | succ k ih =>
        intro hk
        rw [total_succ (by rw [length_hgtOf, hl]; omega), total_succ (by rw [length_upto]; omega), total_succ (by rw [length_insSort]; omega), ih (by omega), hgt_at h (by omega), nth_upto (by omega)]
        omega
    have := hk xs.length (Nat.le_refl _)
    rwa [List.take_of_length_le (by rw [length_hgtOf, hl]; exact Nat.le_refl _), List.take_of_length_le (by rw [length_upto]; exact Nat.le_refl _), List.take_of_length_le (by rw [length_insSort]; exact Nat.le_refl _)] at this
  have h2 := total_perm (insSort_perm xs)
  have h3 := total_upto xs.length
  have h4 := total_dists (xs.length : Int) xs
  have h5 := drive_upto h
  refine ⟨?_, ?_⟩ <;> omega
/-- The touches are the cuts. -/
theorem touch_park {xs : List Int} (h : isPark xs = true) : idxs (touchAt (hgtOf xs (carsL xs))) xs.length = idxs (isCut xs) xs.length := by
  unfold idxs
  congr 1
  refine List.filter_congr fun i hi => ?_
  rw [List.mem_range] at hi
  unfold touchAt isCut
  rw [hgt_at h hi, Bool.eq_iff_iff]
  simp only [Bool.and_eq_true, decide_eq_true_eq]
  have h1 := st_at h hi
  have h2 := st_iff h (b := i) (by omega)
  have h3 := below_ge h (b := i) (by omega)
  constructor
  · rintro ⟨a, b⟩
    have := h2.1 (h1.2 (by omega))
    exact ⟨by omega, by omega⟩
  · rintro ⟨a, b⟩
    have := h1.1 (h2.2 (by omega))
    exact ⟨by omega, by omega⟩
theorem perm_of_out {ls : List Int} (ho : outB ls = true) : ls.Perm (upto ls.length) := by
  have hnd : ls.Nodup := List.pairwise_iff_getElem.2 fun i j hi hj hij e => by
    have := out_inj ho hi hj (by simp only [nth, List.getD_eq_getElem?_getD, List.getElem?_eq_getElem hi, List.getElem?_eq_getElem hj, Option.getD_some]; exact e)
    omega
  have hnd2 : (upto ls.length).Nodup := by unfold upto; rw [List.Nodup, List.pairwise_map]; exact List.nodup_range.imp fun h e => h (by omega)
  refine (List.perm_ext_iff_of_nodup hnd hnd2).2 fun v => ?_
  constructor
  · intro hv
    obtain ⟨i, hi, rfl⟩ := mem_nth hv
    have := out_nth ho hi
    exact mem_upto.2 ⟨(nth ls i).toNat, by omega, by omega⟩
  · intro hv
    obtain ⟨c, hc, rfl⟩ := mem_upto.1 hv
    exact out_all ho hc
/-- The parking function of a walk is one, and its walk is that walk. -/
theorem park_walk {hs ls : List Int} (hw : walkB hs ls = true) : isPark (powTo hs ls ls.length) = true ∧ carsL (powTo hs ls ls.length) = ls ∧ hgtOf (powTo hs ls ls.length) ls = hs := by
  obtain ⟨hg, hll, ho, hr⟩ := walkB_iff.1 hw
  obtain ⟨h8, hb⟩ := hgt_of hg rfl
  have hmo := (hgtB_iff.1 hg).2
  have hr' := riseTo_iff.1 hr
  obtain ⟨xs, hx⟩ : ∃ xs, powTo hs ls ls.length = xs := ⟨_, rfl⟩
  have hxl : xs.length = ls.length := by rw [← hx, length_powTo]
  have hat : ∀ k, k < ls.length → nth xs (nth ls k).toNat = (k : Int) - nth hs k := fun k hk => by rw [← hx]; exact pow_at ho _ (Nat.le_refl _) k hk
  rw [hx]
  clear hx
  have hp := perm_of_out ho
  have hbd : ∀ c, c < ls.length → 0 ≤ nth xs c ∧ nth xs c < (ls.length : Int) := fun c hc => by
    obtain ⟨k, hk, e⟩ := mem_nth (out_all ho hc)
    have h1 := hat k hk
    rw [e, Int.toNat_natCast] at h1
    have := hb k (by omega)
    omega
  -- the favourites in the order of the labels
  have hstep : ∀ k, k + 1 < ls.length → nth xs (nth ls k).toNat < nth xs (nth ls (k + 1)).toNat ∨ (nth xs (nth ls k).toNat = nth xs (nth ls (k + 1)).toNat ∧ nth ls k < nth ls (k + 1)) := fun k hk => by
    rw [hat k (by omega), hat (k + 1) hk]
    have h1 := hmo (k + 1) (by omega)
    simp only [mostAt] at h1
    have h2 := hr' (k + 1) hk
    unfold riseOk raisedB at h2
    rw [Nat.add_sub_cancel] at h2
    simp only [Bool.not_eq_true', Bool.and_eq_false_iff, decide_eq_false_iff_not] at h2
    have h3 : nth ls k ≠ nth ls (k + 1) := fun e => by have := out_inj ho (i := k) (j := k + 1) (by omega) hk e; omega
    omega
  have hall : ∀ d i, i + d + 1 < ls.length → nth xs (nth ls i).toNat < nth xs (nth ls (i + d + 1)).toNat ∨ (nth xs (nth ls i).toNat = nth xs (nth ls (i + d + 1)).toNat ∧ nth ls i < nth ls (i + d + 1)) := by
    intro d
    induction d with
    | zero => intro i hi; exact hstep i hi
    | succ d ih =>
      intro i hi
      have h1 := ih i (by omega)
      have h2 := hstep (i + d + 1) (by omega)
      have e : i + (d + 1) + 1 = i + d + 1 + 1 := by omega
      rw [e]
      omega
  have hmap : (ls.map fun v => nth xs v.toNat).Perm xs := by
    refine (hp.map _).trans ?_
    rw [← hxl, ← self_upto xs]
  have hsorted : (ls.map fun v => nth xs v.toNat).Pairwise (· ≤ ·) := by
    rw [List.pairwise_map, List.pairwise_iff_getElem]
    intro i j hi hj hij
    have h1 := hall (j - i - 1) i (by omega)
    rw [show i + (j - i - 1) + 1 = j by omega] at h1
    simp only [nth, List.getD_eq_getElem?_getD, List.getElem?_eq_getElem hi, List.getElem?_eq_getElem hj, Option.getD_some] at h1 ⊢
    omega
  have hins : insSort xs = ls.map fun v => nth xs v.toNat := sorted_unique (insSort_sorted xs) hsorted ((insSort_perm xs).trans hmap.symm)
  have hask : asked xs = true := by
    rw [asked_cars]
    refine carsB_iff.2 ⟨by omega, fun x hx => ?_⟩
    obtain ⟨c, hc, rfl⟩ := mem_nth hx
    have := hbd c (by omega)
    omega
  have hpark : isPark xs = true := by
    rw [← fits_park hask, fitsB_iff]
    intro i hi
    have e : nth (insSort xs) i = nth xs (nth ls i).toNat := by rw [hins]; simp [nth, show i < ls.length by omega]
    rw [e, hat i (by omega)]
    have := hb i (by omega)
    omega
  refine ⟨hpark, ?_, ?_⟩
  · have hcp := carsL_perm hxl (by omega) hbd
    have hso := carsTo_sorted (xs := xs) (by omega) (fun c hc => (hbd c (by omega)).1) xs.length
    symm
    refine keyC_unique (xs := xs) (n := ls.length) (by omega) hcp (hp.trans hcp.symm) (hso.imp fun {a b} h => by omega) ?_
    rw [List.pairwise_iff_getElem]
    intro i j hi hj hij
    have h1 := hall (j - i - 1) i (by omega)
    rw [show i + (j - i - 1) + 1 = j by omega] at h1
    simp only [nth, List.getD_eq_getElem?_getD, List.getElem?_eq_getElem hi, List.getElem?_eq_getElem hj, Option.getD_some] at h1
    have b1 := out_nth ho hi
    have b2 := out_nth ho hj
    simp only [nth, List.getD_eq_getElem?_getD, List.getElem?_eq_getElem hi, List.getElem?_eq_getElem hj, Option.getD_some] at b1 b2
    unfold keyC
    simp only [nth, List.getD_eq_getElem?_getD]
    omega
  · refine ext_nth (by rw [length_hgtOf, hll]) fun i hi => ?_
    rw [length_hgtOf] at hi
    rw [nth_hgtOf hi, hat i hi]
    omega
end Go.Proofs.Ytakadjhbomggbaa

namespace Go.Proofs.Ytakadjhbomggbaa
open Go.RowKit

set_option maxHeartbeats 400000 in
theorem wSame_any (a b : Option Addr) (n m cap cap' : Nat) (xs ys : List Int) (w : World) (h : Has w a n cap xs) (h' : Has w b m cap' ys) :
    Calls Try.prog 17 #[.slice a n cap, .slice b m cap'] w fun e w' => e = .returned (.bool (same xs ys)) ∧ Quiet w w' := by
  obtain ⟨h0, h1, h2, h3, h4⟩ := h
  obtain ⟨k0, k1, k2, k3, k4⟩ := h'
  by_cases hnm : n = m
  · have hb : ((n : Int) != (m : Int)) = false := by simp [hnm]
    subst hnm
    go_enter Try.func17, Try.ntmps17
    go_wp2_with fail
    go_loopw [13] (fun i wr => ∃ k : Nat, k ≤ n ∧ i = .int .i64 k ∧ FromTo xs ys k ∧ Quiet w wr) (fun i _ => n - (intOf i).toNat)
    case atStart => exact ⟨0, Nat.zero_le _, rfl, fun i hi => by omega, ⟨0, rfl⟩⟩
    case round =>
      obtain ⟨k, hk, rfl, hft, q, hq⟩ := hrel
      subst hq
      by_cases hlt : k < n
      · obtain ⟨b1, off1, rfl, hb1, hc1⟩ := h4 (by omega)
        obtain ⟨b2, off2, rfl, hb2, hc2⟩ := k4 (by omega)
        have hck := hc1 k hlt
        have hdk := hc2 k hlt
        have hkk : (k : Int) < (n : Int) := by omega
        have hkz : (0 : Int) ≤ (k : Int) := by omega
        clear hc1 hc2 h4 k4
        by_cases he : nth xs k = nth ys k
        · have hbe : (nth xs k != nth ys k) = false := by simp [he]
          have HE := hid he
          clear he
          go_wp2_with fail
          go_quiet (fail)
          go_wp2_with fail
          go_roundw
          case rel => exact ⟨k + 1, by omega, by go_num, fun i hi => by rcases Nat.lt_succ_iff_lt_or_eq.1 hi with h | rfl; exact hft i h; exact HE.out.symm, ⟨_, rfl⟩⟩
          case measure => simp [intOf]; omega
        · have hbe : (nth xs k != nth ys k) = true := by simp [he]
          have HE := hid he
          clear he
          go_wp2_with fail
          go_quiet (fail)
          go_wp2_with fail
          go_ret
          exact ⟨ret_bool (same_no HE.out).symm, (Quiet.more ⟨_, rfl⟩ _)⟩
      · obtain rfl : k = n := by omega
        go_wp2_with fail
        go_ret
        exact ⟨ret_bool (same_yes (by omega) (by rw [h0]; exact hft)).symm, ⟨_, rfl⟩⟩
  · have hb : ((n : Int) != (m : Int)) = true := by simp; omega
    go_enter Try.func17, Try.ntmps17
    go_wp2_with fail
    go_ret
    exact ⟨ret_bool (show false = same xs ys from by unfold same; symm; rw [decide_eq_false_iff_not]; rintro rfl; omega), ⟨0, rfl⟩⟩

end Go.Proofs.Ytakadjhbomggbaa

namespace Go.Proofs.Ytakadjhbomggbaa
open Go.RowKit

set_option maxHeartbeats 400000 in
theorem wSameWalk_any (a b c d : Option Addr) (n cap m cap' n' cap1 m' cap2 : Nat) (hs ls hs' ls' : List Int) (w : World) (h : Has w a n cap hs) (h' : Has w b m cap' ls) (k : Has w c n' cap1 hs') (k' : Has w d m' cap2 ls') :
    Calls Try.prog 12 #[.agg #[.slice a n cap, .slice b m cap'], .agg #[.slice c n' cap1, .slice d m' cap2]] w fun e w' => e = .returned (.bool (same hs hs' && same ls ls')) ∧ Below w.heap.size w w' := by
  go_enter Try.func12, Try.ntmps12
  go_wp2_with fail
  generalize hW : ((w.alloc (.cells #[.slice a n cap, .slice b m cap'] 27)).alloc (.cells #[.slice c n' cap1, .slice d m' cap2] 27)) = W
  have hbW : Below w.heap.size w W := by rw [← hW]; exact ((Below.refl _ w).alloc (Nat.le_refl _) _).alloc (by simp) _
  have hsz : W.heap.size = w.heap.size + 2 := by rw [← hW]; simp
  have B1 : BoxAt W w.heap.size (.slice a n cap) (.slice b m cap') := by rw [← hW]; exact (boxAt_new _ _ _ _).alloc _
  have B2 : BoxAt W (w.heap.size + 1) (.slice c n' cap1) (.slice d m' cap2) := by rw [← hW]; have := boxAt_new (w.alloc (.cells #[.slice a n cap, .slice b m cap'] 27)) (.slice c n' cap1) (.slice d m' cap2) 27; simpa using this
  clear hW
  refine (wSame_any _ _ _ _ _ _ _ _ _ (h.below hbW (Nat.le_refl _)) (k.below hbW (Nat.le_refl _))).mono ?_
  rintro e w1 ⟨rfl, q, rfl⟩
  have B1' : BoxAt (W.drewN q) w.heap.size (.slice a n cap) (.slice b m cap') := ⟨B1.c0, B1.c1, B1.f0, B1.f1⟩
  have B2' : BoxAt (W.drewN q) (w.heap.size + 1) (.slice c n' cap1) (.slice d m' cap2) := ⟨B2.c0, B2.c1, B2.f0, B2.f1⟩
  have hb1 : Below w.heap.size w (W.drewN q) := below_drewN hbW _
  generalize W.drewN q = V at *
  obtain ⟨_, _, _, _⟩ := B1'
  obtain ⟨_, _, _, _⟩ := B2'
  by_cases hh : same hs hs' = true
  · rw [hh]
    go_wp2_with fail
    refine (wSame_any _ _ _ _ _ _ _ _ _ (h'.below hb1 (Nat.le_refl _)) (k'.below hb1 (Nat.le_refl _))).mono ?_
    rintro e w2 ⟨rfl, q2, rfl⟩
    have hb2 : Below w.heap.size w (V.drewN q2) := below_drewN hb1 _
    by_cases hl : same ls ls' = true
    · rw [hl]
      go_wp2_with fail
      go_ret
      exact ⟨ret_bool (by rw [hh, hl]; rfl), hb2⟩
    · rw [Bool.eq_false_iff.2 hl]
      go_wp2_with fail
      go_ret
      exact ⟨ret_bool (by rw [hh, Bool.eq_false_iff.2 hl]; rfl), hb2⟩
  · rw [Bool.eq_false_iff.2 hh]
    go_wp2_with fail
    go_ret
    exact ⟨ret_bool (by rw [Bool.eq_false_iff.2 hh]; rfl), hb1⟩

set_option maxHeartbeats 400000 in
theorem wSumX_any (a : Option Addr) (n cap : Nat) (xs : List Int) (w : World) (h : Has w a n cap xs) (h8 : n ≤ 100) (hb : ∀ i, i < n → 0 ≤ nth xs i ∧ nth xs i ≤ 5000) :
    Calls Try.prog 24 #[.slice a n cap] w fun e w' => e = .returned (.int .i64 (total xs)) ∧ w = w' := by
  have HL := hid h.len
  have HB := hid hb
  clear hb
  go_enter Try.func24, Try.ntmps24
  go_wp2_with fail
  go_loop [3, 8] (fun s i => ∃ (k : Nat) (v : Int), k ≤ n ∧ i = .int .i64 (k : Int) ∧ s = .int .i64 v ∧ Hid (v = total (xs.take k)) ∧ 0 ≤ v ∧ v ≤ 5000 * (k : Int)) (fun _ i => n - (intOf i).toNat)
  case atStart => exact ⟨0, 0, by omega, rfl, rfl, hid rfl, by omega, by omega⟩
  case round =>
    obtain ⟨k, v, hk, rfl, rfl, HV, s0, s1⟩ := hrel
    by_cases hlt : k < n
    · obtain ⟨b0, off, rfl, hbb, hc⟩ := h.2.2.2.2 (by omega)
      have hck := hc k hlt
      obtain ⟨u0, u1⟩ := HB.out k hlt
      have HS : Hid (total (xs.take (k + 1)) = v + nth xs k) := hid (by rw [total_succ (by rw [HL.out]; exact hlt), HV.out])
      clear hc
      go_wp2_with fail
      go_round
      case rel => exact ⟨k + 1, v + nth xs k, by omega, by go_num, by go_num, hid HS.out.symm, by omega, by omega⟩
      case measure => simp [intOf]; omega
    · obtain rfl : k = n := by omega
      have HR : Hid (v = total xs) := hid (by rw [HV.out, List.take_of_length_le (by rw [HL.out]; omega)])
      go_wp2_with fail
      go_ret
      exact ⟨ret_int HR.out, rfl⟩
end Go.Proofs.Ytakadjhbomggbaa

namespace Go.Proofs.Ytakadjhbomggbaa
open Go.RowKit

theorem isPark_askedW {xs : List Int} (h : isPark xs = true) : asked xs = true := by
  obtain ⟨h1, h2, _⟩ := isPark_iff.1 h
  simp only [asked, Bool.and_eq_true, decide_eq_true_eq, allB_iff]
  exact ⟨h1, fun x hx => by have := h2 x hx; omega⟩
set_option maxHeartbeats 400000 in
theorem wParkW_any (a : Option Addr) (n cap : Nat) (xs : List Int) (w : World) (h : Has w a n cap xs) :
    Calls Try.prog 13 #[.slice a n cap] w (PostBool w (isPark xs)) := by
  by_cases hp : isPark xs = true
  · have HI : Hid (isParking xs = (true, true)) := hid (by simp [isParking, isPark_askedW hp, hp])
    have HP := hid hp
    clear hp
    go_enter Try.func13, Try.ntmps13
    go_wp2_with fail
    refine (isParking_any _ _ _ _ _ h).mono ?_
    rw [HI.out]
    rintro e w1 ⟨rfl, hb⟩
    go_wp2_with fail
    go_ret
    exact postBool HP.out.symm hb
  · have HP := hid (Bool.eq_false_iff.2 hp)
    obtain ⟨ok, hok⟩ : ∃ ok, isParking xs = (false, ok) := by
      by_cases ha : asked xs = true
      · exact ⟨true, by simp [isParking, ha, Bool.eq_false_iff.2 hp]⟩
      · exact ⟨false, by simp [isParking, ha]⟩
    have HI := hid hok
    clear hok hp
    go_enter Try.func13, Try.ntmps13
    go_wp2_with fail
    refine (isParking_any _ _ _ _ _ h).mono ?_
    rw [HI.out]
    rintro e w1 ⟨rfl, hb⟩
    cases ok with
    | true =>
      go_wp2_with fail
      go_ret
      exact postBool HP.out.symm hb
    | false =>
      go_wp2_with fail
      go_ret
      exact postBool HP.out.symm hb
end Go.Proofs.Ytakadjhbomggbaa

namespace Go.Proofs.Ytakadjhbomggbaa
open Go.RowKit

theorem hgt_small {hs : List Int} {n : Nat} (hl : hs.length = n) (h8 : n ≤ 8) (hb : ∀ i, i < n → 0 ≤ nth hs i ∧ nth hs i ≤ (i : Int)) : Small hs := fun i hi => by
  have := hb i (by omega)
  omega
set_option maxHeartbeats 400000 in
theorem area_any (a : Option Addr) (n cap : Nat) (ys : List Int) (w : World) (h : Has w a n cap ys) (hs : Small ys) :
    Calls Try.prog 62 #[.slice a n cap] w fun e w' => e = .returned (.int .i64 (total ys)) ∧ w = w' := by
  obtain ⟨h0, h1, h2, h3, h4⟩ := h
  go_enter Try.func62, Try.ntmps62
  go_wp2_with fail
  go_loop [3, 8] (fun c i => ∃ k : Nat, k ≤ n ∧ i = .int .i64 k ∧ c = .int .i64 (total (ys.take k))) (fun _ i => n - (intOf i).toNat)
  case atStart => exact ⟨0, Nat.zero_le _, rfl, rfl⟩
  case round =>
    obtain ⟨k, hk, rfl, rfl⟩ := hrel
    by_cases hlt : k < n
    · obtain ⟨b, off, rfl, hb, hc⟩ := h4 (by omega)
      have hck := hc k hlt
      have ht := total_bounds hs k (by omega)
      obtain ⟨hv0, hv1⟩ := hs k (by omega)
      have HS := hid (total_succ (xs := ys) (k := k) (by omega))
      clear hc h4 hs
      go_wp2_with fail
      go_round
      case rel => exact ⟨k + 1, by omega, by go_num, by rw [HS.out]⟩
      case measure => simp [intOf]; omega
    · obtain rfl : k = n := by omega
      go_wp2_with fail
      go_ret
      exact ⟨ret_int (by rw [List.take_of_length_le (by omega)]), rfl⟩

set_option maxHeartbeats 1000000 in
theorem implArea_any (a b : Option Addr) (n cap m cap' : Nat) (hs ls : List Int) (w : World) (h : Has w a n cap hs) (h' : Has w b m cap' ls) :
    Calls Try.prog 19 #[.agg #[.slice a n cap, .slice b m cap']] w (PostInt w (areaOf hs ls)) := by
  have HL := hid h.len
  have HL' := hid h'.len
  have hle := h.le
  have hle' := h'.le
  go_enter Try.func19, Try.ntmps19
  go_wp2_with fail
  generalize hW : w.alloc (.cells #[.slice a n cap, .slice b m cap'] 27) = W
  have hbW : Below w.heap.size w W := by rw [← hW]; exact (Below.refl _ w).alloc (Nat.le_refl _) _
  have B1 : BoxAt W w.heap.size (.slice a n cap) (.slice b m cap') := by rw [← hW]; exact boxAt_new _ _ _ _
  clear hW
  refine (rowsOf_any _ _ _ _ _ _ _ _ _ (h.below hbW (Nat.le_refl _)) (h'.below hbW (Nat.le_refl _))).mono ?_
  rintro e w1 ⟨⟨hw, rfl⟩ | ⟨hw, rfl⟩, st⟩
  · have hb1 := hbW.trans (st.mono hbW.size)
    clear st hbW B1
    have HR : Hid (areaOf hs ls = (total hs, true)) := hid (by simp only [areaOf]; rw [if_pos hw])
    have hnm : n = m := by have := (walkB_iff.1 hw).2.1; rw [HL.out, HL'.out] at this; exact this
    subst hnm
    have HW := hid (walkB_iff.1 hw)
    obtain ⟨h8, hbd⟩ := hgt_of HW.out.1 HL.out
    have C1 := boxAt_new w1 (.slice a n cap) (.slice b n cap') 64
    have hb2 := hb1.alloc hb1.size (.cells #[.slice a n cap, .slice b n cap'] 64)
    have g1 := h.below hb2 (Nat.le_refl _)
    have g2 := h'.below hb2 (Nat.le_refl _)
    have hsz : (w1.alloc (.cells #[.slice a n cap, .slice b n cap'] 64)).heap.size = w1.heap.size + 1 := by simp
    have hs1 := hb1.size
    clear hw h h'
    go_wp2_with fail
    refine (area_any _ _ _ _ _ g1 (hgt_small HL.out h8 hbd)).mono ?_
    rintro e w' ⟨rfl, rfl⟩
    go_wp2_with fail
    go_ret2
    exact postInt HR.out hb2
  · have hb1 := hbW.trans (st.mono hbW.size)
    clear st hbW B1
    have HR : Hid (areaOf hs ls = (0, false)) := hid (by simp only [areaOf]; rw [if_neg (by rw [hw]; decide)])
    go_wp2_with fail
    go_ret2
    exact postInt HR.out (hb1.alloc hb1.size _)

set_option maxHeartbeats 1000000 in
theorem implTouches_any (a b : Option Addr) (n cap m cap' : Nat) (hs ls : List Int) (w : World) (h : Has w a n cap hs) (h' : Has w b m cap' ls) :
    Calls Try.prog 20 #[.agg #[.slice a n cap, .slice b m cap']] w (PostInts w (touchesOf hs ls)) := by
  have HL := hid h.len
  have HL' := hid h'.len
  have hle := h.le
  have hle' := h'.le
  go_enter Try.func20, Try.ntmps20
  go_wp2_with fail
  generalize hW : w.alloc (.cells #[.slice a n cap, .slice b m cap'] 27) = W
  have hbW : Below w.heap.size w W := by rw [← hW]; exact (Below.refl _ w).alloc (Nat.le_refl _) _
  have B1 : BoxAt W w.heap.size (.slice a n cap) (.slice b m cap') := by rw [← hW]; exact boxAt_new _ _ _ _
  clear hW
  refine (rowsOf_any _ _ _ _ _ _ _ _ _ (h.below hbW (Nat.le_refl _)) (h'.below hbW (Nat.le_refl _))).mono ?_
  rintro e w1 ⟨⟨hw, rfl⟩ | ⟨hw, rfl⟩, st⟩
  · have hb1 := hbW.trans (st.mono hbW.size)
    clear st hbW B1
    have HR : Hid (touchesOf hs ls = (idxs (touchAt hs) hs.length, true)) := hid (by simp only [touchesOf]; rw [if_pos hw])
    have hnm : n = m := by have := (walkB_iff.1 hw).2.1; rw [HL.out, HL'.out] at this; exact this
    subst hnm
    have HW := hid (walkB_iff.1 hw)
    obtain ⟨h8, hbd⟩ := hgt_of HW.out.1 HL.out
    have C1 := boxAt_new w1 (.slice a n cap) (.slice b n cap') 64
    have hb2 := hb1.alloc hb1.size (.cells #[.slice a n cap, .slice b n cap'] 64)
    have g1 := h.below hb2 (Nat.le_refl _)
    have g2 := h'.below hb2 (Nat.le_refl _)
    have hsz : (w1.alloc (.cells #[.slice a n cap, .slice b n cap'] 64)).heap.size = w1.heap.size + 1 := by simp
    have hs1 := hb1.size
    clear hw h'
    have G1 := hid h
    clear g1 g2
    go_wp2_with fail
    go_loopw [6, 19] (fun o i wr => ∃ (k q : Nat) (a' : Option Addr) (cq : Nat), k ≤ n ∧ q ≤ k ∧ i = .int .i64 k ∧ o = .slice a' q cq ∧ Own wr w.heap.size a' q cq (idxs (touchAt hs) k) ∧ Below w.heap.size w wr) (fun _ i _ => n - (intOf i).toNat)
    case atStart => exact ⟨0, 0, none, 0, Nat.zero_le _, Nat.zero_le _, rfl, rfl, Own.nil _ _, hb2⟩
    case round =>
      obtain ⟨k, q, a', cq, hk, hq, rfl, rfl, hown, hb⟩ := hrel
      by_cases hlt : k < n
      · obtain ⟨b1, off1, rfl, hbb1, hc1⟩ := G1.out.2.2.2.2 (by omega)
        have hck : wr.cell? ⟨b1, off1 + k, none⟩ = some (.int .i64 (nth hs k)) := by rw [hb.cell (p := ⟨b1, off1 + k, none⟩) hbb1]; exact hc1 k hlt
        have hi := idxs_succ (touchAt hs) k
        clear hc1
        by_cases hk0 : k = 0
        · have HI : Hid (idxs (touchAt hs) (k + 1) = idxs (touchAt hs) k) := hid (by rw [hi]; simp [touchAt, hk0])
          have hp0 : ¬ 0 < k := by omega
          have hp1 : ¬ ((0 : Int) < (k : Int)) := by omega
          clear hi hk0
          go_wp2_with fail
          go_roundw
          case rel => exact ⟨k + 1, q, a', cq, by omega, by omega, by go_num, rfl, by rw [HI.out]; exact hown, hb⟩
          case measure => simp [intOf]; omega
        · have hp1 : (0 : Int) < (k : Int) := by omega
          by_cases hz : nth hs k = 0
          · have HI : Hid (idxs (touchAt hs) (k + 1) = idxs (touchAt hs) k ++ [(k : Int)]) := hid (by rw [hi]; simp [touchAt, hz]; omega)
            have hbe : (nth hs k == 0) = true := by simp [hz]
            clear hi hz
            go_wp2_with (at_builtin; refine wpList_append_int _ rfl _ _ rfl w.heap.size _ _ _ _ _ rfl rfl hown (by omega) hb.size ?_; intro a2 cap2 w2 hown2 hb2)
            go_roundw
            case rel => exact ⟨k + 1, q + 1, a2, cap2, by omega, by omega, by go_num, rfl, by rw [HI.out]; exact hown2, hb.trans hb2⟩
            case measure => simp [intOf]; omega
          · have HI : Hid (idxs (touchAt hs) (k + 1) = idxs (touchAt hs) k) := hid (by rw [hi]; simp [touchAt, hz])
            have hbe : (nth hs k == 0) = false := by simp [hz]
            clear hi hz
            go_wp2_with fail
            go_roundw
            case rel => exact ⟨k + 1, q, a', cq, by omega, by omega, by go_num, rfl, by rw [HI.out]; exact hown, hb⟩
            case measure => simp [intOf]; omega
      · obtain rfl : k = n := by omega
        go_wp2_with fail
        go_ret2
        exact postInts (HR.out.trans (by rw [HL.out])) hown hb
  · have hb1 := hbW.trans (st.mono hbW.size)
    clear st hbW B1
    have HR : Hid (touchesOf hs ls = ([], false)) := hid (by simp only [touchesOf]; rw [if_neg (by rw [hw]; decide)])
    go_wp2_with fail
    go_ret2
    exact postInts_no HR.out (hb1.alloc hb1.size _)
end Go.Proofs.Ytakadjhbomggbaa

namespace Go.Proofs.Ytakadjhbomggbaa
open Go.RowKit

end Go.Proofs.Ytakadjhbomggbaa

namespace Go.Proofs.Ytakadjhbomggbaa
open Go.RowKit

theorem cut_from {xs : List Int} {n j : Nat} (hn : xs.length = n) (h1 : 1 ≤ j) : isCut xs j = ((n : Int) - (from' xs j : Int) == (j : Int)) := by
  have := from_below xs j
  unfold isCut
  rw [Bool.eq_iff_iff]
  simp
  omega

theorem idxs_one {f : Nat → Bool} (h : f 0 = false) : idxs f 1 = [] := by simp [idxs, List.range_succ, h]

/-- What b's numbers become. -/
def shifted (ys : List Int) (d : Int) : List Int := ys.map (· + d)
theorem shifted_succ {ys : List Int} {d : Int} {k : Nat} (h : k < ys.length) : (shifted ys d).take (k + 1) = (shifted ys d).take k ++ [nth ys k + d] := by
  rw [take_succ_nth (by simpa [shifted] using h)]
  simp [shifted, nth, h]
theorem length_shifted (ys : List Int) (d : Int) : (shifted ys d).length = ys.length := by simp [shifted]
theorem join_yes {xs ys : List Int} {n m : Nat} (hn : xs.length = n) (hm : ys.length = m) (hx : isPark xs = true) (hy : isPark ys = true) (h : n + m ≤ 8) : joinOf xs ys = (xs ++ shifted ys n, true) := by
  simp [joinOf, hx, hy, hn, hm, h, shifted]
theorem park_bounds {ys : List Int} {m : Nat} (hm : ys.length = m) (h : isPark ys = true) : ∀ i, i < m → 0 ≤ nth ys i ∧ nth ys i ≤ (m : Int) - 1 := by
  intro i hi
  have := (isPark_iff.1 h).2.1 _ (nth_mem (xs := ys) (i := i) (by omega))
  omega

end Go.Proofs.Ytakadjhbomggbaa

namespace Go.Proofs.Ytakadjhbomggbaa
open Go.RowKit

theorem cut_below {xs : List Int} {j : Nat} (h1 : 1 ≤ j) : isCut xs j = ((below xs j : Int) == (j : Int)) := by
  unfold isCut
  rw [Bool.eq_iff_iff]
  simp
  omega

set_option maxHeartbeats 800000 in
theorem cutsOf_any (a : Option Addr) (n cap : Nat) (xs : List Int) (w : World) (h : Has w a n cap xs) :
    Calls Try.prog 21 #[.slice a n cap] w (PostInts w (cutsOf xs)) := by
  have HL := hid h.len
  have hle := h.le
  by_cases hg : isPark xs = true
  · have HR : Hid (cutsOf xs = (idxs (isCut xs) n, true)) := hid (by simp [cutsOf, hg, HL.out])
    have HG := hid hg
    clear hg
    go_enter Try.func21, Try.ntmps21
    go_wp2_with (go_at_call 53; refine (isParkingFunction_any _ _ _ _ _ h).mono ?_; rintro e w1 ⟨rfl, hb1⟩; rw [HG.out])
    have hh := h.below hb1 (Nat.le_refl _)
    go_loopw [4, 5] (fun o j wr => ∃ (k m : Nat) (a' : Option Addr) (cap' : Nat), 1 ≤ k ∧ (k ≤ n ∨ k = 1) ∧ m ≤ k ∧ j = .int .i64 k ∧ o = .slice a' m cap' ∧ Own wr w1.heap.size a' m cap' (idxs (isCut xs) k) ∧ Below w1.heap.size w1 wr) (fun _ j _ => n - (intOf j).toNat)
    case atStart => exact ⟨1, 0, none, 0, by omega, .inr rfl, by omega, rfl, rfl, by rw [idxs_one rfl]; exact Own.nil _ _, Below.refl _ _⟩
    case round =>
      obtain ⟨k, m, a', cap', hk1, hk, hm, rfl, rfl, hown, hb⟩ := hrel
      by_cases hlt : k < n
      · have HS := hid (idxs_succ (isCut xs) k)
        have HC := hid (cut_below (xs := xs) hk1)
        have hfl := below_le xs k
        rw [HL.out] at hfl
        by_cases ht : ((below xs k : Int) == (k : Int)) = true
        · rw [HC.out, if_pos ht] at HS
          go_wp2_with (first | (go_at_call 63; refine (countBelow_any _ _ _ _ _ _ (hh.below hb (Nat.le_refl _))).mono ?_; rintro e w' ⟨rfl, rfl⟩) | (at_builtin; refine wpList_append_int _ rfl _ _ rfl w1.heap.size _ _ _ _ _ rfl rfl hown (by omega) hb.size ?_; intro a2 cap2 w2 hown2 hb2))
          go_roundw
          case rel => exact ⟨k + 1, m + 1, a2, cap2, by omega, by omega, by omega, by go_num, rfl, by rw [HS.out]; exact hown2, hb.trans hb2⟩
          case measure => simp [intOf]; omega
        · have ht' : ((below xs k : Int) == (k : Int)) = false := Bool.eq_false_iff.2 ht
          rw [HC.out, if_neg ht, List.append_nil] at HS
          clear ht
          go_wp2_with (go_at_call 63; refine (countBelow_any _ _ _ _ _ _ (hh.below hb (Nat.le_refl _))).mono ?_; rintro e w' ⟨rfl, rfl⟩)
          go_roundw
          case rel => exact ⟨k + 1, m, _, _, by omega, by omega, by omega, by go_num, rfl, by rw [HS.out]; exact hown, hb⟩
          case measure => simp [intOf]; omega
      · have he : idxs (isCut xs) k = idxs (isCut xs) n := by
          rcases hk with hk | rfl
          · rw [show k = n by omega]
          · rcases (show n = 0 ∨ n = 1 by omega) with rfl | rfl
            · rw [idxs_one rfl]; rfl
            · rfl
        rw [he] at hown
        clear he
        go_wp2_with fail
        go_ret2
        exact postInts HR.out (hown.mono hb1.size) (hb1.trans (hb.mono hb1.size))
  · have HR : Hid (cutsOf xs = ([], false)) := hid (by simp [cutsOf, hg])
    have HG := hid hg
    clear hg
    go_enter Try.func21, Try.ntmps21
    go_wp2_with (go_at_call 53; refine (isParkingFunction_any _ _ _ _ _ h).mono ?_; rintro e w1 ⟨rfl, hb1⟩; rw [Bool.eq_false_iff.2 HG.out])
    go_ret2
    exact postInts_no HR.out hb1

end Go.Proofs.Ytakadjhbomggbaa

namespace Go.Proofs.Ytakadjhbomggbaa
open Go.RowKit

theorem parkw_total {xs : List Int} (h : isPark xs = true) (h0 : 0 < xs.length) : totalOf xs (xs.length : Int) = (total (hgtOf xs (carsL xs)), true) := by
  obtain ⟨h8, hb, ha⟩ := isPark_iff.1 h
  have hg : good xs (xs.length : Int) = true := by
    rw [good_cars, Bool.and_eq_true]
    exact ⟨inB_iff.2 ⟨by omega, by omega⟩, carsB_iff.2 ⟨h8, fun x hx => hb x hx⟩⟩
  simp only [totalOf, hg, ha, Bool.and_self, if_true]
  rw [(area_park h).2]
/-- What the functions of the law come to for a list. -/
theorem parkw_facts (xs : List Int) : ∃ hs ls ok, walkOf xs = ((hs, ls), ok) ∧ isPark xs = ok ∧ (ok = true → ∃ (ar : Int) (ts : List Int) (q : Int), powOf hs ls = (xs, true) ∧ areaOf hs ls = (ar, true) ∧ touchesOf hs ls = (ts, true) ∧ cutsOf xs = (ts, true) ∧ hgtB hs = true ∧ xs.length ≤ 8 ∧
    (xs.length = 0 → ar = 0) ∧ (0 < xs.length → totalOf xs (xs.length : Int) = (ar, true)) ∧ (xs.length : Int) * ((xs.length : Int) - 1) = 2 * q ∧ ar = q - total xs ∧ 0 ≤ q ∧ q ≤ 28 ∧ 0 ≤ ar ∧ ar ≤ 28 ∧ ∀ i, i < xs.length → 0 ≤ nth xs i ∧ nth xs i ≤ 5000) := by
  by_cases h : isPark xs = true
  · obtain ⟨h8, hl, hp, hat, hs, hso⟩ := cars_facts h
    have hw := walk_park h
    have hb := (isPark_bounds h).2
    have hq : ∃ q : Int, (xs.length : Int) * ((xs.length : Int) - 1) = 2 * q ∧ 0 ≤ q ∧ q ≤ 28 := by
      rcases (show xs.length = 0 ∨ xs.length = 1 ∨ xs.length = 2 ∨ xs.length = 3 ∨ xs.length = 4 ∨ xs.length = 5 ∨ xs.length = 6 ∨ xs.length = 7 ∨ xs.length = 8 by omega) with e | e | e | e | e | e | e | e | e <;> rw [e]
      · exact ⟨0, by decide, by decide, by decide⟩
      · exact ⟨0, by decide, by decide, by decide⟩
      · exact ⟨1, by decide, by decide, by decide⟩
      · exact ⟨3, by decide, by decide, by decide⟩
      · exact ⟨6, by decide, by decide, by decide⟩
      · exact ⟨10, by decide, by decide, by decide⟩
      · exact ⟨15, by decide, by decide, by decide⟩
      · exact ⟨21, by decide, by decide, by decide⟩
      · exact ⟨28, by decide, by decide, by decide⟩
    obtain ⟨q, q1, q2, q3⟩ := hq
    obtain ⟨a1, a2⟩ := area_park h
    have t0 : 0 ≤ total xs := total_nonneg fun x hx => (hb x hx).1
    have t1 : 0 ≤ total (hgtOf xs (carsL xs)) := total_nonneg fun x hx => by
      obtain ⟨i, hi, rfl⟩ := mem_nth hx
      rw [length_hgtOf, hl] at hi
      rw [hgt_at h hi]
      have := hs i hi
      omega
    refine ⟨hgtOf xs (carsL xs), carsL xs, true, by simp [walkOf, h], h, fun _ => ⟨total (hgtOf xs (carsL xs)), idxs (isCut xs) xs.length, q, by simp only [powOf, hw, if_true]; rw [pow_park h], by simp [areaOf, hw], ?_, by simp [cutsOf, h], (walkB_iff.1 hw).1, h8, fun e => ?_, fun e => parkw_total h e, q1, by omega, q2, q3, t1, by omega, fun i hi => by have := hb _ (nth_mem hi); omega⟩⟩
    · simp only [touchesOf, hw, if_true]
      rw [length_hgtOf, hl, touch_park h]
    · obtain rfl := List.eq_nil_of_length_eq_zero e
      rfl
  · exact ⟨[], [], false, by simp [walkOf, h], Bool.eq_false_iff.2 h, fun hx => by cases hx⟩
theorem walkp_facts (hs ls : List Int) : ∃ ps told, powOf hs ls = (ps, told) ∧ walkB hs ls = told ∧ (told = true → walkOf ps = ((hs, ls), true)) := by
  by_cases h : walkB hs ls = true
  · obtain ⟨h1, h2, h3⟩ := park_walk h
    refine ⟨powTo hs ls ls.length, true, by simp [powOf, h], h, fun _ => ?_⟩
    simp only [walkOf, h1, if_true]
    rw [h2, h3]
  · exact ⟨[], false, by simp [powOf, h], Bool.eq_false_iff.2 h, fun hx => by cases hx⟩

set_option maxRecDepth 100000 in
set_option maxHeartbeats 32000000 in
theorem parkw_walk (a b : Option Addr) (n m cap cap' : Nat) (w : World) (hn : n ≤ maxLen) (h : n ≤ 1048576 → HasB w a n w.heap.size) (h' : m ≤ 1048576 → HasB w b m w.heap.size) :
    Calls Try.prog 3 #[.slice a n cap, .slice b m cap'] w (Holds w) := by
  have H1 := hid h
  have H2 := hid h'
  have HN := hid hn
  clear h h' hn
  have hB : Below w.heap.size w w := Below.refl _ _
  go_enter Try.func3, Try.ntmps3
  go_wp2_with fail
  refine (big_any _ _ _ _ _ _ _ (by have := HN.out; unfold maxLen at this; omega)).mono ?_
  rintro e _ ⟨r, rfl, hr, rfl⟩
  have HR := hid hr
  clear hr
  cases r with
  | true =>
    go_wp2_with fail
    go_ret
    exact ⟨rfl, hB⟩
  | false =>
    have hnm := HR.out rfl
    clear HR
    have HA := hid (H1.out (by omega))
    have HM := hid (H2.out (by omega))
    clear H1 H2 HN
    go_wp2_with fail
    refine (drawWalkOf_any _ _ _ _ HA.out).mono ?_
    rintro e v1 ⟨a_l, n_l, c_l, xs, rfl, o_l, hn9, hwi, st⟩
    replace hB := hB.trans (st.mono hB.size)
    clear st
    clear hwi
    obtain ⟨hs, ls, ok, f1, f2, f3⟩ := parkw_facts xs
    have HWO := hid f1
    have HPK := hid f2
    have HF := hid f3
    have hok : (ok != ok) = false := by cases ok <;> rfl
    have HLL := hid o_l.len
    clear f1 f2 f3
    go_wp2_with fail
    refine (implWalkOf_any _ _ _ _ _ o_l.has).mono ?_
    rw [HWO.out]
    rintro e v2 ⟨a_w, n_w, c_w, b_w, m_w, d_w, rfl, o_wa, o_wb, ap_w, st⟩
    replace o_l := o_l.below st (Nat.le_refl _)
    replace hB := hB.trans (st.mono hB.size)
    clear st
    have st : Below v2.heap.size v2 (v2.alloc (.cells #[.slice a_w n_w c_w, .slice b_w m_w d_w] 27)) := (Below.refl _ _).alloc (Nat.le_refl _) _
    have X_w : BoxAt (v2.alloc (.cells #[.slice a_w n_w c_w, .slice b_w m_w d_w] 27)) v2.heap.size (.slice a_w n_w c_w) (.slice b_w m_w d_w) := boxAt_new _ _ _ _
    go_wp2_with fail
    generalize v2.alloc (.cells #[.slice a_w n_w c_w, .slice b_w m_w d_w] 27) = v3 at *
    replace o_l := o_l.below st (Nat.le_refl _)
    replace o_wa := o_wa.below st (Nat.le_refl _)
    replace o_wb := o_wb.below st (Nat.le_refl _)
    replace hB := hB.trans (st.mono hB.size)
    clear st
    obtain ⟨X_w_1, X_w_2, X_w_3, X_w_4⟩ := id X_w
    go_wp2_with fail
    refine (specWalkOf_any _ _ _ _ _ o_l.has).mono ?_
    rw [HWO.out]
    rintro e v4 ⟨a_r, n_r, c_r, b_r, m_r, d_r, rfl, o_ra, o_rb, ap_r, st⟩
    clear X_w_1 X_w_2 X_w_3 X_w_4
    replace X_w := X_w.below st (boxAt_lt X_w)
    replace o_l := o_l.below st (Nat.le_refl _)
    replace o_wa := o_wa.below st (Nat.le_refl _)
    replace o_wb := o_wb.below st (Nat.le_refl _)
    replace hB := hB.trans (st.mono hB.size)
    clear st
    have st : Below v4.heap.size v4 (v4.alloc (.cells #[.slice a_r n_r c_r, .slice b_r m_r d_r] 27)) := (Below.refl _ _).alloc (Nat.le_refl _) _
    have X_r : BoxAt (v4.alloc (.cells #[.slice a_r n_r c_r, .slice b_r m_r d_r] 27)) v4.heap.size (.slice a_r n_r c_r) (.slice b_r m_r d_r) := boxAt_new _ _ _ _
    obtain ⟨X_w_1, X_w_2, X_w_3, X_w_4⟩ := id X_w
    have X_w_n := X_w.below st (boxAt_lt X_w)
    obtain ⟨X_w_5, X_w_6, X_w_7, X_w_8⟩ := id X_w_n
    go_wp2_with fail
    clear X_w_1 X_w_2 X_w_3 X_w_4
    clear X_w_5 X_w_6 X_w_7 X_w_8
    clear X_w_n
    generalize v4.alloc (.cells #[.slice a_r n_r c_r, .slice b_r m_r d_r] 27) = v5 at *
    replace X_w := X_w.below st (boxAt_lt X_w)
    replace o_l := o_l.below st (Nat.le_refl _)
    replace o_wa := o_wa.below st (Nat.le_refl _)
    replace o_wb := o_wb.below st (Nat.le_refl _)
    replace o_ra := o_ra.below st (Nat.le_refl _)
    replace o_rb := o_rb.below st (Nat.le_refl _)
    replace hB := hB.trans (st.mono hB.size)
    clear st
    obtain ⟨X_w_1, X_w_2, X_w_3, X_w_4⟩ := id X_w
    obtain ⟨X_r_1, X_r_2, X_r_3, X_r_4⟩ := id X_r
    go_wp2_with fail
    refine (wSameWalk_any _ _ _ _ _ _ _ _ _ _ _ _ _ _ _ _ _ o_wa.has o_wb.has o_ra.has o_rb.has).mono ?_
    rintro e v6 ⟨rfl, st⟩
    clear X_w_1 X_w_2 X_w_3 X_w_4 X_r_1 X_r_2 X_r_3 X_r_4
    replace X_w := X_w.below st (boxAt_lt X_w)
    replace X_r := X_r.below st (boxAt_lt X_r)
    replace o_l := o_l.below st (Nat.le_refl _)
    replace o_wa := o_wa.below st (Nat.le_refl _)
    replace o_wb := o_wb.below st (Nat.le_refl _)
    replace o_ra := o_ra.below st (Nat.le_refl _)
    replace o_rb := o_rb.below st (Nat.le_refl _)
    replace hB := hB.trans (st.mono hB.size)
    clear st
    rw [same_self, same_self]
    clear X_r ap_r
    clear o_ra o_rb
    obtain ⟨X_w_1, X_w_2, X_w_3, X_w_4⟩ := id X_w
    go_wp2_with fail
    refine (wParkW_any _ _ _ _ _ o_l.has).mono ?_
    rw [HPK.out]
    rintro e v7 ⟨rfl, st⟩
    clear X_w_1 X_w_2 X_w_3 X_w_4
    replace X_w := X_w.below st (boxAt_lt X_w)
    replace o_l := o_l.below st (Nat.le_refl _)
    replace o_wa := o_wa.below st (Nat.le_refl _)
    replace o_wb := o_wb.below st (Nat.le_refl _)
    replace hB := hB.trans (st.mono hB.size)
    clear st
    obtain ⟨X_w_1, X_w_2, X_w_3, X_w_4⟩ := id X_w
    go_wp2_with fail
    refine (drawWParkingOfWalk_any b m cap' _ (HM.out.grow hB (Nat.le_refl _))).mono ?_
    rintro e v8 ⟨a_v, n_v, c_v, b_v, m_v, d_v, rfl, gs, ks, o_va, o_vb, ap_v, hv9, hv8, st⟩
    clear X_w_1 X_w_2 X_w_3 X_w_4
    replace X_w := X_w.below st (boxAt_lt X_w)
    replace o_l := o_l.below st (Nat.le_refl _)
    replace o_wa := o_wa.below st (Nat.le_refl _)
    replace o_wb := o_wb.below st (Nat.le_refl _)
    replace hB := hB.trans (st.mono hB.size)
    clear st
    have st : Below v8.heap.size v8 (v8.alloc (.cells #[.slice a_v n_v c_v, .slice b_v m_v d_v] 27)) := (Below.refl _ _).alloc (Nat.le_refl _) _
    have X_v : BoxAt (v8.alloc (.cells #[.slice a_v n_v c_v, .slice b_v m_v d_v] 27)) v8.heap.size (.slice a_v n_v c_v) (.slice b_v m_v d_v) := boxAt_new _ _ _ _
    obtain ⟨X_w_1, X_w_2, X_w_3, X_w_4⟩ := id X_w
    have X_w_n := X_w.below st (boxAt_lt X_w)
    obtain ⟨X_w_5, X_w_6, X_w_7, X_w_8⟩ := id X_w_n
    go_wp2_with fail
    clear X_w_1 X_w_2 X_w_3 X_w_4
    clear X_w_5 X_w_6 X_w_7 X_w_8
    clear X_w_n
    generalize v8.alloc (.cells #[.slice a_v n_v c_v, .slice b_v m_v d_v] 27) = v9 at *
    replace X_w := X_w.below st (boxAt_lt X_w)
    replace o_l := o_l.below st (Nat.le_refl _)
    replace o_wa := o_wa.below st (Nat.le_refl _)
    replace o_wb := o_wb.below st (Nat.le_refl _)
    replace o_va := o_va.below st (Nat.le_refl _)
    replace o_vb := o_vb.below st (Nat.le_refl _)
    replace hB := hB.trans (st.mono hB.size)
    clear st
    obtain ⟨ps, told, f1, f2, f3⟩ := walkp_facts gs ks
    have HPW := hid f1
    have HWB := hid f2
    have HFV := hid f3
    have htt : (told != told) = false := by cases told <;> rfl
    clear f1 f2 f3
    obtain ⟨X_w_1, X_w_2, X_w_3, X_w_4⟩ := id X_w
    obtain ⟨X_v_1, X_v_2, X_v_3, X_v_4⟩ := id X_v
    go_wp2_with fail
    refine (implParkW_any _ _ _ _ _ _ _ _ _ o_va.has o_vb.has).mono ?_
    rw [HPW.out]
    rintro e v10 ⟨a_p, n_p, c_p, rfl, o_p, st⟩
    clear X_w_1 X_w_2 X_w_3 X_w_4 X_v_1 X_v_2 X_v_3 X_v_4
    replace X_w := X_w.below st (boxAt_lt X_w)
    replace X_v := X_v.below st (boxAt_lt X_v)
    replace o_l := o_l.below st (Nat.le_refl _)
    replace o_wa := o_wa.below st (Nat.le_refl _)
    replace o_wb := o_wb.below st (Nat.le_refl _)
    replace o_va := o_va.below st (Nat.le_refl _)
    replace o_vb := o_vb.below st (Nat.le_refl _)
    replace hB := hB.trans (st.mono hB.size)
    clear st
    obtain ⟨X_w_1, X_w_2, X_w_3, X_w_4⟩ := id X_w
    obtain ⟨X_v_1, X_v_2, X_v_3, X_v_4⟩ := id X_v
    go_wp2_with fail
    refine (specParkW_any _ _ _ _ _ _ _ _ _ o_va.has o_vb.has).mono ?_
    rw [HPW.out]
    rintro e v11 ⟨a_q, n_q, c_q, rfl, o_q, st⟩
    clear X_w_1 X_w_2 X_w_3 X_w_4 X_v_1 X_v_2 X_v_3 X_v_4
    replace X_w := X_w.below st (boxAt_lt X_w)
    replace X_v := X_v.below st (boxAt_lt X_v)
    replace o_l := o_l.below st (Nat.le_refl _)
    replace o_wa := o_wa.below st (Nat.le_refl _)
    replace o_wb := o_wb.below st (Nat.le_refl _)
    replace o_va := o_va.below st (Nat.le_refl _)
    replace o_vb := o_vb.below st (Nat.le_refl _)
    replace o_p := o_p.below st (Nat.le_refl _)
    replace hB := hB.trans (st.mono hB.size)
    clear st
    obtain ⟨X_w_1, X_w_2, X_w_3, X_w_4⟩ := id X_w
    obtain ⟨X_v_1, X_v_2, X_v_3, X_v_4⟩ := id X_v
    go_wp2_with fail
    refine (wSame_any _ _ _ _ _ _ _ _ _ o_p.has o_q.has).mono ?_
    rintro e v12 ⟨rfl, q⟩
    clear X_w_1 X_w_2 X_w_3 X_w_4 X_v_1 X_v_2 X_v_3 X_v_4
    have st : Below v11.heap.size v11 v12 := q.below _
    replace X_w := X_w.below st (boxAt_lt X_w)
    replace X_v := X_v.below st (boxAt_lt X_v)
    replace o_l := o_l.below st (Nat.le_refl _)
    replace o_wa := o_wa.below st (Nat.le_refl _)
    replace o_wb := o_wb.below st (Nat.le_refl _)
    replace o_va := o_va.below st (Nat.le_refl _)
    replace o_vb := o_vb.below st (Nat.le_refl _)
    replace o_p := o_p.below st (Nat.le_refl _)
    replace o_q := o_q.below st (Nat.le_refl _)
    replace hB := hB.trans (st.mono hB.size)
    clear st
    clear q
    rw [same_self]
    clear o_q
    obtain ⟨X_w_1, X_w_2, X_w_3, X_w_4⟩ := id X_w
    obtain ⟨X_v_1, X_v_2, X_v_3, X_v_4⟩ := id X_v
    go_wp2_with fail
    refine (implIsWalk_any _ _ _ _ _ _ _ _ _ o_va.has o_vb.has).mono ?_
    rw [HWB.out]
    rintro e v13 ⟨rfl, st⟩
    clear X_w_1 X_w_2 X_w_3 X_w_4 X_v_1 X_v_2 X_v_3 X_v_4
    replace X_w := X_w.below st (boxAt_lt X_w)
    replace X_v := X_v.below st (boxAt_lt X_v)
    replace o_l := o_l.below st (Nat.le_refl _)
    replace o_wa := o_wa.below st (Nat.le_refl _)
    replace o_wb := o_wb.below st (Nat.le_refl _)
    replace o_va := o_va.below st (Nat.le_refl _)
    replace o_vb := o_vb.below st (Nat.le_refl _)
    replace o_p := o_p.below st (Nat.le_refl _)
    replace hB := hB.trans (st.mono hB.size)
    clear st
    cases told
    · skip
      cases ok
      · skip
        obtain ⟨X_w_1, X_w_2, X_w_3, X_w_4⟩ := id X_w
        obtain ⟨X_v_1, X_v_2, X_v_3, X_v_4⟩ := id X_v
        go_wp2_with fail
        go_ret
        exact ⟨rfl, hB⟩
      · skip
        obtain ⟨ar, ts, q, f1, f2, f3, f4, f5, f6, f7, f8, f9, f10, f11, f12, f13, f14, f15⟩ := HF.out rfl
        have HPO := hid f1
        have HAR := hid f2
        have HTS := hid f3
        have HCU := hid f4
        have HHG := hid f5
        have HA0 := hid f7
        have HTD := hid f8
        have HQ := hid f9
        have HAQ := hid f10
        have HBX := hid f15
        rw [HLL.out] at f6
        clear f1 f2 f3 f4 f5 f7 f8 f9 f10 f15
        obtain ⟨X_w_1, X_w_2, X_w_3, X_w_4⟩ := id X_w
        obtain ⟨X_v_1, X_v_2, X_v_3, X_v_4⟩ := id X_v
        go_wp2_with fail
        refine (implParkW_any _ _ _ _ _ _ _ _ _ o_wa.has o_wb.has).mono ?_
        rw [HPO.out]
        rintro e v14 ⟨a_b, n_b, c_b, rfl, o_b, st⟩
        clear X_w_1 X_w_2 X_w_3 X_w_4 X_v_1 X_v_2 X_v_3 X_v_4
        replace X_w := X_w.below st (boxAt_lt X_w)
        replace X_v := X_v.below st (boxAt_lt X_v)
        replace o_l := o_l.below st (Nat.le_refl _)
        replace o_wa := o_wa.below st (Nat.le_refl _)
        replace o_wb := o_wb.below st (Nat.le_refl _)
        replace o_va := o_va.below st (Nat.le_refl _)
        replace o_vb := o_vb.below st (Nat.le_refl _)
        replace o_p := o_p.below st (Nat.le_refl _)
        replace hB := hB.trans (st.mono hB.size)
        clear st
        obtain ⟨X_w_1, X_w_2, X_w_3, X_w_4⟩ := id X_w
        obtain ⟨X_v_1, X_v_2, X_v_3, X_v_4⟩ := id X_v
        go_wp2_with fail
        refine (implArea_any _ _ _ _ _ _ _ _ _ o_wa.has o_wb.has).mono ?_
        rw [HAR.out]
        rintro e v15 ⟨rfl, st⟩
        clear X_w_1 X_w_2 X_w_3 X_w_4 X_v_1 X_v_2 X_v_3 X_v_4
        replace X_w := X_w.below st (boxAt_lt X_w)
        replace X_v := X_v.below st (boxAt_lt X_v)
        replace o_l := o_l.below st (Nat.le_refl _)
        replace o_wa := o_wa.below st (Nat.le_refl _)
        replace o_wb := o_wb.below st (Nat.le_refl _)
        replace o_va := o_va.below st (Nat.le_refl _)
        replace o_vb := o_vb.below st (Nat.le_refl _)
        replace o_p := o_p.below st (Nat.le_refl _)
        replace o_b := o_b.below st (Nat.le_refl _)
        replace hB := hB.trans (st.mono hB.size)
        clear st
        obtain ⟨X_w_1, X_w_2, X_w_3, X_w_4⟩ := id X_w
        obtain ⟨X_v_1, X_v_2, X_v_3, X_v_4⟩ := id X_v
        go_wp2_with fail
        refine (implTouches_any _ _ _ _ _ _ _ _ _ o_wa.has o_wb.has).mono ?_
        rw [HTS.out]
        rintro e v16 ⟨a_t, n_t, c_t, rfl, o_t, st⟩
        clear X_w_1 X_w_2 X_w_3 X_w_4 X_v_1 X_v_2 X_v_3 X_v_4
        replace X_w := X_w.below st (boxAt_lt X_w)
        replace X_v := X_v.below st (boxAt_lt X_v)
        replace o_l := o_l.below st (Nat.le_refl _)
        replace o_wa := o_wa.below st (Nat.le_refl _)
        replace o_wb := o_wb.below st (Nat.le_refl _)
        replace o_va := o_va.below st (Nat.le_refl _)
        replace o_vb := o_vb.below st (Nat.le_refl _)
        replace o_p := o_p.below st (Nat.le_refl _)
        replace o_b := o_b.below st (Nat.le_refl _)
        replace hB := hB.trans (st.mono hB.size)
        clear st
        obtain ⟨X_w_1, X_w_2, X_w_3, X_w_4⟩ := id X_w
        obtain ⟨X_v_1, X_v_2, X_v_3, X_v_4⟩ := id X_v
        go_wp2_with fail
        refine (cutsOf_any _ _ _ _ _ o_l.has).mono ?_
        rw [HCU.out]
        rintro e v17 ⟨a_c, n_c, c_c, rfl, o_c, st⟩
        clear X_w_1 X_w_2 X_w_3 X_w_4 X_v_1 X_v_2 X_v_3 X_v_4
        replace X_w := X_w.below st (boxAt_lt X_w)
        replace X_v := X_v.below st (boxAt_lt X_v)
        replace o_l := o_l.below st (Nat.le_refl _)
        replace o_wa := o_wa.below st (Nat.le_refl _)
        replace o_wb := o_wb.below st (Nat.le_refl _)
        replace o_va := o_va.below st (Nat.le_refl _)
        replace o_vb := o_vb.below st (Nat.le_refl _)
        replace o_p := o_p.below st (Nat.le_refl _)
        replace o_b := o_b.below st (Nat.le_refl _)
        replace o_t := o_t.below st (Nat.le_refl _)
        replace hB := hB.trans (st.mono hB.size)
        clear st
        obtain ⟨X_w_1, X_w_2, X_w_3, X_w_4⟩ := id X_w
        obtain ⟨X_v_1, X_v_2, X_v_3, X_v_4⟩ := id X_v
        go_wp2_with fail
        refine (wSame_any _ _ _ _ _ _ _ _ _ o_b.has o_l.has).mono ?_
        rintro e v18 ⟨rfl, q⟩
        clear X_w_1 X_w_2 X_w_3 X_w_4 X_v_1 X_v_2 X_v_3 X_v_4
        have st : Below v17.heap.size v17 v18 := q.below _
        replace X_w := X_w.below st (boxAt_lt X_w)
        replace X_v := X_v.below st (boxAt_lt X_v)
        replace o_l := o_l.below st (Nat.le_refl _)
        replace o_wa := o_wa.below st (Nat.le_refl _)
        replace o_wb := o_wb.below st (Nat.le_refl _)
        replace o_va := o_va.below st (Nat.le_refl _)
        replace o_vb := o_vb.below st (Nat.le_refl _)
        replace o_p := o_p.below st (Nat.le_refl _)
        replace o_b := o_b.below st (Nat.le_refl _)
        replace o_t := o_t.below st (Nat.le_refl _)
        replace o_c := o_c.below st (Nat.le_refl _)
        replace hB := hB.trans (st.mono hB.size)
        clear st
        clear q
        rw [same_self]
        clear o_b
        obtain ⟨X_w_1, X_w_2, X_w_3, X_w_4⟩ := id X_w
        obtain ⟨X_v_1, X_v_2, X_v_3, X_v_4⟩ := id X_v
        go_wp2_with fail
        refine (wSame_any _ _ _ _ _ _ _ _ _ o_t.has o_c.has).mono ?_
        rintro e v19 ⟨rfl, q⟩
        clear X_w_1 X_w_2 X_w_3 X_w_4 X_v_1 X_v_2 X_v_3 X_v_4
        have st : Below v18.heap.size v18 v19 := q.below _
        replace X_w := X_w.below st (boxAt_lt X_w)
        replace X_v := X_v.below st (boxAt_lt X_v)
        replace o_l := o_l.below st (Nat.le_refl _)
        replace o_wa := o_wa.below st (Nat.le_refl _)
        replace o_wb := o_wb.below st (Nat.le_refl _)
        replace o_va := o_va.below st (Nat.le_refl _)
        replace o_vb := o_vb.below st (Nat.le_refl _)
        replace o_p := o_p.below st (Nat.le_refl _)
        replace o_t := o_t.below st (Nat.le_refl _)
        replace o_c := o_c.below st (Nat.le_refl _)
        replace hB := hB.trans (st.mono hB.size)
        clear st
        clear q
        rw [same_self]
        clear o_t o_c
        obtain ⟨X_w_1, X_w_2, X_w_3, X_w_4⟩ := id X_w
        obtain ⟨X_v_1, X_v_2, X_v_3, X_v_4⟩ := id X_v
        go_wp2_with fail
        refine (implAreHeights_any _ _ _ _ _ o_wa.has).mono ?_
        rw [HHG.out]
        rintro e v20 ⟨rfl, st⟩
        clear X_w_1 X_w_2 X_w_3 X_w_4 X_v_1 X_v_2 X_v_3 X_v_4
        replace X_w := X_w.below st (boxAt_lt X_w)
        replace X_v := X_v.below st (boxAt_lt X_v)
        replace o_l := o_l.below st (Nat.le_refl _)
        replace o_wa := o_wa.below st (Nat.le_refl _)
        replace o_wb := o_wb.below st (Nat.le_refl _)
        replace o_va := o_va.below st (Nat.le_refl _)
        replace o_vb := o_vb.below st (Nat.le_refl _)
        replace o_p := o_p.below st (Nat.le_refl _)
        replace hB := hB.trans (st.mono hB.size)
        clear st
        by_cases hz : n_l = 0
        · skip
          have har := HA0.out (by rw [HLL.out]; exact hz)
          subst har
          subst hz
          have h00 : ((0 : Int) == 0) = true := rfl
          obtain ⟨X_w_1, X_w_2, X_w_3, X_w_4⟩ := id X_w
          obtain ⟨X_v_1, X_v_2, X_v_3, X_v_4⟩ := id X_v
          go_wp2_with fail
          go_ret
          exact ⟨rfl, hB⟩
        · skip
          have hz0 : ((n_l : Int) == 0) = false := by simp; exact hz
          have HTD2 := hid (HTD.out (by rw [HLL.out]; omega))
          rw [HLL.out] at HTD2
          have HQ2 := hid HQ.out
          rw [HLL.out] at HQ2
          have hmul := HQ2.out
          have hw1 : IntKind.i64.wrap ((n_l : Int) - 1) = (n_l : Int) - 1 := by clear hmul; rw [IntKind.wrap_i64]; omega
          have hw2 : IntKind.i64.wrap (2 * q) = 2 * q := by clear hmul; rw [IntKind.wrap_i64]; omega
          have hd1 : (2 * q).tdiv 2 = q := by clear hmul hw1 hw2; rw [Int.tdiv_eq_ediv_of_nonneg (by omega)]; omega
          have hw3 : IntKind.i64.wrap q = q := by clear hmul; rw [IntKind.wrap_i64]; omega
          obtain ⟨T, hT⟩ : ∃ T, total xs = T := ⟨_, rfl⟩
          have HT := hid hT
          have hra := HAQ.out
          rw [hT] at hra
          have hw4 : IntKind.i64.wrap (q - T) = q - T := by clear hmul; rw [IntKind.wrap_i64]; omega
          have hae : (ar == ar) = true := by simp
          have haq : (ar == q - T) = true := by simp [hra]
          clear hT
          obtain ⟨X_w_1, X_w_2, X_w_3, X_w_4⟩ := id X_w
          obtain ⟨X_v_1, X_v_2, X_v_3, X_v_4⟩ := id X_v
          go_wp2_with fail
          refine (totalDistance_any _ _ _ _ _ _ o_l.has).mono ?_
          rw [HTD2.out]
          rintro e v21 ⟨rfl, st⟩
          clear X_w_1 X_w_2 X_w_3 X_w_4 X_v_1 X_v_2 X_v_3 X_v_4
          replace X_w := X_w.below st (boxAt_lt X_w)
          replace X_v := X_v.below st (boxAt_lt X_v)
          replace o_l := o_l.below st (Nat.le_refl _)
          replace o_wa := o_wa.below st (Nat.le_refl _)
          replace o_wb := o_wb.below st (Nat.le_refl _)
          replace o_va := o_va.below st (Nat.le_refl _)
          replace o_vb := o_vb.below st (Nat.le_refl _)
          replace o_p := o_p.below st (Nat.le_refl _)
          replace hB := hB.trans (st.mono hB.size)
          clear st
          obtain ⟨X_w_1, X_w_2, X_w_3, X_w_4⟩ := id X_w
          obtain ⟨X_v_1, X_v_2, X_v_3, X_v_4⟩ := id X_v
          go_wp2_with fail
          refine (wSumX_any _ _ _ _ _ o_l.has (by omega) (fun i hi => HBX.out i (by rw [HLL.out]; exact hi))).mono ?_
          rw [HT.out]
          rintro e _ ⟨rfl, rfl⟩
          clear X_w_1 X_w_2 X_w_3 X_w_4 X_v_1 X_v_2 X_v_3 X_v_4
          obtain ⟨X_w_1, X_w_2, X_w_3, X_w_4⟩ := id X_w
          obtain ⟨X_v_1, X_v_2, X_v_3, X_v_4⟩ := id X_v
          go_wp2_with fail
          go_ret
          exact ⟨rfl, hB⟩
    · skip
      have HW2 := hid (HFV.out rfl)
      obtain ⟨X_w_1, X_w_2, X_w_3, X_w_4⟩ := id X_w
      obtain ⟨X_v_1, X_v_2, X_v_3, X_v_4⟩ := id X_v
      go_wp2_with fail
      refine (implWalkOf_any _ _ _ _ _ o_p.has).mono ?_
      rw [HW2.out]
      rintro e v14 ⟨a_g, n_g, c_g, b_g, m_g, d_g, rfl, o_ga, o_gb, ap_g, st⟩
      clear X_w_1 X_w_2 X_w_3 X_w_4 X_v_1 X_v_2 X_v_3 X_v_4
      replace X_w := X_w.below st (boxAt_lt X_w)
      replace X_v := X_v.below st (boxAt_lt X_v)
      replace o_l := o_l.below st (Nat.le_refl _)
      replace o_wa := o_wa.below st (Nat.le_refl _)
      replace o_wb := o_wb.below st (Nat.le_refl _)
      replace o_va := o_va.below st (Nat.le_refl _)
      replace o_vb := o_vb.below st (Nat.le_refl _)
      replace o_p := o_p.below st (Nat.le_refl _)
      replace hB := hB.trans (st.mono hB.size)
      clear st
      have st : Below v14.heap.size v14 (v14.alloc (.cells #[.slice a_g n_g c_g, .slice b_g m_g d_g] 27)) := (Below.refl _ _).alloc (Nat.le_refl _) _
      have X_g : BoxAt (v14.alloc (.cells #[.slice a_g n_g c_g, .slice b_g m_g d_g] 27)) v14.heap.size (.slice a_g n_g c_g) (.slice b_g m_g d_g) := boxAt_new _ _ _ _
      obtain ⟨X_w_1, X_w_2, X_w_3, X_w_4⟩ := id X_w
      obtain ⟨X_v_1, X_v_2, X_v_3, X_v_4⟩ := id X_v
      have X_w_n := X_w.below st (boxAt_lt X_w)
      obtain ⟨X_w_5, X_w_6, X_w_7, X_w_8⟩ := id X_w_n
      have X_v_n := X_v.below st (boxAt_lt X_v)
      obtain ⟨X_v_5, X_v_6, X_v_7, X_v_8⟩ := id X_v_n
      go_wp2_with fail
      clear X_w_1 X_w_2 X_w_3 X_w_4 X_v_1 X_v_2 X_v_3 X_v_4
      clear X_w_5 X_w_6 X_w_7 X_w_8 X_v_5 X_v_6 X_v_7 X_v_8
      clear X_w_n X_v_n
      generalize v14.alloc (.cells #[.slice a_g n_g c_g, .slice b_g m_g d_g] 27) = v15 at *
      replace X_w := X_w.below st (boxAt_lt X_w)
      replace X_v := X_v.below st (boxAt_lt X_v)
      replace o_l := o_l.below st (Nat.le_refl _)
      replace o_wa := o_wa.below st (Nat.le_refl _)
      replace o_wb := o_wb.below st (Nat.le_refl _)
      replace o_va := o_va.below st (Nat.le_refl _)
      replace o_vb := o_vb.below st (Nat.le_refl _)
      replace o_p := o_p.below st (Nat.le_refl _)
      replace o_ga := o_ga.below st (Nat.le_refl _)
      replace o_gb := o_gb.below st (Nat.le_refl _)
      replace hB := hB.trans (st.mono hB.size)
      clear st
      obtain ⟨X_w_1, X_w_2, X_w_3, X_w_4⟩ := id X_w
      obtain ⟨X_v_1, X_v_2, X_v_3, X_v_4⟩ := id X_v
      obtain ⟨X_g_1, X_g_2, X_g_3, X_g_4⟩ := id X_g
      go_wp2_with fail
      refine (wSameWalk_any _ _ _ _ _ _ _ _ _ _ _ _ _ _ _ _ _ o_ga.has o_gb.has o_va.has o_vb.has).mono ?_
      rintro e v16 ⟨rfl, st⟩
      clear X_w_1 X_w_2 X_w_3 X_w_4 X_v_1 X_v_2 X_v_3 X_v_4 X_g_1 X_g_2 X_g_3 X_g_4
      replace X_w := X_w.below st (boxAt_lt X_w)
      replace X_v := X_v.below st (boxAt_lt X_v)
      replace X_g := X_g.below st (boxAt_lt X_g)
      replace o_l := o_l.below st (Nat.le_refl _)
      replace o_wa := o_wa.below st (Nat.le_refl _)
      replace o_wb := o_wb.below st (Nat.le_refl _)
      replace o_va := o_va.below st (Nat.le_refl _)
      replace o_vb := o_vb.below st (Nat.le_refl _)
      replace o_p := o_p.below st (Nat.le_refl _)
      replace o_ga := o_ga.below st (Nat.le_refl _)
      replace o_gb := o_gb.below st (Nat.le_refl _)
      replace hB := hB.trans (st.mono hB.size)
      clear st
      rw [same_self, same_self]
      clear X_g ap_g
      clear o_ga o_gb
      cases ok
      · skip
        obtain ⟨X_w_1, X_w_2, X_w_3, X_w_4⟩ := id X_w
        obtain ⟨X_v_1, X_v_2, X_v_3, X_v_4⟩ := id X_v
        go_wp2_with fail
        go_ret
        exact ⟨rfl, hB⟩
      · skip
        obtain ⟨ar, ts, q, f1, f2, f3, f4, f5, f6, f7, f8, f9, f10, f11, f12, f13, f14, f15⟩ := HF.out rfl
        have HPO := hid f1
        have HAR := hid f2
        have HTS := hid f3
        have HCU := hid f4
        have HHG := hid f5
        have HA0 := hid f7
        have HTD := hid f8
        have HQ := hid f9
        have HAQ := hid f10
        have HBX := hid f15
        rw [HLL.out] at f6
        clear f1 f2 f3 f4 f5 f7 f8 f9 f10 f15
        obtain ⟨X_w_1, X_w_2, X_w_3, X_w_4⟩ := id X_w
        obtain ⟨X_v_1, X_v_2, X_v_3, X_v_4⟩ := id X_v
        go_wp2_with fail
        refine (implParkW_any _ _ _ _ _ _ _ _ _ o_wa.has o_wb.has).mono ?_
        rw [HPO.out]
        rintro e v17 ⟨a_b, n_b, c_b, rfl, o_b, st⟩
        clear X_w_1 X_w_2 X_w_3 X_w_4 X_v_1 X_v_2 X_v_3 X_v_4
        replace X_w := X_w.below st (boxAt_lt X_w)
        replace X_v := X_v.below st (boxAt_lt X_v)
        replace o_l := o_l.below st (Nat.le_refl _)
        replace o_wa := o_wa.below st (Nat.le_refl _)
        replace o_wb := o_wb.below st (Nat.le_refl _)
        replace o_va := o_va.below st (Nat.le_refl _)
        replace o_vb := o_vb.below st (Nat.le_refl _)
        replace o_p := o_p.below st (Nat.le_refl _)
        replace hB := hB.trans (st.mono hB.size)
        clear st
        obtain ⟨X_w_1, X_w_2, X_w_3, X_w_4⟩ := id X_w
        obtain ⟨X_v_1, X_v_2, X_v_3, X_v_4⟩ := id X_v
        go_wp2_with fail
        refine (implArea_any _ _ _ _ _ _ _ _ _ o_wa.has o_wb.has).mono ?_
        rw [HAR.out]
        rintro e v18 ⟨rfl, st⟩
        clear X_w_1 X_w_2 X_w_3 X_w_4 X_v_1 X_v_2 X_v_3 X_v_4
        replace X_w := X_w.below st (boxAt_lt X_w)
        replace X_v := X_v.below st (boxAt_lt X_v)
        replace o_l := o_l.below st (Nat.le_refl _)
        replace o_wa := o_wa.below st (Nat.le_refl _)
        replace o_wb := o_wb.below st (Nat.le_refl _)
        replace o_va := o_va.below st (Nat.le_refl _)
        replace o_vb := o_vb.below st (Nat.le_refl _)
        replace o_p := o_p.below st (Nat.le_refl _)
        replace o_b := o_b.below st (Nat.le_refl _)
        replace hB := hB.trans (st.mono hB.size)
        clear st
        obtain ⟨X_w_1, X_w_2, X_w_3, X_w_4⟩ := id X_w
        obtain ⟨X_v_1, X_v_2, X_v_3, X_v_4⟩ := id X_v
        go_wp2_with fail
        refine (implTouches_any _ _ _ _ _ _ _ _ _ o_wa.has o_wb.has).mono ?_
        rw [HTS.out]
        rintro e v19 ⟨a_t, n_t, c_t, rfl, o_t, st⟩
        clear X_w_1 X_w_2 X_w_3 X_w_4 X_v_1 X_v_2 X_v_3 X_v_4
        replace X_w := X_w.below st (boxAt_lt X_w)
        replace X_v := X_v.below st (boxAt_lt X_v)
        replace o_l := o_l.below st (Nat.le_refl _)
        replace o_wa := o_wa.below st (Nat.le_refl _)
        replace o_wb := o_wb.below st (Nat.le_refl _)
        replace o_va := o_va.below st (Nat.le_refl _)
        replace o_vb := o_vb.below st (Nat.le_refl _)
        replace o_p := o_p.below st (Nat.le_refl _)
        replace o_b := o_b.below st (Nat.le_refl _)
        replace hB := hB.trans (st.mono hB.size)
        clear st
        obtain ⟨X_w_1, X_w_2, X_w_3, X_w_4⟩ := id X_w
        obtain ⟨X_v_1, X_v_2, X_v_3, X_v_4⟩ := id X_v
        go_wp2_with fail
        refine (cutsOf_any _ _ _ _ _ o_l.has).mono ?_
        rw [HCU.out]
        rintro e v20 ⟨a_c, n_c, c_c, rfl, o_c, st⟩
        clear X_w_1 X_w_2 X_w_3 X_w_4 X_v_1 X_v_2 X_v_3 X_v_4
        replace X_w := X_w.below st (boxAt_lt X_w)
        replace X_v := X_v.below st (boxAt_lt X_v)
        replace o_l := o_l.below st (Nat.le_refl _)
        replace o_wa := o_wa.below st (Nat.le_refl _)
        replace o_wb := o_wb.below st (Nat.le_refl _)
        replace o_va := o_va.below st (Nat.le_refl _)
        replace o_vb := o_vb.below st (Nat.le_refl _)
        replace o_p := o_p.below st (Nat.le_refl _)
        replace o_b := o_b.below st (Nat.le_refl _)
        replace o_t := o_t.below st (Nat.le_refl _)
        replace hB := hB.trans (st.mono hB.size)
        clear st
        obtain ⟨X_w_1, X_w_2, X_w_3, X_w_4⟩ := id X_w
        obtain ⟨X_v_1, X_v_2, X_v_3, X_v_4⟩ := id X_v
        go_wp2_with fail
        refine (wSame_any _ _ _ _ _ _ _ _ _ o_b.has o_l.has).mono ?_
        rintro e v21 ⟨rfl, q⟩
        clear X_w_1 X_w_2 X_w_3 X_w_4 X_v_1 X_v_2 X_v_3 X_v_4
        have st : Below v20.heap.size v20 v21 := q.below _
        replace X_w := X_w.below st (boxAt_lt X_w)
        replace X_v := X_v.below st (boxAt_lt X_v)
        replace o_l := o_l.below st (Nat.le_refl _)
        replace o_wa := o_wa.below st (Nat.le_refl _)
        replace o_wb := o_wb.below st (Nat.le_refl _)
        replace o_va := o_va.below st (Nat.le_refl _)
        replace o_vb := o_vb.below st (Nat.le_refl _)
        replace o_p := o_p.below st (Nat.le_refl _)
        replace o_b := o_b.below st (Nat.le_refl _)
        replace o_t := o_t.below st (Nat.le_refl _)
        replace o_c := o_c.below st (Nat.le_refl _)
        replace hB := hB.trans (st.mono hB.size)
        clear st
        clear q
        rw [same_self]
        clear o_b
        obtain ⟨X_w_1, X_w_2, X_w_3, X_w_4⟩ := id X_w
        obtain ⟨X_v_1, X_v_2, X_v_3, X_v_4⟩ := id X_v
        go_wp2_with fail
        refine (wSame_any _ _ _ _ _ _ _ _ _ o_t.has o_c.has).mono ?_
        rintro e v22 ⟨rfl, q⟩
        clear X_w_1 X_w_2 X_w_3 X_w_4 X_v_1 X_v_2 X_v_3 X_v_4
        have st : Below v21.heap.size v21 v22 := q.below _
        replace X_w := X_w.below st (boxAt_lt X_w)
        replace X_v := X_v.below st (boxAt_lt X_v)
        replace o_l := o_l.below st (Nat.le_refl _)
        replace o_wa := o_wa.below st (Nat.le_refl _)
        replace o_wb := o_wb.below st (Nat.le_refl _)
        replace o_va := o_va.below st (Nat.le_refl _)
        replace o_vb := o_vb.below st (Nat.le_refl _)
        replace o_p := o_p.below st (Nat.le_refl _)
        replace o_t := o_t.below st (Nat.le_refl _)
        replace o_c := o_c.below st (Nat.le_refl _)
        replace hB := hB.trans (st.mono hB.size)
        clear st
        clear q
        rw [same_self]
        clear o_t o_c
        obtain ⟨X_w_1, X_w_2, X_w_3, X_w_4⟩ := id X_w
        obtain ⟨X_v_1, X_v_2, X_v_3, X_v_4⟩ := id X_v
        go_wp2_with fail
        refine (implAreHeights_any _ _ _ _ _ o_wa.has).mono ?_
        rw [HHG.out]
        rintro e v23 ⟨rfl, st⟩
        clear X_w_1 X_w_2 X_w_3 X_w_4 X_v_1 X_v_2 X_v_3 X_v_4
        replace X_w := X_w.below st (boxAt_lt X_w)
        replace X_v := X_v.below st (boxAt_lt X_v)
        replace o_l := o_l.below st (Nat.le_refl _)
        replace o_wa := o_wa.below st (Nat.le_refl _)
        replace o_wb := o_wb.below st (Nat.le_refl _)
        replace o_va := o_va.below st (Nat.le_refl _)
        replace o_vb := o_vb.below st (Nat.le_refl _)
        replace o_p := o_p.below st (Nat.le_refl _)
        replace hB := hB.trans (st.mono hB.size)
        clear st
        by_cases hz : n_l = 0
        · skip
          have har := HA0.out (by rw [HLL.out]; exact hz)
          subst har
          subst hz
          have h00 : ((0 : Int) == 0) = true := rfl
          obtain ⟨X_w_1, X_w_2, X_w_3, X_w_4⟩ := id X_w
          obtain ⟨X_v_1, X_v_2, X_v_3, X_v_4⟩ := id X_v
          go_wp2_with fail
          go_ret
          exact ⟨rfl, hB⟩
        · skip
          have hz0 : ((n_l : Int) == 0) = false := by simp; exact hz
          have HTD2 := hid (HTD.out (by rw [HLL.out]; omega))
          rw [HLL.out] at HTD2
          have HQ2 := hid HQ.out
          rw [HLL.out] at HQ2
          have hmul := HQ2.out
          have hw1 : IntKind.i64.wrap ((n_l : Int) - 1) = (n_l : Int) - 1 := by clear hmul; rw [IntKind.wrap_i64]; omega
          have hw2 : IntKind.i64.wrap (2 * q) = 2 * q := by clear hmul; rw [IntKind.wrap_i64]; omega
          have hd1 : (2 * q).tdiv 2 = q := by clear hmul hw1 hw2; rw [Int.tdiv_eq_ediv_of_nonneg (by omega)]; omega
          have hw3 : IntKind.i64.wrap q = q := by clear hmul; rw [IntKind.wrap_i64]; omega
          obtain ⟨T, hT⟩ : ∃ T, total xs = T := ⟨_, rfl⟩
          have HT := hid hT
          have hra := HAQ.out
          rw [hT] at hra
          have hw4 : IntKind.i64.wrap (q - T) = q - T := by clear hmul; rw [IntKind.wrap_i64]; omega
          have hae : (ar == ar) = true := by simp
          have haq : (ar == q - T) = true := by simp [hra]
          clear hT
          obtain ⟨X_w_1, X_w_2, X_w_3, X_w_4⟩ := id X_w
          obtain ⟨X_v_1, X_v_2, X_v_3, X_v_4⟩ := id X_v
          go_wp2_with fail
          refine (totalDistance_any _ _ _ _ _ _ o_l.has).mono ?_
          rw [HTD2.out]
          rintro e v24 ⟨rfl, st⟩
          clear X_w_1 X_w_2 X_w_3 X_w_4 X_v_1 X_v_2 X_v_3 X_v_4
          replace X_w := X_w.below st (boxAt_lt X_w)
          replace X_v := X_v.below st (boxAt_lt X_v)
          replace o_l := o_l.below st (Nat.le_refl _)
          replace o_wa := o_wa.below st (Nat.le_refl _)
          replace o_wb := o_wb.below st (Nat.le_refl _)
          replace o_va := o_va.below st (Nat.le_refl _)
          replace o_vb := o_vb.below st (Nat.le_refl _)
          replace o_p := o_p.below st (Nat.le_refl _)
          replace hB := hB.trans (st.mono hB.size)
          clear st
          obtain ⟨X_w_1, X_w_2, X_w_3, X_w_4⟩ := id X_w
          obtain ⟨X_v_1, X_v_2, X_v_3, X_v_4⟩ := id X_v
          go_wp2_with fail
          refine (wSumX_any _ _ _ _ _ o_l.has (by omega) (fun i hi => HBX.out i (by rw [HLL.out]; exact hi))).mono ?_
          rw [HT.out]
          rintro e _ ⟨rfl, rfl⟩
          clear X_w_1 X_w_2 X_w_3 X_w_4 X_v_1 X_v_2 X_v_3 X_v_4
          obtain ⟨X_w_1, X_w_2, X_w_3, X_w_4⟩ := id X_w
          obtain ⟨X_v_1, X_v_2, X_v_3, X_v_4⟩ := id X_v
          go_wp2_with fail
          go_ret
          exact ⟨rfl, hB⟩
end Go.Proofs.Ytakadjhbomggbaa

