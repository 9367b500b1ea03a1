/- The law of area and pairs alike, walked. -/
import Derived.Test.YtakadjhbomggbaaGreatLawKit
import Derived.Test.YtakadjhbomggbaaGreatSpecS
import Derived.Test.YtakadjhbomggbaaGreatMathT
import Derived.Deep.LoopGhost
import Derived.Test.YtakadjhbomggbaaGreatMathSprG
import Derived.Test.YtakadjhbomggbaaGreatMathG
import Derived.Deep.AppendLies
import Derived.Test.YtakadjhbomggbaaGreatMathL
import Derived.Test.YtakadjhbomggbaaGreatSpecB
import Derived.Test.YtakadjhbomggbaaGreatImplC
import Derived.Deep.DeepCutAuto
import Derived.Test.YtakadjhbomggbaaGreatSpecC
import Derived.Test.YtakadjhbomggbaaGreatImplD
import Derived.StillTailTactics
import Derived.Test.YtakadjhbomggbaaGreatImplUn
import Derived.Test.YtakadjhbomggbaaGreatIdx
import Derived.Test.YtakadjhbomggbaaGreatSpecAll
import Derived.Test.YtakadjhbomggbaaGreatCopy
import Derived.Test.YtakadjhbomggbaaGreatJsp
import Derived.Test.YtakadjhbomggbaaGreatMathQ
import Derived.Test.YtakadjhbomggbaaGreatSpecA
import Derived.Test.YtakadjhbomggbaaGreatImplN
import Derived.Test.YtakadjhbomggbaaGreatHelp
import Derived.Test.YtakadjhbomggbaaGreatWlk
import Derived.Test.YtakadjhbomggbaaGreatHelp2
import Derived.Test.YtakadjhbomggbaaGreatSpecR
import Derived.Test.YtakadjhbomggbaaGreatMathR
import Derived.Test.YtakadjhbomggbaaGreatAnyW
namespace Go.Proofs.YtakadjhbomggbaaGreat
open Go.RowKit

/-- A slice of bytes below block K. -/
def HasB (w : World) (a : Option Addr) (n : Nat) (K : Nat) : Prop :=
  n ≤ 1099511627776 ∧ (0 < n → ∃ b off, a = some ⟨b, off, none⟩ ∧ b < K ∧ ∀ i, i < n → ∃ u : Int, 0 ≤ u ∧ u ≤ 255 ∧ w.cell? ⟨b, off + i, none⟩ = some (.int .u8 u))

/-- The cursor in block g, that has drawn t numbers. -/
structure Cur (w : World) (g t : Nat) : Prop where
  code : ∃ a n cap, w.cell? ⟨g, 0, none⟩ = some (.slice a n cap) ∧ HasB w a n g
  pos : w.cell? ⟨g, 1, none⟩ = some (.int .i64 t)
  seed : ∃ s : Int, 0 ≤ s ∧ s ≤ 18446744073709551615 ∧ w.cell? ⟨g, 2, none⟩ = some (.int .u64 s)
  free : ∀ i, w.frozen? ⟨g, i, none⟩ = false
  lt : g < w.heap.size

theorem Cur.below {w w' : World} {g t K : Nat} (h : Cur w g t) (hb : Below K w w') (hK : g < K) : Cur w' g t := by
  obtain ⟨⟨a, n, cap, h1, h2, h3⟩, h4, ⟨s, h5, h6, h7⟩, h8, h9⟩ := h
  refine ⟨⟨a, n, cap, by rw [hb.cell (p := ⟨g, 0, none⟩) hK]; exact h1, h2, fun hn => ?_⟩, by rw [hb.cell (p := ⟨g, 1, none⟩) hK]; exact h4, ⟨s, h5, h6, by rw [hb.cell (p := ⟨g, 2, none⟩) hK]; exact h7⟩, fun i => by rw [hb.frozen (p := ⟨g, i, none⟩) hK]; exact h8 i, Nat.lt_of_lt_of_le h9 hb.size⟩
  obtain ⟨b, off, ha, hbk, hc⟩ := h3 hn
  refine ⟨b, off, ha, hbk, fun i hi => ?_⟩
  obtain ⟨u, u0, u1, hu⟩ := hc i hi
  exact ⟨u, u0, u1, by rw [hb.cell (p := ⟨b, off + i, none⟩) (by simp; omega)]; exact hu⟩

theorem cell_other' {w : World} {b c i j : Nat} {v : Value} (h : b ≠ c ∨ i ≠ j) : (w.setCell ⟨b, i, none⟩ v).cell? ⟨c, j, none⟩ = w.cell? ⟨c, j, none⟩ :=
  World.cell?_setCell_other _ _ _ _ (by
    intro hh
    injection hh with h1 h2 _
    rcases h with h | h
    · exact h h1
    · exact h h2)

theorem cur_after {w : World} {g t k1 k2 : Nat} {s' : Int} (h : Cur w g t) (h0 : 0 ≤ s') (h1 : s' ≤ 18446744073709551615) :
    Cur ((((w.drewN k1).setCell ⟨g, 1, none⟩ (.int .i64 ((t : Int) + 1))).setCell ⟨g, 2, none⟩ (.int .u64 s')).drewN k2) g (t + 1) ∧
      w.grownBy ((((w.drewN k1).setCell ⟨g, 1, none⟩ (.int .i64 ((t : Int) + 1))).setCell ⟨g, 2, none⟩ (.int .u64 s')).drewN k2) (some g) := by
  obtain ⟨⟨a, n, cap, c0, hn, hb⟩, c1, ⟨s, _, _, c2⟩, hf, hlt⟩ := h
  have e : ∀ p, ((((w.drewN k1).setCell ⟨g, 1, none⟩ (.int .i64 ((t : Int) + 1))).setCell ⟨g, 2, none⟩ (.int .u64 s')).drewN k2).cell? p = (((w.setCell ⟨g, 1, none⟩ (.int .i64 ((t : Int) + 1))).setCell ⟨g, 2, none⟩ (.int .u64 s'))).cell? p := fun _ => rfl
  refine ⟨⟨⟨a, n, cap, ?_, hn, fun hp => ?_⟩, ?_, ⟨s', h0, h1, ?_⟩, fun i => ?_, ?_⟩, ⟨rfl, rfl, rfl, by simp, fun k _ hk => ?_⟩⟩
  · rw [e, cell_other' (.inr (by omega)), cell_other' (.inr (by omega))]; exact c0
  · obtain ⟨b, off, ha, hbg, hc⟩ := hb hp
    refine ⟨b, off, ha, hbg, fun i hi => ?_⟩
    obtain ⟨u, u0, u1, hu⟩ := hc i hi
    exact ⟨u, u0, u1, by rw [e, cell_other' (.inl (by omega)), cell_other' (.inl (by omega))]; exact hu⟩
  · rw [e, cell_other' (.inr (by omega)), World.cell?_setCell_same _ _ _ c1]; rfl
  · rw [e, World.cell?_setCell_same (u := .int .u64 s)]
    rw [cell_other' (.inr (by omega))]; exact c2
  · show ((w.setCell ⟨g, 1, none⟩ (.int .i64 ((t : Int) + 1))).setCell ⟨g, 2, none⟩ (.int .u64 s')).frozen? ⟨g, i, none⟩ = false
    rw [World.frozen?_setCell, World.frozen?_setCell]; exact hf i
  · simpa using hlt
  · show ((w.setCell ⟨g, 1, none⟩ (.int .i64 ((t : Int) + 1))).setCell ⟨g, 2, none⟩ (.int .u64 s')).heap[k]? = _
    have hkg : k ≠ g := fun e => hk (by rw [e])
    rw [heap_setCell_other _ _ _ _ hkg, heap_setCell_other _ _ _ _ hkg]

theorem and255 {x : Int} (h0 : 0 ≤ x) (h1 : x < 18446744073709551616) : 0 ≤ wrap64 (bits .and .u64 x 255) ∧ wrap64 (bits .and .u64 x 255) ≤ 255 := by
  have e := u64_and x 255 h0 h1 (by omega) (by omega)
  have hle : (x.toNat &&& (255 : Int).toNat : Nat) ≤ 255 := Nat.and_le_right
  rw [e, IntWalk.wrap64_in _ ⟨by omega, by omega⟩]
  omega

/-- A number of the cursor, and the cursor behind it. -/
def Drew (w : World) (g t : Nat) (hi : Int) (e : Ending) (w' : World) : Prop := ∃ v : Int, e = .returned (.int .i64 v) ∧ 0 ≤ v ∧ v ≤ hi ∧ Cur w' g t ∧ w.grownBy w' (some g)

set_option maxHeartbeats 2000000 in
theorem next_cur (g t : Nat) (w : World) (h : Cur w g t) (ht : t ≤ 1000000) :
    Calls Tryz.prog 63 #[.pointer (some ⟨g, 0, none⟩)] w (Drew w g (t + 1) 255) := by
  have HC := hid h
  obtain ⟨⟨a, n, cap, h1, h2, h3⟩, h4, ⟨s, h5, h6, h7⟩, h8, h9⟩ := h
  have f1 := h8 1
  have f2 := h8 2
  by_cases hlt : t < n
  · obtain ⟨b, off, rfl, hbk, hc⟩ := h3 (by omega)
    obtain ⟨u, u0, u1, hu⟩ := hc t hlt
    have hti : (t : Int) < (n : Int) := by omega
    have htz : (0 : Int) ≤ (t : Int) := by omega
    have htd : decide ((t : Int) < (n : Int)) = true := by simpa using hti
    clear hc h3
    go_enter Tryz.func63, Tryz.ntmps63
    go_wp2_with fail
    go_quiet (fail)
    go_wp2_with fail
    go_quiet (fail)
    go_wp2_with fail
    have hle : (t : Int) + 1 ≤ (n : Int) := by omega
    have hld : decide ((t : Int) + 1 ≤ (n : Int)) = true := by simpa using hle
    generalize hs' : IntKind.u64.wrap (IntKind.u64.wrap (IntKind.u64.wrap (s * 6364136223846793005) + u) + 1442695040888963407) = s'
    have HS := hid hs'
    clear hs'
    go_quiet (fail)
    go_wp2_with fail
    go_ret
    have hs := HS.out
    have hs0 : 0 ≤ s' := by rw [← hs, IntKind.wrap_u64]; omega
    have hs1 : s' ≤ 18446744073709551615 := by rw [← hs, IntKind.wrap_u64]; omega
    obtain ⟨r1, r2⟩ := cur_after HC.out hs0 hs1
    exact ⟨u, rfl, u0, u1, r1, r2⟩
  · have hti : ¬ (t : Int) < (n : Int) := by omega
    have htd : decide ((t : Int) < (n : Int)) = false := by simp; omega
    have hle : ¬ (t : Int) + 1 ≤ (n : Int) := by omega
    have hld : decide ((t : Int) + 1 ≤ (n : Int)) = false := by simp; omega
    clear h3
    go_enter Tryz.func63, Tryz.ntmps63
    go_wp2_with fail
    go_quiet (fail)
    go_wp2_with fail
    generalize hs' : IntKind.u64.wrap (IntKind.u64.wrap (IntKind.u64.wrap (s * 6364136223846793005)) + 1442695040888963407) = s'
    have hs0 : 0 ≤ s' := by rw [← hs', IntKind.wrap_u64]; omega
    have hs1 : s' ≤ 18446744073709551615 := by rw [← hs', IntKind.wrap_u64]; omega
    clear hs'
    have HS0 := hid hs0
    have HS1 := hid hs1
    clear hs0 hs1
    go_quiet (fail)
    go_wp2_with fail
    go_ret
    obtain ⟨r1, r2⟩ := cur_after HC.out HS0.out HS1.out
    obtain ⟨b0, b1⟩ := and255 (x := s' / 1099511627776) (by have := HS0.out; omega) (by have := HS1.out; omega)
    exact ⟨_, rfl, b0, b1, r1, r2⟩

set_option maxHeartbeats 800000 in
theorem pick_cur (g t : Nat) (n : Int) (w : World) (h : Cur w g t) (ht : t ≤ 100000) (hn : n ≤ 65000) :
    Calls Tryz.prog 47 #[.pointer (some ⟨g, 0, none⟩), .int .i64 n] w fun e w' => ∃ v : Int, e = .returned (.int .i64 v) ∧ 0 ≤ v ∧ (v < n ∨ n ≤ 1 ∧ v = 0) ∧ (∃ t', t ≤ t' ∧ t' ≤ t + 2 ∧ Cur w' g t') ∧ w.grownBy w' (some g) := by
  by_cases h1 : n ≤ 1
  · go_enter Tryz.func47, Tryz.ntmps47
    go_wp2_with fail
    go_ret
    exact ⟨0, rfl, Int.le_refl _, .inr ⟨h1, rfl⟩, ⟨t, Nat.le_refl _, by omega, h⟩, World.grownBy.refl _ _⟩
  · have h2 : 1 < n := by omega
    by_cases h3 : 200 < n
    · go_enter Tryz.func47, Tryz.ntmps47
      go_wp2_with fail
      refine (next_cur g t _ h (by omega)).mono ?_
      rintro e w1 ⟨v, rfl, v0, v1, hc1, hg1⟩
      go_wp2_with fail
      refine (next_cur g (t + 1) _ hc1 (by omega)).mono ?_
      rintro e w2 ⟨u, rfl, u0, u1, hc2, hg2⟩
      have hm0 : 0 ≤ (v * 256 + u) % n := Int.emod_nonneg _ (by omega)
      have hm1 : (v * 256 + u) % n < n := Int.emod_lt_of_pos _ (by omega)
      go_wp2_with fail
      go_ret
      exact ⟨_, rfl, hm0, .inl hm1, ⟨t + 2, by omega, by omega, hc2⟩, ⟨hg2.os.trans hg1.os, hg2.tape.trans hg1.tape, hg2.output.trans hg1.output, Nat.le_trans hg1.size hg2.size, fun j hj hne => (hg2.block j (Nat.lt_of_lt_of_le hj hg1.size) hne).trans (hg1.block j hj hne)⟩⟩
    · go_enter Tryz.func47, Tryz.ntmps47
      go_wp2_with fail
      refine (next_cur g t _ h (by omega)).mono ?_
      rintro e w1 ⟨v, rfl, v0, v1, hc1, hg1⟩
      have hm0 : 0 ≤ v % n := Int.emod_nonneg _ (by omega)
      have hm1 : v % n < n := Int.emod_lt_of_pos _ (by omega)
      go_wp2_with fail
      go_ret
      exact ⟨_, rfl, hm0, .inl hm1, ⟨t + 1, by omega, by omega, hc1⟩, hg1⟩

set_option maxHeartbeats 800000 in
theorem one_cur (g t : Nat) (n : Int) (w : World) (h : Cur w g t) (ht : t ≤ 100000) (hn : n ≤ 65000) :
    Calls Tryz.prog 45 #[.pointer (some ⟨g, 0, none⟩), .int .i64 n] w fun e w' => ∃ b : Bool, e = .returned (.bool b) ∧ (∃ t', t ≤ t' ∧ t' ≤ t + 2 ∧ Cur w' g t') ∧ w.grownBy w' (some g) := by
  go_enter Tryz.func45, Tryz.ntmps45
  go_wp2_with fail
  refine (pick_cur g t n _ h ht hn).mono ?_
  rintro e w1 ⟨v, rfl, v0, v1, hc1, hg1⟩
  go_wp2_with fail
  go_ret
  exact ⟨_, rfl, hc1, hg1⟩

set_option maxHeartbeats 800000 in
theorem among_cur (g t : Nat) (a : Option Addr) (n cap : Nat) (xs : List Int) (w : World) (h : Cur w g t) (ht : t ≤ 100000) (hh : Has w a n cap xs) (hn : 0 < n) (hn2 : n ≤ 60000) (hne : ∀ p, a = some p → p.block ≠ g) :
    Calls Tryz.prog 46 #[.pointer (some ⟨g, 0, none⟩), .slice a n cap] w fun e w' => ∃ v : Int, e = .returned (.int .i64 v) ∧ v ∈ xs ∧ (∃ t', t ≤ t' ∧ t' ≤ t + 2 ∧ Cur w' g t') ∧ w.grownBy w' (some g) := by
  have HL := hid hh.len
  obtain ⟨b, off, rfl, hbb, hc⟩ := hh.2.2.2.2 hn
  have hbg := hne _ rfl
  clear hne
  go_enter Tryz.func46, Tryz.ntmps46
  go_wp2_with fail
  refine (pick_cur g t n _ h ht (by omega)).mono ?_
  rintro e w1 ⟨v, rfl, v0, v1, hc1, hg1⟩
  obtain ⟨k, rfl⟩ : ∃ k : Nat, v = (k : Int) := ⟨_, (Int.toNat_of_nonneg v0).symm⟩
  have hk : k < n := by omega
  have hck : w1.cell? ⟨b, off + k, none⟩ = some (.int .i64 (nth xs k)) := hg1.cell (hc k hk) (by simpa using hbg)
  clear hc v1
  go_wp2_with fail
  go_ret
  exact ⟨_, rfl, nth_mem (by rw [HL.out]; exact hk), hc1, hg1⟩
end Go.Proofs.YtakadjhbomggbaaGreat

namespace Go.Proofs.YtakadjhbomggbaaGreat
open Go.RowKit

theorem HasB.below {w w' : World} {a : Option Addr} {n K : Nat} (h : HasB w a n K) (hb : Below K w w') : HasB w' a n K := by
  refine ⟨h.1, fun hx => ?_⟩
  obtain ⟨b, off, ha, hbk, hc⟩ := h.2 hx
  refine ⟨b, off, ha, hbk, fun i hi => ?_⟩
  obtain ⟨u, u0, u1, hu⟩ := hc i hi
  exact ⟨u, u0, u1, by rw [hb.cell (p := ⟨b, off + i, none⟩) hbk]; exact hu⟩

/-- An argument's slice of bytes. -/
theorem hasB_of_row {w : World} {a : Option Addr} {len cap : Nat} {zs : List Int}
    (h : (a = none ∧ len = 0 ∧ cap = 0 ∧ zs = []) ∨ ∃ x, a = some x ∧ len ≤ cap ∧ cap ≤ maxLen ∧ zs.length = cap ∧ (∀ i, i < zs.length → w.cell? (x.add i) = some (.int .u8 (zs.getD i 0))) ∧ ∀ n ∈ zs, (Lit.int .u8 n).wf = true) :
    len ≤ maxLen ∧ (len ≤ 1048576 → HasB w a len w.heap.size) := by
  rcases h with ⟨rfl, rfl, rfl, rfl⟩ | ⟨x, rfl, h1, h2, h3, h4, h5⟩
  · exact ⟨by unfold maxLen; omega, fun _ => ⟨by omega, by omega⟩⟩
  · refine ⟨by omega, fun hl => ⟨by omega, fun hx => ?_⟩⟩
    obtain ⟨b, off, spot⟩ := x
    have hc := h4 0 (by omega)
    have hspot : spot = none := by simpa [Addr.add] using World.cell?_spot hc
    subst hspot
    refine ⟨b, off, rfl, by have := World.block_lt_of_cell? w _ hc; simpa [Addr.add] using this, fun i hi => ?_⟩
    have := h4 i (by omega)
    have e : (⟨b, off, none⟩ : Addr).add i = ⟨b, off + i, none⟩ := by unfold Addr.add; split <;> simp_all
    rw [e] at this
    have hm : zs.getD i 0 ∈ zs := by simp [show i < zs.length by omega]
    have hw := h5 _ hm
    generalize zs.getD i 0 = u at *
    have hw' : (0 : Int) ≤ u ∧ u ≤ 255 := by simpa [Lit.wf, IntKind.min, IntKind.max, IntKind.signed, IntKind.bits] using hw
    exact ⟨u, hw'.1, hw'.2, this⟩

/-- The law's answer. -/
def Holds (w : World) (e : Ending) (w' : World) : Prop := e = .returned (.bool true) ∧ Below w.heap.size w w'
end Go.Proofs.YtakadjhbomggbaaGreat

namespace Go.Proofs.YtakadjhbomggbaaGreat
open Go.RowKit

/-- Whether the bytes are too many. -/
def Big (n m : Nat) (w : World) (e : Ending) (w' : World) : Prop := ∃ r : Bool, e = .returned (.bool r) ∧ (r = false → n + m ≤ 1048576) ∧ w = w'

theorem big_any (a b : Option Addr) (n m cap cap' : Nat) (w : World) (hn : n ≤ 9223372036854775807) :
    Calls Tryz.prog 4 #[.slice a n cap, .slice b m cap'] w (Big n m w) := by
  by_cases h1 : (1048576 : Int) < (n : Int)
  · go_enter Tryz.func4, Tryz.ntmps4
    go_wp2_with fail
    go_ret
    exact ⟨true, ret_bool (by simp), by simp, rfl⟩
  · by_cases h2 : (1048576 : Int) - n < (m : Int)
    · go_enter Tryz.func4, Tryz.ntmps4
      go_wp2_with fail
      go_ret
      exact ⟨true, ret_bool (by simp), by simp, rfl⟩
    · go_enter Tryz.func4, Tryz.ntmps4
      go_wp2_with fail
      go_ret
      exact ⟨false, ret_bool (by simp), fun _ => by omega, rfl⟩

end Go.Proofs.YtakadjhbomggbaaGreat

namespace Go.Proofs.YtakadjhbomggbaaGreat
open Go.RowKit

/-- The cursor stands, and below its block all is as it was. -/
structure At (w0 w : World) (g t : Nat) : Prop where
  cur : Cur w g t
  below : Below g w0 w

theorem At.pick {w0 w w' : World} {g t t' : Nat} (h : At w0 w g t) (hc : Cur w' g t') (hg : w.grownBy w' (some g)) : At w0 w' g t' :=
  ⟨hc, h.below.trans (below_grown hg (Nat.le_of_lt h.cur.lt) (by intro k hk; cases hk; exact Nat.le_refl _))⟩
theorem At.later {w0 w w' : World} {g t K : Nat} (h : At w0 w g t) (hb : Below K w w') (hK : g < K) : At w0 w' g t :=
  ⟨h.cur.below hb hK, h.below.trans (hb.mono (Nat.le_of_lt hK))⟩
theorem At.size {w0 w : World} {g t : Nat} (h : At w0 w g t) : w0.heap.size ≤ w.heap.size := h.below.size

theorem has_lit (w : World) (xs : List Int) (hx : xs.length ≤ 100) : Has (w.alloc (.cells (xs.map (Value.int .i64)).toArray 3)) (some ⟨w.heap.size, 0, none⟩) xs.length xs.length xs := by
  have := World.ownsRow_lit (base := w.heap.size) (e := 3) (size := 1) w (xs.map (Value.int .i64)).toArray xs.length (Nat.le_refl _) (by unfold maxLen; omega) (by simp)
  exact Own.has (B := w.heap.size) ⟨by simpa using this, rfl, by omega⟩
theorem has_lit3 (w : World) (a b c : Int) : Has (w.alloc (.cells #[.int .i64 a, .int .i64 b, .int .i64 c] 3)) (some ⟨w.heap.size, 0, none⟩) 3 3 [a, b, c] := has_lit w [a, b, c] (by simp)
theorem has_lit4 (w : World) (a b c d : Int) : Has (w.alloc (.cells #[.int .i64 a, .int .i64 b, .int .i64 c, .int .i64 d] 3)) (some ⟨w.heap.size, 0, none⟩) 4 4 [a, b, c, d] := has_lit w [a, b, c, d] (by simp)
theorem has_lit6 (w : World) (a b c d e f : Int) : Has (w.alloc (.cells #[.int .i64 a, .int .i64 b, .int .i64 c, .int .i64 d, .int .i64 e, .int .i64 f] 3)) (some ⟨w.heap.size, 0, none⟩) 6 6 [a, b, c, d, e, f] := has_lit w [a, b, c, d, e, f] (by simp)
theorem alloc_below (w : World) (o : Obj) : Below w.heap.size w (w.alloc o) := (Below.refl _ _).alloc (Nat.le_refl _) _
theorem lit_ne {w : World} {g t : Nat} (h : Cur w g t) : ∀ p, (some ⟨w.heap.size, 0, none⟩ : Option Addr) = some p → p.block ≠ g := by
  intro p hp
  cases hp
  have := h.lt
  simp
  omega

/-- Favourites and a number of places, whatever they are. -/
def DrewFav (w : World) (g : Nat) (e : Ending) (w' : World) : Prop :=
  ∃ a n cap xs p, e = .returned (.tuple #[.slice a n cap, .int .i64 p]) ∧ Own w' w.heap.size a n cap xs ∧ n ≤ 10 ∧ -1 ≤ p ∧ p ≤ 13 ∧ Below g w w'

/-- The same, and the cursor stands. -/
def DrewFavC (w : World) (g : Nat) (e : Ending) (w' : World) : Prop :=
  ∃ a n cap xs p, e = .returned (.tuple #[.slice a n cap, .int .i64 p]) ∧ Own w' w.heap.size a n cap xs ∧ n ≤ 10 ∧ -1 ≤ p ∧ p ≤ 13 ∧ ∃ t', At w w' g t' ∧ t' ≤ 4000

/-- A slice of bytes that came in. -/
theorem cur_new {w : World} {a : Option Addr} {n cap : Nat} (h : HasB w a n w.heap.size) : Cur (w.alloc (.cells #[.slice a n cap, .int .i64 0, .int .u64 0] 40)) w.heap.size 0 := by
  refine ⟨⟨a, n, cap, ?_, h.1, fun hp => ?_⟩, ?_, ⟨0, by omega, by omega, ?_⟩, fun i => ?_, by simp⟩
  · rw [World.cell?_alloc_at _ _ _ _ rfl]; rfl
  · obtain ⟨b, off, ha, hb, hc⟩ := h.2 hp
    refine ⟨b, off, ha, hb, fun i hi => ?_⟩
    obtain ⟨u, u0, u1, hu⟩ := hc i hi
    exact ⟨u, u0, u1, by rw [World.cell?_alloc_past _ _ _ hb]; exact hu⟩
  · rw [World.cell?_alloc_at _ _ _ _ rfl]; rfl
  · rw [World.cell?_alloc_at _ _ _ _ rfl]; rfl
  · rw [World.frozen?_alloc_at _ _ _ _ rfl]

/-- What a draw of favourites leaves to its caller. -/
def DrewFav' (w : World) (e : Ending) (w' : World) : Prop :=
  ∃ a n cap xs p, e = .returned (.tuple #[.slice a n cap, .int .i64 p]) ∧ Own w' w.heap.size a n cap xs ∧ n ≤ 10 ∧ -1 ≤ p ∧ p ≤ 13 ∧ Below w.heap.size w w'

end Go.Proofs.YtakadjhbomggbaaGreat

namespace Go.Proofs.YtakadjhbomggbaaGreat
open Go.RowKit

theorem HasB.grow {w w' : World} {a : Option Addr} {n K : Nat} (h : HasB w a n K) (hb : Below K w w') (hK : K ≤ w.heap.size) : HasB w' a n w'.heap.size := by
  refine ⟨h.1, fun hx => ?_⟩
  obtain ⟨b, off, ha, hbk, hc⟩ := h.2 hx
  refine ⟨b, off, ha, Nat.lt_of_lt_of_le hbk (Nat.le_trans hK hb.size), fun i hi => ?_⟩
  obtain ⟨u, u0, u1, hu⟩ := hc i hi
  exact ⟨u, u0, u1, by rw [hb.cell (p := ⟨b, off + i, none⟩) hbk]; exact hu⟩

/-- A number put into a list. -/
def putIn (xs : List Int) (j : Nat) (x : Int) : List Int := xs.take j ++ [x] ++ xs.drop j
theorem mem_putIn {xs : List Int} {j : Nat} {x y : Int} : y ∈ putIn xs j x ↔ y = x ∨ y ∈ xs := by
  unfold putIn
  have : y ∈ xs ↔ y ∈ xs.take j ∨ y ∈ xs.drop j := by rw [← List.mem_append, List.take_append_drop]
  simp only [List.mem_append, List.mem_singleton, this]
  constructor
  · rintro ((h | h) | h)
    · exact .inr (.inl h)
    · exact .inl h
    · exact .inr (.inr h)
  · rintro (h | h | h)
    · exact .inl (.inr h)
    · exact .inl (.inl h)
    · exact .inr h
def Within (xs : List Int) (lo hi : Int) : Prop := ∀ x ∈ xs, lo ≤ x ∧ x ≤ hi
theorem Within.put {xs : List Int} {lo hi x : Int} {j : Nat} (h : Within xs lo hi) (hx : lo ≤ x ∧ x ≤ hi) : Within (putIn xs j x) lo hi := by
  intro y hy
  rcases mem_putIn.1 hy with rfl | hy
  · exact hx
  · exact h y hy
theorem Within.snoc {xs : List Int} {lo hi x : Int} (h : Within xs lo hi) (hx : lo ≤ x ∧ x ≤ hi) : Within (xs ++ [x]) lo hi := by
  intro y hy
  rcases List.mem_append.1 hy with hy | hy
  · exact h y hy
  · rw [List.mem_singleton] at hy; subst hy; exact hx
theorem Within.set {xs : List Int} {lo hi x : Int} {i : Nat} (h : Within xs lo hi) (hx : lo ≤ x ∧ x ≤ hi) : Within (xs.set i x) lo hi := by
  intro y hy
  rcases List.mem_or_eq_of_mem_set hy with hy | rfl
  · exact h y hy
  · exact hx
theorem Within.wide {xs : List Int} {lo hi lo' hi' : Int} (h : Within xs lo hi) (h1 : lo' ≤ lo) (h2 : hi ≤ hi') : Within xs lo' hi' := fun y hy => by have := h y hy; omega

/-- The cursor stands; its block alone was written among those that were there. -/
structure AtG (w0 w : World) (g t : Nat) : Prop where
  cur : Cur w g t
  grew : w0.grownBy w (some g)
  lt : g < w0.heap.size
theorem AtG.new {w : World} {g t : Nat} (h : Cur w g t) : AtG w w g t := ⟨h, World.grownBy.refl _ _, h.lt⟩
theorem AtG.size {w0 w : World} {g t : Nat} (h : AtG w0 w g t) : w0.heap.size ≤ w.heap.size := h.grew.size
theorem grown_then {w w1 w2 : World} {r : Option Nat} (h : w.grownBy w1 r) (h' : w1.grownBy w2 r) : w.grownBy w2 r :=
  ⟨h'.os.trans h.os, h'.tape.trans h.tape, h'.output.trans h.output, Nat.le_trans h.size h'.size, fun j hj hne => (h'.block j (Nat.lt_of_lt_of_le hj h.size) hne).trans (h.block j hj hne)⟩
theorem AtG.pick {w0 w w' : World} {g t t' : Nat} (h : AtG w0 w g t) (hc : Cur w' g t') (hg : w.grownBy w' (some g)) : AtG w0 w' g t' := ⟨hc, grown_then h.grew hg, h.lt⟩
theorem AtG.later {w0 w w' : World} {g t K : Nat} (h : AtG w0 w g t) (hb : Below K w w') (hK : w0.heap.size ≤ K) : AtG w0 w' g t :=
  ⟨h.cur.below hb (Nat.lt_of_lt_of_le h.lt hK), ⟨hb.os.trans h.grew.os, hb.tape.trans h.grew.tape, hb.output.trans h.grew.output, Nat.le_trans h.grew.size hb.size, fun j hj hne => (hb.block j (Nat.lt_of_lt_of_le hj hK)).trans (h.grew.block j hj hne)⟩, h.lt⟩
theorem AtG.below {w0 w : World} {g t : Nat} (h : AtG w0 w g t) : Below g w0 w := below_grown h.grew (Nat.le_of_lt h.lt) fun k hk => by cases hk; exact Nat.le_refl _
theorem AtG.trans {w0 w w' : World} {g t t' : Nat} (h : AtG w0 w g t) (h' : AtG w w' g t') : AtG w0 w' g t' := ⟨h'.cur, grown_then h.grew h'.grew, h.lt⟩

/-- A list that was drawn. -/
def DrewList (w : World) (g t : Nat) (e : Ending) (w' : World) : Prop :=
  ∃ a n cap xs t', e = .returned (.slice a n cap) ∧ Own w' w.heap.size a n cap xs ∧ n ≤ 10 ∧ Within xs (-1) 100 ∧ AtG w w' g t' ∧ t' ≤ t + 100

end Go.Proofs.YtakadjhbomggbaaGreat

namespace Go.Proofs.YtakadjhbomggbaaGreat
open Go.RowKit

/-- A list of nn numbers that was drawn. -/
def DrewListN (nn : Nat) (w : World) (g t : Nat) (e : Ending) (w' : World) : Prop :=
  ∃ a n cap xs t', e = .returned (.slice a n cap) ∧ Own w' w.heap.size a n cap xs ∧ n = nn ∧ Within xs (-1) 100 ∧ AtG w w' g t' ∧ t' ≤ t + 100
/-- A list that was drawn, for the caller of a draw. -/
def DrewList' (w : World) (e : Ending) (w' : World) : Prop :=
  ∃ a n cap xs, e = .returned (.slice a n cap) ∧ Own w' w.heap.size a n cap xs ∧ n ≤ 10 ∧ Within xs (-1) 100 ∧ Below w.heap.size w w'

/-- Two lists that were drawn. -/
def DrewTwo (w : World) (e : Ending) (w' : World) : Prop :=
  ∃ a n cap xs a' n' cap' ys, e = .returned (.tuple #[.slice a n cap, .slice a' n' cap']) ∧ Own w' w.heap.size a n cap xs ∧ Own w' w.heap.size a' n' cap' ys ∧ n ≤ 10 ∧ n' ≤ 10 ∧ Below w.heap.size w w'

/-- Two lists and a bool that were drawn. -/
def DrewTwoB (w : World) (e : Ending) (w' : World) : Prop :=
  ∃ a n cap xs a' n' cap' ys b, e = .returned (.tuple #[.slice a n cap, .slice a' n' cap', .bool b]) ∧ Own w' w.heap.size a n cap xs ∧ Own w' w.heap.size a' n' cap' ys ∧ n ≤ 10 ∧ n' ≤ 10 ∧ Below w.heap.size w w'

end Go.Proofs.YtakadjhbomggbaaGreat

namespace Go.Proofs.YtakadjhbomggbaaGreat
open Go.RowKit

def lastMost (l : List Int) : Nat := (mostAt l l.length).toNat
/-- All heights that go on a list by k rows, in order. -/
def waF : Nat → List Int → List (List Int)
  | 0, l => [l]
  | k + 1, l => (List.range (lastMost l + 1)).flatMap fun (h : Nat) => waF k (l ++ [(h : Int)])
theorem waF_mem {hs : List Int} (h : hgtB hs = true) : ∀ k m, m + k = hs.length → hs ∈ waF k (hs.take m)
  | 0, m, e => by
    simp only [waF, List.mem_singleton]
    rw [List.take_of_length_le (by omega)]
  | k + 1, m, e => by
    have hb := (hgtB_iff.1 h).2 m (by omega)
    have hm : mostAt (hs.take m) (hs.take m).length = mostAt hs m := by
      rw [List.length_take, Nat.min_eq_left (by omega)]
      cases m with
      | zero => rfl
      | succ m => simp only [mostAt]; rw [nth_take (by omega)]
    simp only [waF, List.mem_flatMap, List.mem_range]
    refine ⟨(nth hs m).toNat, by unfold lastMost; rw [hm]; omega, ?_⟩
    rw [Int.toNat_of_nonneg hb.1, ← take_succ_nth (by omega)]
    exact waF_mem h k (m + 1) (by omega)
theorem all_heights {P : List Int → Bool} (hP : ∀ n, n < 9 → (waF n []).all P = true) {hs : List Int} (h : hgtB hs = true) : P hs = true := by
  have h1 := (hgtB_iff.1 h).1
  have h2 := waF_mem h hs.length 0 (by omega)
  rw [List.take_zero] at h2
  exact List.all_eq_true.1 (hP hs.length (by omega)) hs h2

/-- The next heights: the last row that may be higher by 1, and zeros behind it. -/
def nextH (hs : List Int) : Nat → List Int × Bool
  | 0 => ([], false)
  | c + 1 => if c = 0 then ([], false) else if raisedB hs c then nextH hs c else (hs.take c ++ (nth hs c + 1) :: List.replicate (hs.length - (c + 1)) 0, true)
theorem heights_chain : ∀ n, n < 7 → chainB (fun hs => nextH hs hs.length) (waF n []) = true ∧ (waF n []).getD 0 [] = List.replicate n 0 ∧ (waF n []).length ≤ 132 ∧ (waF n []).all (fun hs => decide (hs.length = n) && hgtB hs) = true := by decide +kernel
def allHeightsOf (n : Int) : List (List Int) × Bool := if inB n 0 6 then (waF n.toNat [], true) else ([], false)
end Go.Proofs.YtakadjhbomggbaaGreat

namespace Go.Proofs.YtakadjhbomggbaaGreat
open Go.RowKit

/-- Two slices lie in different blocks. -/
def Apart (a b : Option Addr) : Prop := ∀ p q : Addr, a = some p → b = some q → p.block ≠ q.block
theorem Apart.symm {a b : Option Addr} (h : Apart a b) : Apart b a := fun p q hp hq e => h q p hq hp e.symm
theorem Apart.noneL (b : Option Addr) : Apart none b := fun _ _ h => by cases h
theorem Apart.noneR (a : Option Addr) : Apart a none := fun _ _ _ h => by cases h

/-- 'append(out, y)' of one number to a slice of the call's own, beside another one. -/
theorem wpList_append_two {ops : Array Oper} {rest : List Oper} {o : Oper} {a : Act} {Q : Exit → Act → World → Prop} (w : World) (hgd : o.guard = none) (s x : Operand)
    (ho : o.op = .call { callee := .builtin .append, args := #[s, x], argTypes := #[31, 31] })
    (B : Nat) (a0 : Option Addr) (n cap : Nat) (xs : List Int) (y : Int) (hs : a.eval s = .slice a0 n cap) (hx : a.eval x = .slice (some ⟨w.heap.size, 0, none⟩) 1 1)
    (hown : Own w B a0 n cap xs) (hl : n + 1 ≤ 2097152) (hB : B ≤ w.heap.size) (B2 : Nat) (a2 : Option Addr) (n2 cap2 : Nat) (ys : List Int) (h2 : Own w B2 a2 n2 cap2 ys) (hap : Apart a0 a2)
    (h : ∀ a' cap' w', Own w' B a' (n + 1) cap' (xs ++ [y]) → Own w' B2 a2 n2 cap2 ys → Apart a' a2 → Below B w w' → wpList Tryz.prog ops Q rest (a.put o.dst (.slice a' (n + 1) cap')) w') :
    wpList Tryz.prog ops Q (o :: rest) a (w.alloc (.cells #[.int .i64 y] 3)) := by
  obtain ⟨i0, hi, hz0, hz1, hz2⟩ := info_parts Tryz.infoInt
  have hlen := hown.len
  have hba : Below w.heap.size w (w.alloc (.cells #[.int .i64 y] 3)) := (Below.refl _ _).alloc (Nat.le_refl _) _
  refine wpList_append_lies (P := Tryz.prog) _ hgd s x 31 ho B 3 i0 (.int .i64 0) 1 8 Tryz.underlying31 hi hz0 hz1 hz2 rfl (by decide) _ n (xs.map (Value.int .i64)) hs (hown.1.alloc _) ⟨w.heap.size, 0, none⟩ 1 1 [.int .i64 y] hx rfl (one_cell w y) (by intro u hu; simp at hu; subst hu; rfl) (by decide) (by unfold maxLen; omega) (by omega) (by simp; omega) _ rfl ?_
  intro g cap' w' hown' hgrow hg hlt
  have hb : Below B w w' := ((Below.refl B w).alloc hB _).grown hgrow (by simp; omega) (fun k hk => (hown.1.lt k hk).1)
  have h2a := h2.below hba (Nat.le_refl _)
  have hk2 : Own w' B2 a2 n2 cap2 ys := by
    cases a0 with
    | none =>
      exact ⟨h2a.1.kept hgrow ((Classical.em _).elim .inl fun h => .inr h), h2.2⟩
    | some p =>
      refine Own.kept (g := p.block) h2a (by simpa [Value.ownBlock] using hgrow) (.inr fun q hq e => hap p q rfl hq e.symm)
  obtain ⟨a', cap'', hv, ho'⟩ := own_of_row (xs := xs ++ [y]) hown' (by simp [hlen]) (by simp) (by simp; omega)
  cases hv
  refine h _ _ _ ho' hk2 (fun p q hp hq => ?_) hb
  cases hp
  rcases hg with hg | hg
  · cases a0 with
    | none => simp [Value.ownBlock] at hg
    | some p0 =>
      simp [Value.ownBlock] at hg
      have := hap p0 q rfl hq
      rw [hg] at this
      exact this
  · have hq2 : q.block < w.heap.size := by subst hq; exact (h2.1.lt q.block rfl).2
    simp at hg
    show g ≠ q.block
    omega
theorem apart_of {a b : Option Addr} {K : Nat} (h : BlkLt a K) (h' : BlkGe b K) : Apart a b := fun p q hp hq e => by
  have := h p hp
  have := h' q hq
  omega

end Go.Proofs.YtakadjhbomggbaaGreat

namespace Go.Proofs.YtakadjhbomggbaaGreat
open Go.RowKit

/-- A node that is left, and occurs no more. -/
def uf (w g : List Int) (k : Nat) (v : Int) : Bool := !hasB g v && !hasB (w.drop k) v
theorem uf_iff {w g : List Int} {k : Nat} {v : Int} : uf w g k v = true ↔ v ∉ g ∧ v ∉ w.drop k := by simp [uf, hasB]
def untG (w : List Int) : Nat → List Int
  | 0 => []
  | k + 1 => untG w k ++ [grt (uf w (untG w k) k) (w.length + 1)]
theorem length_untG (w : List Int) : ∀ k, (untG w k).length = k
  | 0 => rfl
  | k + 1 => by simp [untG, length_untG w k]
/-- The numbers are those of a word of a tree with n nodes. -/
structure Word (w : List Int) (n : Nat) : Prop where
  len : w.length + 1 = n
  le : n ≤ 8
  nthB : ∀ i, i < w.length → 0 ≤ nth w i ∧ nth w i ≤ (n : Int)
structure UnG (w g : List Int) (n k : Nat) : Prop where
  len : g.length = k
  mem : ∀ v ∈ g, (1 : Int) ≤ v ∧ v ≤ n
  nodup : g.Nodup
  off : ∀ v ∈ g, v ∉ w.drop k
theorem unG_nil (w : List Int) (n : Nat) : UnG w [] n 0 := ⟨rfl, by simp, by simp, by simp⟩
theorem unG_step {w g : List Int} {n k : Nat} (hw : Word w n) (hg : UnG w g n k) (hk : k < w.length) :
    ∃ x : Nat, 1 ≤ x ∧ x ≤ n ∧ uf w g k x = true ∧ grt (uf w g k) n = x ∧ (∀ v : Nat, x < v → v ≤ n → uf w g k v = false) ∧ UnG w (g ++ [(x : Int)]) n (k + 1) := by
  have hl := hw.len
  obtain ⟨v, h1, h2, h3⟩ := left_ex (n := n) (g := g ++ w.drop k) (by simp [hg.len]; omega)
  simp only [List.mem_append, not_or] at h3
  obtain ⟨x, q1, q2, q3, q4, q5⟩ := grt_ex n ⟨v, h1, h2, uf_iff.2 h3⟩
  obtain ⟨q6, q7⟩ := uf_iff.1 q3
  have hsub : ∀ v : Int, v ∈ w.drop (k + 1) → v ∈ w.drop k := fun v hv => by
    rw [drop_nth hk]; simp [hv]
  refine ⟨x, q1, q2, q3, q4, q5, ⟨by simp [hg.len], fun v hv => ?_, ?_, fun v hv hd => ?_⟩⟩
  · rcases List.mem_append.1 hv with hv | hv
    · exact hg.mem v hv
    · simp at hv; subst hv; omega
  · rw [List.nodup_append]
    exact ⟨hg.nodup, by simp, fun a ha b hb => by simp at hb; subst hb; rintro rfl; exact q6 ha⟩
  · rcases List.mem_append.1 hv with hv | hv
    · exact hg.off v hv (hsub v hd)
    · simp at hv; subst hv; exact q7 (hsub _ hd)
theorem untG_is {w : List Int} {n : Nat} (hw : Word w n) : ∀ k, k ≤ w.length → UnG w (untG w k) n k
  | 0, _ => unG_nil w n
  | k + 1, h => by
    obtain ⟨x, _, _, _, q, _, r⟩ := unG_step hw (untG_is hw k (by omega)) (by omega)
    simp only [untG]
    rw [hw.len, q]
    exact r
/-- The parents, as far as they are laid. -/
def unTo (w : List Int) : Nat → List Int
  | 0 => List.replicate (w.length + 1) 0
  | k + 1 => (unTo w k).set ((grt (uf w (untG w k) k) (w.length + 1)).toNat - 1) (nth w k)
def unOf (w : List Int) : List Int := unTo w w.length
theorem length_unTo (w : List Int) : ∀ k, (unTo w k).length = w.length + 1
  | 0 => by simp [unTo]
  | k + 1 => by simp [unTo, length_unTo w k]
theorem unTo_is {w : List Int} {n : Nat} (hw : Word w n) : ∀ k, k ≤ w.length →
    (∀ j, j < k → par (unTo w k) (nth (untG w k) j) = nth w j) ∧ ∀ v : Int, 1 ≤ v → v ≤ n → v ∉ untG w k → par (unTo w k) v = 0
  | 0, _ => ⟨by omega, fun v _ _ _ => by unfold par unTo; rw [nth_replicate0']⟩
  | k + 1, h => by
    obtain ⟨ih1, ih2⟩ := unTo_is hw k (by omega)
    have hg := untG_is hw k (by omega)
    obtain ⟨x, q1, q2, q3, q4, _, r⟩ := unG_step hw hg (by omega)
    have hx := (uf_iff.1 q3).1
    have hl := hw.len
    have e : untG w (k + 1) = untG w k ++ [(x : Int)] := by simp only [untG]; rw [hl, q4]
    have e2 : unTo w (k + 1) = (unTo w k).set (x - 1) (nth w k) := by simp only [unTo]; rw [hl, q4, Int.toNat_natCast]
    have hs : ∀ v : Int, 1 ≤ v → v ≤ n → par (unTo w (k + 1)) v = if v = x then nth w k else par (unTo w k) v := fun v v1 v2 => by
      unfold par
      rw [e2, nth_set (by rw [length_unTo]; omega)]
      by_cases ee : v = x
      · rw [if_pos (by omega), if_pos ee]
      · rw [if_neg (by omega), if_neg ee]
    refine ⟨fun j hj => ?_, fun v v1 v2 hv => ?_⟩
    · rw [e]
      by_cases ej : j = k
      · subst ej
        have : nth (untG w j ++ [(x : Int)]) j = x := by
          have := nth_append_at (xs := untG w j) (y := (x : Int))
          rwa [length_untG] at this
        rw [this, hs _ (by omega) (by omega), if_pos rfl]
      · have hjk : j < (untG w k).length := by rw [length_untG]; omega
        rw [nth_left hjk]
        have hm := hg.mem _ (nth_mem hjk)
        have hne : ¬ nth (untG w k) j = (x : Int) := fun hh => hx (by rw [← hh]; exact nth_mem hjk)
        rw [hs _ hm.1 hm.2, if_neg hne, ih1 j (by omega)]
    · rw [e] at hv
      simp only [List.mem_append, List.mem_singleton, not_or] at hv
      rw [hs v v1 v2, if_neg hv.2, ih2 v v1 v2 hv.1]

/-- The degrees of those that are left. -/
def degW (w g : List Int) (k : Nat) (v : Nat) : Nat := if hasB g v = true then 0 else (if v = 0 then 0 else 1) + (w.drop k ++ [0]).count (v : Int)
theorem degW_nil (w : List Int) (v : Nat) : degW w [] 0 v = deg (w ++ [0]) v := by simp [degW, deg, hasB]
theorem degW_leaf {w g : List Int} {k v : Nat} (h : 1 ≤ v) : degW w g k v = 1 ↔ uf w g k v = true := by
  rw [uf_iff]
  unfold degW
  by_cases e : (v : Int) ∈ g
  · simp [hasB, e]
  · have h0 : ¬ v = 0 := by omega
    have h1 : ¬ (0 : Int) = (v : Int) := by omega
    have h2 : List.count (v : Int) [0] = 0 := by rw [List.count_eq_zero]; simp; omega
    rw [List.count_append, h2]
    simp [hasB, e, h0, List.count_eq_zero]
theorem degW_step {w g : List Int} {n k x p v : Nat} (hg : UnG w g n k) (hk : k < w.length) (h1 : 1 ≤ x) (h3 : uf w g k x = true) (hp : nth w k = (p : Int)) :
    degW w (g ++ [(x : Int)]) (k + 1) v = if v = p then degW w g k p - 1 else if v = x then 0 else degW w g k v := by
  obtain ⟨q1, q2⟩ := uf_iff.1 h3
  have hd := drop_nth hk
  have hpd : (p : Int) ∈ w.drop k := by rw [hd, hp]; simp
  have hpg : (p : Int) ∉ g := fun h => hg.off _ h hpd
  have hpx : ¬ (p : Int) = (x : Int) := fun e => q2 (e ▸ hpd)
  have hs : (w.drop k ++ [0]).count (v : Int) = (w.drop (k + 1) ++ [0]).count (v : Int) + if v = p then 1 else 0 := by
    rw [hd, hp, List.cons_append, List.count_cons]
    congr 1
    by_cases e : v = p
    · subst e; simp
    · have : ¬ (p : Int) = (v : Int) := by omega
      simp [e, this]
  by_cases e : v = p
  · subst e
    rw [if_pos rfl] at hs ⊢
    simp only [degW, hasB, List.mem_append, List.mem_singleton, hpg, hpx, or_false, decide_false, Bool.false_eq_true, if_false]
    omega
  · rw [if_neg e]
    rw [if_neg e] at hs
    by_cases e2 : v = x
    · subst e2; simp [degW, hasB]
    · rw [if_neg e2]
      have e3 : ¬ (v : Int) = (x : Int) := by omega
      simp only [degW, hasB, List.mem_append, List.mem_singleton, e3, or_false]
      rw [hs]; simp
theorem degW_pos {w g : List Int} {n k x p : Nat} (hw : Word w n) (hg : UnG w g n k) (hk : k < w.length) (h3 : uf w g k x = true) (hp : nth w k = (p : Int)) : 1 ≤ degW w g k p ∧ p ≠ x ∧ p ≤ n := by
  obtain ⟨q1, q2⟩ := uf_iff.1 h3
  have hd := drop_nth hk
  have hpd : (p : Int) ∈ w.drop k := by rw [hd, hp]; simp
  have hpg : (p : Int) ∉ g := fun h => hg.off _ h hpd
  have hpx : p ≠ x := fun e => q2 (e ▸ hpd)
  have hb := hw.nthB k hk
  refine ⟨?_, hpx, by omega⟩
  have : 0 < (w.drop k ++ [0]).count (p : Int) := List.count_pos_iff.2 (by simp [hpd])
  simp only [degW, hasB, hpg, decide_false, Bool.false_eq_true, if_false]
  omega
theorem degW_le {w g : List Int} {k v n : Nat} (hw : Word w n) : degW w g k v ≤ 9 := by
  have h1 : (w.drop k ++ [0]).count (v : Int) ≤ (w.drop k ++ [0]).length := List.count_le_length
  have h2 := hw.len
  have h3 := hw.le
  simp only [List.length_append, List.length_drop, List.length_singleton] at h1
  unfold degW
  split
  · omega
  · split <;> omega

/-! ### The edges of a word, and how they are followed from the root -/
/-- The ends of the edges, the lower ones and the upper ones. -/
structure Edges (ps es os : List Int) (n : Nat) : Prop where
  plen : ps.length = n
  elen : es.length = n
  olen : os.length = n
  mem : ∀ i, i < n → 1 ≤ nth es i ∧ nth es i ≤ (n : Int)
  all : ∀ v : Int, 1 ≤ v → v ≤ n → v ∈ es
  up : ∀ i, i < n → nth os i = par ps (nth es i)
  later : ∀ i, i < n → nth os i = 0 ∨ ∃ j, i < j ∧ j < n ∧ nth os i = nth es j
theorem full_of {n : Nat} {es : List Int} (hl : es.length = n) (hn : es.Nodup) (hb : ∀ v ∈ es, 1 ≤ v ∧ v ≤ (n : Int)) : ∀ v : Int, 1 ≤ v → v ≤ n → v ∈ es := fun v h1 h2 => by
  apply Classical.byContradiction
  intro hv
  have := nodup_le n ((v :: es).map fun x => x - 1) (by
    rw [List.Nodup, List.pairwise_map]
    refine (List.nodup_cons.2 ⟨hv, hn⟩ : (v :: es).Nodup).imp ?_
    intro a b h e
    omega) (fun x hx => by
    obtain ⟨y, hy, rfl⟩ := List.mem_map.1 hx
    rcases List.mem_cons.1 hy with rfl | hy
    · omega
    · have := hb y hy; omega)
  simp at this
  omega
theorem edges_of {w : List Int} {n : Nat} (hw : Word w n) {last : Int} (h1 : 1 ≤ last) (h2 : last ≤ n) (h3 : last ∉ untG w w.length) : Edges (unOf w) (untG w w.length ++ [last]) (w ++ [0]) n := by
  have hl := hw.len
  have hg := untG_is hw w.length (Nat.le_refl _)
  have hel : (untG w w.length ++ [last]).length = n := by simp [length_untG]; omega
  have hem : ∀ v ∈ untG w w.length ++ [last], 1 ≤ v ∧ v ≤ (n : Int) := fun v hv => by
    rcases List.mem_append.1 hv with hv | hv
    · exact hg.mem v hv
    · simp at hv; omega
  have hnd : (untG w w.length ++ [last]).Nodup := by
    rw [List.nodup_append]
    exact ⟨hg.nodup, by simp, fun a ha b hb => by simp at hb; subst hb; rintro rfl; exact h3 ha⟩
  have hfull := full_of hel hnd hem
  obtain ⟨u1, u2⟩ := unTo_is hw w.length (Nat.le_refl _)
  refine ⟨by simp [unOf, length_unTo]; omega, hel, by simp; omega, fun i hi => hem _ (nth_mem (by omega)), hfull, fun i hi => ?_, fun i hi => ?_⟩
  · by_cases e : i < w.length
    · rw [nth_left e, nth_left (by rw [length_untG]; exact e)]
      exact (u1 i e).symm
    · obtain rfl : i = w.length := by omega
      have e1 : nth (untG w w.length ++ [last]) w.length = last := by
        have := nth_append_at (xs := untG w w.length) (y := last)
        rwa [length_untG] at this
      rw [nth_append_at, e1]
      exact (u2 last h1 h2 h3).symm
  · by_cases e : i < w.length
    · rw [nth_left e]
      by_cases e0 : nth w i = 0
      · exact .inl e0
      · have hb := hw.nthB i e
        obtain ⟨j, hj, ej⟩ := mem_nth (hfull (nth w i) (by omega) hb.2)
        refine .inr ⟨j, ?_, by omega, ej.symm⟩
        apply Classical.byContradiction
        intro hij
        have hji : j ≤ i := by omega
        have hsub : nth (untG w w.length ++ [last]) j ∈ untG w (i + 1) := by
          have hp : ∀ m k, ∃ t, untG w (k + m) = untG w k ++ t := by
            intro m
            induction m with
            | zero => exact fun k => ⟨[], by simp⟩
            | succ m ih =>
              intro k
              obtain ⟨t, ht⟩ := ih k
              exact ⟨t ++ [grt (uf w (untG w (k + m)) (k + m)) (w.length + 1)], by rw [← Nat.add_assoc, ← List.append_assoc, ← ht]; rfl⟩
          obtain ⟨t, ht⟩ := hp (w.length - (i + 1)) (i + 1)
          rw [show i + 1 + (w.length - (i + 1)) = w.length by omega] at ht
          rw [nth_left (by rw [length_untG]; omega), ht, nth_left (by rw [length_untG]; omega)]
          exact nth_mem (by rw [length_untG]; omega)
        rw [ej] at hsub
        have hgi := untG_is hw i (by omega)
        obtain ⟨x, q1, q2, q3, q4, _, r⟩ := unG_step hw hgi e
        have e2 : untG w (i + 1) = untG w i ++ [(x : Int)] := by simp only [untG]; rw [hl, q4]
        have hd : nth w i ∈ w.drop i := by rw [drop_nth e]; simp
        rw [e2] at hsub
        rcases List.mem_append.1 hsub with hs | hs
        · exact hgi.off _ hs hd
        · simp at hs; rw [hs] at hd; exact (uf_iff.1 q3).2 hd
    · obtain rfl : i = w.length := by omega
      exact .inl nth_append_at
structure Rch (ps es os R ys : List Int) (n k i : Nat) : Prop where
  nodup : R.Nodup
  first : 0 ∈ R
  mem : ∀ v ∈ R, (0 : Int) ≤ v ∧ v ≤ n
  closed : ∀ v ∈ R, v = 0 ∨ par ps v ∈ R
  ylen : ys.length = n
  ys : ∀ v, v < n → nth ys v = if ((v : Int) + 1) ∈ R then nth ps v else 0
  done : ∀ j, j < n → (∃ q, q < k ∧ q < R.length ∧ nth os j = nth R q) ∨ (j < i ∧ nth os j = nth R k) → nth es j ∈ R
theorem rch_zero {ps es os : List Int} {n : Nat} : Rch ps es os [0] (List.replicate n 0) n 0 0 :=
  ⟨by simp, by simp, by simp, by simp, by simp, fun v _ => by rw [if_neg (by simp; omega), nth_replicate0'], fun j _ h => by
    rcases h with ⟨q, h, _⟩ | ⟨h, _⟩ <;> omega⟩
theorem rch_len {ps es os R ys : List Int} {n k i : Nat} (h : Rch ps es os R ys n k i) : R.length ≤ n + 1 ∧ 0 < R.length :=
  ⟨nodup_le _ _ h.nodup fun v hv => by have := h.mem v hv; omega, List.length_pos_of_mem h.first⟩
/-- An edge that leads on from what was reached. -/
theorem rch_new {ps es os R ys : List Int} {n k i : Nat} (he : Edges ps es os n) (h : Rch ps es os R ys n k i) (hi : i < n) (hk : k < R.length) (ho : nth os i = nth R k) (hn : nth es i ∉ R) :
    Rch ps es os (R ++ [nth es i]) (ys.set ((nth es i).toNat - 1) (nth R k)) n k (i + 1) := by
  have hm := he.mem i hi
  have hu := he.up i hi
  refine ⟨?_, by simp [h.first], fun v hv => ?_, fun v hv => ?_, by simp [h.ylen], fun v hv => ?_, fun j hj hd => ?_⟩
  · rw [List.nodup_append]
    exact ⟨h.nodup, by simp, fun a ha b hb => by simp at hb; subst hb; rintro rfl; exact hn ha⟩
  · rcases List.mem_append.1 hv with hv | hv
    · exact h.mem v hv
    · simp at hv; subst hv; omega
  · rcases List.mem_append.1 hv with hv | hv
    · rcases h.closed v hv with h0 | h0
      · exact .inl h0
      · exact .inr (by simp [h0])
    · simp at hv; subst hv
      refine .inr ?_
      rw [← hu, ho]
      simp [nth_mem hk]
  · rw [nth_set (by rw [h.ylen]; omega), h.ys v hv]
    by_cases e : (nth es i).toNat - 1 = v
    · have e2 : (v : Int) + 1 = nth es i := by omega
      rw [if_pos e, e2, if_pos (by simp), ← ho, hu]
      unfold par
      rw [e]
    · have e2 : ¬ (v : Int) + 1 = nth es i := by omega
      rw [if_neg e]
      simp only [List.mem_append, List.mem_singleton, e2, or_false]
  · by_cases e : j = i
    · subst e; simp
    · have : nth es j ∈ R := by
        apply h.done j hj
        rcases hd with ⟨q, q1, q2, q3⟩ | ⟨q1, q2⟩
        · have hq : q < R.length := by omega
          exact .inl ⟨q, q1, hq, by rw [q3, nth_left hq]⟩
        · exact .inr ⟨by omega, by rw [q2, nth_left hk]⟩
      simp [this]
/-- An edge that leads nowhere new. -/
theorem rch_old {ps es os R ys : List Int} {n k i : Nat} (h : Rch ps es os R ys n k i) (ho : nth os i = nth R k → nth es i ∈ R) : Rch ps es os R ys n k (i + 1) := by
  refine ⟨h.nodup, h.first, h.mem, h.closed, h.ylen, h.ys, fun j hj hd => ?_⟩
  rcases hd with hd | ⟨h1, h2⟩
  · exact h.done j hj (.inl hd)
  · by_cases e : j = i
    · subst e; exact ho h2
    · exact h.done j hj (.inr ⟨by omega, h2⟩)
theorem rch_next {ps es os R ys : List Int} {n k : Nat} (h : Rch ps es os R ys n k n) (hk : k < R.length) : Rch ps es os R ys n (k + 1) 0 := by
  refine ⟨h.nodup, h.first, h.mem, h.closed, h.ylen, h.ys, fun j hj hd => ?_⟩
  rcases hd with ⟨q, h1, h2, h3⟩ | ⟨h1, _⟩
  · by_cases e : q = k
    · subst e; exact h.done j hj (.inr ⟨hj, h3⟩)
    · exact h.done j hj (.inl ⟨q, by omega, h2, h3⟩)
  · omega
theorem rch_all {ps es os R ys : List Int} {n k : Nat} (he : Edges ps es os n) (h : Rch ps es os R ys n k 0) (hk : R.length ≤ k) : ys = ps := by
  have hin : ∀ d j, n - j = d → j < n → nth es j ∈ R := by
    intro d
    induction d using Nat.strongRecOn with
    | _ d ih =>
      intro j hd hj
      have ho : nth os j ∈ R := by
        rcases he.later j hj with h0 | ⟨j', h1, h2, h3⟩
        · rw [h0]; exact h.first
        · rw [h3]; exact ih (n - j') (by omega) j' rfl h2
      obtain ⟨q, hq, e⟩ := mem_nth ho
      exact h.done j hj (.inl ⟨q, by omega, hq, e.symm⟩)
  refine ext_nth (by rw [h.ylen, he.plen]) fun v hv => ?_
  rw [h.ylen] at hv
  obtain ⟨j, hj, e⟩ := mem_nth (he.all ((v : Int) + 1) (by omega) (by omega))
  rw [h.ys v hv, if_pos (by rw [← e]; exact hin _ j rfl (by rw [he.elen] at hj; exact hj))]
/-- Edges of this kind are those of a tree. -/
theorem edges_tree {ps es os : List Int} {n : Nat} (he : Edges ps es os n) (h8 : n ≤ 8) : Tree ps n := by
  have hup : ∀ d j, n - j = d → j < n → up ps (nth es j) d = 0 := by
    intro d
    induction d using Nat.strongRecOn with
    | _ d ih =>
      intro j hd hj
      have hm := he.mem j hj
      have e1 : up ps (nth es j) 1 = nth os j := by rw [he.up j hj]; simp [up, show nth es j ≠ 0 by omega]
      rcases he.later j hj with h0 | ⟨j', h1, h2, h3⟩
      · exact up_zero (k := 1) (by rw [e1, h0]) d (by omega)
      · have h4 := ih (n - j') (by omega) j' rfl h2
        have h5 := up_add ps (nth es j) 1 (n - j')
        rw [e1, h3, h4] at h5
        exact up_zero h5 d (by omega)
  have hb : ∀ v : Nat, v < n → (0 ≤ nth ps v ∧ nth ps v ≤ (n : Int)) ∧ up ps ((v : Int) + 1) n = 0 := fun v hv => by
    obtain ⟨j, hj, e⟩ := mem_nth (he.all ((v : Int) + 1) (by omega) (by omega))
    rw [he.elen] at hj
    have h1 := he.up j hj
    rw [e] at h1
    have e2 : par ps ((v : Int) + 1) = nth ps v := by unfold par; rw [show ((v : Int) + 1).toNat - 1 = v by omega]
    rw [e2] at h1
    refine ⟨?_, by rw [← e]; exact up_zero (hup _ j rfl hj) n (by omega)⟩
    rcases he.later j hj with h0 | ⟨j', _, h2, h3⟩
    · omega
    · have := he.mem j' h2
      omega
  exact ⟨he.plen, h8, fun i hi => (hb i hi).1, fun i hi => (hb i hi).2⟩
theorem unOf_tree {w : List Int} {n : Nat} (hw : Word w n) : Tree (unOf w) n := by
  obtain ⟨v, h1, h2, h3⟩ := left_ex (n := n) (g := untG w w.length) (by rw [length_untG]; have := hw.len; omega)
  exact edges_tree (edges_of hw (by omega) (by omega) h3) hw.le
theorem length_unOf (w : List Int) : (unOf w).length = w.length + 1 := length_unTo w _
end Go.Proofs.YtakadjhbomggbaaGreat

namespace Go.Proofs.YtakadjhbomggbaaGreat
open Go.RowKit

def pruB (xs : List Int) : List Int × Bool := if treeB xs && decide (0 < xs.length) then (pruOf xs, true) else ([], false)

theorem pruB_yes {xs : List Int} (h : treeB xs = true) (hn : 0 < xs.length) : pruB xs = (pruOf xs, true) := by simp [pruB, h, hn]
theorem pruB_no {xs : List Int} (h : treeB xs = false ∨ xs.length = 0) : pruB xs = ([], false) := by
  unfold pruB
  rcases h with h | h <;> simp [h]

end Go.Proofs.YtakadjhbomggbaaGreat

namespace Go.Proofs.YtakadjhbomggbaaGreat
open Go.RowKit

theorem park_facts {xs : List Int} {n : Nat} (h : isPark xs = true) (hl : xs.length = n) : n ≤ 8 ∧ ∀ c, c < n → 0 ≤ nth xs c ∧ nth xs c < (n : Int) := by
  subst hl
  obtain ⟨h1, h2, _⟩ := isPark_iff.1 h
  exact ⟨h1, fun c hc => by have := h2 _ (nth_mem hc); omega⟩
theorem carsL_nth {xs : List Int} {n : Nat} (hl : xs.length = n) (h8 : n ≤ 8) (hb : ∀ c, c < n → 0 ≤ nth xs c ∧ nth xs c < (n : Int)) {k : Nat} (hk : k < n) : ∃ c : Nat, nth (carsL xs) k = (c : Int) ∧ c < n := by
  have hp := carsL_perm hl (by omega) hb
  have hm : nth (carsL xs) k ∈ carsL xs := nth_mem (by rw [length_carsL hl (by omega) hb]; exact hk)
  have := hp.subset hm
  unfold upto at this
  obtain ⟨c, hc, e⟩ := List.mem_map.1 this
  exact ⟨c, e.symm, List.mem_range.1 hc⟩
def HgAt (xs ls ys : List Int) (k : Nat) : Prop := ∀ i, i < k → nth ys i = (i : Int) - nth xs (nth ls i).toNat
theorem hg_all {xs ls ys : List Int} {n : Nat} (h : HgAt xs ls ys n) (hl : ys.length = n) (hn : ls.length = n) : ys = hgtOf xs ls := ext_nth (by rw [length_hgtOf]; omega) fun i hi => by rw [h i (by omega), nth_hgtOf (by omega)]
theorem hg_step {xs ls ys : List Int} {k c n : Nat} (h : HgAt xs ls ys k) (hl : ys.length = n) (hk : k < n) (hc : nth ls k = (c : Int)) : HgAt xs ls (ys.set k ((k : Int) - nth xs c)) (k + 1) := fun i hi => by
  rw [nth_set (by omega)]
  split
  · subst_vars; rw [hc, Int.toNat_natCast]
  · exact h i (by omega)
theorem walk_of_none {xs : List Int} (h : xs.length = 0) : carsL xs = [] := by obtain rfl := List.eq_nil_of_length_eq_zero h; rfl

/-- The stable sort of the cars in order. -/
theorem sortCars_any (B n : Nat) (a al : Option Addr) (cap cl bx : Nat) (xs : List Int) (w : World) (h8 : n ≤ 8) (hl : xs.length = n) (hbd : ∀ c, c < n → 0 ≤ nth xs c ∧ nth xs c < (n : Int)) (hBw : B ≤ w.heap.size)
    (h : Own w B a n cap (upto n)) (hx : Has w al n cl xs) (hal : 0 < n → BlkLt al B) (hbx : w.cell? ⟨bx, 0, none⟩ = some (.slice al n cl)) (hbg : bx < B) :
    Calls Tryz.prog 69 #[.slice a n cap, .func (.func 70) #[] #[.pointer (some ⟨bx, 0, none⟩)]] w fun e w' =>
      e = .returned (.tuple #[]) ∧ Own w' B a n cap (carsL xs) ∧ Below B w w' := by
  by_cases hn : n = 0
  · subst hn
    refine (stableNone_any _ _ _ _).mono ?_
    rintro e w1 ⟨rfl, rfl⟩
    exact ⟨rfl, by rw [walk_of_none hl]; exact h, Below.refl _ _⟩
  · obtain ⟨m, rfl⟩ : ∃ m, n = m + 1 := ⟨n - 1, by omega⟩
    obtain ⟨g, rfl, hg1, hg2, _, _⟩ := h.opened (by omega)
    refine (stableCars_any B m g cap bx al cl xs w h8 hl (fun c hc => by have := hbd c hc; omega) h hx ((hal (by omega)).ne hg1) hbx (by omega)).mono ?_
    rintro e w1 ⟨rfl, ho, hgr⟩
    exact ⟨rfl, ho, below_grown hgr hBw (fun k hk => by simp at hk; omega)⟩

set_option maxHeartbeats 1000000 in
theorem carsBy_any (a : Option Addr) (n cap : Nat) (xs : List Int) (w : World) (h : Has w a n cap xs) (h8 : n ≤ 8) (hbd : ∀ c, c < n → 0 ≤ nth xs c ∧ nth xs c < (n : Int)) :
    Calls Tryz.prog 51 #[.slice a n cap] w fun e w' => ∃ a2 c2, e = .returned (.slice a2 n c2) ∧ Own w' w.heap.size a2 n c2 (carsL xs) ∧ Below w.heap.size w w' := by
  have HL := hid h.len
  have HBD := hid hbd
  have hle := h.le
  clear hbd
  go_enter Tryz.func51, Tryz.ntmps51
  go_wp2_with fail
  generalize hW : w.alloc (.cells #[.slice a n cap] 31) = W
  have hbW : Below w.heap.size w W := by rw [← hW]; exact (Below.refl _ w).alloc (Nat.le_refl _) _
  have hsz : W.heap.size = w.heap.size + 1 := by rw [← hW]; simp
  have hbx : W.cell? ⟨w.heap.size, 0, none⟩ = some (.slice a n cap) := by rw [← hW, World.cell?_alloc_at _ _ _ _ rfl]; rfl
  clear hW
  refine (indicesOf_any n _ (by omega)).mono ?_
  rintro e w2 ⟨a2, c2, rfl, own2, st⟩
  have hs2 := st.size
  replace hbx : w2.cell? ⟨w.heap.size, 0, none⟩ = some (.slice a n cap) := by rw [st.cell (p := ⟨w.heap.size, 0, none⟩) (by simp; omega)]; exact hbx
  have hb2 := hbW.trans (st.mono hbW.size)
  clear st hbW
  go_wp2_with fail
  refine (sortCars_any W.heap.size n a2 a c2 cap w.heap.size xs w2 h8 HL.out HBD.out hs2 own2 (h.below hb2 (Nat.le_refl _)) (fun hn => (h.lt hn).mono (by omega)) hbx (by omega)).mono ?_
  rintro e w3 ⟨rfl, own3, st⟩
  have hb3 := hb2.trans (st.mono (by omega))
  clear st hb2 own2
  go_wp2_with fail
  go_ret
  exact ⟨_, _, rfl, own3.mono (by omega), hb3⟩
set_option maxHeartbeats 2000000 in
theorem implWalkOf_any (a : Option Addr) (n cap : Nat) (xs : List Int) (w : World) (h : Has w a n cap xs) :
    Calls Tryz.prog 23 #[.slice a n cap] w (PostWalk w (walkOf xs)) := by
  have HL := hid h.len
  have hle := h.le
  go_enter Tryz.func23, Tryz.ntmps23
  go_wp2_with fail
  generalize hW : w.alloc (.cells #[.slice none 0 0, .slice none 0 0] 43) = W
  have hbW : Below w.heap.size w W := by rw [← hW]; exact (Below.refl _ w).alloc (Nat.le_refl _) _
  have hsz : W.heap.size = w.heap.size + 1 := by rw [← hW]; simp
  have BR : BoxAt W w.heap.size (.slice none 0 0) (.slice none 0 0) := by rw [← hW]; exact boxAt_new _ _ _ _
  clear hW
  refine (isParkingFunction_any _ _ _ _ _ (h.below hbW (Nat.le_refl _))).mono ?_
  rintro e w1 ⟨rfl, st⟩
  have hs1 := st.size
  replace BR := BR.below st (by omega)
  have hb1 := hbW.trans (st.mono hbW.size)
  clear st hbW
  by_cases hp : isPark xs = true
  · rw [hp]
    have HR : Hid (walkOf xs = ((hgtOf xs (carsL xs), carsL xs), true)) := hid (by unfold walkOf; rw [if_pos hp])
    obtain ⟨h8, hbd⟩ := park_facts hp h.len
    have HBD := hid hbd
    have HN : Hid (∀ k, k < n → ∃ c : Nat, nth (carsL xs) k = (c : Int) ∧ c < n) := hid (fun k hk => carsL_nth HL.out h8 hbd hk)
    have HCL := hid (length_carsL HL.out (by omega) hbd)
    clear hp hbd
    go_wp2_with fail
    refine (carsBy_any _ _ _ _ _ (h.below hb1 (Nat.le_refl _)) h8 HBD.out).mono ?_
    rintro e w3 ⟨a2, c2, rfl, own3, st⟩
    have hs3 := st.size
    replace BR := BR.below st (by omega)
    have hb3 := hb1.trans (st.mono hb1.size)
    clear st hb1
    go_wp2_with (at_make; refine wpList_make_ints _ rfl _ _ rfl n rfl rfl (by omega) ?_; intro a4 c4 w4 own4 st4)
    have lt3 := own3.lt
    replace BR := BR.below st4 (by omega)
    replace own3 := own3.below st4 (Nat.le_refl _)
    have hb4 := hb3.trans (st4.mono hb3.size)
    clear st4 hb3
    go_loopw [19] (fun i wr => ∃ (k : Nat) (ys : List Int), k ≤ n ∧ i = .int .i64 k ∧ Own wr w3.heap.size a4 n c4 ys ∧ Hid (HgAt xs (carsL xs) ys k) ∧ Own wr w1.heap.size a2 n c2 (carsL xs) ∧ BoxAt wr w.heap.size (.slice none 0 0) (.slice none 0 0) ∧ Below w.heap.size w wr) (fun i _ => n - (intOf i).toNat)
    case atStart => exact ⟨0, _, Nat.zero_le _, rfl, own4, hid (fun i hi => by omega), own3, BR, hb4⟩
    case round =>
      obtain ⟨k, ys, hk, rfl, oh, HH, oc, BR, hb⟩ := hrel
      clear own3 own4 hb4
      by_cases hlt : k < n
      · obtain ⟨b1, off1, rfl, hbb1, hc1⟩ := h.2.2.2.2 (by omega)
        obtain ⟨c, hcv, hcn⟩ := HN.out k hlt
        have hxc := HBD.out c hcn
        have hck : wr.cell? ⟨b1, off1 + c, none⟩ = some (.int .i64 (nth xs c)) := by rw [hb.cell (p := ⟨b1, off1 + c, none⟩) hbb1]; exact hc1 c hcn
        obtain ⟨q, rfl, hq1, hq2, hq3, hq4⟩ := oc.opened (by omega)
        have hqk := hq3 k hlt
        rw [hcv] at hqk
        obtain ⟨g, rfl, hg1, hg2, hg3, hg4⟩ := oh.opened (by omega)
        have hqg := lt3 _ rfl
        have hgx := hg3 k hlt
        have hgf := hg4 k
        have HH2 := hid (hg_step HH.out oh.len hlt hcv)
        obtain ⟨s1, s2⟩ := oh.set k ((k : Int) - nth xs c)
        have oc2 := oc.setNe (g := g) (i := k) (lt3.ne hg1) (.int .i64 ((k : Int) - nth xs c))
        have BR2 := BR.apart (g' := g) (i := k) (z := .int .i64 ((k : Int) - nth xs c)) (by omega)
        have hb5 := hb.setCell (p := ⟨g, k, none⟩) (by simp; omega) (.int .i64 ((k : Int) - nth xs c))
        have z1 : (c : Int) < (n : Int) := by omega
        clear hc1 hq3 hq4 hg3 hg4
        go_wp2_with fail
        go_roundw
        case rel => exact ⟨k + 1, _, by omega, by go_num, s1, HH2, oc2, BR2, hb5⟩
        case measure => simp [intOf]; omega
      · obtain rfl : k = n := by omega
        have HE := hid (hg_all HH.out oh.len HCL.out)
        have ap := (apart_lt lt3 oh.ge).symm
        rw [HE.out] at oh
        have f1 := ((oh.mono (show w.heap.size ≤ w3.heap.size by omega)).setNe (g := w.heap.size) (i := 0) (oh.ge.ne (by omega)) (.slice a4 k c4)).setNe (g := w.heap.size) (i := 1) (oh.ge.ne (by omega)) (.slice a2 k c2)
        have f2 := ((oc.mono (show w.heap.size ≤ w1.heap.size by omega)).setNe (g := w.heap.size) (i := 0) (oc.ge.ne (by omega)) (.slice a4 k c4)).setNe (g := w.heap.size) (i := 1) (oc.ge.ne (by omega)) (.slice a2 k c2)
        have B2f := (BR.set0 (z := .slice a4 k c4)).set1 (z := .slice a2 k c2)
        have hb5 := (hb.setCell (p := ⟨w.heap.size, 0, none⟩) (by simp) (.slice a4 k c4)).setCell (p := ⟨w.heap.size, 1, none⟩) (by simp) (.slice a2 k c2)
        obtain ⟨t1, t2, t3, t4⟩ := id BR
        go_wp2_with fail
        obtain ⟨y1, y2, y3, y4⟩ := id B2f
        refine bodyPost_ret (v := .tuple #[.agg #[.slice a4 k c4, .slice a2 k c2], .bool true]) (by simp [results, Tryz.results23, go_sem, *]) rfl (postWalk HR.out f1 f2 ap hb5)
  · rw [Bool.eq_false_iff.2 hp]
    have HR : Hid (walkOf xs = (([], []), false)) := hid (by unfold walkOf; rw [if_neg hp])
    have B2 := (BR.set0 (z := .slice none 0 0)).set1 (z := .slice none 0 0)
    obtain ⟨x1, x2, x3, x4⟩ := id BR
    go_wp2_with fail
    obtain ⟨y1, y2, y3, y4⟩ := id B2
    refine bodyPost_ret (v := .tuple #[.agg #[.slice none 0 0, .slice none 0 0], .bool false]) (by simp [results, Tryz.results23, go_sem, *]) rfl (postWalk_no HR.out ((hb1.setCell (by simp) _).setCell (by simp) _))

/-- The cars with a favourite less than x, and those of the first c with the favourite x. -/
def lx (xs : List Int) (x c : Nat) : List Int := carsTo xs x ++ idxs (fun i => decide (nth xs i = (x : Int))) c
theorem lx_zero (xs : List Int) (x : Nat) : lx xs x 0 = carsTo xs x := by simp [lx, idxs]
theorem lx_full {xs : List Int} {n x : Nat} (hl : xs.length = n) : lx xs x n = carsTo xs (x + 1) := by subst hl; rfl
theorem lx_yes {xs : List Int} {x c : Nat} (h : nth xs c = (x : Int)) : lx xs x (c + 1) = lx xs x c ++ [(c : Int)] := by unfold lx; rw [idxs_succ, if_pos (by simp [h]), List.append_assoc]
theorem lx_no {xs : List Int} {x c : Nat} (h : ¬ nth xs c = (x : Int)) : lx xs x (c + 1) = lx xs x c := by unfold lx; rw [idxs_succ, if_neg (by simp [h]), List.append_nil]
theorem hgtOf_snoc (xs ls : List Int) (c : Nat) : hgtOf xs (ls ++ [(c : Int)]) = hgtOf xs ls ++ [(ls.length : Int) - nth xs c] := by
  refine ext_nth (by simp [length_hgtOf]) fun i hi => ?_
  rw [length_hgtOf, List.length_append, List.length_singleton] at hi
  rw [nth_hgtOf (by simp; omega)]
  by_cases e : i < ls.length
  · rw [nth_append_left e, nth_append_left (by rw [length_hgtOf]; exact e), nth_hgtOf e]
  · obtain rfl : i = ls.length := by omega
    rw [nth_append_at, Int.toNat_natCast]
    have : nth (hgtOf xs ls ++ [(ls.length : Int) - nth xs c]) (hgtOf xs ls).length = (ls.length : Int) - nth xs c := nth_append_at
    rw [length_hgtOf] at this
    exact this.symm

set_option maxRecDepth 100000 in
set_option maxHeartbeats 4000000 in
theorem waOf_any (a : Option Addr) (n cap : Nat) (xs : List Int) (w : World) (h : Has w a n cap xs) (h8 : n ≤ 8) :
    Calls Tryz.prog 30 #[.slice a n cap] w fun e w' => ∃ ah q ch al cl, e = .returned (.agg #[.slice ah q ch, .slice al q cl]) ∧ Own w' w.heap.size ah q ch (hgtOf xs (carsL xs)) ∧ Own w' w.heap.size al q cl (carsL xs) ∧ Apart2 ah al ∧ Below w.heap.size w w' := by
  have HL := hid h.len
  go_enter Tryz.func30, Tryz.ntmps30
  go_wp2_with fail
  generalize hW : (w.alloc (.cells #[.slice none 0 0, .slice none 0 0] 43)).alloc (.cells #[.slice none 0 0, .slice none 0 0] 43) = W
  have hbW : Below w.heap.size w W := by rw [← hW]; exact ((Below.refl _ w).alloc (Nat.le_refl _) _).alloc (by simp) _
  have hsz : W.heap.size = w.heap.size + 2 := by rw [← hW]; simp
  have BR : BoxAt W w.heap.size (.slice none 0 0) (.slice none 0 0) := by rw [← hW]; exact (boxAt_new _ _ _ _).alloc _
  have BX : BoxAt W (w.heap.size + 1) (.slice none 0 0) (.slice none 0 0) := by rw [← hW]; have := boxAt_new (w.alloc (.cells #[.slice none 0 0, .slice none 0 0] 43)) (.slice none 0 0) (.slice none 0 0) 43; simpa using this
  clear hW
  go_loopw [10] (fun i wr => ∃ (x q : Nat) (ah al : Option Addr) (ch cl : Nat), x ≤ n ∧ q ≤ 8 * x ∧ i = .int .i64 x ∧ Own wr (w.heap.size + 2) ah q ch (hgtOf xs (carsTo xs x)) ∧ Own wr (w.heap.size + 2) al q cl (carsTo xs x) ∧ Apart ah al ∧ w.heap.size + 2 ≤ wr.heap.size ∧ BoxAt wr w.heap.size (.slice none 0 0) (.slice none 0 0) ∧ BoxAt wr (w.heap.size + 1) (.slice ah q ch) (.slice al q cl) ∧ Below w.heap.size w wr) (fun i _ => n - (intOf i).toNat)
  case atStart => exact ⟨0, 0, none, none, 0, 0, Nat.zero_le _, Nat.zero_le _, rfl, Own.nil _ _, Own.nil _ _, Apart.noneL _, by omega, BR, BX, hbW⟩
  case round =>
    obtain ⟨wo, rfl⟩ : ∃ wo : World, wo = wr := ⟨_, rfl⟩
    obtain ⟨x, q, ah, al, ch, cl, hx, hq, rfl, oh, ol, hap, hszr, hR, hX, hb⟩ := hrel
    clear BR BX hbW
    by_cases hlt : x < n
    · go_wp2_with fail
      go_loopw [15] (fun i wr => ∃ (c q : Nat) (ah al : Option Addr) (ch cl : Nat), c ≤ n ∧ q ≤ 8 * x + c ∧ i = .int .i64 c ∧ Own wr (w.heap.size + 2) ah q ch (hgtOf xs (lx xs x c)) ∧ Own wr (w.heap.size + 2) al q cl (lx xs x c) ∧ Apart ah al ∧ w.heap.size + 2 ≤ wr.heap.size ∧ BoxAt wr w.heap.size (.slice none 0 0) (.slice none 0 0) ∧ BoxAt wr (w.heap.size + 1) (.slice ah q ch) (.slice al q cl) ∧ Below w.heap.size w wr) (fun i _ => n - (intOf i).toNat)
      case atStart => exact ⟨0, q, ah, al, ch, cl, Nat.zero_le _, by omega, rfl, by rw [lx_zero]; exact oh, by rw [lx_zero]; exact ol, hap, hszr, hR, hX, hb⟩
      case round =>
        clear oh ol hap hR hX hb
        obtain ⟨c, q, ah, al, ch, cl, hc, hq, rfl, oh, ol, hap, hszr, hR, hX, hb⟩ := hrel
        by_cases hlc : c < n
        · obtain ⟨b1, off1, rfl, hbb1, hc1⟩ := h.2.2.2.2 (by omega)
          have hck : wr.cell? ⟨b1, off1 + c, none⟩ = some (.int .i64 (nth xs c)) := by rw [hb.cell (p := ⟨b1, off1 + c, none⟩) hbb1]; exact hc1 c hlc
          have z1 : (c : Int) < (n : Int) := by omega
          clear hc1
          by_cases he : nth xs c = (x : Int)
          · have hbe : ((x : Int) == nth xs c) = true := by simp [he]
            have HS := hid (lx_yes he)
            have HQ := hid ol.len
            have HH : Hid (hgtOf xs (lx xs x (c + 1)) = hgtOf xs (lx xs x c) ++ [(q : Int) - (x : Int)]) := hid (by rw [HS.out, hgtOf_snoc, HQ.out, he])
            obtain ⟨x1, x2, x3, x4⟩ := id hX
            clear he
            go_upto_region 10 with (at_builtin; refine wpList_append_two _ rfl _ _ rfl (w.heap.size + 2) _ _ _ _ _ rfl rfl oh (by omega) hszr (w.heap.size + 2) _ _ _ _ ol hap ?_; intro a5 c5 w5 oh5 ol5 hap5 st5; have X5 := hX.below st5 (by omega); obtain ⟨y1, y2, y3, y4⟩ := id X5)
            have X6 := X5.set0 (z := .slice a5 (q + 1) c5)
            have oh6 := oh5.setNe (g := w.heap.size + 1) (i := 0) (oh5.ge.ne (by omega)) (.slice a5 (q + 1) c5)
            have ol6 := ol5.setNe (g := w.heap.size + 1) (i := 0) (ol5.ge.ne (by omega)) (.slice a5 (q + 1) c5)
            have hR6 := (hR.below st5 (by omega)).apart (g' := w.heap.size + 1) (i := 0) (z := .slice a5 (q + 1) c5) (by omega)
            have hb6 := (hb.trans (st5.mono (by omega))).setCell (p := ⟨w.heap.size + 1, 0, none⟩) (by simp) (.slice a5 (q + 1) c5)
            have hsz6 : w.heap.size + 2 ≤ (w5.setCell ⟨w.heap.size + 1, 0, none⟩ (.slice a5 (q + 1) c5)).heap.size := by have := st5.size; simp; omega
            clear oh ol hX hR hb X5 oh5 ol5 st5 x1 x2 x3 x4 y1 y2 y3 y4
            generalize w5.setCell ⟨w.heap.size + 1, 0, none⟩ (.slice a5 (q + 1) c5) = V at *
            obtain ⟨x1, x2, x3, x4⟩ := id X6
            go_wp2_with (at_builtin; refine wpList_append_two _ rfl _ _ rfl (w.heap.size + 2) _ _ _ _ _ rfl rfl ol6 (by omega) hsz6 (w.heap.size + 2) _ _ _ _ oh6 hap5.symm ?_; intro a7 c7 w7 ol7 oh7 hap7 st7; have X7 := X6.below st7 (by omega); obtain ⟨y1, y2, y3, y4⟩ := id X7)
            have X8 := X7.set1 (z := .slice a7 (q + 1) c7)
            have oh8 := oh7.setNe (g := w.heap.size + 1) (i := 1) (oh7.ge.ne (by omega)) (.slice a7 (q + 1) c7)
            have ol8 := ol7.setNe (g := w.heap.size + 1) (i := 1) (ol7.ge.ne (by omega)) (.slice a7 (q + 1) c7)
            have hR8 := (hR6.below st7 (by omega)).apart (g' := w.heap.size + 1) (i := 1) (z := .slice a7 (q + 1) c7) (by omega)
            have hb8 := (hb6.trans (st7.mono (by omega))).setCell (p := ⟨w.heap.size + 1, 1, none⟩) (by simp) (.slice a7 (q + 1) c7)
            go_roundw
            case rel => exact ⟨c + 1, q + 1, a5, a7, c5, c7, by omega, by omega, by go_num, by rw [HH.out]; exact oh8, by rw [HS.out]; exact ol8, hap7.symm, by have := st7.size; simp; omega, hR8, X8, hb8⟩
            case measure => simp [intOf]; omega
          · have hbe : ((x : Int) == nth xs c) = false := by simp; exact fun e => he e.symm
            have HS := hid (lx_no he)
            clear he
            go_wp2_with fail
            go_roundw
            case rel => exact ⟨c + 1, q, ah, al, ch, cl, by omega, by omega, by go_num, by rw [HS.out]; exact oh, by rw [HS.out]; exact ol, hap, hszr, hR, hX, hb⟩
            case measure => simp [intOf]; omega
        · obtain rfl : c = n := by omega
          have HF := hid (lx_full (x := x) HL.out)
          go_wp2_with fail
          go_roundw
          case rel => exact ⟨x + 1, q, ah, al, ch, cl, by omega, by omega, by go_num, by rw [← HF.out]; exact oh, by rw [← HF.out]; exact ol, hap, hszr, hR, hX, hb⟩
          case measure => simp [intOf]; omega
    · obtain rfl : x = n := by omega
      have HC : Hid (carsL xs = carsTo xs x) := hid (by unfold carsL; rw [HL.out])
      have f1 := ((oh.mono (show w.heap.size ≤ w.heap.size + 2 by omega)).setNe (g := w.heap.size) (i := 0) (oh.ge.ne (by omega)) (.slice ah q ch)).setNe (g := w.heap.size) (i := 1) (oh.ge.ne (by omega)) (.slice al q cl)
      have f2 := ((ol.mono (show w.heap.size ≤ w.heap.size + 2 by omega)).setNe (g := w.heap.size) (i := 0) (ol.ge.ne (by omega)) (.slice ah q ch)).setNe (g := w.heap.size) (i := 1) (ol.ge.ne (by omega)) (.slice al q cl)
      have B2f := (hR.set0 (z := .slice ah q ch)).set1 (z := .slice al q cl)
      have hb5 := (hb.setCell (p := ⟨w.heap.size, 0, none⟩) (by simp) (.slice ah q ch)).setCell (p := ⟨w.heap.size, 1, none⟩) (by simp) (.slice al q cl)
      rw [← HC.out] at f1 f2
      obtain ⟨t1, t2, t3, t4⟩ := id hX
      obtain ⟨s1, s2, s3, s4⟩ := id hR
      go_wp2_with fail
      obtain ⟨y1, y2, y3, y4⟩ := id B2f
      refine bodyPost_ret (v := .agg #[.slice ah q ch, .slice al q cl]) (by simp [results, Tryz.results30, go_sem, *]) rfl ⟨ah, q, ch, al, cl, rfl, f1, f2, hap, hb5⟩

end Go.Proofs.YtakadjhbomggbaaGreat

namespace Go.Proofs.YtakadjhbomggbaaGreat
open Go.RowKit

theorem hgt_small {hs : List Int} {n : Nat} (hl : hs.length = n) (h8 : n ≤ 8) (hb : ∀ i, i < n → 0 ≤ nth hs i ∧ nth hs i ≤ (i : Int)) : Small hs := fun i hi => by
  have := hb i (by omega)
  omega
set_option maxHeartbeats 400000 in
theorem area_any (a : Option Addr) (n cap : Nat) (ys : List Int) (w : World) (h : Has w a n cap ys) (hs : Small ys) :
    Calls Tryz.prog 25 #[.slice a n cap] w fun e w' => e = .returned (.int .i64 (total ys)) ∧ w = w' := by
  obtain ⟨h0, h1, h2, h3, h4⟩ := h
  go_enter Tryz.func25, Tryz.ntmps25
  go_wp2_with fail
  go_loop [3, 8] (fun c i => ∃ k : Nat, k ≤ n ∧ i = .int .i64 k ∧ c = .int .i64 (total (ys.take k))) (fun _ i => n - (intOf i).toNat)
  case atStart => exact ⟨0, Nat.zero_le _, rfl, rfl⟩
  case round =>
    obtain ⟨k, hk, rfl, rfl⟩ := hrel
    by_cases hlt : k < n
    · obtain ⟨b, off, rfl, hb, hc⟩ := h4 (by omega)
      have hck := hc k hlt
      have ht := total_bounds hs k (by omega)
      obtain ⟨hv0, hv1⟩ := hs k (by omega)
      have HS := hid (total_succ (xs := ys) (k := k) (by omega))
      clear hc h4 hs
      go_wp2_with fail
      go_round
      case rel => exact ⟨k + 1, by omega, by go_num, by rw [HS.out]⟩
      case measure => simp [intOf]; omega
    · obtain rfl : k = n := by omega
      go_wp2_with fail
      go_ret
      exact ⟨ret_int (by rw [List.take_of_length_le (by omega)]), rfl⟩

end Go.Proofs.YtakadjhbomggbaaGreat

namespace Go.Proofs.YtakadjhbomggbaaGreat
open Go.RowKit

/-- The first k numbers of a mixture are laid. -/
def Mixed (zs ys : List Int) (k : Nat) : Prop := ∀ i, i < k → nth ys i = nth zs i

theorem mix_nth {xs ys : List Int} {low : Bool} {k : Nat} (hx : k < xs.length) (hy : k < ys.length) : nth (mixWith xs ys low) k = if low then min (nth xs k) (nth ys k) else max (nth xs k) (nth ys k) := by
  simp [nth, mixWith, List.getElem?_zipWith, hx, hy]

end Go.Proofs.YtakadjhbomggbaaGreat

namespace Go.Proofs.YtakadjhbomggbaaGreat
open Go.RowKit

set_option maxHeartbeats 800000 in
theorem pnext_any (a : Option Addr) (n cap : Nat) (xs : List Int) (w : World) (h : Has w a n cap xs) (h8 : n ≤ 8) (hx : ∀ i, i < n → 0 ≤ nth xs i ∧ nth xs i ≤ 8) :
    Calls Tryz.prog 49 #[.slice a n cap] w (PostInts w (nextP xs n)) := by
  have HE := hid (nextU_idx h.len h8 n (Nat.le_refl _))
  have HX : Hid (∀ i, i < n → 0 ≤ nth xs i ∧ nth xs i ≤ 13) := hid (fun i hi => by have := hx i hi; omega)
  obtain ⟨⟨ys, ok⟩, hr⟩ : ∃ r, nextP xs n = r := ⟨_, rfl⟩
  have HR := hid hr
  clear hr hx
  go_enter Tryz.func49, Tryz.ntmps49
  go_wp2_with fail
  refine (indices_any n _ (by omega)).mono ?_
  rintro e w1 ⟨a1, cap1, rfl, hown1, hb1⟩
  go_wp2_with fail
  refine (nextU_any _ _ _ _ _ _ _ _ (h.below hb1 (Nat.le_refl _)) hown1.has h8 HX.out).mono ?_
  rw [HE.out, HR.out]
  rintro e w2 ⟨a2, m2, cap2, rfl, hown2, hb2⟩
  go_wp2_with fail
  go_ret2
  exact postInts HR.out (hown2.mono hb1.size) (hb1.trans (hb2.mono hb1.size))

theorem parks_small {xs : List Int} {n : Nat} (h : isPark xs = true) (hn : xs.length = n) : n ≤ 8 ∧ ∀ i, i < n → 0 ≤ nth xs i ∧ nth xs i ≤ 8 := by
  obtain ⟨h1, h2⟩ := isPark_bounds h
  refine ⟨by omega, fun i hi => ?_⟩
  have := h2 _ (nth_mem (xs := xs) (i := i) (by omega))
  omega
theorem nextOf_none {xs : List Int} (h : ¬ isPark xs = true) : nextOf xs = ([], false) := by simp [nextOf, h]

end Go.Proofs.YtakadjhbomggbaaGreat

namespace Go.Proofs.YtakadjhbomggbaaGreat
open Go.RowKit

set_option maxHeartbeats 4000000 in
theorem allNext_any (n : Nat) (L : List (List Int)) (hch : Chain (fun xs => nextP xs xs.length) L) (h8 : n ≤ 8) (hq : L.length ≤ 100000) (hv : ∀ k, k < L.length → (L.getD k []).length = n ∧ ∀ i, i < n → 0 ≤ nth (L.getD k []) i ∧ nth (L.getD k []) i ≤ 8)
    (w0 w : World) (a : Option Addr) (m cap : Nat) (xs : List Int) (hb0 : Below w0.heap.size w0 w) (hfirst : Own w w0.heap.size a m cap xs) (hx : L.getD 0 [] = xs) :
    Calls Tryz.prog 48 #[.slice a m cap, .func (.func 49) #[] #[]] w (PostRowsOnly w0 L) := by
  obtain ⟨hL0, hL1, hL2⟩ := hch
  have H1 := hid hL1
  have H2 := hid hL2
  have HV := hid hv
  have HX := hid hx
  clear hL1 hL2 hv hx
  go_enter Tryz.func48, Tryz.ntmps48
  go_wp2_with fail
  go_loopw [5, 6, 7] (fun o s b wr => ∃ (k : Nat) (wk : World) (a' : Option Addr) (cap' : Nat) (rs : List Rw) (a1 : Option Addr) (m1 c1 : Nat) (ys : List Int) (ok : Bool), k ≤ L.length ∧ o = .slice a' k cap' ∧ s = .slice a1 m1 c1 ∧ b = .bool ok ∧ Hid (ok = decide (k < L.length)) ∧
    OwnR wk w0.heap.size a' k cap' rs ∧ Hid (numsOf rs = L.take k) ∧ Below wk.heap.size wk wr ∧ w0.heap.size ≤ wk.heap.size ∧ Own wr wk.heap.size a1 m1 c1 ys ∧ Hid (k < L.length → L.getD k [] = ys) ∧ Below w0.heap.size w0 wr) (fun o _ _ _ => L.length + 1 - (match o with | .slice _ k _ => k | _ => 0))
  case atStart => exact ⟨0, w0, none, 0, [], a, m, cap, xs, true, Nat.zero_le _, rfl, rfl, rfl, hid (by simp [hL0]), OwnR.nil _ _, hid rfl, hb0, Nat.le_refl _, hfirst, hid (fun _ => HX.out), hb0⟩
  case round =>
    clear hb0 hfirst
    obtain ⟨k, wk, a', cap', rs, a1, m1, c1, ys, ok, hk, rfl, rfl, rfl, HOK, hrows, HR, hbk, hwk, hys, HY, hb⟩ := hrel
    by_cases hlt : k < L.length
    · obtain rfl : ok = true := by rw [HOK.out]; simp [hlt]
      obtain ⟨v1, v2⟩ := HV.out k hlt
      have hyl := HY.out hlt
      rw [hyl] at v1 v2
      obtain rfl : n = m1 := by rw [← v1]; exact hys.len
      have V2 := hid v2
      have V1 := hid v1
      have HYL := hid hyl
      have HT := hid (take_getD hlt)
      have HR' : Hid (numsOf rs ++ [ys] = L.take (k + 1)) := hid (by rw [HT.out, HR.out, HYL.out])
      have hlen := hrows.len
      have HLEN := hid hlen
      clear v1 v2 hyl hlen
      go_wp2_with (at_builtin; refine wpList_append_row wk wr rfl _ _ rfl w0.heap.size _ _ _ _ _ _ _ _ rfl rfl hrows hbk hys (by omega) hwk ?_; intro a2 cap2 w2 hrows2 hb2)
      have hrow : Has w2 a1 n c1 ys := by
        have := hrows2.has.2.2.2.2.2 k (by omega)
        rw [nthR_append_right (by rw [HLEN.out]; exact Nat.le_refl _), HLEN.out, Nat.sub_self, nthR_one] at this
        simpa [V1.out] using this
      refine (pnext_any _ _ _ _ _ hrow h8 V2.out).mono ?_
      have hw2 : w0.heap.size ≤ w2.heap.size := Nat.le_trans (Nat.le_trans hwk hbk.size) hb2.size
      have hbw := hb.trans hb2
      by_cases hk1 : k + 1 < L.length
      · have HF := H1.out k hk1
        rw [HYL.out] at HF
        simp only [V1.out] at HF
        rw [HF]
        rintro e w3 ⟨a3, m3, cap3, rfl, hown3, hb3⟩
        clear HF
        go_wp2_with fail
        go_roundw
        case rel => exact ⟨k + 1, w2, a2, cap2, _, a3, m3, cap3, _, true, by omega, rfl, rfl, rfl, hid (by simp [hk1]), hrows2, hid (by rw [← HR'.out]; simp [numsOf]), hb3, hw2, hown3, hid (fun _ => rfl), hbw.trans (hb3.mono hw2)⟩
        case measure => simp; omega
      · have HF := H2.out
        rw [show L.length - 1 = k by omega, HYL.out] at HF
        simp only [V1.out] at HF
        rw [HF]
        rintro e w3 ⟨a3, m3, cap3, rfl, hown3, hb3⟩
        clear HF
        go_wp2_with fail
        go_roundw
        case rel => exact ⟨k + 1, w2, a2, cap2, _, a3, m3, cap3, _, false, by omega, rfl, rfl, rfl, hid (by simp [hk1]), hrows2, hid (by rw [← HR'.out]; simp [numsOf]), hb3, hw2, hown3, hid (fun h => absurd h hk1), hbw.trans (hb3.mono hw2)⟩
        case measure => simp; omega
    · obtain rfl : ok = false := by rw [HOK.out]; simp [hlt]
      have HE : Hid (numsOf rs = L) := hid (by rw [HR.out, List.take_of_length_le (by omega)])
      go_wp2_with fail
      go_ret
      exact ⟨a', k, cap', rs, rfl, hrows.below hbk (Nat.le_refl _), HE.out, hb⟩

theorem chain_next {n : Nat} (h8 : n ≤ 8) : Chain (fun xs => nextP xs xs.length) (listL n n []) := by
  obtain ⟨⟨c1, c2, c3⟩, _, _, hp⟩ := all_chain h8
  refine ⟨c1, fun k hk => ?_, ?_⟩
  · show nextP _ _ = _
    rw [nextP_eq (hp k (by omega)).1]
    exact c2 k hk
  · show nextP _ _ = _
    rw [nextP_eq (hp _ (by omega)).1]
    exact c3
theorem cnt_le5 {n : Nat} (h : n ≤ 5) : cnt n ≤ 1296 := by
  have : ∀ n, n < 6 → cnt n ≤ 1296 := by decide +kernel
  exact this n (by omega)

set_option maxHeartbeats 400000 in
theorem allParking_any (n : Int) (w : World) : Calls Tryz.prog 22 #[.int .i64 n] w (PostRows w (allOf n)) := by
  by_cases h1 : 0 ≤ n
  · by_cases h2 : n ≤ 5
    · obtain ⟨m, rfl⟩ : ∃ m : Nat, n = (m : Int) := ⟨n.toNat, by omega⟩
      have hm : m ≤ 5 := by omega
      have HA := hid (allOf_yes (inB_iff.2 ⟨h1, h2⟩))
      obtain ⟨_, hf, hl, hp⟩ := all_chain (n := m) (by omega)
      have hc5 := cnt_le5 hm
      have HF := hid hf
      have HC := hid (chain_next (n := m) (by omega))
      have HV : Hid (∀ k, k < (listL m m []).length → ((listL m m []).getD k []).length = m ∧ ∀ i, i < m → 0 ≤ nth ((listL m m []).getD k []) i ∧ nth ((listL m m []).getD k []) i ≤ 8) := hid (fun k hk => ⟨(hp k hk).2, (parks_small (hp k hk).1 (hp k hk).2).2⟩)
      have HL : Hid ((listL m m []).length ≤ 100000) := hid (by omega)
      clear hf hl hp
      go_enter Tryz.func22, Tryz.ntmps22
      go_wp2_with (refine wpList_make_intsT 66 Tryz.underlying66 _ rfl _ _ rfl m rfl rfl (by omega) ?_; intro a1 cap1 w1 hown1 hb1)
      refine (allNext_any m (listL m m []) HC.out (by omega) HL.out HV.out w _ _ _ _ _ hb1 hown1 HF.out).mono ?_
      rintro e w2 ⟨a2, q2, cap2, rs2, rfl, hown2, hn2, hb2⟩
      go_wp2_with fail
      go_ret2
      exact postRows HA.out hown2 hn2 hb2
    · have HA := hid (allOf_no (n := n) (by rw [Bool.not_eq_true, inB_not]; omega))
      go_enter Tryz.func22, Tryz.ntmps22
      go_wp2_with fail
      go_ret2
      exact postRows_no HA.out (Below.refl _ _)
  · have HA := hid (allOf_no (n := n) (by rw [Bool.not_eq_true, inB_not]; omega))
    go_enter Tryz.func22, Tryz.ntmps22
    go_wp2_with fail
    go_ret2
    exact postRows_no HA.out (Below.refl _ _)

theorem allSortedOf_yes {n : Nat} (h : inB (n : Int) 0 6 = true) : allSortedOf n = (sortL n [], true) := by simp [allSortedOf, h]
theorem allSortedOf_no {n : Int} (h : ¬ inB n 0 6 = true) : allSortedOf n = ([], false) := by simp [allSortedOf, h]
theorem sorted_facts {n : Nat} (h : n ≤ 6) : Chain (fun xs => nextS xs xs.length) (sortL n []) ∧ (sortL n []).getD 0 [] = List.replicate n 0 ∧ (sortL n []).length ≤ 132 ∧
    ∀ k, k < (sortL n []).length → ((sortL n []).getD k []).length = n ∧ ∀ i, i < n → 0 ≤ nth ((sortL n []).getD k []) i ∧ nth ((sortL n []).getD k []) i ≤ 8 := by
  obtain ⟨c1, c2, c3, c4⟩ := sorted_chain n (by omega)
  refine ⟨chain_of c1, c2, c3, fun k hk => ?_⟩
  have hm : (sortL n []).getD k [] ∈ sortL n [] := by simp [hk]
  have := List.all_eq_true.1 c4 _ hm
  simp only [Bool.and_eq_true, decide_eq_true_eq] at this
  refine ⟨this.1, fun i hi => ?_⟩
  have := allB_nth this.2 (k := i) (by omega)
  omega

end Go.Proofs.YtakadjhbomggbaaGreat

namespace Go.Proofs.YtakadjhbomggbaaGreat
open Go.RowKit

theorem numsOf_append' (rs ss : List Rw) : numsOf (rs ++ ss) = numsOf rs ++ numsOf ss := by simp [numsOf]
theorem sp_num {N : Nat} (h : N < 5) : ∃ K q : Int, max 0 ((N : Int) - 1) = K ∧ (N : Int) * K = 2 * q ∧ (N : Int) * ((N : Int) - 1) = 2 * q ∧ q + 1 = (spM N : Int) ∧ 0 ≤ K ∧ K ≤ 3 ∧ 0 ≤ q ∧ q ≤ 6 := by
  rcases (show N = 0 ∨ N = 1 ∨ N = 2 ∨ N = 3 ∨ N = 4 by omega) with rfl | rfl | rfl | rfl | rfl
  · exact ⟨0, 0, by decide, by decide, by decide, by decide, by decide, by decide, by decide, by decide⟩
  · exact ⟨0, 0, by decide, by decide, by decide, by decide, by decide, by decide, by decide, by decide⟩
  · exact ⟨1, 1, by decide, by decide, by decide, by decide, by decide, by decide, by decide, by decide⟩
  · exact ⟨2, 3, by decide, by decide, by decide, by decide, by decide, by decide, by decide, by decide⟩
  · exact ⟨3, 6, by decide, by decide, by decide, by decide, by decide, by decide, by decide, by decide⟩
/-- What is asked of a list's walk. -/
theorem sp_walk {xs : List Int} {n : Nat} (h : isPark xs = true) (hl : xs.length = n) : n ≤ 8 ∧ (carsL xs).length = n ∧ (spH xs).length = n ∧ walkB (spH xs) (carsL xs) = true ∧ Small (spH xs) ∧ (∀ i, i < n → 0 ≤ nth (spH xs) i ∧ nth (spH xs) i ≤ (i : Int)) ∧ total (spH xs) = (spA xs : Int) := by
  obtain ⟨h8, h1, -, -, -, -⟩ := cars_facts h
  have hw := walk_park h
  have hg := (walkB_iff.1 hw).1
  have hlh : (spH xs).length = n := by unfold spH; rw [length_hgtOf, h1, hl]
  have hb := (hgt_of hg (show (hgtOf xs (carsL xs)).length = n from hlh)).2
  refine ⟨by omega, by omega, hlh, hw, hgt_small hlh (by omega) hb, hb, ?_⟩
  have : 0 ≤ total (spH xs) := total_nonneg fun x hx => by
    obtain ⟨i, hi, rfl⟩ := mem_nth hx
    have := hb i (by omega)
    show 0 ≤ nth (hgtOf xs (carsL xs)) i
    omega
  unfold spA
  omega
theorem spTo_b {N : Nat} (h : N < 5) : ∀ k, k ≤ (listL N N []).length → TbB (spM N) k (spTo (spM N) (listL N N []) k)
  | 0, _ => tbB_start _
  | k + 1, hk => by
    obtain ⟨-, -, h1, h2⟩ := sp_at h (k := k) (by omega)
    exact tbB_inc (spTo_b h k (by omega)) h1 h2
theorem rep_snoc {α : Type} (k : Nat) (x : α) : List.replicate k x ++ [x] = List.replicate (k + 1) x := by rw [← List.replicate_succ']
set_option maxRecDepth 100000 in
set_option maxHeartbeats 8000000 in
theorem specSpread_any (n : Int) (w : World) : Calls Tryz.prog 7 #[.int .i64 n] w (PostRows w (spreadOf n)) := by
  by_cases hg : inB n 0 4 = true
  · obtain ⟨N, rfl⟩ : ∃ N : Nat, n = (N : Int) := ⟨n.toNat, by have := inB_iff.1 hg; omega⟩
    have hN : N < 5 := by have := inB_iff.1 hg; omega
    have HG := hid hg
    have HR : Hid (spreadOf (N : Int) = (spTo (spM N) (listL N N []) (listL N N []).length, true)) := hid (by unfold spreadOf; rw [if_pos hg]; simp)
    have HAL : Hid (allOf (N : Int) = (listL N N [], true)) := hid (by have : inB (N : Int) 0 5 = true := inB_iff.2 ⟨by omega, by omega⟩; simp [allOf, this])
    obtain ⟨-, hL125, hM7⟩ := sp_all N hN
    obtain ⟨K, q, e1, e2, e3, e4, k0, k3, q0, q6⟩ := sp_num hN
    have HSA := hid (fun k (hk : k < (listL N N []).length) => sp_at hN hk)
    have HTB := hid (fun k (hk : k ≤ (listL N N []).length) => spTo_b hN k hk)
    obtain ⟨M, hM⟩ : ∃ M, spM N = M := ⟨_, rfl⟩
    rw [hM] at e4 hM7 HR HSA HTB
    have hM1 : 1 ≤ M := by omega
    have HK := hid e1
    have HQ := hid e2
    have hw1 : IntKind.i64.wrap ((N : Int) - 1) = (N : Int) - 1 := by rw [IntKind.wrap_i64]; omega
    have hw2 : IntKind.i64.wrap (2 * q) = 2 * q := by rw [IntKind.wrap_i64]; omega
    have hd1 : (2 * q).tdiv 2 = q := by rw [Int.tdiv_eq_ediv_of_nonneg (by omega)]; omega
    have hw3 : IntKind.i64.wrap q = q := by rw [IntKind.wrap_i64]; omega
    have hw4 : IntKind.i64.wrap (q + 1) = (M : Int) := by rw [IntKind.wrap_i64]; omega
    have HSN := hid (fun k => rep_snoc k (List.replicate M (0 : Int)))
    generalize listL N N [] = L at *
    clear hg hM e1 e3 e4
    go_enter Tryz.func7, Tryz.ntmps7
    go_wp2_with (go_at_call 27; refine (l1In_any _ _ _ _).mono ?_; rintro e w' ⟨rfl, rfl⟩; rw [HG.out])
    refine (specAll_any _ _).mono ?_
    rw [HAL.out]
    rintro e w1 ⟨aL, qL, cL, rl, rfl, RL, hnL, hb1⟩
    replace hnL : numsOf rl = L := hnL
    have hqL : L.length = qL := by rw [← hnL]; simpa [numsOf] using RL.len
    have HNL := hid hnL
    clear hnL
    go_wp2_with fail
    refine (l1Most_any _ _ _).mono ?_
    rintro e _ ⟨rfl, rfl⟩
    rw [HK.out]
    have hmul := HQ.out
    go_wp2_with fail
    clear hmul
    go_loopw [6, 8] (fun t i wr => ∃ (j : Nat) (a' : Option Addr) (c' : Nat) (rs : List Rw), j ≤ M ∧ i = .int .i64 (j : Int) ∧ t = .slice a' j c' ∧ OwnR wr w1.heap.size a' j c' rs ∧ Hid (numsOf rs = List.replicate j (List.replicate M 0)) ∧ Below w1.heap.size w1 wr) (fun _ i _ => M - (intOf i).toNat)
    case atStart => exact ⟨0, none, 0, [], Nat.zero_le _, rfl, rfl, OwnR.nil _ _, hid rfl, Below.refl _ _⟩
    case round =>
      obtain ⟨j, a', c', rs, hj, rfl, rfl, R, HNR, hb⟩ := hrel
      have hsz := hb.size
      by_cases hlt : j < M
      · go_wp2_with (first | (at_make; refine wpList_make_ints _ rfl _ _ rfl M rfl rfl (by omega) ?_; intro a1 c1 w3 own1 st1) | (at_builtin; refine wpList_append_row wr w3 rfl _ _ rfl w1.heap.size _ _ _ _ _ _ _ _ rfl rfl R st1 own1 (by omega) hsz ?_; intro a2 c2 w4 R2 st2))
        have hb2 := (hb.trans (st1.mono hsz)).trans st2
        go_roundw
        case rel => exact ⟨j + 1, a2, c2, _, by omega, by go_num, rfl, R2, hid (by rw [numsOf_append', HNR.out]; exact HSN.out j), hb2⟩
        case measure => simp [intOf]; omega
      · obtain rfl : M = j := by omega
        obtain ⟨gtb, rfl, g1, g2, g3, g4⟩ := R.cellAt hM1
        clear g3 g4
        go_wp2_with fail
        go_loopw [39] (fun i wr => ∃ (k : Nat) (rs : List Rw), k ≤ qL ∧ i = .int .i64 (k : Int) ∧ OwnR wr w1.heap.size (some ⟨gtb, 0, none⟩) M c' rs ∧ Hid (numsOf rs = spTo M L k) ∧ Below w1.heap.size w1 wr) (fun i _ => qL - (intOf i).toNat)
        case atStart => exact ⟨0, rs, Nat.zero_le _, rfl, R, hid HNR.out, hb⟩
        case round =>
          obtain ⟨wo, rfl⟩ : ∃ wo : World, wo = wr := ⟨_, rfl⟩
          clear R HNR hb hsz g2
          obtain ⟨k, rs, hk, rfl, R, HNR, hb⟩ := hrel
          have hsz := hb.size
          by_cases hkl : k < qL
          · obtain ⟨pk, ln, h1, h2⟩ := HSA.out k (by omega)
            have RLw := RL.below hb (Nat.le_refl _)
            obtain ⟨gL, rfl, l1, l2, l3, l4⟩ := RLw.cellAt (by omega)
            have cL1 := l3 k hkl
            have hrowL := (RLw.row hkl).has
            have exL : (nthR rl k).xs = rowT L k := by rw [← HNL.out]; exact (numsOf_nth (by rw [RL.len]; exact hkl)).symm
            rw [exL] at cL1 hrowL
            obtain ⟨xs, hxs⟩ : ∃ xs, rowT L k = xs := ⟨_, rfl⟩
            rw [hxs] at pk ln h1 h2 cL1 hrowL
            obtain ⟨h8, lc, lh, hwb, hsmall, hhb, hA1⟩ := sp_walk pk ln
            have HX := hid hxs
            rw [ln] at cL1 hrowL
            clear l3 l4 exL hxs
            go_wp2_with fail
            refine (waOf_any _ _ _ _ _ hrowL (by omega)).mono ?_
            rintro e w3 ⟨ah, nh, ch, al, cl, rfl, oh, ol, ap, st⟩
            obtain rfl : N = nh := by have := ol.len; omega
            have hbA : Below w3.heap.size w3 (w3.alloc (.cells #[.slice ah N ch, .slice al N cl] 43)) := (Below.refl _ _).alloc (Nat.le_refl _) _
            have BX := boxAt_new w3 (.slice ah N ch) (.slice al N cl) 43
            go_wp2_with fail
            replace oh := oh.below hbA (Nat.le_refl _)
            replace ol := ol.below hbA (Nat.le_refl _)
            replace st := st.trans (hbA.mono st.size)
            generalize w3.alloc (.cells #[.slice ah N ch, .slice al N cl] 43) = V at *
            clear hbA
            generalize w3.heap.size = X at *
            have R5 := R.below st (Nat.le_refl _)
            have hb5 := hb.trans (st.mono hsz)
            obtain ⟨A, hA⟩ : ∃ A, spA xs = A := ⟨_, rfl⟩
            obtain ⟨Q, hQ⟩ : ∃ Q, spQ xs = Q := ⟨_, rfl⟩
            have hQ1 : (pairsL (hgtOf xs (carsL xs)) (carsL xs)).length = Q := hQ
            rw [hA] at h1 hA1
            rw [hQ] at h2
            have hNT := HTB.out k (by omega)
            have hrn : rowT (spTo M L k) A = (nthR rs A).xs := by rw [← HNR.out]; exact numsOf_nth (by rw [R5.len]; exact h1)
            obtain ⟨hrl, hrb⟩ := hNT.2 A h1
            obtain ⟨hx0, hx1'⟩ := hrb Q h2
            rw [hrn] at hrl hx0 hx1'
            have hx1 : nth (nthR rs A).xs Q ≤ 1000000 := by omega
            have HIN := hid (numsOf_inc (rs := rs) HNR.out (a := A) (b := Q) (by rw [R5.len]; exact h1))
            have HSS : Hid (spTo M L (k + 1) = incAt (spTo M L k) A Q) := hid (by rw [← hA, ← hQ, ← HX.out]; rfl)
            obtain ⟨gt', eg, u1, hgtb, u3, u4⟩ := R5.cellAt hM1
            obtain rfl : gtb = gt' := by injection eg with h; injection h
            have cH := u3 A h1
            have hrow := R5.row h1
            obtain ⟨gr, hra, v1, hgr, v3, v4⟩ := hrow.opened (by omega)
            have cR := v3 Q (by omega)
            have zR := v4 Q
            rw [hra, hrl] at cH
            obtain ⟨x, hx⟩ : ∃ x, nth (nthR rs A).xs Q = x := ⟨_, rfl⟩
            rw [hx] at cR hx0 hx1 HIN
            have R6 := fun w4 (st4 : Below V.heap.size V w4) => (R5.below st4 (Nat.le_refl _)).setIn h1 hra Q (x + 1)
            generalize (nthR rs A).c = cr at *
            replace cH : V.cell? ⟨gtb, 0 + A, none⟩ = some (.slice (some ⟨gr, 0, none⟩) M cr) := by rw [Nat.zero_add]; exact cH
            replace cR : V.cell? ⟨gr, 0 + Q, none⟩ = some (.int .i64 x) := by rw [Nat.zero_add]; exact cR
            replace zR : V.frozen? ⟨gr, 0 + Q, none⟩ = false := by rw [Nat.zero_add]; exact zR
            have hAM : (A : Int) < (M : Int) := by omega
            have hQM : (Q : Int) < (M : Int) := by omega
            have R7 := hid R6
            clear u3 u4 v3 v4 hrn hNT hrb hrl R6 eg
            refine wp_region_of (by kernel_rfl) (by kernel_rfl) ?_
            intro A0 hA
            have eT : A0.eval (.tmp 6) = .slice (some ⟨gtb, 0, none⟩) M c' := by rw [hA]; rfl
            have eX : A0.eval (.tmp 11) = .pointer (some ⟨X, 0, none⟩) := by rw [hA]; rfl
            have hsz : A0.tmps.size = 60 := by rw [hA]; rfl
            have LA := hid hA
            clear hA
            refine ⟨fun L x' w' => (L 13 = false ∧ ∃ T, x' = updW A0 spD T ∧ JSp V gtb M c' X ah N ch al N cl A Q gr cr x L T w') ∨ ((∀ j, j < 14 → L j = true) ∧ ∃ T, x' = updW A0 spD T ∧ ∃ w4, Below V.heap.size V w4 ∧ w' = w4.setCell ⟨gr, 0 + Q, none⟩ (.int .i64 (x + 1))), .inl ⟨rfl, _, updW_self.symm, JSp.start ((Below.refl _ _).drew)⟩, ?_, ?_⟩
            · rintro L x1 w2 (⟨h13, T, rfl, J⟩ | ⟨hall, _⟩) i o ho hi hd
              · have hi14 : i < 14 := (Array.getElem?_eq_some_iff.1 ho).1
                have gT := (updW_eval_ne (a0 := A0) (ds := spD) (T := T) (d := 6) (by decide)).trans eT
                have gX := (updW_eval_ne (a0 := A0) (ds := spD) (T := T) (d := 11) (by decide)).trans eX
                have gt : ∀ d, d ∈ spD → d < 60 → (updW A0 spD T).eval (.tmp d) = T d := fun d h1 h2 => updW_eval h1 (by rw [hsz]; exact h2)
                have kH := (J.bel.cell (p := ⟨gtb, 0 + A, none⟩) hgtb).trans cH
                have kR := (J.bel.cell (p := ⟨gr, 0 + Q, none⟩) hgr).trans cR
                have fR := (J.bel.frozen (p := ⟨gr, 0 + Q, none⟩) hgr).trans zR
                have BXw := BX.below J.bel (boxAt_lt BX)
                have ohw := (oh.below J.bel (Nat.le_refl _)).has
                have olw := (ol.below J.bel (Nat.le_refl _)).has
                clear LA eT eX hsz
                rcases (by omega : i = 0 ∨ i = 1 ∨ i = 2 ∨ i = 3 ∨ i = 4 ∨ i = 5 ∨ i = 6 ∨ i = 7 ∨ i = 8 ∨ i = 9 ∨ i = 10 ∨ i = 11 ∨ i = 12 ∨ i = 13) with rfl | rfl | rfl | rfl | rfl | rfl | rfl | rfl | rfl | rfl | rfl | rfl | rfl | rfl
                all_goals (simp only [List.getElem?_toArray, List.getElem?_cons_succ, List.getElem?_cons_zero, Option.some.injEq] at ho; subst ho)
                · exact op_pure rfl rfl _ (exS_move rfl gT) (.inl ⟨h13, _, updW_put _ (by decide), J.s0⟩)
                · exact op_pure rfl rfl _ (exS_fieldW rfl gX) (.inl ⟨h13, _, updW_put _ (by decide), J.s1⟩)
                · have d1 := hd ⟨1, .data⟩ (by simp) rfl
                  exact op_pure rfl rfl _ (exS_load rfl ((gt 46 (by decide) (by decide)).trans (J.p1 d1)) BXw.c0) (.inl ⟨h13, _, updW_put _ (by decide), J.s2⟩)
                · have d2 := hd ⟨2, .data⟩ (by simp) rfl
                  refine op_call rfl rfl 31 _ _ rfl (fun args => ent_paSum args) #[.slice ah N ch] (by simp [(gt 47 (by decide) (by decide)), J.p2 d2]) (paSum_any _ _ _ _ w2 ohw hsmall) ?_
                  rintro e w3 ⟨rfl, rfl⟩
                  exact ⟨.int .i64 (A : Int), congrArg (fun v => Ending.returned (Value.int .i64 v)) hA1, (.inl ⟨h13, _, updW_put _ (by decide), J.s3 (Below.refl _ _)⟩)⟩
                · have d0 := hd ⟨0, .data⟩ (by simp) rfl
                  have d3 := hd ⟨3, .data⟩ (by simp) rfl
                  exact op_pure rfl rfl _ (exS_at rfl ((gt 45 (by decide) (by decide)).trans (J.p0 d0)) ((gt 48 (by decide) (by decide)).trans (J.p3 d3)) hAM) (.inl ⟨h13, _, updW_put _ (by decide), J.s4⟩)
                · have d4 := hd ⟨4, .data⟩ (by simp) rfl
                  exact op_pure rfl rfl _ (exS_load rfl ((gt 49 (by decide) (by decide)).trans (J.p4 d4)) kH) (.inl ⟨h13, _, updW_put _ (by decide), J.s5⟩)
                · exact op_pure rfl rfl _ (exS_boxW rfl gX BXw) (.inl ⟨h13, _, updW_put _ (by decide), J.s6⟩)
                · have d6 := hd ⟨6, .data⟩ (by simp) rfl
                  refine op_call rfl rfl 32 _ _ rfl (fun args => ent_waPairs args) #[.agg #[.slice ah N ch, .slice al N cl]] (by simp [(gt 51 (by decide) (by decide)), J.p6 d6]) (waPairs_any _ _ _ _ _ _ _ w2 ohw olw h8 hhb) ?_
                  rintro e w3 ⟨a4, q4, c4, rs4, rfl, oR4, hn4, st4⟩
                  obtain rfl : q4 = Q := by
                    have h1 := oR4.len
                    have h2 := congrArg List.length hn4
                    have h3 : (numsOf rs4).length = rs4.length := by simp [numsOf]
                    omega
                  exact ⟨_, rfl, (.inl ⟨h13, _, updW_put _ (by decide), J.s7 st4⟩)⟩
                · have d7 := hd ⟨7, .data⟩ (by simp) rfl
                  obtain ⟨a4, c4, h7⟩ := J.p7 d7
                  exact op_pure rfl rfl _ (exS_len rfl ((gt 52 (by decide) (by decide)).trans h7)) (.inl ⟨h13, _, updW_put _ (by decide), J.s8⟩)
                · have d5 := hd ⟨5, .data⟩ (by simp) rfl
                  have d8 := hd ⟨8, .data⟩ (by simp) rfl
                  exact op_pure rfl rfl _ (exS_at1 rfl ((gt 50 (by decide) (by decide)).trans (J.p5 d5)) ((gt 53 (by decide) (by decide)).trans (J.p8 d8)) hQM) (.inl ⟨h13, _, updW_put _ (by decide), J.s9⟩)
                · have d9 := hd ⟨9, .data⟩ (by simp) rfl
                  exact op_pure rfl rfl _ (exS_loadI rfl ((gt 54 (by decide) (by decide)).trans (J.p9 d9)) kR) (.inl ⟨h13, _, updW_put _ (by decide), J.s10⟩)
                · have d10 := hd ⟨10, .data⟩ (by simp) rfl
                  exact op_pure rfl rfl _ (exS_add rfl ((gt 55 (by decide) (by decide)).trans (J.p10 d10)) rfl hx0 hx1) (.inl ⟨h13, _, updW_put _ (by decide), J.s11⟩)
                · have d5 := hd ⟨5, .data⟩ (by simp) rfl
                  have d8 := hd ⟨8, .data⟩ (by simp) rfl
                  exact op_pure rfl rfl _ (exS_at1 rfl ((gt 50 (by decide) (by decide)).trans (J.p5 d5)) ((gt 53 (by decide) (by decide)).trans (J.p8 d8)) hQM) (.inl ⟨h13, _, updW_put _ (by decide), J.s12⟩)
                · have d11 := hd ⟨11, .data⟩ (by simp) rfl
                  have d12 := hd ⟨12, .data⟩ (by simp) rfl
                  refine op_skip rfl rfl (exS_store rfl ((gt 57 (by decide) (by decide)).trans (J.p12 d12)) ((gt 56 (by decide) (by decide)).trans (J.p11 d11)) kR fR) (.inr ⟨fun j hj => ?_, T, rfl, w2, J.bel, rfl⟩)
                  rcases (by omega : j = 13 ∨ j = 0 ∨ j = 1 ∨ j = 2 ∨ j = 3 ∨ j = 4 ∨ j = 5 ∨ j = 6 ∨ j = 7 ∨ j = 8 ∨ j = 9 ∨ j = 10 ∨ j = 11 ∨ j = 12) with rfl | rfl | rfl | rfl | rfl | rfl | rfl | rfl | rfl | rfl | rfl | rfl | rfl | rfl
                  · rfl
                  · exact hd ⟨0, .phase⟩ (by simp) rfl
                  · exact hd ⟨1, .phase⟩ (by simp) rfl
                  · exact hd ⟨2, .phase⟩ (by simp) rfl
                  · exact hd ⟨3, .phase⟩ (by simp) rfl
                  · exact hd ⟨4, .phase⟩ (by simp) rfl
                  · exact hd ⟨5, .phase⟩ (by simp) rfl
                  · exact hd ⟨6, .phase⟩ (by simp) rfl
                  · exact hd ⟨7, .phase⟩ (by simp) rfl
                  · exact hd ⟨8, .phase⟩ (by simp) rfl
                  · exact hd ⟨9, .phase⟩ (by simp) rfl
                  · exact hd ⟨10, .phase⟩ (by simp) rfl
                  · exact hd ⟨11, .phase⟩ (by simp) rfl
                  · exact d12
              · exact absurd (hall i (Array.getElem?_eq_some_iff.1 ho).1) (by rw [hi]; decide)
            · rintro L x1 w2 (⟨h13, _⟩ | ⟨_, T, rfl, w4, st4, rfl⟩) hall
              · exact absurd (hall 13 (by decide)) (by rw [h13]; decide)
              · have hA := LA.out
                subst hA
                unfold updW spD
                simp only [List.foldl]
                rw [Nat.zero_add]
                have o6 := R7.out w4 st4
                have hb6 := (hb5.trans (st4.mono (by have := hb5.size; omega))).setCell (p := ⟨gr, Q, none⟩) (show w1.heap.size ≤ gr from v1) (.int .i64 (x + 1))
                go_wp2_with fail
                go_roundw
                case rel => exact ⟨k + 1, _, by omega, by go_num, o6, hid (by rw [HIN.out, HSS.out]), hb6⟩
                case measure => simp [intOf]; omega
          · obtain rfl : k = qL := by omega
            go_wp2_with fail
            go_ret2
            exact postRows HR.out (R.mono (by have := hb1.size; omega)) (by rw [HNR.out, hqL]) (hb1.trans (hb.mono hb1.size))
  · have HG := hid (Bool.eq_false_iff.2 hg)
    have HR : Hid (spreadOf n = ([], false)) := hid (by unfold spreadOf; rw [if_neg hg])
    clear hg
    go_enter Tryz.func7, Tryz.ntmps7
    go_wp2_with (go_at_call 27; refine (l1In_any _ _ _ _).mono ?_; rintro e w' ⟨rfl, rfl⟩; rw [HG.out])
    go_ret2
    exact postRows_no HR.out (Below.refl _ _)
end Go.Proofs.YtakadjhbomggbaaGreat

namespace Go.Proofs.YtakadjhbomggbaaGreat
open Go.RowKit

def histTo (f : List Int → Nat) (L : List (List Int)) : Nat → List Int
  | 0 => List.replicate 30 0
  | k + 1 => (histTo f L k).set (f (rowT L k)) (nth (histTo f L k) (f (rowT L k)) + 1)
def arN (h : List Int) : Nat := (total h).toNat
def boN (h : List Int) : Nat := bncF h h.length 0
def labTo' (L : List (List Int)) : Nat → Int
  | 0 => 0
  | k + 1 => labTo' L k + clTo (rowT L k) (rowT L k).length
def hChk (n : Nat) (h : List Int) : Bool := decide (h.length = n) && (hgtB h && (decide (total h = (arN h : Int)) && (decide (arN h < 30) && decide (boN h < 30))))
def histB (L : List (List Int)) : List Int := histTo boN L L.length
set_option maxHeartbeats 8000000 in
theorem hs_all : ∀ n, n < 7 → (waF n []).all (hChk n) = true ∧ histTo arN (waF n []) (waF n []).length = histTo boN (waF n []) (waF n []).length ∧ labTo' (waF n []) (waF n []).length = (cnt n : Int) ∧ (waF n []).length ≤ 132 ∧ countSortedOf (n : Int) = (((waF n []).length : Int), true) ∧ ((List.range (waF n []).length).all fun k => decide (k = 0) || lexLess (rowT (waF n []) (k - 1)) (rowT (waF n []) k)) = true := by decide +kernel
def symB (T : List (List Int)) (M : Nat) : Bool := (List.range M).all fun a => (List.range M).all fun b => decide (nth (rowT T a) b = nth (rowT T b) a)
def sumRows (T : List (List Int)) : Nat → Int
  | 0 => 0
  | k + 1 => sumRows T k + total (rowT T k)
set_option maxHeartbeats 8000000 in
theorem tb_all : ∀ n, n < 5 → symB (spTo (spM n) (listL n n []) (listL n n []).length) (spM n) = true ∧ sumRows (spTo (spM n) (listL n n []) (listL n n []).length) (spM n) = (cnt n : Int) ∧ (distCounts n).length = spM n ∧
    ((List.range (spM n)).all fun a => decide (total (rowT (spTo (spM n) (listL n n []) (listL n n []).length) a) = nth (distCounts n) a)) = true := by decide +kernel
theorem rowT_mem {L : List (List Int)} {k : Nat} (hk : k < L.length) : rowT L k ∈ L := by unfold rowT; rw [List.getD_eq_getElem?_getD, List.getElem?_eq_getElem hk]; exact List.getElem_mem hk
/-- The heights of n rows, one after the other. -/
theorem hs_at {n k : Nat} (hn : n < 7) (hk : k < (waF n []).length) : (rowT (waF n []) k).length = n ∧ hgtB (rowT (waF n []) k) = true ∧ total (rowT (waF n []) k) = (arN (rowT (waF n []) k) : Int) ∧ arN (rowT (waF n []) k) < 30 ∧ boN (rowT (waF n []) k) < 30 ∧ (0 < k → lexLess (rowT (waF n []) (k - 1)) (rowT (waF n []) k) = true) := by
  obtain ⟨h1, -, -, -, -, h6⟩ := hs_all n hn
  have h := List.all_eq_true.1 h1 _ (rowT_mem hk)
  have h2 := List.all_eq_true.1 h6 k (List.mem_range.2 hk)
  unfold hChk at h
  simp only [Bool.and_eq_true, decide_eq_true_eq, Bool.or_eq_true] at h h2
  refine ⟨h.1, h.2.1, h.2.2.1, h.2.2.2.1, h.2.2.2.2, fun h0 => ?_⟩
  rcases h2 with h2 | h2
  · omega
  · exact h2
theorem hist_b (f : List Int → Nat) (L : List (List Int)) : ∀ k, (histTo f L k).length = 30 ∧ ∀ i, i < 30 → 0 ≤ nth (histTo f L k) i ∧ nth (histTo f L k) i ≤ (k : Int)
  | 0 => ⟨by simp [histTo], fun i hi => by
      have hm : nth (List.replicate 30 (0 : Int)) i ∈ List.replicate 30 (0 : Int) := nth_mem (by rw [List.length_replicate]; exact hi)
      have := List.eq_of_mem_replicate hm
      show 0 ≤ nth (List.replicate 30 (0 : Int)) i ∧ nth (List.replicate 30 (0 : Int)) i ≤ ((0 : Nat) : Int)
      omega⟩
  | k + 1 => by
    obtain ⟨h1, h2⟩ := hist_b f L k
    refine ⟨by simp [histTo, h1], fun i hi => ?_⟩
    simp only [histTo]
    by_cases hf : f (rowT L k) < 30
    · rw [nth_set (by omega)]
      split
      · subst_vars; have := h2 _ hf; omega
      · have := h2 i hi; omega
    · rw [List.set_eq_of_length_le (by omega)]
      have := h2 i hi
      omega
theorem lab_b {L : List (List Int)} (h : ∀ k, k < L.length → (rowT L k).length ≤ 8) : ∀ k, k ≤ L.length → 0 ≤ labTo' L k ∧ labTo' L k ≤ 40320 * (k : Int)
  | 0, _ => by simp [labTo']
  | k + 1, hk => by
    have h1 := lab_b h k (by omega)
    have h2 := clTo_bounds (rowT L k) _ (h k (by omega))
    simp only [labTo']
    omega
theorem total_take_b {xs : List Int} {c : Int} (hb : ∀ i, i < xs.length → 0 ≤ nth xs i ∧ nth xs i ≤ c) : ∀ k, k ≤ xs.length → 0 ≤ total (xs.take k) ∧ total (xs.take k) ≤ c * (k : Int)
  | 0, _ => by simp [total]
  | k + 1, hk => by
    have h1 := total_take_b hb k (by omega)
    have h2 := hb k (by omega)
    rw [total_succ (by omega)]
    have : c * ((k + 1 : Nat) : Int) = c * (k : Int) + c := by rw [Int.natCast_succ, Int.mul_add, Int.mul_one]
    omega
/-- The table of n cars. -/
structure TabF (n M : Nat) (T : List (List Int)) : Prop where
  m7 : 1 ≤ M ∧ M ≤ 7
  len : T.length = M
  row : ∀ a, a < M → (rowT T a).length = M ∧ ∀ b, b < M → 0 ≤ nth (rowT T a) b ∧ nth (rowT T a) b ≤ 125
  sym : ∀ a b, a < M → b < M → nth (rowT T a) b = nth (rowT T b) a
  sum : sumRows T M = (cnt n : Int)
  dl : (distCounts n).length = M
  dist : ∀ a, a < M → total (rowT T a) = nth (distCounts n) a
theorem tabF {n : Nat} (hn : n < 5) : ∃ M T, spreadOf (n : Int) = (T, true) ∧ TabF n M T := by
  obtain ⟨h1, h2, h3, h4⟩ := tb_all n hn
  obtain ⟨-, h6, h7⟩ := sp_all n hn
  have hb := spTo_b hn (listL n n []).length (Nat.le_refl _)
  refine ⟨spM n, _, by have : inB (n : Int) 0 4 = true := inB_iff.2 ⟨by omega, by omega⟩; simp only [spreadOf, this, if_true, Int.toNat_natCast], ⟨by unfold spM at *; omega, h7⟩, hb.1, fun a ha => ⟨(hb.2 a ha).1, fun b hb' => by have := (hb.2 a ha).2 b hb'; omega⟩, fun a b ha hb' => ?_, h2, h3, fun a ha => ?_⟩
  · have := List.all_eq_true.1 (List.all_eq_true.1 h1 a (List.mem_range.2 ha)) b (List.mem_range.2 hb')
    simpa using this
  · have := List.all_eq_true.1 h4 a (List.mem_range.2 ha)
    simpa using this
theorem sumRows_b {n M : Nat} {T : List (List Int)} (F : TabF n M T) : ∀ a, a ≤ M → 0 ≤ sumRows T a ∧ sumRows T a ≤ 875 * (a : Int)
  | 0, _ => by simp [sumRows]
  | a + 1, ha => by
    have h1 := sumRows_b F a (by omega)
    obtain ⟨h2, h3⟩ := F.row a (by omega)
    have h4 := total_take_b (xs := rowT T a) (c := 125) (fun i hi => h3 i (by omega)) (rowT T a).length (Nat.le_refl _)
    rw [List.take_length] at h4
    have := F.m7
    simp only [sumRows]
    omega
end Go.Proofs.YtakadjhbomggbaaGreat

namespace Go.Proofs.YtakadjhbomggbaaGreat
open Go.RowKit

theorem OwnR.setOffR {w : World} {B g i n cap : Nat} {a : Option Addr} {rs : List Rw} (h : OwnR w B a n cap rs) (hg : g < B) (v : Value) : OwnR (w.setCell ⟨g, i, none⟩ v) B a n cap rs := by
  obtain ⟨⟨g1, g2⟩, h2, h3, h4, h5⟩ := h
  refine ⟨⟨g1, ?_⟩, h2, h3, fun j hj => (h4 j hj).setBelow hg v, h5⟩
  rcases g2 with g2 | ⟨g', cap', cur, hv', hgB, hh, r⟩
  · exact .inl g2
  · exact .inr ⟨g', cap', cur, hv', hgB, (Below.heap_setCell w ⟨g, i, none⟩ _ g' (show g' ≠ g by omega)).trans hh, r⟩
theorem numsOf_all {ss : List Rw} {M : Nat} {Z : List Int} (hl : ss.length = M) (h : ∀ j, j < M → (nthR ss j).xs = Z) : numsOf ss = List.replicate M Z := by
  apply List.ext_getElem?
  intro i
  by_cases hi : i < M
  · rw [show numsOf ss = ss.map Rw.xs from rfl, map_nthR _ (by omega), h i hi]
    simp [hi]
  · rw [List.getElem?_eq_none (by simp [numsOf]; omega), List.getElem?_eq_none (by simp; omega)]

set_option maxRecDepth 100000 in
set_option maxHeartbeats 8000000 in
theorem implSpread_any (n : Int) (w : World) : Calls Tryz.prog 6 #[.int .i64 n] w (PostRows w (spreadOf n)) := by
  by_cases hg : inB n 0 4 = true
  · obtain ⟨N, rfl⟩ : ∃ N : Nat, n = (N : Int) := ⟨n.toNat, by have := inB_iff.1 hg; omega⟩
    have hN : N < 5 := by have := inB_iff.1 hg; omega
    have HR : Hid (spreadOf (N : Int) = (spTo (spM N) (listL N N []) (listL N N []).length, true)) := hid (by unfold spreadOf; rw [if_pos hg]; simp)
    have HAL : Hid (allOf (N : Int) = (listL N N [], true)) := hid (by have : inB (N : Int) 0 5 = true := inB_iff.2 ⟨by omega, by omega⟩; simp [allOf, this])
    obtain ⟨-, hL125, hM7⟩ := sp_all N hN
    obtain ⟨K, q, e1, e2, e3, e4, k0, k3, q0, q6⟩ := sp_num hN
    have HSA := hid (fun k (hk : k < (listL N N []).length) => sp_at hN hk)
    have HTB := hid (fun k (hk : k ≤ (listL N N []).length) => spTo_b hN k hk)
    obtain ⟨M, hM⟩ : ∃ M, spM N = M := ⟨_, rfl⟩
    rw [hM] at e4 hM7 HR HSA HTB
    have hM1 : 1 ≤ M := by omega
    have HQ := hid e3
    have hw1 : IntKind.i64.wrap ((N : Int) - 1) = (N : Int) - 1 := by rw [IntKind.wrap_i64]; omega
    have hw2 : IntKind.i64.wrap (2 * q) = 2 * q := by rw [IntKind.wrap_i64]; omega
    have hd1 : (2 * q).tdiv 2 = q := by rw [Int.tdiv_eq_ediv_of_nonneg (by omega)]; omega
    have hw3 : IntKind.i64.wrap q = q := by rw [IntKind.wrap_i64]; omega
    have hw4 : IntKind.i64.wrap (q + 1) = (M : Int) := by rw [IntKind.wrap_i64]; omega
    have hn0 : ¬ (N : Int) < 0 := by omega
    have hn4 : ¬ (4 : Int) < (N : Int) := by omega
    have hn4' : ¬ 4 < N := by omega
    generalize listL N N [] = L at *
    clear hg hM e1 e2 e3 e4
    have hmul := HQ.out
    go_enter Tryz.func6, Tryz.ntmps6
    go_wp2_with (at_make; refine wpList_make_rowsN _ rfl _ _ rfl M (by first | (simp [Act.eval]; done) | rfl) (by first | (simp [Act.eval]; done) | rfl) (by omega) ?_; intro w1 o1 hb1)
    clear hmul
    go_loopw [29] (fun i wr => ∃ (k : Nat) (ss : List Rw), k ≤ M ∧ i = .int .i64 (k : Int) ∧ OwnR wr w.heap.size (some ⟨w.heap.size, 0, none⟩) M M ss ∧ Hid (∀ j, j < k → (nthR ss j).xs = List.replicate M 0) ∧ Hid (∀ j, k ≤ j → j < M → nthR ss j = ⟨none, 0, []⟩) ∧ Below w.heap.size w wr) (fun i _ => M - (intOf i).toNat)
    case atStart => exact ⟨0, _, Nat.zero_le _, rfl, o1, hid (fun j hj => by omega), hid (fun j _ hj => by simp [nthR, hj]), hb1⟩
    case round =>
      obtain ⟨k, ss, hk, rfl, o, HN, HE, hb⟩ := hrel
      clear o1 hb1
      by_cases hlt : k < M
      · have E := hid (HE.out k (Nat.le_refl _) hlt)
        have hkn : (k : Int) < (M : Int) := by omega
        have hw0 := hb.size
        have hrl := hid o.len
        go_wp2_with (at_make; refine wpList_make_ints _ rfl _ _ rfl M rfl rfl (by omega) ?_; intro a5 c5 w5 o5 hb5; obtain ⟨hf5, hc5⟩ := o.ready (k := k) (w1 := w5) hlt (by rw [E.out]; exact grown_none hb5))
        have hloc : Value.ownBlock (.slice a5 M c5) = Value.ownBlock (.slice (nthR ss k).a (nthR ss k).xs.length (nthR ss k).c) ∨ ∃ g', Value.ownBlock (.slice a5 M c5) = some g' ∧ wr.heap.size ≤ g' := by
          cases a5 with
          | none => left; rw [E.out]; rfl
          | some p => right; exact ⟨p.block, rfl, o5.ge _ rfl⟩
        obtain ⟨s1, s2⟩ := o.setRow (k := k) hlt (w1 := w5) (by rw [E.out]; exact grown_none hb5) (o5.mono hw0) hloc
        have hb6 := (hb.trans (hb5.mono hw0)).setCell (p := ⟨w.heap.size, k, none⟩) (Nat.le_refl _) (.slice a5 M c5)
        go_roundw
        case rel => exact ⟨k + 1, _, by omega, by go_num, s1, hid (fun j hj => by rw [nthR_setB (by rw [hrl.out]; exact hlt)]; split; rfl; exact HN.out j (by omega)), hid (fun j h1 h2 => by rw [nthR_setB (by rw [hrl.out]; exact hlt), if_neg (by omega)]; exact HE.out j (by omega) h2), hb6⟩
        case measure => simp [intOf]; omega
      · obtain rfl : M = k := by omega
        have HN0 := hid (numsOf_all o.len HN.out)
        have hlt0 := o.lt
        have HLT0 := hid (fun j (hj : j < M) => hlt0.2 j (by rw [o.len]; exact hj))
        clear HN HE hlt0
        go_wp2_with fail
        refine (allParking_any _ _).mono ?_
        rw [HAL.out]
        rintro e w2 ⟨aL, qL, cL, rl, rfl, RL, hnL, st0⟩
        replace hnL : numsOf rl = L := hnL
        have hqL : L.length = qL := by rw [← hnL]; simpa [numsOf] using RL.len
        have HNL := hid hnL
        have R0 := o.below st0 (Nat.le_refl _)
        have hb0 := hb.trans (st0.mono hb.size)
        have hs0 := st0.size
        obtain ⟨W2, hW2⟩ : ∃ W2, wr.heap.size = W2 := ⟨_, rfl⟩
        rw [hW2] at RL HLT0 hs0
        clear hnL st0 hb hW2 o
        go_wp2_with fail
        go_loopw [46] (fun i wr => ∃ (k : Nat) (rs : List Rw), k ≤ qL ∧ i = .int .i64 (k : Int) ∧ OwnR wr w.heap.size (some ⟨w.heap.size, 0, none⟩) M M rs ∧ Hid (numsOf rs = spTo M L k) ∧ Hid (∀ j, j < M → BlkLt (nthR rs j).a W2) ∧ OwnR wr W2 aL qL cL rl ∧ Below w.heap.size w wr ∧ W2 ≤ wr.heap.size) (fun i _ => qL - (intOf i).toNat)
        case atStart => exact ⟨0, ss, Nat.zero_le _, rfl, R0, hid HN0.out, HLT0, RL, hb0, hs0⟩
        case round =>
          obtain ⟨wo, rfl⟩ : ∃ wo : World, wo = wr := ⟨_, rfl⟩
          clear R0 HN0 HLT0 RL hb0 hs0
          obtain ⟨k, rs, hk, rfl, R, HNR, HLT, RL, hb, hsz2⟩ := hrel
          have hsz := hb.size
          by_cases hkl : k < qL
          · obtain ⟨pk, ln, h1, h2⟩ := HSA.out k (by omega)
            obtain ⟨gL, rfl, l1, l2, l3, l4⟩ := RL.cellAt (by omega)
            have cL1 := l3 k hkl
            have hrowL := (RL.row hkl).has
            have exL : (nthR rl k).xs = rowT L k := by rw [← HNL.out]; exact (numsOf_nth (by rw [RL.len]; exact hkl)).symm
            rw [exL] at cL1 hrowL
            obtain ⟨xs, hxs⟩ : ∃ xs, rowT L k = xs := ⟨_, rfl⟩
            rw [hxs] at pk ln h1 h2 cL1 hrowL
            obtain ⟨h8, lc, lh, hwb, hsmall, hhb, hA1⟩ := sp_walk pk ln
            have HX := hid hxs
            have HWO : Hid (walkOf xs = ((hgtOf xs (carsL xs), carsL xs), true)) := hid (by simp [walkOf, pk])
            have hwb' : walkB (hgtOf xs (carsL xs)) (carsL xs) = true := hwb
            rw [ln] at cL1 hrowL
            clear l3 l4 exL hxs
            go_wp2_with fail
            refine (implWalkOf_any _ _ _ _ _ hrowL).mono ?_
            rw [HWO.out]
            rintro e w3 ⟨ah, nh, ch, al, ml, cl, rfl, oh, ol, ap, st⟩
            obtain rfl : N = ml := by have h1 : (carsL xs).length = ml := ol.len; omega
            obtain rfl : N = nh := by have h1 : (hgtOf xs (carsL xs)).length = nh := oh.len; have h2 : (spH xs).length = (hgtOf xs (carsL xs)).length := rfl; omega
            replace oh : Own w3 wo.heap.size ah N ch (hgtOf xs (carsL xs)) := oh
            replace ol : Own w3 wo.heap.size al N cl (carsL xs) := ol
            have hbA : Below w3.heap.size w3 (w3.alloc (.cells #[.slice ah N ch, .slice al N cl] 43)) := (Below.refl _ _).alloc (Nat.le_refl _) _
            have BW := boxAt_new w3 (.slice ah N ch) (.slice al N cl) 43
            obtain ⟨y1, y2, y3, y4⟩ := id BW
            go_wp2_with fail
            clear y1 y2 y3 y4
            replace oh := oh.below hbA (Nat.le_refl _)
            replace ol := ol.below hbA (Nat.le_refl _)
            replace st := st.trans (hbA.mono st.size)
            generalize w3.alloc (.cells #[.slice ah N ch, .slice al N cl] 43) = V1 at *
            clear hbA BW
            refine (rowsOf_any _ _ _ _ _ _ _ _ _ oh.has ol.has).mono ?_
            rintro e V2 ⟨hcase, st2⟩
            rcases hcase with ⟨_, rfl⟩ | ⟨hno, _⟩
            rotate_left
            · rw [hwb'] at hno; cases hno
            replace oh := oh.below st2 (Nat.le_refl _)
            replace ol := ol.below st2 (Nat.le_refl _)
            replace st := st.trans (st2.mono st.size)
            clear st2
            have hbA : Below V2.heap.size V2 (V2.alloc (.cells #[.slice ah N ch, .slice al N cl] 48)) := (Below.refl _ _).alloc (Nat.le_refl _) _
            have BX := boxAt_new V2 (.slice ah N ch) (.slice al N cl) 48
            go_wp2_with fail
            replace oh := oh.below hbA (Nat.le_refl _)
            replace ol := ol.below hbA (Nat.le_refl _)
            replace st := st.trans (hbA.mono st.size)
            generalize V2.alloc (.cells #[.slice ah N ch, .slice al N cl] 48) = V at *
            clear hbA
            generalize V2.heap.size = X at *
            have R5 := R.below st (Nat.le_refl _)
            have hb5 := hb.trans (st.mono hb.size)
            have RL5 := RL.below st (Nat.le_refl _)
            obtain ⟨A, hA⟩ : ∃ A, spA xs = A := ⟨_, rfl⟩
            obtain ⟨Q, hQ⟩ : ∃ Q, spQ xs = Q := ⟨_, rfl⟩
            have hQ1 : (pairsL (hgtOf xs (carsL xs)) (carsL xs)).length = Q := hQ
            rw [hA] at h1 hA1
            rw [hQ] at h2
            have hNT := HTB.out k (by omega)
            have hrn : rowT (spTo M L k) A = (nthR rs A).xs := by rw [← HNR.out]; exact numsOf_nth (by rw [R5.len]; exact h1)
            obtain ⟨hrl, hrb⟩ := hNT.2 A h1
            obtain ⟨hx0, hx1'⟩ := hrb Q h2
            rw [hrn] at hrl hx0 hx1'
            have hx1 : nth (nthR rs A).xs Q ≤ 1000000 := by omega
            have HIN := hid (numsOf_inc (rs := rs) HNR.out (a := A) (b := Q) (by rw [R5.len]; exact h1))
            have HSS : Hid (spTo M L (k + 1) = incAt (spTo M L k) A Q) := hid (by rw [← hA, ← hQ, ← HX.out]; rfl)
            obtain ⟨gt', eg, u1, hgtb, u3, u4⟩ := R5.cellAt hM1
            obtain rfl : w.heap.size = gt' := by injection eg with h; injection h
            have cH := u3 A h1
            have hrow := R5.row h1
            obtain ⟨gr, hra, v1, hgr, v3, v4⟩ := hrow.opened (by omega)
            have cR := v3 Q (by omega)
            have zR := v4 Q
            rw [hra, hrl] at cH
            obtain ⟨x, hx⟩ : ∃ x, nth (nthR rs A).xs Q = x := ⟨_, rfl⟩
            rw [hx] at cR hx0 hx1 HIN
            have R6 := fun w4 (st4 : Below V.heap.size V w4) => (R5.below st4 (Nat.le_refl _)).setIn h1 hra Q (x + 1)
            generalize (nthR rs A).c = cr at *
            replace cH : V.cell? ⟨w.heap.size, 0 + A, none⟩ = some (.slice (some ⟨gr, 0, none⟩) M cr) := by rw [Nat.zero_add]; exact cH
            replace cR : V.cell? ⟨gr, 0 + Q, none⟩ = some (.int .i64 x) := by rw [Nat.zero_add]; exact cR
            replace zR : V.frozen? ⟨gr, 0 + Q, none⟩ = false := by rw [Nat.zero_add]; exact zR
            have hAM : (A : Int) < (M : Int) := by omega
            have hQM : (Q : Int) < (M : Int) := by omega
            have R7 := hid R6
            have hgrW : gr < W2 := by have := HLT.out A h1 _ hra; simpa using this
            have HLT2 := hid (fun j (hj : j < M) => (show BlkLt (nthR (rs.set A ⟨(nthR rs A).a, cr, (nthR rs A).xs.set Q (x + 1)⟩) j).a W2 from by
              rw [nthR_setB (by rw [R.len]; exact h1)]
              split
              · exact HLT.out A h1
              · exact HLT.out j hj))
            clear u3 u4 v3 v4 hrn hNT hrb hrl R6 eg
            refine wp_region_of (by kernel_rfl) (by kernel_rfl) ?_
            intro A0 hA
            have eT : A0.eval (.tmp 4) = .slice (some ⟨w.heap.size, 0, none⟩) M M := by rw [hA]; rfl
            have eX : A0.eval (.tmp 12) = .pointer (some ⟨X, 0, none⟩) := by rw [hA]; rfl
            have hsz : A0.tmps.size = 75 := by rw [hA]; rfl
            have LA := hid hA
            clear hA
            refine ⟨fun L x' w' => (L 13 = false ∧ ∃ T, x' = updW A0 imD T ∧ JIm V w.heap.size M M X ah N ch al N cl A Q gr cr x L T w') ∨ ((∀ j, j < 14 → L j = true) ∧ ∃ T, x' = updW A0 imD T ∧ ∃ w4, Below V.heap.size V w4 ∧ w' = w4.setCell ⟨gr, 0 + Q, none⟩ (.int .i64 (x + 1))), .inl ⟨rfl, _, updW_self.symm, JIm.start ((Below.refl _ _).drew)⟩, ?_, ?_⟩
            · rintro L x1 w2 (⟨h13, T, rfl, J⟩ | ⟨hall, _⟩) i o ho hi hd
              · have hi14 : i < 14 := (Array.getElem?_eq_some_iff.1 ho).1
                have gT := (updW_eval_ne (a0 := A0) (ds := imD) (T := T) (d := 4) (by decide)).trans eT
                have gX := (updW_eval_ne (a0 := A0) (ds := imD) (T := T) (d := 12) (by decide)).trans eX
                have gt : ∀ d, d ∈ imD → d < 75 → (updW A0 imD T).eval (.tmp d) = T d := fun d h1 h2 => updW_eval h1 (by rw [hsz]; exact h2)
                have kH := (J.bel.cell (p := ⟨w.heap.size, 0 + A, none⟩) hgtb).trans cH
                have kR := (J.bel.cell (p := ⟨gr, 0 + Q, none⟩) hgr).trans cR
                have fR := (J.bel.frozen (p := ⟨gr, 0 + Q, none⟩) hgr).trans zR
                have BXw := BX.below J.bel (boxAt_lt BX)
                have ohw := (oh.below J.bel (Nat.le_refl _)).has
                have olw := (ol.below J.bel (Nat.le_refl _)).has
                clear LA eT eX hsz
                rcases (by omega : i = 0 ∨ i = 1 ∨ i = 2 ∨ i = 3 ∨ i = 4 ∨ i = 5 ∨ i = 6 ∨ i = 7 ∨ i = 8 ∨ i = 9 ∨ i = 10 ∨ i = 11 ∨ i = 12 ∨ i = 13) with rfl | rfl | rfl | rfl | rfl | rfl | rfl | rfl | rfl | rfl | rfl | rfl | rfl | rfl
                all_goals (simp only [List.getElem?_toArray, List.getElem?_cons_succ, List.getElem?_cons_zero, Option.some.injEq] at ho; subst ho)
                · exact op_pure rfl rfl _ (exS_move rfl gT) (.inl ⟨h13, _, updW_put _ (by decide), J.s0⟩)
                · exact op_pure rfl rfl _ (exS_fieldR rfl gX) (.inl ⟨h13, _, updW_put _ (by decide), J.s1⟩)
                · have d1 := hd ⟨1, .data⟩ (by simp) rfl
                  exact op_pure rfl rfl _ (exS_loadH rfl ((gt 61 (by decide) (by decide)).trans (J.p1 d1)) BXw.c0) (.inl ⟨h13, _, updW_put _ (by decide), J.s2⟩)
                · have d2 := hd ⟨2, .data⟩ (by simp) rfl
                  refine op_call rfl rfl 25 _ _ rfl (fun args => ent_area args) #[.slice ah N ch] (by simp [(gt 62 (by decide) (by decide)), J.p2 d2]) (area_any _ _ _ _ w2 ohw hsmall) ?_
                  rintro e w3 ⟨rfl, rfl⟩
                  exact ⟨.int .i64 (A : Int), congrArg (fun v => Ending.returned (Value.int .i64 v)) hA1, (.inl ⟨h13, _, updW_put _ (by decide), J.s3 (Below.refl _ _)⟩)⟩
                · have d0 := hd ⟨0, .data⟩ (by simp) rfl
                  have d3 := hd ⟨3, .data⟩ (by simp) rfl
                  exact op_pure rfl rfl _ (exS_at rfl ((gt 60 (by decide) (by decide)).trans (J.p0 d0)) ((gt 63 (by decide) (by decide)).trans (J.p3 d3)) hAM) (.inl ⟨h13, _, updW_put _ (by decide), J.s4⟩)
                · have d4 := hd ⟨4, .data⟩ (by simp) rfl
                  exact op_pure rfl rfl _ (exS_load rfl ((gt 64 (by decide) (by decide)).trans (J.p4 d4)) kH) (.inl ⟨h13, _, updW_put _ (by decide), J.s5⟩)
                · exact op_pure rfl rfl _ (exS_boxR rfl gX BXw) (.inl ⟨h13, _, updW_put _ (by decide), J.s6⟩)
                · have d6 := hd ⟨6, .data⟩ (by simp) rfl
                  refine op_call rfl rfl 26 _ _ rfl (fun args => ent_pairs args) #[.agg #[.slice ah N ch, .slice al N cl]] (by simp [(gt 66 (by decide) (by decide)), J.p6 d6]) (pairs_any _ _ _ _ _ _ _ w2 ohw olw h8 hhb) ?_
                  rintro e w3 ⟨a4, q4, c4, rs4, rfl, oR4, hn4, st4⟩
                  obtain rfl : q4 = Q := by
                    have h1 := oR4.len
                    have h2 := congrArg List.length hn4
                    have h3 : (numsOf rs4).length = rs4.length := by simp [numsOf]
                    omega
                  exact ⟨_, rfl, (.inl ⟨h13, _, updW_put _ (by decide), J.s7 st4⟩)⟩
                · have d7 := hd ⟨7, .data⟩ (by simp) rfl
                  obtain ⟨a4, c4, h7⟩ := J.p7 d7
                  exact op_pure rfl rfl _ (exS_len rfl ((gt 67 (by decide) (by decide)).trans h7)) (.inl ⟨h13, _, updW_put _ (by decide), J.s8⟩)
                · have d5 := hd ⟨5, .data⟩ (by simp) rfl
                  have d8 := hd ⟨8, .data⟩ (by simp) rfl
                  exact op_pure rfl rfl _ (exS_at1 rfl ((gt 65 (by decide) (by decide)).trans (J.p5 d5)) ((gt 68 (by decide) (by decide)).trans (J.p8 d8)) hQM) (.inl ⟨h13, _, updW_put _ (by decide), J.s9⟩)
                · have d9 := hd ⟨9, .data⟩ (by simp) rfl
                  exact op_pure rfl rfl _ (exS_loadI rfl ((gt 69 (by decide) (by decide)).trans (J.p9 d9)) kR) (.inl ⟨h13, _, updW_put _ (by decide), J.s10⟩)
                · have d10 := hd ⟨10, .data⟩ (by simp) rfl
                  exact op_pure rfl rfl _ (exS_add rfl ((gt 70 (by decide) (by decide)).trans (J.p10 d10)) rfl hx0 hx1) (.inl ⟨h13, _, updW_put _ (by decide), J.s11⟩)
                · have d5 := hd ⟨5, .data⟩ (by simp) rfl
                  have d8 := hd ⟨8, .data⟩ (by simp) rfl
                  exact op_pure rfl rfl _ (exS_at1 rfl ((gt 65 (by decide) (by decide)).trans (J.p5 d5)) ((gt 68 (by decide) (by decide)).trans (J.p8 d8)) hQM) (.inl ⟨h13, _, updW_put _ (by decide), J.s12⟩)
                · have d11 := hd ⟨11, .data⟩ (by simp) rfl
                  have d12 := hd ⟨12, .data⟩ (by simp) rfl
                  refine op_skip rfl rfl (exS_store rfl ((gt 72 (by decide) (by decide)).trans (J.p12 d12)) ((gt 71 (by decide) (by decide)).trans (J.p11 d11)) kR fR) (.inr ⟨fun j hj => ?_, T, rfl, w2, J.bel, rfl⟩)
                  rcases (by omega : j = 13 ∨ j = 0 ∨ j = 1 ∨ j = 2 ∨ j = 3 ∨ j = 4 ∨ j = 5 ∨ j = 6 ∨ j = 7 ∨ j = 8 ∨ j = 9 ∨ j = 10 ∨ j = 11 ∨ j = 12) with rfl | rfl | rfl | rfl | rfl | rfl | rfl | rfl | rfl | rfl | rfl | rfl | rfl | rfl
                  · rfl
                  · exact hd ⟨0, .phase⟩ (by simp) rfl
                  · exact hd ⟨1, .phase⟩ (by simp) rfl
                  · exact hd ⟨2, .phase⟩ (by simp) rfl
                  · exact hd ⟨3, .phase⟩ (by simp) rfl
                  · exact hd ⟨4, .phase⟩ (by simp) rfl
                  · exact hd ⟨5, .phase⟩ (by simp) rfl
                  · exact hd ⟨6, .phase⟩ (by simp) rfl
                  · exact hd ⟨7, .phase⟩ (by simp) rfl
                  · exact hd ⟨8, .phase⟩ (by simp) rfl
                  · exact hd ⟨9, .phase⟩ (by simp) rfl
                  · exact hd ⟨10, .phase⟩ (by simp) rfl
                  · exact hd ⟨11, .phase⟩ (by simp) rfl
                  · exact d12
              · exact absurd (hall i (Array.getElem?_eq_some_iff.1 ho).1) (by rw [hi]; decide)
            · rintro L x1 w2 (⟨h13, _⟩ | ⟨_, T, rfl, w4, st4, rfl⟩) hall
              · exact absurd (hall 13 (by decide)) (by rw [h13]; decide)
              · have hA := LA.out
                subst hA
                unfold updW imD
                simp only [List.foldl]
                rw [Nat.zero_add]
                have o6 := R7.out w4 st4
                have RL6 := (RL5.below st4 (Nat.le_refl _)).setOffR hgrW (i := Q) (.int .i64 (x + 1))
                have hb6 := (hb5.trans (st4.mono (by have := hb5.size; omega))).setCell (p := ⟨gr, Q, none⟩) (show w.heap.size ≤ gr from v1) (.int .i64 (x + 1))
                have hs6 : W2 ≤ (w4.setCell ⟨gr, Q, none⟩ (.int .i64 (x + 1))).heap.size := by have := st.size; have := st4.size; simp; omega
                go_wp2_with fail
                go_roundw
                case rel => exact ⟨k + 1, _, by omega, by go_num, o6, hid (by rw [HIN.out, HSS.out]), HLT2, RL6, hb6, hs6⟩
                case measure => simp [intOf]; omega
          · obtain rfl : k = qL := by omega
            go_wp2_with fail
            go_ret2
            exact postRows HR.out R (by rw [HNR.out, hqL]) hb
  · have HR : Hid (spreadOf n = ([], false)) := hid (by unfold spreadOf; rw [if_neg hg])
    by_cases h0 : n < 0
    · go_enter Tryz.func6, Tryz.ntmps6
      go_wp2_with fail
      go_ret2
      exact postRows_no HR.out (Below.refl _ _)
    · have h4 : 4 < n := by
        apply Classical.byContradiction
        intro h4
        exact hg (inB_iff.2 ⟨by omega, by omega⟩)
      go_enter Tryz.func6, Tryz.ntmps6
      go_wp2_with fail
      go_ret2
      exact postRows_no HR.out (Below.refl _ _)
end Go.Proofs.YtakadjhbomggbaaGreat

namespace Go.Proofs.YtakadjhbomggbaaGreat
open Go.RowKit

theorem length_waF : ∀ (k : Nat) (p : List Int), p.length + k ≤ 6 → lastMost p ≤ p.length → (waF k p).length ≤ 7 ^ k
  | 0, p, _, _ => by simp [waF]
  | k + 1, p, hl, hm => by
    simp only [waF]
    rw [List.length_flatMap]
    have h : ∀ x ∈ (List.range (lastMost p + 1)).map (fun h : Nat => (waF k (p ++ [(h : Int)])).length), x ≤ 7 ^ k := by
      intro x hx
      obtain ⟨y, hy, rfl⟩ := List.mem_map.1 hx
      rw [List.mem_range] at hy
      refine length_waF k _ (by simp; omega) ?_
      have : lastMost (p ++ [(y : Int)]) = y + 1 := by
        unfold lastMost
        rw [List.length_append, List.length_singleton]
        simp only [mostAt]
        rw [nth_append_at]
        omega
      rw [this, List.length_append, List.length_singleton]
      omega
    have h2 : ∀ (l : List Nat), (∀ x ∈ l, x ≤ 7 ^ k) → l.sum ≤ l.length * 7 ^ k := by
      intro l
      induction l with
      | nil => intro _; simp
      | cons a r ih =>
        intro hh
        have h1 := hh a (List.mem_cons_self ..)
        have h3 := ih (fun x hx => hh x (List.mem_cons_of_mem _ hx))
        rw [List.sum_cons, List.length_cons, Nat.succ_mul]
        omega
    have h4 := h2 _ h
    rw [List.length_map, List.length_range] at h4
    have h5 : (lastMost p + 1) * 7 ^ k ≤ 7 * 7 ^ k := Nat.mul_le_mul_right _ (by omega)
    rw [Nat.pow_succ, Nat.mul_comm (7 ^ k) 7]
    omega
def waTo (k : Nat) (p : List Int) (c : Nat) : List (List Int) := (List.range c).flatMap fun (x : Nat) => waF k (p ++ [(x : Int)])
theorem waTo_succ (k : Nat) (p : List Int) (c : Nat) : waTo k p (c + 1) = waTo k p c ++ waF k (p ++ [(c : Int)]) := by simp [waTo, List.range_succ]
theorem length_waTo (k : Nat) (p : List Int) {m : Nat} (hl : p.length = m) (hmk : m + (k + 1) ≤ 6) : ∀ c, c ≤ m + 1 → (waTo k p c).length ≤ c * 7 ^ k
  | 0, _ => by simp [waTo]
  | c + 1, hc => by
    have h1 := length_waTo k p hl hmk c (by omega)
    have h2 : (waF k (p ++ [(c : Int)])).length ≤ 7 ^ k := length_waF k _ (by simp; omega) (by
      have : lastMost (p ++ [(c : Int)]) = c + 1 := by
        unfold lastMost
        rw [List.length_append, List.length_singleton]
        simp only [mostAt]
        rw [nth_append_at]
        omega
      rw [this, List.length_append, List.length_singleton]
      omega)
    rw [waTo_succ, List.length_append, Nat.succ_mul]
    omega

set_option maxHeartbeats 2000000 in
theorem hnext_any (a : Option Addr) (n cap : Nat) (hs : List Int) (w : World) (h : Has w a n cap hs) (h8 : n ≤ 8) (hx : ∀ i, i < n → 0 ≤ nth hs i ∧ nth hs i ≤ 8) :
    Calls Tryz.prog 34 #[.slice a n cap] w (PostInts w (nextH hs n)) := by
  have HLEN := hid h.len
  have HX := hid hx
  have hcap0 := h.2.1
  clear hx
  go_enter Tryz.func34, Tryz.ntmps34
  go_wp2_with fail
  go_loopw [4] (fun i wr => ∃ c : Nat, c ≤ n ∧ i = .int .i64 ((c : Int) - 1) ∧ Hid (nextH hs n = nextH hs c) ∧ Below w.heap.size w wr ∧ w.heap.size = wr.heap.size) (fun i _ => (intOf i + 1).toNat)
  case atStart => exact ⟨n, Nat.le_refl _, rfl, hid rfl, Below.refl _ _, rfl⟩
  case round =>
    obtain ⟨c, hc, rfl, HN, hb, hsz⟩ := hrel
    by_cases hc2 : c ≤ 1
    · have hz : ¬ (0 : Int) < (c : Int) - 1 := by omega
      have HR : Hid (nextH hs n = ([], false)) := hid (by
        rw [HN.out]
        rcases (show c = 0 ∨ c = 1 by omega) with rfl | rfl
        · rfl
        · rfl)
      go_wp2_with fail
      go_ret2
      exact postInts_no HR.out hb
    · obtain ⟨r, rfl⟩ : ∃ r, c = r + 1 := ⟨c - 1, by omega⟩
      have e : ((r + 1 : Nat) : Int) - 1 = (r : Int) := by omega
      rw [e]
      have hr0 : (0 : Int) < (r : Int) := by omega
      have hrn : r < n := by omega
      have HS : Hid (nextH hs (r + 1) = if raisedB hs r then nextH hs r else (hs.take r ++ (nth hs r + 1) :: List.replicate (hs.length - (r + 1)) 0, true)) := hid (by simp only [nextH]; rw [if_neg (by omega)])
      clear e hc2
      go_wp2_with fail
      refine (isRaised_any _ _ _ _ r _ (h.below hb (Nat.le_refl _)) hrn (fun i hi => by have := HX.out i hi; omega)).mono ?_
      rintro e w2 ⟨rfl, q2, rfl⟩
      have hb2 : Below w.heap.size w (wr.drewN q2) := below_drewN hb _
      have hsz2 : w.heap.size = (wr.drewN q2).heap.size := hsz
      clear hb
      by_cases hr : raisedB hs r = true
      · rw [hr]
        have HR : Hid (nextH hs n = nextH hs r) := hid (by rw [HN.out, HS.out, if_pos hr])
        clear hr
        go_wp2_with fail
        go_roundw
        case rel => exact ⟨r, by omega, by go_num, HR, hb2, hsz2⟩
        case measure => simp [intOf]
      · rw [Bool.eq_false_iff.2 hr]
        have HR : Hid (nextH hs n = (hs.take r ++ (nth hs r + 1) :: List.replicate (hs.length - (r + 1)) 0, true)) := hid (by rw [HN.out, HS.out, if_neg hr])
        have HO : Hid ((over0 (List.replicate n 0) (hs.take (r + 1))).set r (nth hs r + 1) = hs.take r ++ (nth hs r + 1) :: List.replicate (hs.length - (r + 1)) 0) := hid (by
          have hl := HLEN.out
          unfold over0
          rw [List.length_replicate, List.length_take, List.drop_replicate, Nat.min_eq_left (by omega), List.take_of_length_le (show (hs.take (r + 1)).length ≤ n by rw [List.length_take]; omega)]
          rw [take_succ_nth (by omega), List.append_assoc, List.set_append_right _ _ (by rw [List.length_take]; omega)]
          rw [List.length_take, Nat.min_eq_left (by omega), Nat.sub_self, hl]
          rfl)
        have htk := (h.below hb2 (Nat.le_refl _)).take (k := r + 1) (by omega)
        have hxr := HX.out r hrn
        have hgt : Hid (nth (over0 (List.replicate n 0) (hs.take (r + 1))) r = nth hs r) := hid (by
          rw [over0_nth (by rw [List.length_take, List.length_replicate]; have := HLEN.out; omega), if_pos (by rw [List.length_take]; have := HLEN.out; omega), nth_take (by omega)])
        clear hr
        generalize wr.drewN q2 = wq at *
        have hsq : w.heap.size = wq.heap.size := hsz2
        go_wp2_with (first
          | (refine wpList_make_intsT 46 Tryz.underlying46 _ rfl _ _ rfl n rfl rfl (by omega) ?_; intro a1 cap1 w1 hown1 hb1)
          | (with_reducible refine wpList_copy_intsT 46 46 Tryz.underlying46 _ rfl _ _ rfl wq.heap.size _ _ _ _ _ _ _ _ rfl rfl hown1 (htk.below hb1 (Nat.le_refl _)) (by omega) ?_; intro w2 hown2 hb3; obtain ⟨g, rfl, hg1, hg2, hg3, hg4⟩ := hown2.opened (by omega); have hgx := hg3 r hrn; have hgf := hg4 r; rw [hgt.out] at hgx; clear hg3 hg4))
        obtain ⟨s1, s2⟩ := hown2.set r (nth hs r + 1)
        rw [HO.out] at s1
        have hbf := (hb2.trans ((hb1.trans hb3).mono (by omega))).setCell (p := ⟨g, r, none⟩) (by simp; omega) (.int .i64 (nth hs r + 1))
        go_ret2
        exact postInts HR.out (s1.mono (by omega)) hbf
theorem take_getDH {L : List (List Int)} {k : Nat} (h : k < L.length) : L.take (k + 1) = L.take k ++ [L.getD k []] := by
  rw [List.take_succ_eq_append_getElem h]
  simp [h]

set_option maxHeartbeats 4000000 in
theorem allHgt_any (n : Nat) (L : List (List Int)) (hch : Chain (fun xs => nextH xs xs.length) L) (h8 : n ≤ 8) (hq : L.length ≤ 100000) (hv : ∀ k, k < L.length → (L.getD k []).length = n ∧ ∀ i, i < n → 0 ≤ nth (L.getD k []) i ∧ nth (L.getD k []) i ≤ 8)
    (w0 w : World) (a : Option Addr) (m cap : Nat) (xs : List Int) (hb0 : Below w0.heap.size w0 w) (hfirst : Own w w0.heap.size a m cap xs) (hx : L.getD 0 [] = xs) :
    Calls Tryz.prog 33 #[.slice a m cap, .func (.func 34) #[] #[]] w (PostRowsOnly w0 L) := by
  obtain ⟨hL0, hL1, hL2⟩ := hch
  have H1 := hid hL1
  have H2 := hid hL2
  have HV := hid hv
  have HX := hid hx
  clear hL1 hL2 hv hx
  go_enter Tryz.func33, Tryz.ntmps33
  go_wp2_with fail
  go_loopw [5, 6, 7] (fun o s b wr => ∃ (k : Nat) (wk : World) (a' : Option Addr) (cap' : Nat) (rs : List Rw) (a1 : Option Addr) (m1 c1 : Nat) (ys : List Int) (ok : Bool), k ≤ L.length ∧ o = .slice a' k cap' ∧ s = .slice a1 m1 c1 ∧ b = .bool ok ∧ Hid (ok = decide (k < L.length)) ∧
    OwnR wk w0.heap.size a' k cap' rs ∧ Hid (numsOf rs = L.take k) ∧ Below wk.heap.size wk wr ∧ w0.heap.size ≤ wk.heap.size ∧ Own wr wk.heap.size a1 m1 c1 ys ∧ Hid (k < L.length → L.getD k [] = ys) ∧ Below w0.heap.size w0 wr) (fun o _ _ _ => L.length + 1 - (match o with | .slice _ k _ => k | _ => 0))
  case atStart => exact ⟨0, w0, none, 0, [], a, m, cap, xs, true, Nat.zero_le _, rfl, rfl, rfl, hid (by simp [hL0]), OwnR.nil _ _, hid rfl, hb0, Nat.le_refl _, hfirst, hid (fun _ => HX.out), hb0⟩
  case round =>
    clear hb0 hfirst
    obtain ⟨k, wk, a', cap', rs, a1, m1, c1, ys, ok, hk, rfl, rfl, rfl, HOK, hrows, HR, hbk, hwk, hys, HY, hb⟩ := hrel
    by_cases hlt : k < L.length
    · obtain rfl : ok = true := by rw [HOK.out]; simp [hlt]
      obtain ⟨v1, v2⟩ := HV.out k hlt
      have hyl := HY.out hlt
      rw [hyl] at v1 v2
      obtain rfl : n = m1 := by rw [← v1]; exact hys.len
      have V2 := hid v2
      have V1 := hid v1
      have HYL := hid hyl
      have HT := hid (take_getDH hlt)
      have HR' : Hid (numsOf rs ++ [ys] = L.take (k + 1)) := hid (by rw [HT.out, HR.out, HYL.out])
      have hlen := hrows.len
      have HLEN := hid hlen
      clear v1 v2 hyl hlen
      go_wp2_with (at_builtin; refine wpList_append_row wk wr rfl _ _ rfl w0.heap.size _ _ _ _ _ _ _ _ rfl rfl hrows hbk hys (by omega) hwk ?_; intro a2 cap2 w2 hrows2 hb2)
      have hrow : Has w2 a1 n c1 ys := by
        have := hrows2.has.2.2.2.2.2 k (by omega)
        rw [nthR_append_right (by rw [HLEN.out]; exact Nat.le_refl _), HLEN.out, Nat.sub_self, nthR_one] at this
        simpa [V1.out] using this
      refine (hnext_any _ _ _ _ _ hrow h8 V2.out).mono ?_
      have hw2 : w0.heap.size ≤ w2.heap.size := Nat.le_trans (Nat.le_trans hwk hbk.size) hb2.size
      have hbw := hb.trans hb2
      by_cases hk1 : k + 1 < L.length
      · have HF := H1.out k hk1
        rw [HYL.out] at HF
        simp only [V1.out] at HF
        rw [HF]
        rintro e w3 ⟨a3, m3, cap3, rfl, hown3, hb3⟩
        clear HF
        go_wp2_with fail
        go_roundw
        case rel => exact ⟨k + 1, w2, a2, cap2, _, a3, m3, cap3, _, true, by omega, rfl, rfl, rfl, hid (by simp [hk1]), hrows2, hid (by rw [← HR'.out]; simp [numsOf]), hb3, hw2, hown3, hid (fun _ => rfl), hbw.trans (hb3.mono hw2)⟩
        case measure => simp; omega
      · have HF := H2.out
        rw [show L.length - 1 = k by omega, HYL.out] at HF
        simp only [V1.out] at HF
        rw [HF]
        rintro e w3 ⟨a3, m3, cap3, rfl, hown3, hb3⟩
        clear HF
        go_wp2_with fail
        go_roundw
        case rel => exact ⟨k + 1, w2, a2, cap2, _, a3, m3, cap3, _, false, by omega, rfl, rfl, rfl, hid (by simp [hk1]), hrows2, hid (by rw [← HR'.out]; simp [numsOf]), hb3, hw2, hown3, hid (fun h => absurd h hk1), hbw.trans (hb3.mono hw2)⟩
        case measure => simp; omega
    · obtain rfl : ok = false := by rw [HOK.out]; simp [hlt]
      have HE : Hid (numsOf rs = L) := hid (by rw [HR.out, List.take_of_length_le (by omega)])
      go_wp2_with fail
      go_ret
      exact ⟨a', k, cap', rs, rfl, hrows.below hbk (Nat.le_refl _), HE.out, hb⟩

theorem allHeightsOf_yes {n : Nat} (h : inB (n : Int) 0 6 = true) : allHeightsOf n = (waF n [], true) := by simp [allHeightsOf, h]
theorem allHeightsOf_no {n : Int} (h : ¬ inB n 0 6 = true) : allHeightsOf n = ([], false) := by simp [allHeightsOf, h]
theorem heights_facts {n : Nat} (h : n ≤ 6) : Chain (fun xs => nextH xs xs.length) (waF n []) ∧ (waF n []).getD 0 [] = List.replicate n 0 ∧ (waF n []).length ≤ 132 ∧
    ∀ k, k < (waF n []).length → ((waF n []).getD k []).length = n ∧ ∀ i, i < n → 0 ≤ nth ((waF n []).getD k []) i ∧ nth ((waF n []).getD k []) i ≤ 8 := by
  obtain ⟨c1, c2, c3, c4⟩ := heights_chain n (by omega)
  refine ⟨chain_of c1, c2, c3, fun k hk => ?_⟩
  have hm : (waF n []).getD k [] ∈ waF n [] := by simp [hk]
  have := List.all_eq_true.1 c4 _ hm
  simp only [Bool.and_eq_true, decide_eq_true_eq] at this
  refine ⟨this.1, fun i hi => ?_⟩
  have := (hgt_of this.2 this.1).2 i hi
  omega

set_option maxHeartbeats 400000 in
theorem allHeights_any (n : Int) (w : World) : Calls Tryz.prog 10 #[.int .i64 n] w (PostRows w (allHeightsOf n)) := by
  by_cases h1 : 0 ≤ n
  · by_cases h2 : n ≤ 6
    · obtain ⟨m, rfl⟩ : ∃ m : Nat, n = (m : Int) := ⟨n.toNat, by omega⟩
      have hm : m ≤ 6 := by omega
      have HA := hid (allHeightsOf_yes (inB_iff.2 ⟨h1, h2⟩))
      obtain ⟨hc, hf, hl, hp⟩ := heights_facts hm
      have HF := hid hf
      have HC := hid hc
      have HV := hid hp
      have HL : Hid ((waF m []).length ≤ 100000) := hid (by omega)
      clear hf hl hp hc
      go_enter Tryz.func10, Tryz.ntmps10
      go_wp2_with (refine wpList_make_intsT 46 Tryz.underlying46 _ rfl _ _ rfl m rfl rfl (by omega) ?_; intro a1 cap1 w1 hown1 hb1)
      refine (allHgt_any m (waF m []) HC.out (by omega) HL.out HV.out w _ _ _ _ _ hb1 hown1 HF.out).mono ?_
      rintro e w2 ⟨a2, q2, cap2, rs2, rfl, hown2, hn2, hb2⟩
      go_wp2_with fail
      go_ret2
      exact postRows HA.out hown2 hn2 hb2
    · have HA := hid (allHeightsOf_no (n := n) (by rw [Bool.not_eq_true, inB_not]; omega))
      go_enter Tryz.func10, Tryz.ntmps10
      go_wp2_with fail
      go_ret2
      exact postRows_no HA.out (Below.refl _ _)
  · have HA := hid (allHeightsOf_no (n := n) (by rw [Bool.not_eq_true, inB_not]; omega))
    go_enter Tryz.func10, Tryz.ntmps10
    go_wp2_with fail
    go_ret2
    exact postRows_no HA.out (Below.refl _ _)

set_option maxHeartbeats 4000000 in
theorem waAll_any (n : Nat) (h6 : n ≤ 6) : ∀ (k m : Nat) (a : Option Addr) (cap : Nat) (p : List Int) (w : World), m + k = n → Has w a m cap p → 0 ≤ mostAt p m → mostAt p m ≤ (m : Int) →
    Calls Tryz.prog 35 #[.slice a m cap, .int .i64 (n : Int)] w (PostRowsOnly w (waF k p)) := by
  intro k
  induction k with
  | zero =>
    intro m a cap p w hmk h _ _
    obtain rfl : m = n := by omega
    have hbe : ((m : Int) == (m : Int)) = true := by simp
    have HR : Hid (waF 0 p = [p]) := hid rfl
    go_enter Tryz.func35, Tryz.ntmps35
    go_wp2_with fail
    refine (l1Own_any _ _ _ _ _ h).mono ?_
    rintro e w1 ⟨a1, cap1, rfl, hown1, hb1⟩
    have hlit := ownR_lit1 hown1 hb1.size
    have hba := hb1.alloc hb1.size (.cells #[.slice a1 m cap1] 31)
    go_wp2_with fail
    go_ret
    exact ⟨_, _, _, _, rfl, hlit, by rw [HR.out]; rfl, hba⟩
  | succ k ih =>
    intro m a cap p w hmk h hl0 hl1
    have IH := hid ih
    have hbe : ((m : Int) == (n : Int)) = false := by simp; omega
    have HLEN := hid h.len
    obtain ⟨M, hM⟩ : ∃ M : Nat, mostAt p m = (M : Int) := ⟨(mostAt p m).toNat, by omega⟩
    have hMm : M ≤ m := by omega
    have HTO := hid (length_waTo k p h.len (by omega))
    have HSN : Hid (∀ x : Nat, mostAt (p ++ [(x : Int)]) (m + 1) = (x : Int) + 1) := hid (fun x => by simp only [mostAt]; rw [show m = p.length from h.len.symm, nth_append_at])
    have HSUB : Hid (∀ x : Nat, x ≤ m → (waF k (p ++ [(x : Int)])).length ≤ 7 ^ k) := hid (fun x hx => length_waF k _ (by rw [List.length_append, HLEN.out]; simp; omega) (by
      unfold lastMost
      rw [List.length_append, List.length_singleton, HLEN.out, HSN.out]
      omega))
    have hp7 := pow7 k (by omega)
    have HR : Hid (waF (k + 1) p = waTo k p (M + 1)) := hid (by
      show (List.range (lastMost p + 1)).flatMap _ = _
      unfold lastMost
      rw [HLEN.out, hM, Int.toNat_natCast]
      rfl)
    clear ih hl0 hl1
    by_cases hm0 : m = 0
    · have HM0 : Hid (M = 0) := hid (by rw [hm0] at hM; simp only [mostAt] at hM; omega)
      have hm1 : ¬ 0 < m := by omega
      clear hm0 hM
      go_enter Tryz.func35, Tryz.ntmps35
      go_wp2_with fail
      go_loopw [6, 7] (fun o x wr => ∃ (c : Nat) (a' : Option Addr) (q cap' : Nat) (rs : List Rw), c ≤ M + 1 ∧ x = .int .i64 (c : Int) ∧ o = .slice a' q cap' ∧ OwnR wr w.heap.size a' q cap' rs ∧ Hid (numsOf rs = waTo k p c) ∧ Below w.heap.size w wr) (fun _ x _ => M + 1 - (intOf x).toNat)
      case atStart => exact ⟨0, none, 0, 0, [], by omega, rfl, rfl, OwnR.nil _ _, hid rfl, Below.refl _ _⟩
      case round =>
        obtain ⟨c, a', q, cap', rs, hc, rfl, rfl, hown, HNU, hb⟩ := hrel
        by_cases hlt : c ≤ M
        · have hq : q ≤ 823543 := by
            have h1 := numsOf_len hown
            rw [HNU.out] at h1
            have h2 := HTO.out c (by omega)
            have h3 := Nat.mul_le_mul (show c ≤ 7 by omega) hp7
            omega
          have hh := h.below hb (Nat.le_refl _)
          have hszr := hb.size
          obtain rfl : c = 0 := by have := HM0.out; omega
          have HS2 : Hid ((waF k (p ++ [0])).length ≤ 7 ^ k) := hid (by have := HSUB.out 0 (by omega); simpa using this)
          have HS0 : Hid (mostAt (p ++ [0]) (m + 1) = 1) := hid (by have := HSN.out 0; simpa using this)
          go_wp2_with fail
          refine (l1Own_any _ _ _ _ _ hh).mono ?_
          rintro e w3 ⟨a3, cap3, rfl, hown3, hb3⟩
          go_wp2_with (at_builtin; refine wpList_append_int _ rfl _ _ rfl wr.heap.size _ _ _ _ _ rfl rfl hown3 (by omega) hb3.size ?_; intro a4 cap4 w4 hown4 hb4)
          have hb34 := hb3.trans hb4
          refine (IH.out (m + 1) _ _ _ _ (by omega) hown4.has (by rw [HS0.out]; omega) (by rw [HS0.out]; omega)).mono ?_
          rintro e w5 ⟨a5, q5, cap5, rs5, rfl, hown5, hn5, hb5⟩
          have hb35 := hb34.trans (hb5.mono hb34.size)
          have HN5 := hid hn5
          have hq5 : q5 ≤ 117649 := by
            have h1 := numsOf_len hown5
            rw [hn5] at h1
            have := HS2.out
            omega
          have hown5' := hown5.mono hb34.size
          clear hn5 hown3 hown4 hb3 hb4 hb5 hb34 hown5
          go_wp2_with (at_builtin; refine wpList_append_rowsAny wr w5 rfl _ _ rfl w.heap.size _ _ _ _ _ _ _ _ rfl rfl hown hb35 hown5' (by omega) hszr ?_; intro a6 q6 cap6 w6 hq6 hown6 hb6)
          go_roundw
          case rel =>
            refine ⟨0 + 1, a6, q6, cap6, _, by omega, by go_num, rfl, hown6, hid ?_, (hb.trans (hb35.mono hszr)).trans hb6⟩
            rw [numsOf_app, HNU.out, HN5.out, waTo_succ]
            try rfl
          case measure => simp [intOf]
        · have HC : Hid (M + 1 = c) := hid (by omega)
          have hcz : ¬ (c : Int) ≤ 0 := by have := HM0.out; omega
          go_wp2_with fail
          go_ret
          exact ⟨a', q, cap', rs, rfl, hown, by rw [HR.out, HNU.out, HC.out], hb⟩
    · have hm1 : 0 < m := by omega
      obtain ⟨b0, off0, rfl, hb0, hc0⟩ := h.2.2.2.2 hm1
      have hcl := hc0 (m - 1) (by omega)
      have he1 : (m : Int) - 1 = ((m - 1 : Nat) : Int) := by omega
      have HM0 : Hid (nth p (m - 1) + 1 = (M : Int)) := hid (by obtain ⟨j, rfl⟩ : ∃ j, m = j + 1 := ⟨m - 1, by omega⟩; simp only [mostAt] at hM; exact hM)
      have hv : nth p (m - 1) = (M : Int) - 1 := by have := HM0.out; omega
      rw [hv] at hcl
      clear hc0 hM hm0 hv
      go_enter Tryz.func35, Tryz.ntmps35
      go_wp2_with fail
      go_loopw [6, 7] (fun o x wr => ∃ (c : Nat) (a' : Option Addr) (q cap' : Nat) (rs : List Rw), c ≤ M + 1 ∧ x = .int .i64 (c : Int) ∧ o = .slice a' q cap' ∧ OwnR wr w.heap.size a' q cap' rs ∧ Hid (numsOf rs = waTo k p c) ∧ Below w.heap.size w wr) (fun _ x _ => M + 1 - (intOf x).toNat)
      case atStart => exact ⟨0, none, 0, 0, [], by omega, rfl, rfl, OwnR.nil _ _, hid rfl, Below.refl _ _⟩
      case round =>
        obtain ⟨c, a', q, cap', rs, hc, rfl, rfl, hown, HNU, hb⟩ := hrel
        by_cases hlt : c ≤ M
        · have hq : q ≤ 823543 := by
            have h1 := numsOf_len hown
            rw [HNU.out] at h1
            have h2 := HTO.out c (by omega)
            have h3 := Nat.mul_le_mul (show c ≤ 7 by omega) hp7
            omega
          have hh := h.below hb (Nat.le_refl _)
          have hszr := hb.size
          have HS2 := hid (HSUB.out c (by omega))
          have hcz : (c : Int) ≤ (M : Int) - 1 + 1 := by omega
          go_wp2_with fail
          refine (l1Own_any _ _ _ _ _ hh).mono ?_
          rintro e w3 ⟨a3, cap3, rfl, hown3, hb3⟩
          go_wp2_with (at_builtin; refine wpList_append_int _ rfl _ _ rfl wr.heap.size _ _ _ _ _ rfl rfl hown3 (by omega) hb3.size ?_; intro a4 cap4 w4 hown4 hb4)
          have hb34 := hb3.trans hb4
          refine (IH.out (m + 1) _ _ _ _ (by omega) hown4.has (by rw [HSN.out]; omega) (by rw [HSN.out]; omega)).mono ?_
          rintro e w5 ⟨a5, q5, cap5, rs5, rfl, hown5, hn5, hb5⟩
          have hb35 := hb34.trans (hb5.mono hb34.size)
          have HN5 := hid hn5
          have hq5 : q5 ≤ 117649 := by
            have h1 := numsOf_len hown5
            rw [hn5] at h1
            have := HS2.out
            omega
          have hown5' := hown5.mono hb34.size
          clear hn5 hown3 hown4 hb3 hb4 hb5 hb34 hown5
          go_wp2_with (at_builtin; refine wpList_append_rowsAny wr w5 rfl _ _ rfl w.heap.size _ _ _ _ _ _ _ _ rfl rfl hown hb35 hown5' (by omega) hszr ?_; intro a6 q6 cap6 w6 hq6 hown6 hb6)
          go_roundw
          case rel =>
            refine ⟨c + 1, a6, q6, cap6, _, by omega, by go_num, rfl, hown6, hid ?_, (hb.trans (hb35.mono hszr)).trans hb6⟩
            rw [numsOf_app, HNU.out, HN5.out, waTo_succ]
          case measure => simp [intOf]; omega
        · have HC : Hid (M + 1 = c) := hid (by omega)
          have hcz : ¬ (c : Int) ≤ (M : Int) - 1 + 1 := by omega
          go_wp2_with fail
          go_ret
          exact ⟨a', q, cap', rs, rfl, hown, by rw [HR.out, HNU.out, HC.out], hb⟩

set_option maxHeartbeats 400000 in
theorem specAllHeights_any (n : Int) (w : World) : Calls Tryz.prog 11 #[.int .i64 n] w (PostRows w (allHeightsOf n)) := by
  by_cases hg : inB n 0 6 = true
  · obtain ⟨m, rfl⟩ : ∃ m : Nat, n = (m : Int) := ⟨n.toNat, by have := inB_iff.1 hg; omega⟩
    have hm : m ≤ 6 := by have := inB_iff.1 hg; omega
    have HA := hid (allHeightsOf_yes hg)
    have HG := hid hg
    clear hg
    go_enter Tryz.func11, Tryz.ntmps11
    go_wp2_with (go_at_call 27; refine (l1In_any _ _ _ _).mono ?_; rintro e w' ⟨rfl, rfl⟩; rw [HG.out])
    refine (waAll_any m hm m 0 none 0 [] _ (by omega) (Has.nilAt none (by unfold maxLen; omega)) (by simp [mostAt]) (by simp [mostAt])).mono ?_
    rintro e w2 ⟨a2, q2, cap2, rs2, rfl, hown2, hn2, hb2⟩
    go_wp2_with fail
    go_ret2
    exact postRows HA.out hown2 hn2 hb2
  · have HA := hid (allHeightsOf_no hg)
    have HG := hid hg
    clear hg
    go_enter Tryz.func11, Tryz.ntmps11
    go_wp2_with (go_at_call 27; refine (l1In_any _ _ _ _).mono ?_; rintro e w' ⟨rfl, rfl⟩; rw [Bool.eq_false_iff.2 HG.out])
    go_ret2
    exact postRows_no HA.out (Below.refl _ _)
end Go.Proofs.YtakadjhbomggbaaGreat

namespace Go.Proofs.YtakadjhbomggbaaGreat
open Go.RowKit

def catN (k : Nat) : Nat := chs (2 * k) k / (k + 1)
theorem cat_step : ∀ k, k < 8 → catN (k + 1) = catN k * 2 * (2 * k + 1) / (k + 2) := by decide +kernel
theorem cat_le : ∀ k, k < 9 → catN k ≤ 1430 := by decide +kernel
theorem cat_stepI {k : Nat} (h : k < 8) : ((catN (k + 1) : Nat) : Int) = (catN k : Int) * 2 * (2 * (k : Int) + 1) / ((k : Int) + 2) := by
  rw [cat_step k h]
  simp [Int.natCast_ediv]

set_option maxHeartbeats 1000000 in
theorem specCountHeights_any (n : Int) (w : World) : Calls Tryz.prog 13 #[.int .i64 n] w (PostInt w (countSortedOf n)) := by
  by_cases hg : inB n 0 8 = true
  · have HG := hid hg
    obtain ⟨m, rfl⟩ : ∃ m : Nat, n = (m : Int) := ⟨n.toNat, by have := inB_iff.1 hg; omega⟩
    have hm : m ≤ 8 := by have := inB_iff.1 hg; omega
    have HR : Hid (countSortedOf (m : Int) = ((catN m : Int), true)) := hid (by simp only [countSortedOf]; rw [if_pos hg]; simp [catN])
    clear hg
    go_enter Tryz.func13, Tryz.ntmps13
    go_wp2_with (go_at_call 27; refine (l1In_any _ _ _ _).mono ?_; rintro e w' ⟨rfl, rfl⟩; rw [HG.out])
    go_loop [4, 5] (fun c i => ∃ (k : Nat) (C : Int), k ≤ m ∧ i = .int .i64 k ∧ c = .int .i64 C ∧ Hid ((catN k : Int) = C)) (fun _ i => m - (intOf i).toNat)
    case atStart => exact ⟨0, 1, Nat.zero_le _, rfl, rfl, hid rfl⟩
    case round =>
      obtain ⟨k, C, hk, rfl, rfl, HC⟩ := hrel
      by_cases hlt : k < m
      · have hc : 0 ≤ C ∧ C ≤ 1430 := by have := cat_le k (by omega); have := HC.out; omega
        have HS : Hid (((catN (k + 1) : Nat) : Int) = C * 2 * (2 * (k : Int) + 1) / ((k : Int) + 2)) := hid (by rw [cat_stepI (by omega), HC.out])
        have h0 : 0 ≤ C * 2 * (2 * (k : Int) + 1) := Int.mul_nonneg (by omega) (by omega)
        have h1 : C * 2 * (2 * (k : Int) + 1) ≤ 2860 * 17 := Int.le_trans (Int.mul_le_mul_of_nonneg_right (show C * 2 ≤ 2860 by omega) (by omega)) (Int.mul_le_mul_of_nonneg_left (by omega) (by omega))
        have htd : (C * 2 * (2 * (k : Int) + 1)).tdiv ((k : Int) + 2) = C * 2 * (2 * (k : Int) + 1) / ((k : Int) + 2) := Int.tdiv_eq_ediv_of_nonneg h0
        have hd0 : 0 ≤ C * 2 * (2 * (k : Int) + 1) / ((k : Int) + 2) := Int.ediv_nonneg h0 (by omega)
        have hd1 : C * 2 * (2 * (k : Int) + 1) / ((k : Int) + 2) ≤ C * 2 * (2 * (k : Int) + 1) := Int.ediv_le_self _ h0
        go_wp2_with fail
        go_round
        case rel => exact ⟨k + 1, _, by omega, by go_num, rfl, HS⟩
        case measure => simp [intOf]; omega
      · obtain rfl : k = m := by omega
        go_wp2_with fail
        go_ret2
        exact postInt (HR.out.trans (by rw [HC.out])) (Below.refl _ _)
  · have HG := hid (Bool.eq_false_iff.2 hg)
    have HR : Hid (countSortedOf n = (0, false)) := hid (by simp [countSortedOf, hg])
    clear hg
    go_enter Tryz.func13, Tryz.ntmps13
    go_wp2_with (go_at_call 27; refine (l1In_any _ _ _ _).mono ?_; rintro e w' ⟨rfl, rfl⟩; rw [HG.out])
    go_ret2
    exact postInt HR.out (Below.refl _ _)

theorem implCountHeights_any (n : Int) (w : World) : Calls Tryz.prog 12 #[.int .i64 n] w (PostInt w (countSortedOf n)) := by
  obtain ⟨⟨c, ok⟩, hr⟩ : ∃ r, countSortedOf n = r := ⟨_, rfl⟩
  have HR := hid hr
  clear hr
  go_enter Tryz.func12, Tryz.ntmps12
  go_wp2_with fail
  refine (countSorted_any _ _).mono ?_
  rw [HR.out]
  rintro e w1 ⟨rfl, hb⟩
  go_wp2_with fail
  go_ret2
  exact postInt HR.out hb
end Go.Proofs.YtakadjhbomggbaaGreat

namespace Go.Proofs.YtakadjhbomggbaaGreat
open Go.RowKit

set_option maxHeartbeats 400000 in
theorem wSame_any (a b : Option Addr) (n m cap cap' : Nat) (xs ys : List Int) (w : World) (h : Has w a n cap xs) (h' : Has w b m cap' ys) :
    Calls Tryz.prog 19 #[.slice a n cap, .slice b m cap'] w fun e w' => e = .returned (.bool (same xs ys)) ∧ Quiet w w' := by
  obtain ⟨h0, h1, h2, h3, h4⟩ := h
  obtain ⟨k0, k1, k2, k3, k4⟩ := h'
  by_cases hnm : n = m
  · have hb : ((n : Int) != (m : Int)) = false := by simp [hnm]
    subst hnm
    go_enter Tryz.func19, Tryz.ntmps19
    go_wp2_with fail
    go_loopw [13] (fun i wr => ∃ k : Nat, k ≤ n ∧ i = .int .i64 k ∧ FromTo xs ys k ∧ Quiet w wr) (fun i _ => n - (intOf i).toNat)
    case atStart => exact ⟨0, Nat.zero_le _, rfl, fun i hi => by omega, ⟨0, rfl⟩⟩
    case round =>
      obtain ⟨k, hk, rfl, hft, q, hq⟩ := hrel
      subst hq
      by_cases hlt : k < n
      · obtain ⟨b1, off1, rfl, hb1, hc1⟩ := h4 (by omega)
        obtain ⟨b2, off2, rfl, hb2, hc2⟩ := k4 (by omega)
        have hck := hc1 k hlt
        have hdk := hc2 k hlt
        have hkk : (k : Int) < (n : Int) := by omega
        have hkz : (0 : Int) ≤ (k : Int) := by omega
        clear hc1 hc2 h4 k4
        by_cases he : nth xs k = nth ys k
        · have hbe : (nth xs k != nth ys k) = false := by simp [he]
          have HE := hid he
          clear he
          go_wp2_with fail
          go_quiet (fail)
          go_wp2_with fail
          go_roundw
          case rel => exact ⟨k + 1, by omega, by go_num, fun i hi => by rcases Nat.lt_succ_iff_lt_or_eq.1 hi with h | rfl; exact hft i h; exact HE.out.symm, ⟨_, rfl⟩⟩
          case measure => simp [intOf]; omega
        · have hbe : (nth xs k != nth ys k) = true := by simp [he]
          have HE := hid he
          clear he
          go_wp2_with fail
          go_quiet (fail)
          go_wp2_with fail
          go_ret
          exact ⟨ret_bool (same_no HE.out).symm, (Quiet.more ⟨_, rfl⟩ _)⟩
      · obtain rfl : k = n := by omega
        go_wp2_with fail
        go_ret
        exact ⟨ret_bool (same_yes (by omega) (by rw [h0]; exact hft)).symm, ⟨_, rfl⟩⟩
  · have hb : ((n : Int) != (m : Int)) = true := by simp; omega
    go_enter Tryz.func19, Tryz.ntmps19
    go_wp2_with fail
    go_ret
    exact ⟨ret_bool (show false = same xs ys from by unfold same; symm; rw [decide_eq_false_iff_not]; rintro rfl; omega), ⟨0, rfl⟩⟩

end Go.Proofs.YtakadjhbomggbaaGreat

namespace Go.Proofs.YtakadjhbomggbaaGreat
open Go.RowKit

set_option maxHeartbeats 400000 in
theorem wSumX_any (a : Option Addr) (n cap : Nat) (xs : List Int) (w : World) (h : Has w a n cap xs) (h8 : n ≤ 100) (hb : ∀ i, i < n → 0 ≤ nth xs i ∧ nth xs i ≤ 5000) :
    Calls Tryz.prog 17 #[.slice a n cap] w fun e w' => e = .returned (.int .i64 (total xs)) ∧ w = w' := by
  have HL := hid h.len
  have HB := hid hb
  clear hb
  go_enter Tryz.func17, Tryz.ntmps17
  go_wp2_with fail
  go_loop [3, 8] (fun s i => ∃ (k : Nat) (v : Int), k ≤ n ∧ i = .int .i64 (k : Int) ∧ s = .int .i64 v ∧ Hid (v = total (xs.take k)) ∧ 0 ≤ v ∧ v ≤ 5000 * (k : Int)) (fun _ i => n - (intOf i).toNat)
  case atStart => exact ⟨0, 0, by omega, rfl, rfl, hid rfl, by omega, by omega⟩
  case round =>
    obtain ⟨k, v, hk, rfl, rfl, HV, s0, s1⟩ := hrel
    by_cases hlt : k < n
    · obtain ⟨b0, off, rfl, hbb, hc⟩ := h.2.2.2.2 (by omega)
      have hck := hc k hlt
      obtain ⟨u0, u1⟩ := HB.out k hlt
      have HS : Hid (total (xs.take (k + 1)) = v + nth xs k) := hid (by rw [total_succ (by rw [HL.out]; exact hlt), HV.out])
      clear hc
      go_wp2_with fail
      go_round
      case rel => exact ⟨k + 1, v + nth xs k, by omega, by go_num, by go_num, hid HS.out.symm, by omega, by omega⟩
      case measure => simp [intOf]; omega
    · obtain rfl : k = n := by omega
      have HR : Hid (v = total xs) := hid (by rw [HV.out, List.take_of_length_le (by rw [HL.out]; omega)])
      go_wp2_with fail
      go_ret
      exact ⟨ret_int HR.out, rfl⟩
end Go.Proofs.YtakadjhbomggbaaGreat

namespace Go.Proofs.YtakadjhbomggbaaGreat
open Go.RowKit

set_option maxHeartbeats 800000 in
theorem wRows_any (a b : Option Addr) (n m cap cap' : Nat) (rs ss : List Rw) (w : World) (h : HasR w a n cap rs) (h' : HasR w b m cap' ss) :
    Calls Tryz.prog 8 #[.slice a n cap, .slice b m cap'] w fun e w' => e = .returned (.bool (sameR rs ss)) ∧ Quiet w w' := by
  obtain ⟨h0, h1, h2, h3, h4, h5⟩ := h
  obtain ⟨k0, k1, k2, k3, k4, k5⟩ := h'
  by_cases hnm : n = m
  · have hb : ((n : Int) != (m : Int)) = false := by simp [hnm]
    subst hnm
    have HL := hid h0
    have HL' := hid k0
    have H5 := hid h5
    have K5 := hid k5
    clear h0 k0 h5 k5
    go_enter Tryz.func8, Tryz.ntmps8
    go_wp2_with fail
    go_loopw [13] (fun i wr => ∃ k : Nat, k ≤ n ∧ i = .int .i64 k ∧ Hid (∀ j, j < k → same (nthR rs j).xs (nthR ss j).xs = true) ∧ Quiet w wr) (fun i _ => n - (intOf i).toNat)
    case atStart => exact ⟨0, Nat.zero_le _, rfl, hid (fun i hi => by omega), ⟨0, rfl⟩⟩
    case round =>
      obtain ⟨k, hk, rfl, HF, HQ⟩ := hrel
      by_cases hlt : k < n
      · obtain ⟨b1, off1, rfl, hb1, hc1⟩ := h4 (by omega)
        obtain ⟨b2, off2, rfl, hb2, hc2⟩ := k4 (by omega)
        have hck : wr.cell? ⟨b1, off1 + k, none⟩ = some (nthR rs k).v := by obtain ⟨q, hq⟩ := HQ; rw [hq]; exact hc1 k hlt
        have hdk : wr.cell? ⟨b2, off2 + k, none⟩ = some (nthR ss k).v := by obtain ⟨q, hq⟩ := HQ; rw [hq]; exact hc2 k hlt
        have hkk : (k : Int) < (n : Int) := by omega
        have hkz : (0 : Int) ≤ (k : Int) := by omega
        have cq : ∀ j, Calls Tryz.prog 19 #[(nthR rs k).v, (nthR ss k).v] (wr.drewN j) fun e w' => e = .returned (.bool (same (nthR rs k).xs (nthR ss k).xs)) ∧ ∃ m, w' = (wr.drewN j).drewN m := fun j =>
          wSame_any _ _ _ _ _ _ _ _ _ (by obtain ⟨q, hq⟩ := HQ; rw [hq]; exact H5.out k hlt) (by obtain ⟨q, hq⟩ := HQ; rw [hq]; exact K5.out k hlt)
        clear hc1 hc2 h4 k4
        have HN := hid (sameR_no (rs := rs) (ss := ss) (k := k) (by rw [HL.out]; omega) (by rw [HL'.out]; omega))
        have HF2 := hid (fun (hh : same (nthR rs k).xs (nthR ss k).xs = true) (j : Nat) (hj : j < k + 1) => (show same (nthR rs j).xs (nthR ss j).xs = true from by rcases Nat.lt_succ_iff_lt_or_eq.1 hj with h1 | rfl; exact HF.out j h1; exact hh))
        generalize nthR rs k = rk at *
        generalize nthR ss k = sk at *
        by_cases he : same rk.xs sk.xs = true
        · have HE := hid he
          rw [he] at cq
          have CQ := hid cq
          clear he cq
          go_wp2_with fail
          go_quiet ((go_at_call 19; exact Calls.quiet_of (CQ.out _)))
          go_wp2_with fail
          go_roundw
          case rel => exact ⟨k + 1, by omega, by go_num, hid (HF2.out HE.out), Quiet.more HQ _⟩
          case measure => simp [intOf]; omega
        · have he' := Bool.eq_false_iff.2 he
          have HE := hid he'
          rw [he'] at cq
          have CQ := hid cq
          clear he he' cq
          go_wp2_with fail
          go_quiet ((go_at_call 19; exact Calls.quiet_of (CQ.out _)))
          go_wp2_with fail
          go_ret
          exact ⟨ret_bool (HN.out HE.out).symm, Quiet.more HQ _⟩
      · obtain rfl : k = n := by omega
        go_wp2_with fail
        go_ret
        exact ⟨ret_bool (sameR_yes (by rw [HL.out, HL'.out]) (by rw [HL.out]; exact HF.out)).symm, HQ⟩
  · have hb : ((n : Int) != (m : Int)) = true := by simp; omega
    have HR : Hid (sameR rs ss = false) := hid (by
      unfold sameR; rw [decide_eq_false_iff_not]
      intro e
      have : (numsOf rs).length = (numsOf ss).length := by rw [e]
      simp [numsOf] at this
      omega)
    go_enter Tryz.func8, Tryz.ntmps8
    go_wp2_with fail
    go_ret
    exact ⟨ret_bool HR.out.symm, ⟨0, rfl⟩⟩


set_option maxHeartbeats 800000 in
theorem wLess_any (a b : Option Addr) (n cap cap' : Nat) (xs ys : List Int) (w : World) (h : Has w a n cap xs) (h' : Has w b n cap' ys) :
    Calls Tryz.prog 16 #[.slice a n cap, .slice b n cap'] w fun e w' => e = .returned (.bool (lexLess xs ys)) ∧ Quiet w w' := by
  obtain ⟨h0, h1, h2, h3, h4⟩ := h
  obtain ⟨k0, k1, k2, k3, k4⟩ := h'
  have HL := hid h0
  have HL' := hid k0
  clear h0 k0
  go_enter Tryz.func16, Tryz.ntmps16
  go_wp2_with fail
  go_loopw [8] (fun i wr => ∃ k : Nat, k ≤ n ∧ i = .int .i64 k ∧ Hid (∀ i, i < k → nth xs i = nth ys i) ∧ Quiet w wr) (fun i _ => n - (intOf i).toNat)
  case atStart => exact ⟨0, Nat.zero_le _, rfl, hid (fun i hi => by omega), ⟨0, rfl⟩⟩
  case round =>
    obtain ⟨k, hk, rfl, HF, q, hq⟩ := hrel
    subst hq
    by_cases hlt : k < n
    · obtain ⟨b1, off1, rfl, hb1, hc1⟩ := h4 (by omega)
      obtain ⟨b2, off2, rfl, hb2, hc2⟩ := k4 (by omega)
      have hck := hc1 k hlt
      have hdk := hc2 k hlt
      have hkk : (k : Int) < (n : Int) := by omega
      have hkz : (0 : Int) ≤ (k : Int) := by omega
      have HX := hid (fun (hne : nth xs k ≠ nth ys k) => lexLess_at k xs ys (by rw [HL.out]; exact hlt) (by rw [HL.out, HL'.out]) HF.out hne)
      clear hc1 hc2 h4 k4
      by_cases he : nth xs k = nth ys k
      · have hbe : (nth xs k != nth ys k) = false := by simp [he]
        have HE := hid he
        clear he
        go_wp2_with fail
        go_quiet (fail)
        go_wp2_with fail
        go_roundw
        case rel => exact ⟨k + 1, by omega, by go_num, hid (fun i hi => by rcases Nat.lt_succ_iff_lt_or_eq.1 hi with h | rfl; exact HF.out i h; exact HE.out), ⟨_, rfl⟩⟩
        case measure => simp [intOf]; omega
      · have hbe : (nth xs k != nth ys k) = true := by simp [he]
        have HR := hid (HX.out he)
        clear he HX
        go_wp2_with fail
        go_quiet (fail)
        go_wp2_with fail
        go_quiet (fail)
        go_wp2_with fail
        go_ret
        exact ⟨ret_bool HR.out.symm, (Quiet.more (Quiet.more ⟨_, rfl⟩ _) _)⟩
    · obtain rfl : k = n := by omega
      have HR : Hid (lexLess xs ys = false) := hid (by
        rw [ext_nth (xs := xs) (ys := ys) (by rw [HL.out, HL'.out]) (by rw [HL.out]; exact HF.out)]
        exact lexLess_same _)
      go_wp2_with fail
      go_ret
      exact ⟨ret_bool HR.out.symm, ⟨_, rfl⟩⟩

end Go.Proofs.YtakadjhbomggbaaGreat

namespace Go.Proofs.YtakadjhbomggbaaGreat
open Go.RowKit

theorem grown_on {w w' w'' : World} {r : Option Nat} (h : w.grownBy w' r) (hb : Below w'.heap.size w' w'') : w.grownBy w'' r :=
  ⟨hb.os.trans h.os, hb.tape.trans h.tape, hb.output.trans h.output, Nat.le_trans h.size hb.size, fun j hj hne => (hb.block j (Nat.lt_of_lt_of_le hj h.size)).trans (h.block j hj hne)⟩
theorem grown_set {w w' : World} {g i : Nat} (h : w.grownBy w' (some g)) (v : Value) : w.grownBy (w'.setCell ⟨g, i, none⟩ v) (some g) :=
  ⟨h.os, h.tape, h.output, by simpa using h.size, fun j hj hne => by
    rw [heap_setCell_other w' ⟨g, i, none⟩ j v (by intro e; exact hne (by simp [e]))]
    exact h.block j hj hne⟩
/-- The counts of the first k. -/
def Hist (ts : List Int) (m k : Nat) (zs : List Int) : Prop := ∀ d : Nat, d < m → nth zs d = occ (ts.take k) d
theorem hist_first (ts : List Int) (m : Nat) : Hist ts m 0 (List.replicate m 0) := fun d _ => by
  rw [nth_replicate0]
  simp [occ]
theorem hist_step {ts zs : List Int} {m k d : Nat} (h : Hist ts m k zs) (hk : k < ts.length) (hd : nth ts k = (d : Int)) (hm : d < m) (hl : zs.length = m) : Hist ts m (k + 1) (zs.set d (nth zs d + 1)) := fun e he => by
  rw [nth_set (by omega), occ_succ hk, hd]
  by_cases x : d = e
  · subst x
    rw [if_pos rfl, if_pos rfl, h d hm]
  · rw [if_neg x, if_neg (by omega), h e he, Int.add_zero]
theorem hist_le {ts zs : List Int} {m k d : Nat} (h : Hist ts m k zs) (hd : d < m) (hk : k ≤ ts.length) : 0 ≤ nth zs d ∧ nth zs d ≤ ts.length := by
  rw [h d hd]
  unfold occ
  have := List.count_le_length (a := (d : Int)) (l := ts.take k)
  simp at this
  omega
theorem hist_done {n m : Nat} {zs : List Int} (h : Hist (tots n) m (tots n).length zs) (hm : m = mostD n + 1) (hl : zs.length = m) : distCounts n = zs := by
  subst hm
  refine ext_nth (by simp [distCounts, hl]) fun i hi => ?_
  simp [distCounts] at hi
  rw [h i (by omega), List.take_length]
  simp [nth, distCounts, show i < mostD n + 1 by omega]
theorem cnt_le5' {n : Nat} (h : n ≤ 5) : cnt n ≤ 1296 := by
  have : ∀ n, n < 6 → cnt n ≤ 1296 := by decide +kernel
  exact this n (by omega)
theorem tots_length {n : Nat} (h8 : n ≤ 8) : (tots n).length = cnt n := by
  unfold tots
  rw [List.length_map]
  exact (all_chain h8).2.2.1
theorem most_facts : ∀ n : Nat, n < 6 → (n : Int) * ((n : Int) - 1) ≤ 20 ∧ 0 ≤ (n : Int) * ((n : Int) - 1) ∧ (n : Int) * ((n : Int) - 1) / 2 + 1 = ((mostD n + 1 : Nat) : Int) := by decide
/-- A row of all. -/
theorem row_all {n q : Nat} {rs : List Rw} (h8 : n ≤ 8) (hn : numsOf rs = listL n n []) (hq : rs.length = q) {k : Nat} (hk : k < q) : isPark (nthR rs k).xs = true ∧ (nthR rs k).xs.length = n ∧ nth (tots n) k = tot (nthR rs k).xs ∧ k < (tots n).length := by
  have h1 := map_nthR Rw.xs (rs := rs) (i := k) (by omega)
  have h2 : (listL n n [])[k]? = some (nthR rs k).xs := by rw [← hn]; exact h1
  have hm := List.mem_of_getElem? h2
  obtain ⟨p1, p2⟩ := list_parks h8 hm
  refine ⟨p1, p2, ?_, ?_⟩
  · simp [nth, tots, h2]
  · have := (List.getElem?_eq_some_iff.1 h2).1
    simpa [tots] using this
theorem park_dists {xs : List Int} (h : isPark xs = true) : Small (dists xs.length xs) := by
  obtain ⟨h1, h2, h3⟩ := isPark_iff.1 h
  intro i hi
  rw [length_dists] at hi
  rw [nth_dists hi]
  have a := car_at hi h2 h3
  have b := h2 _ (nth_mem (xs := xs) (i := i) hi)
  omega

end Go.Proofs.YtakadjhbomggbaaGreat

namespace Go.Proofs.YtakadjhbomggbaaGreat
open Go.RowKit

theorem ordersOf_yes {xs : List Int} {n : Nat} (h : isPark xs = true) (hn : xs.length = n) : ordersOf xs = ((ordersN xs n : Int), true) := by simp [ordersOf, h, hn]
theorem ordersOf_no {xs : List Int} (h : ¬ isPark xs = true) : ordersOf xs = (0, false) := by simp [ordersOf, h]
theorem ordersN_none (m : Nat) : ordersN [] m = 1 := by
  unfold ordersN
  have := occs_more (s := []) (m := 0) m (fun v _ _ => by simp [occ])
  rw [Nat.zero_add] at this
  rw [this]
  rfl
theorem count_take {xs : List Int} {k : Nat} (h : k < xs.length) (x : Int) : (xs.take (k + 1)).count x = (xs.take k).count x + if nth xs k = x then 1 else 0 := by
  rw [take_succ_nth h, List.count_append, List.count_singleton]
  simp only [beq_iff_eq]

end Go.Proofs.YtakadjhbomggbaaGreat

namespace Go.Proofs.YtakadjhbomggbaaGreat
open Go.RowKit

theorem cells_add {w : World} {b off n : Nat} {us : List Value} (h : ∀ i, i < n → w.cell? ⟨b, off + i, none⟩ = us[i]?) (hl : us.length = n) : ∀ j v, us[j]? = some v → w.cell? ⟨b, off + j, none⟩ = some v := by
  intro j v hv
  have hj := (List.getElem?_eq_some_iff.1 hv).1
  rw [h j (by omega), hv]

theorem runs_le (s : List Int) : ∀ k i, 0 ≤ nth (runsTo s k) i ∧ nth (runsTo s k) i ≤ k
  | 0, i => by simp [runsTo, nth]
  | k + 1, i => by
    have ih := runs_le s k
    simp only [runsTo]
    split
    · by_cases e : i < (runsTo s k).length
      · rw [nth_append_left e]; have := ih i; omega
      · by_cases e2 : i = (runsTo s k).length
        · subst e2; rw [nth_append_at]; omega
        · have : nth (runsTo s k ++ [1]) i = 0 := by simp [nth, List.getElem?_append, e, show ¬ i - (runsTo s k).length = 0 by omega]
          omega
    · by_cases h0 : (runsTo s k).length = 0
      · have : runsTo s k = [] := List.eq_nil_of_length_eq_zero h0
        rw [this]
        simp [nth]
        omega
      · rw [nth_set (by omega)]
        split
        · have := ih ((runsTo s k).length - 1); omega
        · have := ih i; omega
theorem set_last0 (rs : List Int) : (rs ++ [0]).set rs.length 1 = rs ++ [1] := by
  rw [List.set_append_right _ _ (Nat.le_refl _)]
  simp

/-! ### Groups -/
theorem groups_cars (gs : List Int) : (groups gs).2 = (gs.map Int.toNat).sum := by
  have : ∀ (gs : List Int) (r : Nat × Nat), (gs.foldl (fun r g => (r.1 * chs (r.2 + g.toNat) g.toNat, r.2 + g.toNat)) r).2 = r.2 + (gs.map Int.toNat).sum := by
    intro gs
    induction gs with
    | nil => intro r; simp
    | cons g gs ih => intro r; simp only [List.foldl_cons, List.map_cons, List.sum_cons]; rw [ih]; simp only; omega
  have h := this gs (1, 0)
  simpa [groups] using h
theorem groups_take_le (gs : List Int) (k : Nat) : (groups (gs.take k)).2 ≤ (groups gs).2 := by
  rw [groups_cars, groups_cars]
  conv => rhs; rw [← List.take_append_drop k gs]
  rw [List.map_append, List.sum_append]
  omega
theorem groups_succ {gs : List Int} {k : Nat} (h : k < gs.length) : groups (gs.take (k + 1)) = ((groups (gs.take k)).1 * chs ((groups (gs.take k)).2 + (nth gs k).toNat) (nth gs k).toNat, (groups (gs.take k)).2 + (nth gs k).toNat) := by
  rw [take_succ_nth h, groups_snoc]
theorem groups_small {gs : List Int} (h : (groups gs).2 ≤ 8) : (groups gs).1 ≤ 40320 := by
  have h1 := groups_fct _ gs rfl (by omega)
  have h2 : ∀ n, n < 9 → fct n ≤ 40320 := by decide
  have h3 := h2 (groups gs).2 (by omega)
  have h4 : 0 < fcts gs := by
    unfold fcts
    have : ∀ (gs : List Int) (r : Nat), 0 < r → 0 < gs.foldl (fun r g => r * fct g.toNat) r := by
      intro gs
      induction gs with
      | nil => intro r hr; exact hr
      | cons g gs ih => intro r hr; exact ih _ (Nat.mul_pos hr (fct_pos _))
    exact this gs 1 (by omega)
  have := Nat.le_mul_of_pos_right (groups gs).1 h4
  omega
theorem occs_nonneg (s : List Int) (m : Nat) : ∀ x ∈ occs s m, 0 ≤ x := by
  intro x hx
  unfold occs at hx
  obtain ⟨v, _, rfl⟩ := List.mem_map.1 (List.mem_filter.1 hx).1
  unfold occ
  omega
theorem orders_runs {xs : List Int} {n : Nat} (hp : isPark xs = true) (hn : xs.length = n) : runsTo (insSort xs) n = occs xs n ∧ ordersOf xs = (((groups (occs xs n)).1 : Int), true) ∧ (groups (occs xs n)).2 = n ∧ n ≤ 8 := by
  obtain ⟨h8, hb⟩ := isPark_bounds hp
  have hb' : ∀ x ∈ xs, 0 ≤ x ∧ x < (n : Int) := fun x hx => by have := hb x hx; omega
  have hperm := insSort_perm xs
  have h1 := runs_all (s := insSort xs) (m := n) (insSort_sorted xs) (fun x hx => hb' x (hperm.mem_iff.1 hx))
  rw [length_insSort, hn, occs_perm hperm] at h1
  refine ⟨h1, by rw [ordersOf_yes hp hn]; rfl, ?_, by omega⟩
  rw [groups_sum, sum_counts xs hb', hn]

end Go.Proofs.YtakadjhbomggbaaGreat

namespace Go.Proofs.YtakadjhbomggbaaGreat
open Go.RowKit Go.Sort

theorem part_le {xs : List Int} (h : ∀ i, i < xs.length → 0 ≤ nth xs i ∧ nth xs i ≤ 8) : ∀ k, k ≤ xs.length → 0 ≤ total (xs.take k) ∧ total (xs.take k) ≤ 8 * k ∧ 0 ≤ total (upto k) ∧ total (upto k) ≤ k * xs.length
  | 0, _ => by simp [total, upto]
  | k + 1, hk => by
    have ih := part_le h k (by omega)
    have hx := h k (by omega)
    rw [total_succ (by omega), upto_succ, total_snoc, show ((k + 1 : Nat) : Int) = (k : Int) + 1 by omega, Int.add_mul, Int.mul_add]
    omega

set_option maxHeartbeats 800000 in
theorem ptotal_any (a : Option Addr) (n cap : Nat) (xs : List Int) (w : World) (h : Has w a n cap xs) (h8 : n ≤ 8) (hx : ∀ i, i < n → 0 ≤ nth xs i ∧ nth xs i ≤ 8) :
    Calls Tryz.prog 62 #[.slice a n cap] w fun e w' => e = .returned (.int .i64 (tot xs)) ∧ w = w' := by
  have HLEN := hid h.len
  have HPL := hid (part_le (xs := xs) (by rw [h.len]; exact hx))
  have HX := hid hx
  have HC := hid h.2.2.2.2
  clear hx
  go_enter Tryz.func62, Tryz.ntmps62
  go_wp2_with fail
  go_loop [3, 8] (fun s i => ∃ k : Nat, k ≤ n ∧ i = .int .i64 (k : Int) ∧ s = .int .i64 (total (upto k) - total (xs.take k))) (fun _ i => n - (intOf i).toNat)
  case atStart => exact ⟨0, Nat.zero_le _, rfl, by simp [total, upto]⟩
  case round =>
    obtain ⟨k, hk, rfl, rfl⟩ := hrel
    obtain ⟨t0, t1, t2, t3⟩ := HPL.out k (by rw [HLEN.out]; exact hk)
    have t4 : (k : Int) * (xs.length : Int) ≤ 64 := by
      have := Nat.mul_le_mul (show k ≤ 8 by omega) (show xs.length ≤ 8 by rw [HLEN.out]; exact h8)
      rw [← Int.natCast_mul]
      omega
    have t5 : total (upto k) ≤ 64 := by omega
    by_cases hlt : k < n
    · obtain ⟨b, off, rfl, hbb, hc⟩ := HC.out (by omega)
      have hck := hc k hlt
      obtain ⟨x0, x1⟩ := HX.out k hlt
      have HS := hid (total_succ (xs := xs) (k := k) (by rw [HLEN.out]; omega))
      have HU : Hid (total (upto (k + 1)) = total (upto k) + (k : Int)) := hid (by rw [upto_succ, total_snoc])
      clear hc t3 t4
      generalize total (upto k) = u at *
      generalize total (xs.take k) = v at *
      go_wp2_with fail
      go_round
      case rel => exact ⟨k + 1, by omega, by go_num, congrArg (Value.int .i64) (by rw [HS.out, HU.out]; omega)⟩
      case measure => simp [intOf]; omega
    · obtain rfl : n = k := by omega
      have HE : Hid (total (upto n) - total (xs.take n) = tot xs) := hid (by unfold tot; rw [List.take_of_length_le (by rw [HLEN.out]; omega), HLEN.out])
      clear t3 t4
      go_wp2_with fail
      go_ret
      exact ⟨ret_int HE.out, rfl⟩

theorem isNaNI_any (x : Int) (w : World) : Calls Tryz.prog 74 #[.int .i64 x] w fun e w' => e = .returned (.bool false) ∧ w = w' := by
  have hx : (x != x) = false := by simp
  go_enter Tryz.func74, Tryz.ntmps74
  go_wp2_with fail
  go_ret
  exact ⟨rfl, rfl⟩
set_option maxHeartbeats 400000 in
theorem compareI_any (x y : Int) (w : World) : Calls Tryz.prog 61 #[.int .i64 x, .int .i64 y] w fun e w' => e = .returned (.int .i64 (cmpI x y)) ∧ w = w' := by
  by_cases h1 : x < y
  · have HR : Hid (cmpI x y = -1) := hid (by simp [cmpI, h1])
    go_enter Tryz.func61, Tryz.ntmps61
    go_wp2_with (go_at_call 74; refine (isNaNI_any _ _).mono ?_; rintro e w' ⟨rfl, rfl⟩)
    go_ret
    exact ⟨ret_int HR.out.symm, rfl⟩
  · by_cases h2 : y < x
    · have HR : Hid (cmpI x y = 1) := hid (by simp [cmpI, h1, h2])
      go_enter Tryz.func61, Tryz.ntmps61
      go_wp2_with (go_at_call 74; refine (isNaNI_any _ _).mono ?_; rintro e w' ⟨rfl, rfl⟩)
      go_ret
      exact ⟨ret_int HR.out.symm, rfl⟩
    · have HR : Hid (cmpI x y = 0) := hid (by simp [cmpI, h1, h2])
      go_enter Tryz.func61, Tryz.ntmps61
      go_wp2_with (go_at_call 74; refine (isNaNI_any _ _).mono ?_; rintro e w' ⟨rfl, rfl⟩)
      go_ret
      exact ⟨ret_int HR.out.symm, rfl⟩

/-- A row that a comparison may read. -/
def Fit (w : World) (r : Rw) : Prop := Has w r.a r.xs.length r.c r.xs ∧ r.xs.length ≤ 8 ∧ ∀ i, i < r.xs.length → 0 ≤ nth r.xs i ∧ nth r.xs i ≤ 8
theorem compareTotal_any (r s : Rw) (w : World) (hr : Fit w r) (hs : Fit w s) : Calls Tryz.prog 44 #[r.v, s.v] w fun e w' => e = .returned (.int .i64 (cmpI (tot r.xs) (tot s.xs))) ∧ w = w' := by
  unfold Rw.v
  obtain ⟨r1, r2, r3⟩ := hr
  obtain ⟨s1, s2, s3⟩ := hs
  have R3 := hid r3
  have S3 := hid s3
  clear r3 s3
  generalize r.xs.length = n at *
  generalize s.xs.length = m at *
  go_enter Tryz.func44, Tryz.ntmps44
  go_wp2_with fail
  refine (ptotal_any _ _ _ _ _ r1 r2 R3.out).mono ?_
  rintro e _ ⟨rfl, rfl⟩
  go_wp2_with fail
  refine (ptotal_any _ _ _ _ _ s1 s2 S3.out).mono ?_
  rintro e _ ⟨rfl, rfl⟩
  go_wp2_with fail
  refine (compareI_any _ _ _).mono ?_
  rintro e _ ⟨rfl, rfl⟩
  go_wp2_with fail
  go_ret
  exact ⟨rfl, rfl⟩
theorem Fit.kept {w w' : World} {r : Rw} {g : Nat} (h : Fit w r) (hg : w.grownBy w' (some g)) (hne : ∀ p, r.a = some p → p.block ≠ g) : Fit w' r := ⟨h.1.kept hg hne, h.2⟩
theorem Fit.below {w w' : World} {r : Rw} (h : Fit w r) (hb : Go.RowKit.Below w.heap.size w w') : Fit w' r := ⟨h.1.below hb (Nat.le_refl _), h.2⟩

theorem Tryz.infoParked : (Tryz.prog.info? 66).map (fun i => (i.zero, i.size, i.bytes)) = some (some (.slice none 0 0), 1, 24) := by kernel_rfl

/-- 'slices.Clone(lists)'. -/
theorem cloneRows_any (b off n cap : Nat) (rs : List Rw) (w : World) (hc : ∀ i, i < n → w.cell? ⟨b, off + i, none⟩ = (rs.map Rw.v)[i]?) (hl : rs.length = n) (hn : n ≤ 2000) :
    Calls Tryz.prog 59 #[.slice (some ⟨b, off, none⟩) n cap] w fun e w' =>
      ∃ g cap', e = .returned (.slice (some ⟨g, 0, none⟩) n cap') ∧ OwnE 66 w' w.heap.size (some ⟨g, 0, none⟩) n cap' (rs.map Rw.v) ∧ Go.RowKit.Below w.heap.size w w' := by
  obtain ⟨i0, hi, hz0, hz1, hz2⟩ := info_parts Tryz.infoParked
  refine (Tryz.slices_Clone_f59 i0 (.slice none 0 0) 1 24 hi hz0 hz1 hz2 rfl (by decide) Tryz.sizeOf66 b off n cap (rs.map Rw.v) w (by simp [hl]) (by unfold maxLen; omega) (by omega) (cells_add hc (by simp [hl])) (rows_oneCell rs)).mono ?_
  rintro e w' ⟨v', rfl, hown, hne, hb⟩
  rcases hown.2 with ⟨hv, _⟩ | ⟨g, cap', cur, hv, _⟩
  · exact absurd hv hne
  · subst hv
    exact ⟨g, cap', rfl, ⟨hown, by simp [hl], by omega⟩, hb⟩

theorem attach_map {β : Type} (f : Rw → β) (rs : List Rw) : rs.attach.map (fun x => f x.1) = rs.map f := by
  rw [show (fun x : {r : Rw // r ∈ rs} => f x.1) = f ∘ Subtype.val from rfl, ← List.map_map, List.attach_map_subtype_val]
theorem attach_v (rs : List Rw) : rs.attach.map (fun x => x.1.v) = rs.map Rw.v := attach_map Rw.v rs

/-- 'slices.SortFunc(lists, parked.compareTotal)'. -/
theorem sortRows_any (B g n cap : Nat) (rs : List Rw) (w : World) (h : OwnE 66 w B (some ⟨g, 0, none⟩) n cap (rs.map Rw.v)) (hn : 0 < n) (hfit : ∀ r ∈ rs, Fit w r ∧ ∀ p, r.a = some p → p.block ≠ g) :
    Calls Tryz.prog 60 #[.slice (some ⟨g, 0, none⟩) n cap, .func (.func 44) #[] #[]] w fun e w' =>
      e = .returned (.tuple #[]) ∧ (∃ ss : List Rw, ss.length = n ∧ (∀ s ∈ ss, s ∈ rs) ∧ ss.map (fun s => tot s.xs) = insSort (rs.map fun s => tot s.xs) ∧ OwnE 66 w' B (some ⟨g, 0, none⟩) n cap (ss.map Rw.v)) ∧ w.grownBy w' (some g) := by
  obtain ⟨⟨h1, h2⟩, h3, h4⟩ := h
  have hlen : rs.length = n := by simpa using h3
  haveI : Inhabited {r : Rw // r ∈ rs} := ⟨⟨nthR rs 0, by
    have h0 : 0 < rs.length := by omega
    simp [nthR, h0]⟩⟩
  rcases h2 with ⟨hv, _⟩ | ⟨g', cap', cur, hv, hg, hh, hnc, hcm, hcs, htake⟩
  · simp at hv
  · simp at hv
    obtain ⟨rfl, rfl⟩ := hv
    have hal : rs.attach.length = n := by simp [hlen]
    have hH : Go.Sort.Holds (fun x : {r : Rw // r ∈ rs} => x.1.v) w g 0 rs.attach.toArray := holds_of_cells hh (by rw [attach_v, hal]; simpa using htake)
    have hlt : g < w.heap.size := (Array.getElem?_eq_some_iff.1 hh).1
    have eg : ∀ args w, (callFunc 44 args).run Tryz.prog w = .ok (.enter 44 args) w := by intro args w; go_simp
    have hcmp : CmpReads Tryz.prog 44 #[] (fun x : {r : Rw // r ∈ rs} => x.1.v) (fun x y => cmpI (tot x.1.xs) (tot y.1.xs)) g 0 rs.attach.toArray.size w := by
      intro m os dk _ x y
      have hgr : w.grownBy (sortWorld (fun x : {r : Rw // r ∈ rs} => x.1.v) w g 0 m dk os) (some g) := grownBy_sortedE _ dk
      refine (compareTotal_any x.1 y.1 _ ((hfit x.1 x.2).1.kept hgr (hfit x.1 x.2).2) ((hfit y.1 y.2).1.kept hgr (hfit y.1 y.2).2)).mono ?_
      rintro e w' ⟨rfl, rfl⟩
      exact ⟨rfl, 0, rfl⟩
    have hswo : SWO (ltOf fun x y : {r : Rw // r ∈ rs} => cmpI (tot x.1.xs) (tot y.1.xs)) := by
      have e : ∀ x y : {r : Rw // r ∈ rs}, ltOf (fun x y : {r : Rw // r ∈ rs} => cmpI (tot x.1.xs) (tot y.1.xs)) x y = decide (tot x.1.xs < tot y.1.xs) := fun x y => ltOf_cmpI _ _
      exact ⟨fun x => by simp [e], fun x y z h1 h2 => by simp [e] at *; omega, fun x y z h1 h2 => by simp [e] at *; omega⟩
    have hs := Tryz.slices_SortFunc_f60 (fun x : {r : Rw // r ∈ rs} => x.1.v) (fun _ => rfl) (fun x y => cmpI (tot x.1.xs) (tot y.1.xs)) hswo 44 #[] g 0 cap rs.attach.toArray w eg hcmp.lays hH hlt (by simp; omega)
    simp only [List.size_toArray, List.length_attach, hlen] at hs
    refine hs.mono ?_
    rintro e w' ⟨rfl, d', q, os, hp, hst, rfl⟩
    rw [← hal] at hp hst
    obtain ⟨p1, p2⟩ := sorted_list hp hst
    have hdl : d'.toList.length = n := by rw [p1.length_eq, hal]
    refine ⟨rfl, ⟨d'.toList.map fun x => x.1, by simp [← hdl], fun s hs => ?_, ?_, ⟨⟨by simp [← hdl], .inr ⟨g, cap, _, rfl, hg, heap_sortedE _ d' hh, hnc, hcm, by simpa [putCells] using hcs, ?_⟩⟩, by simp [← hdl], h4⟩⟩, grownBy_sortedE _ d'⟩
    · obtain ⟨x, _, rfl⟩ := List.mem_map.1 hs
      exact x.2
    · refine sorted_unique ?_ (insSort_sorted _) (List.Perm.trans ?_ (insSort_perm _).symm)
      · rw [List.map_map, List.pairwise_map]
        refine p2.imp fun {x y} h => ?_
        have h' : ltOf (fun x y : {r : Rw // r ∈ rs} => cmpI (tot x.1.xs) (tot y.1.xs)) y x = false := h
        rw [show ltOf (fun x y : {r : Rw // r ∈ rs} => cmpI (tot x.1.xs) (tot y.1.xs)) y x = decide (tot y.1.xs < tot x.1.xs) from ltOf_cmpI _ _] at h'
        simp at h'
        simpa using h'
      · have := p1.map fun x => tot x.1.xs
        rw [List.map_map]
        refine List.Perm.trans this ?_
        rw [attach_map (fun r => tot r.xs) rs]
    · rw [List.map_map, Nat.mul_one, ← hdl]
      have := take_putCellsE (fun x : {r : Rw // r ∈ rs} => x.1.v) cur d'.toList (by omega)
      rw [toArr] at this
      exact this

set_option maxRecDepth 100000 in
set_option maxHeartbeats 4000000 in
theorem countAlikeR_any (b off n cap : Nat) (rs : List Rw) (w : World) (hc : ∀ i, i < n → w.cell? ⟨b, off + i, none⟩ = (rs.map Rw.v)[i]?) (hl : rs.length = n) (h0 : 0 < n) (hn : n ≤ 2000) (hfit : ∀ r ∈ rs, Fit w r ∧ ∀ p, r.a = some p → p.block < w.heap.size) :
    Calls Tryz.prog 43 #[.slice (some ⟨b, off, none⟩) n cap, .func (.func 44) #[] #[]] w fun e w' =>
      ∃ a' q cap', e = .returned (.slice a' q cap') ∧ Own w' w.heap.size a' q cap' (runsTo (insSort (rs.map fun r => tot r.xs)) n) ∧ Go.RowKit.Below w.heap.size w w' := by
  have HC := hid hc
  have HL := hid hl
  have HF := hid hfit
  clear hc hl hfit
  go_enter Tryz.func43, Tryz.ntmps43
  go_wp2_with fail
  refine (cloneRows_any b off n cap rs w HC.out HL.out (by omega)).mono ?_
  rintro e w1 ⟨g, cap1, rfl, ho1, hb1⟩
  have hg1 := ho1.lt
  have HF1 : Hid (∀ r ∈ rs, Fit w1 r ∧ ∀ p, r.a = some p → p.block ≠ g) := hid (fun r hr => ⟨(HF.out r hr).1.below hb1, fun p hp => by have := (HF.out r hr).2 p hp; omega⟩)
  go_wp2_with fail
  refine (sortRows_any _ _ _ _ _ _ ho1 h0 HF1.out).mono ?_
  rintro e w2 ⟨rfl, ⟨ss, hsl, hmem, hkeys, ho2⟩, hg2⟩
  have hgl := ho2.lt
  have hb2 : Go.RowKit.Below w.heap.size w w2 := hb1.trans (below_grown hg2 hb1.size (by intro k hk; cases hk; exact hg1.1))
  have hsz := hb2.size
  have HCELL : Hid (∀ i, i < n → w2.cell? ⟨g, i, none⟩ = some (nthR ss i).v) := hid (fun i hi => by
    rw [ho2.cell hi]
    exact map_nthR Rw.v (by omega))
  have HFIT : Hid (∀ i, i < n → Fit w2 (nthR ss i)) := hid (fun i hi => by
    have hm := hmem (nthR ss i) (by simp [nthR, hsl, hi])
    exact (HF1.out _ hm).1.kept hg2 (HF1.out _ hm).2)
  have HKEY : Hid (∀ i, i < n → nth (insSort (rs.map fun r => tot r.xs)) i = tot (nthR ss i).xs) := hid (fun i hi => by
    rw [← hkeys]
    have := map_nthR (fun s => tot s.xs) (rs := ss) (i := i) (by omega)
    simp [nth, this])
  have HRL := hid (runs_le (insSort (rs.map fun r => tot r.xs)))
  have HRP := hid (length_runsTo (insSort (rs.map fun r => tot r.xs)))
  clear ho1 ho2 hb1 hg2 hsl hmem hkeys hg1
  generalize hSdef : insSort (rs.map fun r => tot r.xs) = S at *
  have HSS := hid hSdef
  clear hSdef
  go_wp2_with fail
  go_loopw [6, 16] (fun o i wr => ∃ (k : Nat) (a' : Option Addr) (q cap' : Nat), k ≤ n ∧ i = .int .i64 (k : Int) ∧ o = .slice a' q cap' ∧ Own wr w2.heap.size a' q cap' (runsTo S k) ∧ Go.RowKit.Below w2.heap.size w2 wr) (fun _ i _ => n - (intOf i).toNat)
  case atStart => exact ⟨0, none, 0, 0, Nat.zero_le _, rfl, rfl, Own.nil _ _, Below.refl _ _⟩
  case round =>
    obtain ⟨k, a', q, cap', hk, rfl, rfl, hown, hb⟩ := hrel
    have hq := hown.len
    obtain ⟨q1, q2⟩ := HRP.out k
    rw [hq] at q1 q2
    have HQ := hid hq
    have hszr := hb.size
    clear hq
    by_cases hlt : k < n
    · have hck : wr.cell? ⟨g, k, none⟩ = some (nthR ss k).v := by rw [hb.cell (p := ⟨g, k, none⟩) hgl.2]; exact HCELL.out k hlt
      have hkn : (k : Int) < (n : Int) := by omega
      have hfk := (HFIT.out k hlt).below hb
      by_cases hnew : k = 0 ∨ nth S (k - 1) ≠ nth S k
      · have HS : Hid (runsTo S (k + 1) = runsTo S k ++ [1]) := hid (by simp only [runsTo]; rw [if_pos hnew])
        have HL0 : Hid ((runsTo S k ++ [0]).set q 1 = runsTo S k ++ [1]) := hid (by rw [← HQ.out]; exact set_last0 _)
        have HLZ : Hid (nth (runsTo S k ++ [0]) q = 0) := hid (by rw [← HQ.out]; exact nth_append_at)
        rcases Nat.eq_zero_or_pos k with h00 | h00
        · subst h00
          go_wp2_with (at_builtin; refine wpList_append_int _ rfl _ _ rfl w2.heap.size _ _ _ _ _ rfl rfl hown (by omega) hszr ?_; intro a4 cap4 w4 hown4 hb4; obtain ⟨g4, rfl, hl1, hl2, hl3, hl4⟩ := hown4.opened (by omega); have hgk := hl3 q (by omega); rw [HLZ.out] at hgk; have hgf := hl4 q; clear hl3 hl4)
          go_roundw
          case rel =>
            obtain ⟨s1, s2⟩ := hown4.set q 1
            rw [HL0.out] at s1
            exact ⟨1, some ⟨g4, 0, none⟩, q + 1, cap4, by omega, by go_num, rfl, by rw [HS.out]; exact s1, (hb.trans hb4).setCell hl1 _⟩
          case measure => simp [intOf]; omega
        · have hck1 : wr.cell? ⟨g, k - 1, none⟩ = some (nthR ss (k - 1)).v := by rw [hb.cell (p := ⟨g, k - 1, none⟩) hgl.2]; exact HCELL.out (k - 1) (by omega)
          have hfk1 := (HFIT.out (k - 1) (by omega)).below hb
          have hbe : ((k : Int) == 0) = false := by simp; omega
          have e1 : ((k : Int) - 1).toNat = k - 1 := by omega
          have e2 : (0 : Int) ≤ (k : Int) - 1 := by omega
          have e3 : (k : Int) - 1 < (n : Int) := by omega
          have HCM : Hid ((cmpI (tot (nthR ss (k - 1)).xs) (tot (nthR ss k).xs) != 0) = true) := hid (by
            have hne := hnew.resolve_left (by omega)
            rw [HKEY.out (k - 1) (by omega), HKEY.out k hlt] at hne
            unfold cmpI
            split
            · rfl
            · split
              · rfl
              · exact absurd (show tot (nthR ss (k - 1)).xs = tot (nthR ss k).xs by omega) hne)
          clear hnew
          generalize nthR ss (k - 1) = r1 at *
          generalize nthR ss k = r2 at *
          go_wp2_with fail
          refine (compareTotal_any _ _ _ hfk1 hfk).mono ?_
          rintro e _ ⟨rfl, rfl⟩
          have hcm := HCM.out
          generalize cmpI (tot r1.xs) (tot r2.xs) = cv at *
          go_wp2_with (at_builtin; refine wpList_append_int _ rfl _ _ rfl w2.heap.size _ _ _ _ _ rfl rfl hown (by omega) hszr ?_; intro a4 cap4 w4 hown4 hb4; obtain ⟨g4, rfl, hl1, hl2, hl3, hl4⟩ := hown4.opened (by omega); have hgk := hl3 q (by omega); rw [HLZ.out] at hgk; have hgf := hl4 q; clear hl3 hl4)
          go_roundw
          case rel =>
            obtain ⟨s1, s2⟩ := hown4.set q 1
            rw [HL0.out] at s1
            exact ⟨k + 1, some ⟨g4, 0, none⟩, q + 1, cap4, by omega, by go_num, rfl, by rw [HS.out]; exact s1, (hb.trans hb4).setCell hl1 _⟩
          case measure => simp [intOf]; omega
      · have hk0 : 0 < k := by omega
        have hq0 : 0 < q := q2 hk0
        have HS : Hid (runsTo S (k + 1) = (runsTo S k).set (q - 1) (nth (runsTo S k) (q - 1) + 1)) := hid (by simp only [runsTo]; rw [if_neg hnew, HQ.out])
        have hck1 : wr.cell? ⟨g, k - 1, none⟩ = some (nthR ss (k - 1)).v := by rw [hb.cell (p := ⟨g, k - 1, none⟩) hgl.2]; exact HCELL.out (k - 1) (by omega)
        have hfk1 := (HFIT.out (k - 1) (by omega)).below hb
        have hbe : ((k : Int) == 0) = false := by simp; omega
        have e1 : ((k : Int) - 1).toNat = k - 1 := by omega
        have e2 : (0 : Int) ≤ (k : Int) - 1 := by omega
        have e3 : (k : Int) - 1 < (n : Int) := by omega
        have HCM : Hid ((cmpI (tot (nthR ss (k - 1)).xs) (tot (nthR ss k).xs) != 0) = false) := hid (by
          have he : nth S (k - 1) = nth S k := Classical.byContradiction fun h => hnew (.inr h)
          rw [HKEY.out (k - 1) (by omega), HKEY.out k hlt] at he
          rw [he]
          simp [cmpI])
        obtain ⟨g4, rfl, hl1, hl2, hl3, hl4⟩ := hown.opened hq0
        have hgk := hl3 (q - 1) (by omega)
        have hgf := hl4 (q - 1)
        obtain ⟨r0, r1⟩ := HRL.out k (q - 1)
        have f1 : ((q : Int) - 1).toNat = q - 1 := by omega
        have f2 : (0 : Int) ≤ (q : Int) - 1 := by omega
        have f3 : (q : Int) - 1 < (q : Int) := by omega
        clear hnew hl3 hl4
        generalize nth (runsTo S k) (q - 1) = rv at *
        generalize nthR ss (k - 1) = s1r at *
        generalize nthR ss k = s2r at *
        go_wp2_with fail
        refine (compareTotal_any _ _ _ hfk1 hfk).mono ?_
        rintro e _ ⟨rfl, rfl⟩
        have hcm := HCM.out
        generalize cmpI (tot s1r.xs) (tot s2r.xs) = cv at *
        go_wp2_with fail
        go_roundw
        case rel =>
          obtain ⟨s1, s2⟩ := hown.set (q - 1) (rv + 1)
          exact ⟨k + 1, some ⟨g4, 0, none⟩, q, cap', by omega, by go_num, rfl, by rw [HS.out]; exact s1, hb.setCell hl1 _⟩
        case measure => simp [intOf]; omega
    · obtain rfl : n = k := by omega
      go_wp2_with fail
      go_ret
      exact ⟨_, _, _, rfl, by rw [HSS.out]; exact hown.mono hsz, hb2.trans (hb.mono hsz)⟩

theorem dist_runs {n q : Nat} {rs : List Rw} (h5 : n ≤ 5) (hn : numsOf rs = listL n n []) (hq : rs.length = q) : runsTo (insSort (rs.map fun r => tot r.xs)) q = distCounts n ∧ q = cnt n := by
  have e : (rs.map fun r => tot r.xs) = tots n := by
    unfold tots
    rw [← hn]
    simp [numsOf]
  have hl : (tots n).length = q := by rw [← e]; simpa using hq
  rw [e]
  have h1 := runs_dist h5
  rw [hl] at h1
  exact ⟨h1, by rw [← hl]; exact tots_length (by omega)⟩

set_option maxRecDepth 100000 in
set_option maxHeartbeats 4000000 in
theorem countByDistance_any (n : Int) (w : World) : Calls Tryz.prog 20 #[.int .i64 n] w (PostInts w (distOfN n)) := by
  by_cases hg : inB n 0 5 = true
  · obtain ⟨m, rfl⟩ : ∃ m : Nat, n = (m : Int) := ⟨n.toNat, by have := inB_iff.1 hg; omega⟩
    have hm : m ≤ 5 := by have := inB_iff.1 hg; omega
    have HA := hid (distOfN_yes hg)
    have HAL := hid (allOf_yes hg)
    obtain ⟨i0, hi, hz0, hz1, hz2⟩ := info_parts Tryz.infoParked
    have hc5 := cnt_le5 hm
    have hc1 := (cnt_le (n := m) (by omega)).1
    clear hg
    go_enter Tryz.func20, Tryz.ntmps20
    go_wp2_with fail
    refine (allParking_any _ _).mono ?_
    rw [HAL.out]
    rintro e w1 ⟨a1, q, cap1, rs, rfl, R1, hn1, hb1⟩
    obtain ⟨hrun, hqc⟩ := dist_runs hm hn1 R1.len
    have HRUN := hid hrun
    have HROW := hid (fun k (hk : k < q) => row_all (n := m) (by omega) hn1 R1.len hk)
    have hq1 : q ≤ 1296 := by omega
    have hq0 : 0 < q := by omega
    have HH := hid R1.has
    have HLT := hid R1.lt
    have HQ := hid R1.len
    clear hn1 hrun hqc R1 hc5 hc1
    go_wp2_with (refine wpList_make_full (P := Tryz.prog) _ rfl _ _ 65 rfl w1.heap.size 66 i0 (.slice none 0 0) 1 Tryz.underlying65 hi hz0 hz1 .i64 .i64 q q q rfl rfl rfl rfl (by rw [hz2]; omega) (by unfold maxLen; omega) (Nat.le_refl _) ?_; intro w2 hown2 hgr2)
    have hb2 : Go.RowKit.Below w1.heap.size w1 w2 := below_grown hgr2 (Nat.le_refl _) (by simp)
    have ho2 : OwnE 66 w2 w1.heap.size (some ⟨w1.heap.size, 0, none⟩) q q ((List.replicate q Rw.none').map Rw.v) := by
      refine ⟨?_, by simp, by omega⟩
      rw [show (Value.slice none 0 0).cells = #[.slice none 0 0] from rfl, toList_madeCells_one, Nat.mul_one] at hown2
      simpa [Rw.v, Rw.none'] using hown2
    have hgl := ho2.lt
    have hsz := hb1.size
    have hgr0 : w1.grownBy w2 (some w1.heap.size) := ⟨hb2.os, hb2.tape, hb2.output, hb2.size, fun j hj _ => hb2.block j hj⟩
    obtain ⟨g, hgdef⟩ : ∃ g, w1.heap.size = g := ⟨_, rfl⟩
    have HGD := hid hgdef
    rw [hgdef] at ho2 hgl hgr0 hsz ⊢
    clear hgr2 hown2 hb2 hgdef
    go_loopw [21] (fun i wr => ∃ (k : Nat) (zs : List Rw), k ≤ q ∧ i = .int .i64 (k : Int) ∧ OwnE 66 wr g (some ⟨g, 0, none⟩) q q (zs.map Rw.v) ∧ zs.length = q ∧ Hid (∀ i, i < k → nthR zs i = nthR rs i) ∧ w1.grownBy wr (some g) ∧ g < wr.heap.size) (fun i _ => q - (intOf i).toNat)
    case atStart => exact ⟨0, _, Nat.zero_le _, rfl, ho2, by simp, hid (fun i hi => by omega), hgr0, hgl.2⟩
    case round =>
      clear ho2 hgl hgr0
      obtain ⟨k, zs, hk, rfl, hz, hzl, HF, hgr, hgw⟩ := hrel
      have HZL := hid hzl
      clear hzl
      by_cases hlt : k < q
      · obtain ⟨r0, r1, r2, r3, r4, r5⟩ := HH.out
        obtain ⟨b, off, rfl, hbb, hc⟩ := r4 hq0
        have hbg : b ≠ g := by have := HGD.out; omega
        have hck : wr.cell? ⟨b, off + k, none⟩ = some (nthR rs k).v := hgr.cell (hc k hlt) (by simpa using hbg)
        have hgk : wr.cell? ⟨g, k, none⟩ = some (nthR zs k).v := by rw [hz.cell hlt]; exact map_nthR Rw.v (by rw [HZL.out]; exact hlt)
        have hgf := hz.1.frozenAt k
        have HSET := hid (hz.1.stored k (nthR rs k).v)
        have hgr' := grown_set (i := k) hgr (nthR rs k).v
        have HV : Hid (∃ v, (nthR rs k).v = v) := hid ⟨_, rfl⟩
        clear r0 r1 r2 r3 r4 r5 hc
        unfold Rw.v at hck hgk HSET hgr'
        go_wp2_with fail
        go_roundw
        case rel =>
          obtain ⟨s1, s2⟩ := HSET.out
          refine ⟨k + 1, zs.set k (nthR rs k), by omega, by go_num, ⟨by rw [List.map_set]; exact s1, by simp [HZL.out], by omega⟩, by simp [HZL.out], hid ?_, hgr', by simpa using hgw⟩
          intro i hi
          by_cases e : i = k
          · subst e; simp [nthR, HZL.out, hlt]
          · have := HF.out i (by omega)
            simp only [nthR, List.getD_eq_getElem?_getD] at this ⊢
            rw [List.getElem?_set_ne (by omega)]
            exact this
        case measure => simp [intOf]; omega
      · obtain rfl : q = k := by omega
        have HE : Hid (zs = rs) := hid (ext_nthR (by rw [HZL.out, HQ.out]) (fun i hi => HF.out i (by rw [HZL.out] at hi; exact hi)))
        rw [HE.out] at hz
        have hcell : ∀ i, i < q → wr.cell? ⟨g, 0 + i, none⟩ = (rs.map Rw.v)[i]? := fun i hi => by rw [Nat.zero_add]; exact hz.cell hi
        have HCELL := hid hcell
        have hfit : ∀ r ∈ rs, Fit wr r ∧ ∀ p, r.a = some p → p.block < wr.heap.size := by
          intro r hr
          obtain ⟨i, hi, rfl⟩ := List.getElem_of_mem hr
          have hiq : i < q := by rw [← HQ.out]; exact hi
          have e : nthR rs i = rs[i] := by simp [nthR, hi]
          rw [← e]
          obtain ⟨p1, p2, -, -⟩ := HROW.out i hiq
          have hblt : ∀ p, (nthR rs i).a = some p → p.block < g := fun p hp => by
            have := HLT.out.2 i (by rw [HQ.out]; exact hiq) p hp
            have := HGD.out
            omega
          have hsm := parks_small p1 rfl
          have hgs := hgr.size
          exact ⟨⟨(HH.out.2.2.2.2.2 i hiq).kept hgr (fun p hp => by have := hblt p hp; omega), hsm.1, hsm.2⟩, fun p hp => by have := hblt p hp; omega⟩
        have HFIT := hid hfit
        have hbw : Go.RowKit.Below w.heap.size w wr := hb1.trans (below_grown hgr hb1.size (by intro k hk; cases hk; exact hsz))
        clear hcell hfit
        go_wp2_with fail
        refine (countAlikeR_any g 0 q q rs _ HCELL.out HQ.out hq0 (by omega) HFIT.out).mono ?_
        rintro e w5 ⟨a5, q5, cap5, rfl, ho5, hb5⟩
        rw [HRUN.out] at ho5
        go_wp2_with fail
        go_ret2
        exact postInts HA.out (ho5.mono hbw.size) (hbw.trans (hb5.mono hbw.size))
  · have HA := hid (distOfN_no hg)
    have HAL := hid (allOf_no hg)
    clear hg
    go_enter Tryz.func20, Tryz.ntmps20
    go_wp2_with fail
    refine (allParking_any _ _).mono ?_
    rw [HAL.out]
    rintro e w1 ⟨a1, q, cap1, rs, rfl, R1, hn1, hb1⟩
    go_wp2_with fail
    go_ret2
    exact postInts_no HA.out hb1
end Go.Proofs.YtakadjhbomggbaaGreat

namespace Go.Proofs.YtakadjhbomggbaaGreat
open Go.RowKit

theorem op_makeX {ops : Array Oper} {i : Nat} {o : Oper} {a : Act} {K : Act → World → Prop} {Q : Exit → Act → World → Prop} {w : World} (hi : ops[i]? = some o) (hgd : o.guard = none) (l c : Operand) (ho : o.op = .makeSlice 31 l c)
    (n : Nat) (hl : a.eval l = .int .i64 (n : Int)) (hc : a.eval c = .int .i64 (n : Int)) (hn : n ≤ 2097152)
    (h : ∀ a' c' w', Own w' w.heap.size a' n c' (List.replicate n 0) → Below w.heap.size w w' → K (a.put o.dst (.slice a' n c')) w') : wpOp Tryz.prog ops Q i K a w := by
  obtain ⟨i0, hi0, hz0, hz1, hz2⟩ := info_parts Tryz.infoInt
  obtain ⟨w', hrun, r1, r2⟩ := run_make_full (P := Tryz.prog) w w.heap.size 31 3 i0 (.int .i64 0) 1 Tryz.underlying31 hi0 hz0 hz1 .i64 .i64 n (by rw [hz2]; omega) (by unfold maxLen; omega) (Nat.le_refl _)
  obtain ⟨a', cap', hv, ho'⟩ := own_of_row (xs := List.replicate n 0) r1 (by simp) (by rw [show (Value.int IntKind.i64 0).cells = #[.int .i64 0] from rfl, toList_madeCells_one]; simp) (by simpa using hn)
  have hb := below_grown r2 (Nat.le_refl _) (by simp)
  unfold wpOp
  simp only [hi]
  have hw : Region.wanted o (yielded ops a.tmps) = true := by simp [Region.wanted, hgd]
  rw [if_pos hw]
  left
  unfold Oper.wp
  rw [hv] at hrun
  simp [execOp, ho, hl, hc, hrun, Result.andThen]
  exact h _ _ _ ho' hb
def mkD : List Nat := [19, 20, 116, 117]
structure JMk (V : World) (L : Nat → Bool) (T : Nat → Value) (w : World) : Prop where
  bel : Below V.heap.size V w
  A : L 0 = true → ∃ a c, T 116 = .slice a 30 c ∧ Own w V.heap.size a 30 c (List.replicate 30 0)
  B : L 1 = true → ∃ a c, T 117 = .slice a 30 c ∧ Own w V.heap.size a 30 c (List.replicate 30 0)
  AB : L 0 = true → L 1 = true → ∀ a c a' c', T 116 = .slice a 30 c → T 117 = .slice a' 30 c' → Apart2 a a'
  p2 : L 2 = true → L 0 = true ∧ T 19 = T 116
  p3 : L 3 = true → L 1 = true ∧ T 20 = T 117
section
variable {V : World} {L : Nat → Bool} {T : Nat → Value} {w w' : World}
theorem JMk.start (h : Below V.heap.size V w) : JMk V (fun _ => false) T w := ⟨h, by simp, by simp, by simp, by simp, by simp⟩
theorem JMk.grow (J : JMk V L T w) (st : Below w.heap.size w w') : JMk V L T w' :=
  ⟨J.bel.trans (st.mono J.bel.size), fun h => let ⟨a, c, h1, h2⟩ := J.A h; ⟨a, c, h1, h2.below st (Nat.le_refl _)⟩, fun h => let ⟨a, c, h1, h2⟩ := J.B h; ⟨a, c, h1, h2.below st (Nat.le_refl _)⟩, J.AB, J.p2, J.p3⟩
theorem JMk.s0 (J : JMk V L T w) (hm : L 0 = false) {a : Option Addr} {c : Nat} (ho : Own w' w.heap.size a 30 c (List.replicate 30 0)) (st : Below w.heap.size w w') : JMk V (setF L 0) (setT T 116 (.slice a 30 c)) w' where
  bel := (J.grow st).bel
  A := fun _ => ⟨a, c, by simp [setT], ho.mono J.bel.size⟩
  B := by simpa [setF, setT] using (J.grow st).B
  AB := by
    intro _ hz a1 c1 a2 c2 e1 e2
    have hz' : L 1 = true := by simpa [setF] using hz
    obtain ⟨a3, c3, e3, h3⟩ := J.B hz'
    simp [setT] at e1 e2
    rw [e3] at e2
    cases e2
    obtain ⟨rfl, rfl⟩ := e1
    exact (apart_lt h3.lt ho.ge).symm
  p2 := fun h => by
    have h : L 2 = true := by simpa [setF] using h
    have := (J.p2 h).1
    rw [hm] at this
    cases this
  p3 := by first | (simp [setF, setT]; done) | simpa [setF, setT] using J.p3
theorem JMk.s1 (J : JMk V L T w) (hm : L 1 = false) {a : Option Addr} {c : Nat} (ho : Own w' w.heap.size a 30 c (List.replicate 30 0)) (st : Below w.heap.size w w') : JMk V (setF L 1) (setT T 117 (.slice a 30 c)) w' where
  bel := (J.grow st).bel
  A := by simpa [setF, setT] using (J.grow st).A
  B := fun _ => ⟨a, c, by simp [setT], ho.mono J.bel.size⟩
  AB := by
    intro hz _ a1 c1 a2 c2 e1 e2
    have hz' : L 0 = true := by simpa [setF] using hz
    obtain ⟨a3, c3, e3, h3⟩ := J.A hz'
    simp [setT] at e1 e2
    rw [e3] at e1
    cases e1
    obtain ⟨rfl, rfl⟩ := e2
    exact apart_lt h3.lt ho.ge
  p2 := by first | (simp [setF, setT]; done) | simpa [setF, setT] using J.p2
  p3 := fun h => by
    have h : L 3 = true := by simpa [setF] using h
    have := (J.p3 h).1
    rw [hm] at this
    cases this
theorem JMk.s2 (J : JMk V L T w) (h0 : L 0 = true) : JMk V (setF L 2) (setT T 19 (T 116)) w where
  bel := J.bel
  A := by first | (simp [setF, setT]; done) | simpa [setF, setT] using J.A
  B := by first | (simp [setF, setT]; done) | simpa [setF, setT] using J.B
  AB := by first | (simp [setF, setT]; done) | simpa [setF, setT] using J.AB
  p2 := by simp [setF, setT, h0]
  p3 := by first | (simp [setF, setT]; done) | simpa [setF, setT] using J.p3
theorem JMk.s3 (J : JMk V L T w) (h0 : L 1 = true) : JMk V (setF L 3) (setT T 20 (T 117)) w where
  bel := J.bel
  A := by first | (simp [setF, setT]; done) | simpa [setF, setT] using J.A
  B := by first | (simp [setF, setT]; done) | simpa [setF, setT] using J.B
  AB := by first | (simp [setF, setT]; done) | simpa [setF, setT] using J.AB
  p2 := by first | (simp [setF, setT]; done) | simpa [setF, setT] using J.p2
  p3 := by simp [setF, setT, h0]
end
section
variable {ev : Operand → Value} {o : Oper} {w : World} {x : Operand} {s1 : Value}
theorem exM_assign (ho : o.op = .assign x) (hx : ev x = s1) : (execOp ev o).run Tryz.prog w = .ok (.value s1) w := by
  unfold execOp; simp only [ho]; rw [hx]; rfl
end
end Go.Proofs.YtakadjhbomggbaaGreat

namespace Go.Proofs.YtakadjhbomggbaaGreat
open Go.RowKit

theorem has_lit5X (w : World) (a b c d e : Int) : Has (w.alloc (.cells #[.int .i64 a, .int .i64 b, .int .i64 c, .int .i64 d, .int .i64 e] 3)) (some ⟨w.heap.size, 0, none⟩) 5 5 [a, b, c, d, e] := has_lit w [a, b, c, d, e] (by simp)
set_option maxHeartbeats 800000 in
theorem sizedX_any (g t m : Nat) (W : World) (hC : Cur W g t) (ht : t ≤ 100) (hm : m ≤ 8) :
    Calls Tryz.prog 21 #[.pointer (some ⟨g, 0, none⟩), .int .i64 (m : Int)] W fun e w' => ∃ k : Int, e = .returned (.int .i64 k) ∧ -1 ≤ k ∧ k ≤ 9 ∧ Below g W w' := by
  have A := AtG.new hC
  have hw1 : IntKind.i64.wrap ((m : Int) + 1) = (m : Int) + 1 := by rw [IntKind.wrap_i64]; omega
  go_enter Tryz.func21, Tryz.ntmps21
  go_wp2_with fail
  refine (one_cur g t 6 _ A.cur (by omega) (by omega)).mono ?_
  rintro e w2 ⟨b2, rfl, ⟨t2, z1, z2, hc2⟩, hg2⟩
  have A2 := A.pick hc2 hg2
  clear hc2 hg2
  cases b2 with
  | true =>
    go_wp2_with fail
    refine (among_cur g t2 _ 5 5 [-1, 0, 1, (m : Int), (m : Int) + 1] _ (A2.later (alloc_below _ _) (A2.size)).cur (by omega) (has_lit5X w2 (-1) 0 1 (m : Int) ((m : Int) + 1)) (by omega) (by omega) (lit_ne A2.cur)).mono ?_
    rintro e w3 ⟨v3, rfl, hv3, ⟨t3, x3, x4, hc3⟩, hg3⟩
    have hv : -1 ≤ v3 ∧ v3 ≤ 9 := by simp at hv3; omega
    have A2' := A2.later (alloc_below w2 (.cells #[.int .i64 (-1), .int .i64 0, .int .i64 1, .int .i64 (m : Int), .int .i64 ((m : Int) + 1)] 3)) (A2.size)
    have A3 := A2'.pick hc3 hg3
    clear hv3
    go_wp2_with fail
    go_ret
    exact ⟨_, rfl, hv.1, hv.2, A3.below⟩
  | false =>
    go_wp2_with fail
    refine (pick_cur g t2 ((m : Int) + 1) _ A2.cur (by omega) (by omega)).mono ?_
    rintro e w3 ⟨v3, rfl, v0, v1, ⟨t3, x3, x4, hc3⟩, hg3⟩
    have A3 := A2.pick hc3 hg3
    have hv : v3 ≤ 9 := by omega
    clear v1
    go_wp2_with fail
    go_ret
    exact ⟨_, rfl, by omega, hv, A3.below⟩
set_option maxHeartbeats 800000 in
theorem drawSpreadX_any (a : Option Addr) (n cap : Nat) (w : World) (h : HasB w a n w.heap.size) :
    Calls Tryz.prog 5 #[.slice a n cap] w fun e w' => ∃ k : Int, e = .returned (.int .i64 k) ∧ -1 ≤ k ∧ k ≤ 9 ∧ Below w.heap.size w w' := by
  have C0 := cur_new (cap := cap) h
  have hb0 := alloc_below w (.cells #[.slice a n cap, .int .i64 0, .int .u64 0] 40)
  go_enter Tryz.func5, Tryz.ntmps5
  go_wp2_with fail
  refine (sizedX_any _ 0 4 _ C0 (by omega) (by omega)).mono ?_
  rintro e w1 ⟨k, rfl, k0, k1, hb1⟩
  go_wp2_with fail
  go_ret
  exact ⟨_, rfl, k0, k1, hb0.trans hb1⟩
set_option maxHeartbeats 800000 in
theorem drawAllHX_any (a : Option Addr) (n cap : Nat) (w : World) (h : HasB w a n w.heap.size) :
    Calls Tryz.prog 9 #[.slice a n cap] w fun e w' => ∃ k : Int, e = .returned (.int .i64 k) ∧ -1 ≤ k ∧ k ≤ 9 ∧ Below w.heap.size w w' := by
  have C0 := cur_new (cap := cap) h
  have hb0 := alloc_below w (.cells #[.slice a n cap, .int .i64 0, .int .u64 0] 40)
  go_enter Tryz.func9, Tryz.ntmps9
  go_wp2_with fail
  refine (sizedX_any _ 0 6 _ C0 (by omega) (by omega)).mono ?_
  rintro e w1 ⟨k, rfl, k0, k1, hb1⟩
  go_wp2_with fail
  go_ret
  exact ⟨_, rfl, k0, k1, hb0.trans hb1⟩
theorem spread_facts (n : Int) : ∃ T ok, spreadOf n = (T, ok) ∧ (ok = true → ∃ N M : Nat, n = (N : Int) ∧ N < 5 ∧ TabF N M T ∧ countOf n = ((cnt N : Int), true) ∧ distOfN n = (distCounts N, true)) := by
  by_cases h : inB n 0 4 = true
  · obtain ⟨N, rfl⟩ : ∃ N : Nat, n = (N : Int) := ⟨n.toNat, by have := inB_iff.1 h; omega⟩
    have hN : N < 5 := by have := inB_iff.1 h; omega
    obtain ⟨M, T, f1, f2⟩ := tabF hN
    have h8 : inB (N : Int) 0 8 = true := inB_iff.2 ⟨by omega, by omega⟩
    have h5 : inB (N : Int) 0 5 = true := inB_iff.2 ⟨by omega, by omega⟩
    exact ⟨T, true, f1, fun _ => ⟨N, M, rfl, hN, f2, by simp [countOf, h8], by simp [distOfN, h5]⟩⟩
  · exact ⟨[], false, by unfold spreadOf; rw [if_neg h], fun hx => by cases hx⟩
theorem heightsX_facts (m : Int) : ∃ L told c one, allHeightsOf m = (L, told) ∧ countSortedOf m = (c, one) ∧ (told = true → ∃ N : Nat, m = (N : Int) ∧ N < 7 ∧ L = waF N [] ∧ c = (L.length : Int) ∧ countOf m = ((cnt N : Int), true)) := by
  by_cases h : inB m 0 6 = true
  · obtain ⟨N, rfl⟩ : ∃ N : Nat, m = (N : Int) := ⟨m.toNat, by have := inB_iff.1 h; omega⟩
    have hN : N < 7 := by have := inB_iff.1 h; omega
    obtain ⟨-, -, -, -, f5, -⟩ := hs_all N hN
    have h8 : inB (N : Int) 0 8 = true := inB_iff.2 ⟨by omega, by omega⟩
    exact ⟨waF N [], true, _, true, by simp [allHeightsOf, h], f5, fun _ => ⟨N, rfl, hN, rfl, rfl, by simp [countOf, h8]⟩⟩
  · obtain ⟨⟨c, one⟩, hc⟩ : ∃ r, countSortedOf m = r := ⟨_, rfl⟩
    exact ⟨[], false, c, one, by unfold allHeightsOf; rw [if_neg h], hc, fun hx => by cases hx⟩

set_option maxRecDepth 100000 in
set_option maxHeartbeats 64000000 in
theorem aap_walk (a b : Option Addr) (n m cap cap' : Nat) (w : World) (hn : n ≤ maxLen) (h : n ≤ 1048576 → HasB w a n w.heap.size) (h' : m ≤ 1048576 → HasB w b m w.heap.size) :
    Calls Tryz.prog 3 #[.slice a n cap, .slice b m cap'] w (Holds w) := by
  have H1 := hid h
  have H2 := hid h'
  have HN := hid hn
  clear h h' hn
  have hB : Below w.heap.size w w := Below.refl _ _
  go_enter Tryz.func3, Tryz.ntmps3
  go_wp2_with fail
  refine (big_any _ _ _ _ _ _ _ (by have := HN.out; unfold maxLen at this; omega)).mono ?_
  rintro e _ ⟨r, rfl, hr, rfl⟩
  have HR := hid hr
  clear hr
  cases r with
  | true =>
    go_wp2_with fail
    go_ret
    exact ⟨rfl, hB⟩
  | false =>
    have hnm := HR.out rfl
    clear HR
    have HA := hid (H1.out (by omega))
    have HM := hid (H2.out (by omega))
    clear H1 H2 HN
    go_wp2_with fail
    refine (drawSpreadX_any _ _ _ _ HA.out).mono ?_
    rintro e v1 ⟨nn, rfl, n0, n9, st⟩
    replace hB := hB.trans (st.mono hB.size)
    clear st
    obtain ⟨T, ok, f1, f2⟩ := spread_facts nn
    have HSP := hid f1
    have HSF := hid f2
    have hok : (ok != ok) = false := by cases ok <;> rfl
    clear f1 f2
    go_wp2_with fail
    refine (implSpread_any _ _).mono ?_
    rw [HSP.out]
    rintro e v2 ⟨a_t, n_t, c_t, s_t, rfl, R_t, hn_t, st⟩
    replace hB := hB.trans (st.mono hB.size)
    clear st
    go_wp2_with fail
    refine (specSpread_any _ _).mono ?_
    rw [HSP.out]
    rintro e v3 ⟨a_s, n_s, c_s, s_s, rfl, R_s, hn_s, st⟩
    replace R_t := R_t.below st (Nat.le_refl _)
    replace hB := hB.trans (st.mono hB.size)
    clear st
    have HRS : Hid (sameR s_t s_s = true) := hid (sameR_self' (hn_t.trans hn_s.symm))
    have HNT := hid (show numsOf s_t = T from hn_t)
    clear hn_t hn_s
    go_wp2_with fail
    refine (wRows_any _ _ _ _ _ _ _ _ _ R_t.has R_s.has).mono ?_
    rintro e v4 ⟨rfl, q⟩
    have st : Below v3.heap.size v3 v4 := q.below _
    replace R_t := R_t.below st (Nat.le_refl _)
    replace R_s := R_s.below st (Nat.le_refl _)
    replace hB := hB.trans (st.mono hB.size)
    clear st
    clear q
    rw [HRS.out]
    clear HRS
    clear R_s
    go_wp2_with fail
    refine (drawAllHX_any b m cap' _ (HM.out.grow hB (Nat.le_refl _))).mono ?_
    rintro e v5 ⟨mm, rfl, m0, m9, st⟩
    replace R_t := R_t.below st (Nat.le_refl _)
    replace hB := hB.trans (st.mono hB.size)
    clear st
    obtain ⟨L, told, c, one, f1, f2, f3⟩ := heightsX_facts mm
    have HAH := hid f1
    have HCH := hid f2
    have HHF := hid f3
    have htt : (told != told) = false := by cases told <;> rfl
    have hoo : (one != one) = false := by cases one <;> rfl
    have hcc := neq_self_int c
    clear f1 f2 f3
    go_wp2_with fail
    refine (allHeights_any _ _).mono ?_
    rw [HAH.out]
    rintro e v6 ⟨a_h, n_h, c_h, s_h, rfl, R_h, hn_h, st⟩
    replace R_t := R_t.below st (Nat.le_refl _)
    replace hB := hB.trans (st.mono hB.size)
    clear st
    go_wp2_with fail
    refine (specAllHeights_any _ _).mono ?_
    rw [HAH.out]
    rintro e v7 ⟨a_k, n_k, c_k, s_k, rfl, R_k, hn_k, st⟩
    replace R_t := R_t.below st (Nat.le_refl _)
    replace R_h := R_h.below st (Nat.le_refl _)
    replace hB := hB.trans (st.mono hB.size)
    clear st
    have HRS : Hid (sameR s_h s_k = true) := hid (sameR_self' (hn_h.trans hn_k.symm))
    have HNH := hid (show numsOf s_h = L from hn_h)
    clear hn_h hn_k
    go_wp2_with fail
    refine (implCountHeights_any _ _).mono ?_
    rw [HCH.out]
    rintro e v8 ⟨rfl, st⟩
    replace R_t := R_t.below st (Nat.le_refl _)
    replace R_h := R_h.below st (Nat.le_refl _)
    replace R_k := R_k.below st (Nat.le_refl _)
    replace hB := hB.trans (st.mono hB.size)
    clear st
    go_wp2_with fail
    refine (specCountHeights_any _ _).mono ?_
    rw [HCH.out]
    rintro e v9 ⟨rfl, st⟩
    replace R_t := R_t.below st (Nat.le_refl _)
    replace R_h := R_h.below st (Nat.le_refl _)
    replace R_k := R_k.below st (Nat.le_refl _)
    replace hB := hB.trans (st.mono hB.size)
    clear st
    go_wp2_with fail
    refine (wRows_any _ _ _ _ _ _ _ _ _ R_h.has R_k.has).mono ?_
    rintro e v10 ⟨rfl, q⟩
    have st : Below v9.heap.size v9 v10 := q.below _
    replace R_t := R_t.below st (Nat.le_refl _)
    replace R_h := R_h.below st (Nat.le_refl _)
    replace R_k := R_k.below st (Nat.le_refl _)
    replace hB := hB.trans (st.mono hB.size)
    clear st
    clear q
    rw [HRS.out]
    clear HRS
    clear R_k
    cases told
    · skip
      clear R_h
      cases ok
      · skip
        go_wp2_with fail
        go_ret
        exact ⟨rfl, hB⟩
      · skip
        obtain ⟨N, M, rfl, hN5, F0, f1, f2⟩ := HSF.out rfl
        have F := hid F0
        have HCO := hid f1
        have HDI := hid f2
        obtain ⟨hm1, hm7⟩ := F0.m7
        obtain rfl : M = n_t := by rw [← F0.len, ← HNT.out]; simpa [numsOf] using R_t.len
        clear F0 f1 f2 n0 n9
        obtain ⟨gT, rfl, u1, u2, u3, u4⟩ := R_t.cellAt hm1
        have HRW := hid (fun a (ha : a < M) => (show ∃ ga oa ca, v10.cell? ⟨gT, a, none⟩ = some (.slice (some ⟨ga, oa, none⟩) M ca) ∧ ∀ b, b < M → v10.cell? ⟨ga, oa + b, none⟩ = some (.int .i64 (nth (rowT T a) b)) from by
          have e : (nthR s_t a).xs = rowT T a := by rw [← HNT.out]; exact (numsOf_nth (by rw [R_t.len]; exact ha)).symm
          have hr := (R_t.row ha).has
          have hc := u3 a ha
          rw [e] at hr hc
          have hl := (F.out.row a ha).1
          rw [hl] at hr hc
          obtain ⟨ga, oa, ea, -, hh⟩ := hr.2.2.2.2 (by omega)
          rw [ea] at hc
          exact ⟨ga, oa, _, hc, hh⟩))
        clear u3 u4
        go_wp2_with fail
        go_loopw [30, 202] (fun s i wr => ∃ a : Nat, a ≤ M ∧ i = .int .i64 (a : Int) ∧ s = .int .i64 (sumRows T a) ∧ Quiet v10 wr) (fun _ i _ => M - (intOf i).toNat)
        case atStart => exact ⟨0, Nat.zero_le _, rfl, rfl, ⟨0, rfl⟩⟩
        case round =>
          obtain ⟨a, ha, rfl, rfl, q0, hq0⟩ := hrel
          subst hq0
          by_cases hlt : a < M
          · skip
            obtain ⟨ga, oa, ca, g1, g2⟩ := HRW.out a hlt
            obtain ⟨hl, hbd⟩ := F.out.row a hlt
            have HG2 := hid g2
            have HL := hid hl
            have HBD := hid hbd
            have hsr := sumRows_b F.out a ha
            have HSR : Hid (sumRows T (a + 1) = sumRows T a + total (rowT T a)) := hid rfl
            have hai : (a : Int) < (M : Int) := by omega
            clear g2 hl hbd
            go_wp2_with fail
            go_loopw [30, 209] (fun s i wr => ∃ b : Nat, b ≤ M ∧ i = .int .i64 (b : Int) ∧ s = .int .i64 (sumRows T a + total ((rowT T a).take b)) ∧ Quiet v10 wr) (fun _ i _ => M - (intOf i).toNat)
            case atStart => exact ⟨0, Nat.zero_le _, rfl, by simp [total], ⟨q0, rfl⟩⟩
            case round =>
              obtain ⟨b, hb, rfl, rfl, q1, hq1⟩ := hrel
              subst hq1
              by_cases hlb : b < M
              · skip
                have k1 := HG2.out b hlb
                obtain ⟨gb, ob, cb, g3, g4⟩ := HRW.out b hlb
                have k2 := g4 a hlt
                rw [← F.out.sym a b hlt hlb] at k2
                have hx := HBD.out b hlb
                have htk := total_take_b (xs := rowT T a) (c := 125) (fun i hi => HBD.out i (by rw [HL.out] at hi; exact hi)) b (by rw [HL.out]; omega)
                have HTS : Hid (total ((rowT T a).take (b + 1)) = total ((rowT T a).take b) + nth (rowT T a) b) := hid (total_succ (by rw [HL.out]; exact hlb))
                have hbi : (b : Int) < (M : Int) := by omega
                have hb0 : (0 : Int) ≤ (b : Int) := by omega
                have ha0 : (0 : Int) ≤ (a : Int) := by omega
                clear g4
                generalize hv2 : total ((rowT T a).take (b + 1)) = v2 at *
                generalize total ((rowT T a).take b) = v1 at *
                generalize nth (rowT T a) b = x at *
                generalize hsu : sumRows T a = su at *
                have hne := neq_self_int x
                have hwr : IntKind.i64.wrap (su + v1 + x) = su + v1 + x := by rw [IntKind.wrap_i64]; omega
                go_wp2_with fail
                first | go_quiet (fail) | skip
                first | go_wp2_with fail | skip
                go_roundw
                case rel => exact ⟨b + 1, by omega, by go_num, congrArg (Value.int .i64) (by have := HTS.out; rw [hv2]; omega), ⟨_, rfl⟩⟩
                case measure => simp [intOf]; omega
              · skip
                obtain rfl : M = b := by omega
                have HTW : Hid (total ((rowT T a).take M) = total (rowT T a)) := hid (by rw [List.take_of_length_le (by rw [HL.out]; exact Nat.le_refl _)])
                go_wp2_with fail
                go_roundw
                case rel => exact ⟨a + 1, by omega, by go_num, congrArg (Value.int .i64) (by rw [HTW.out, HSR.out]), ⟨_, rfl⟩⟩
                case measure => simp [intOf]; omega
          · skip
            obtain rfl : M = a := by omega
            rw [F.out.sum]
            have st := (show Quiet v10 (v10.drewN q0) from ⟨q0, rfl⟩).below v10.heap.size
            replace R_t := R_t.below st (Nat.le_refl _)
            replace hB := hB.trans (st.mono hB.size)
            clear st
            generalize v10.drewN q0 = vq at *
            have hne := neq_self_int (cnt N : Int)
            go_wp2_with fail
            refine (countParking_any _ _).mono ?_
            rw [HCO.out]
            rintro e v11 ⟨rfl, st⟩
            replace R_t := R_t.below st (Nat.le_refl _)
            replace hB := hB.trans (st.mono hB.size)
            clear st
            go_wp2_with fail
            refine (countByDistance_any _ _).mono ?_
            rw [HDI.out]
            rintro e v12 ⟨a_d, n_d, c_d, rfl, o_d, st⟩
            replace R_t := R_t.below st (Nat.le_refl _)
            replace hB := hB.trans (st.mono hB.size)
            clear st
            have hdl : n_d = M := by have h1 : (distCounts N).length = n_d := o_d.len; have := F.out.dl; omega
            subst hdl
            go_wp2_with fail
            go_loopw [251] (fun i wr => ∃ a : Nat, a ≤ n_d ∧ i = .int .i64 (a : Int) ∧ Quiet v12 wr) (fun i _ => n_d - (intOf i).toNat)
            case atStart => exact ⟨0, Nat.zero_le _, rfl, ⟨0, rfl⟩⟩
            case round =>
              obtain ⟨a, ha, rfl, q1, hq1⟩ := hrel
              subst hq1
              by_cases hla : a < n_d
              · skip
                obtain ⟨gT2, eg, -, -, w3x, -⟩ := R_t.cellAt hm1
                obtain rfl : gT = gT2 := by injection eg with h; injection h
                have hca := w3x a hla
                have hr := R_t.row hla
                have hex : (nthR s_t a).xs = rowT T a := by rw [← HNT.out]; exact (numsOf_nth (by rw [R_t.len]; exact hla)).symm
                rw [hex] at hca hr
                have hl := (F.out.row a hla).1
                rw [hl] at hca hr
                have cq : ∀ b z, Calls Tryz.prog 17 #[.slice (nthR s_t a).a n_d (nthR s_t a).c] (v12.drewN (b + z)) fun e w'' => e = .returned (.int .i64 (total (rowT T a))) ∧ ∃ n, w'' = v12.drewN (b + n) := fun b z => (wSumX_any _ _ _ (rowT T a) _ (hr.below (below_drewN (Below.refl v12.heap.size v12) (b + z)) (Nat.le_refl _)).has (by omega) (fun i hi => by have := (F.out.row a hla).2 i hi; omega)).mono (fun e w'' ⟨h1, h2⟩ => ⟨h1, z, h2.symm⟩)
                rw [F.out.dist a hla] at cq
                obtain ⟨bd, od, rfl, hbd, hcd⟩ := o_d.has.2.2.2.2 (by omega)
                have hda := hcd a hla
                clear hcd w3x hex hl hr eg
                generalize nth (distCounts N) a = x at *
                generalize nthR s_t a = rw0 at *
                have hne2 := neq_self_int x
                have hai : (a : Int) < (n_d : Int) := by omega
                have ha0 : (0 : Int) ≤ (a : Int) := by omega
                have CQ := hid cq
                clear cq
                go_wp2_with fail
                go_quiet ((go_at_call 17; exact CQ.out _ _))
                go_wp2_with fail
                go_roundw
                case rel => exact ⟨a + 1, by omega, by go_num, ⟨_, rfl⟩⟩
                case measure => simp [intOf]; omega
              · skip
                obtain rfl : n_d = a := by omega
                go_wp2_with fail
                go_ret
                exact ⟨rfl, hB.trans ((show Quiet v12 _ from ⟨_, rfl⟩).below _)⟩
    · skip
      obtain ⟨N, rfl, hN7, hL, hcl, f5⟩ := HHF.out rfl
      have HCP := hid f5
      subst hcl
      have hLl : L.length = n_h := by rw [← HNH.out]; simpa [numsOf] using R_h.len
      obtain ⟨-, e2, e3, e4, -, -⟩ := hs_all N hN7
      rw [← hL] at e2 e3 e4
      have HE2 := hid e2
      have HE3 := hid e3
      have HAT := hid (fun k (hk : k < n_h) => (show _ from hL ▸ hs_at (n := N) (k := k) hN7 (by rw [← hL, hLl]; exact hk)))
      have hch := neq_self_int (n_h : Int)
      rw [hLl] at hcc
      clear f5 e2 e3 hL
      have hBV := hB
      have hLk : ∀ k, k < L.length → (rowT L k).length ≤ 8 := fun k hk => by have := (HAT.out k (by omega)).1; omega
      have HLK := hid hLk
      clear hLk
      go_upto_region 16 with fail
      go_cut [19, 20] (fun x y wx => ∃ ar ca br cb, x = .slice ar 30 ca ∧ y = .slice br 30 cb ∧ Own wx v10.heap.size ar 30 ca (List.replicate 30 0) ∧ Own wx v10.heap.size br 30 cb (List.replicate 30 0) ∧ Apart2 ar br ∧ Below v10.heap.size v10 wx)
      case first =>
        have std : Below v10.heap.size v10 v10.drew := (Below.refl _ _).drew
        refine wp_region_of (by kernel_rfl) (by kernel_rfl) ?_
        intro A0 hA
        have hsz : A0.tmps.size = 264 := by rw [hA]; rfl
        have LA := hid hA
        clear hA
        refine ⟨fun L x' w' => ∃ T, x' = updW A0 mkD T ∧ JMk v10 L T w', ⟨_, updW_self.symm, JMk.start std⟩, ?_, ?_⟩
        · rintro L x1 w2 ⟨T, rfl, J⟩ i o ho hi hd
          have hi4 : i < 4 := (Array.getElem?_eq_some_iff.1 ho).1
          have gt : ∀ d, d ∈ mkD → d < 264 → (updW A0 mkD T).eval (.tmp d) = T d := fun d h1 h2 => updW_eval h1 (by rw [hsz]; exact h2)
          clear LA hsz
          rcases (by omega : i = 0 ∨ i = 1 ∨ i = 2 ∨ i = 3) with rfl | rfl | rfl | rfl
          all_goals (simp only [List.getElem?_toArray, List.getElem?_cons_succ, List.getElem?_cons_zero, Option.some.injEq] at ho; subst ho)
          · exact op_makeX rfl rfl _ _ rfl 30 rfl rfl (by omega) (fun a' c' w3 h1 h2 => ⟨_, updW_put _ (by decide), J.s0 hi h1 h2⟩)
          · exact op_makeX rfl rfl _ _ rfl 30 rfl rfl (by omega) (fun a' c' w3 h1 h2 => ⟨_, updW_put _ (by decide), J.s1 hi h1 h2⟩)
          · have d0 := hd ⟨0, .data⟩ (by simp) rfl
            exact op_pure rfl rfl _ (exM_assign rfl (gt 116 (by decide) (by decide))) ⟨_, updW_put _ (by decide), J.s2 d0⟩
          · have d1 := hd ⟨1, .data⟩ (by simp) rfl
            exact op_pure rfl rfl _ (exM_assign rfl (gt 117 (by decide) (by decide))) ⟨_, updW_put _ (by decide), J.s3 d1⟩
        · rintro L x1 w2 ⟨T, rfl, J⟩ hall
          obtain ⟨z0, z2⟩ := J.p2 (hall 2 (by decide))
          obtain ⟨z1, z3⟩ := J.p3 (hall 3 (by decide))
          obtain ⟨a1, c1, g1, own1⟩ := J.A z0
          obtain ⟨a2, c2, g2, own2⟩ := J.B z1
          have ap := J.AB z0 z1 _ _ _ _ g1 g2
          have hbz := J.bel
          have hA := LA.out
          subst hA
          unfold updW mkD
          simp only [List.foldl]
          rw [z2, z3, g1, g2]
          clear z0 z1 z2 z3 J hall
          go_wp2_with fail
          go_meet
          exact ⟨a1, c1, a2, c2, rfl, rfl, own1, own2, ap, hbz⟩
      case rest =>
        obtain ⟨ar, ca, br, cb, rfl, rfl, o_ar, o_br, ap, st0⟩ := hcut
        go_wp2_with fail
        go_loopw [21, 120] (fun l i wr => ∃ k : Nat, k ≤ n_h ∧ i = .int .i64 (k : Int) ∧ l = .int .i64 (labTo' L k) ∧ Own wr v10.heap.size ar 30 ca (histTo arN L k) ∧ Own wr v10.heap.size br 30 cb (histTo boN L k) ∧ Below v10.heap.size v10 wr) (fun _ i _ => n_h - (intOf i).toNat)
        case atStart => exact ⟨0, Nat.zero_le _, rfl, rfl, o_ar, o_br, st0⟩
        case round =>
          clear o_ar o_br st0
          obtain ⟨k, hk, rfl, rfl, o_ar, o_br, hq⟩ := hrel
          have st := hq
          replace R_t := R_t.below st (Nat.le_refl _)
          replace R_h := R_h.below st (Nat.le_refl _)
          replace hB := hB.trans (st.mono hB.size)
          clear st
          by_cases hlt : k < n_h
          · skip
            obtain ⟨e1, e2, e3, e4, e5, e6⟩ := HAT.out k hlt
            obtain ⟨gH, rfl, l1, l2, l3, l4⟩ := R_h.cellAt (by omega)
            have hck := l3 k hlt
            have o_rw := R_h.row hlt
            have hex : (nthR s_h k).xs = rowT L k := by rw [← HNH.out]; exact (numsOf_nth (by rw [R_h.len]; exact hlt)).symm
            rw [hex, e1] at hck o_rw
            have HB1 := hist_b arN L k
            have HB2 := hist_b boN L k
            have HX1 := HB1.2 _ e4
            have HX2 := HB2.2 _ e5
            have hla := lab_b HLK.out k (by omega)
            have hcl2 := clTo_bounds (rowT L k) (rowT L k).length (by omega)
            have HBO : Hid (bounceOf (rowT L k) = ((boN (rowT L k) : Int), true)) := hid (by simp [bounceOf, e2, boN])
            have HLA : Hid (labelsOf (rowT L k) = (clTo (rowT L k) (rowT L k).length, true)) := hid (by simp [labelsOf, e2])
            have HTO := hid e3
            have HLX := hid e6
            have HBND : Hid (∀ i, i < N → 0 ≤ nth (rowT L k) i ∧ nth (rowT L k) i ≤ 5000) := hid (fun i hi => by have := (hgt_of e2 e1).2 i hi; omega)
            have HH1 : Hid (histTo arN L (k + 1) = (histTo arN L k).set (arN (rowT L k)) (nth (histTo arN L k) (arN (rowT L k)) + 1)) := hid rfl
            have HH2 : Hid (histTo boN L (k + 1) = (histTo boN L k).set (boN (rowT L k)) (nth (histTo boN L k) (boN (rowT L k)) + 1)) := hid rfl
            have HLL : Hid (labTo' L (k + 1) = labTo' L k + clTo (rowT L k) (rowT L k).length) := hid rfl
            have hki : (k : Int) < (n_h : Int) := by omega
            clear e1 e2 e3 e6 l3 l4 HB1 HB2 hex
            generalize arN (rowT L k) = A0 at *
            generalize boN (rowT L k) = B0 at *
            generalize clTo (rowT L k) (rowT L k).length = cl at *
            generalize hlab : labTo' L k = lab at *
            obtain ⟨x, hx⟩ : ∃ x, nth (histTo arN L k) A0 = x := ⟨_, rfl⟩
            obtain ⟨y, hy⟩ : ∃ y, nth (histTo boN L k) B0 = y := ⟨_, rfl⟩
            rw [hx] at HX1 HH1
            rw [hy] at HX2 HH2
            go_wp2_with fail
            refine (implBounce_any _ _ _ _ _ o_rw.has).mono ?_
            rw [HBO.out]
            rintro e v11 ⟨rfl, st⟩
            replace o_rw := o_rw.below st (Nat.le_refl _)
            replace o_ar := o_ar.below st (Nat.le_refl _)
            replace o_br := o_br.below st (Nat.le_refl _)
            replace R_t := R_t.below st (Nat.le_refl _)
            replace R_h := R_h.below st (Nat.le_refl _)
            replace hB := hB.trans (st.mono hB.size)
            replace hq := hq.trans (st.mono hq.size)
            clear st
            go_wp2_with fail
            refine (implLabels_any _ _ _ _ _ o_rw.has).mono ?_
            rw [HLA.out]
            rintro e v12 ⟨rfl, st⟩
            replace o_rw := o_rw.below st (Nat.le_refl _)
            replace o_ar := o_ar.below st (Nat.le_refl _)
            replace o_br := o_br.below st (Nat.le_refl _)
            replace R_t := R_t.below st (Nat.le_refl _)
            replace R_h := R_h.below st (Nat.le_refl _)
            replace hB := hB.trans (st.mono hB.size)
            replace hq := hq.trans (st.mono hq.size)
            clear st
            have hz1 : ¬ ((B0 : Nat) : Int) < 0 := by omega
            have hz2 : ¬ (30 : Int) ≤ ((B0 : Nat) : Int) := by omega
            have hz3 : ¬ 30 ≤ B0 := by omega
            by_cases hz : k = 0
            · skip
              subst hz
              go_wp2_with fail
              refine (wSumX_any _ _ _ _ _ o_rw.has (by omega) (fun i hi => HBND.out i hi)).mono ?_
              rw [HTO.out]
              rintro e _ ⟨rfl, rfl⟩
              obtain ⟨ga, rfl, a1, a2, a3, a4⟩ := o_ar.opened (by omega)
              obtain ⟨gb, rfl, b1, b2, b3, b4⟩ := o_br.opened (by omega)
              have kA := a3 A0 e4
              have zA := a4 A0
              have kB := b3 B0 e5
              have zB := b4 B0
              rw [hx] at kA
              rw [hy] at kB
              have hne : ga ≠ gb := fun e => ap _ _ rfl rfl e
              have kB2 : (v12.setCell ⟨ga, A0, none⟩ (.int .i64 (x + 1))).cell? ⟨gb, B0, none⟩ = some (.int .i64 y) := by rw [World.cell?_setCell_other _ _ _ _ (by intro hh; injection hh with h5; exact hne h5)]; exact kB
              have zB2 : (v12.setCell ⟨ga, A0, none⟩ (.int .i64 (x + 1))).frozen? ⟨gb, B0, none⟩ = false := by rw [World.frozen?_setCell]; exact zB
              have hA30 : (A0 : Int) < 30 := by omega
              have hB30 : (B0 : Int) < 30 := by omega
              have hw1 : IntKind.i64.wrap (x + 1) = x + 1 := by rw [IntKind.wrap_i64]; omega
              have hw2 : IntKind.i64.wrap (y + 1) = y + 1 := by rw [IntKind.wrap_i64]; omega
              have hw3 : IntKind.i64.wrap (lab + cl) = lab + cl := by rw [IntKind.wrap_i64]; omega
              obtain ⟨s1, -⟩ := o_ar.set A0 (x + 1)
              have s1b := s1.setNe (g := gb) (i := B0) (fun p hp e => by cases hp; exact hne e) (.int .i64 (y + 1))
              have s2 := o_br.setNe (g := ga) (i := A0) (fun p hp e => by cases hp; exact hne e.symm) (.int .i64 (x + 1))
              obtain ⟨s2b, -⟩ := s2.set B0 (y + 1)
              rw [← HH1.out] at s1b
              rw [← HH2.out] at s2b
              have hq2 := (hq.setCell (p := ⟨ga, A0, none⟩) a1 (.int .i64 (x + 1))).setCell (p := ⟨gb, B0, none⟩) b1 (.int .i64 (y + 1))
              clear a3 a4 b3 b4 s1 s2
              go_wp2_with fail
              go_roundw
              case rel => exact ⟨0 + 1, by omega, by go_num, congrArg (Value.int .i64) (by rw [HLL.out]), s1b, s2b, hq2⟩
              case measure => simp [intOf]; omega
            · skip
              obtain ⟨j, rfl⟩ : ∃ j, k = j + 1 := ⟨k - 1, by omega⟩
              have HLY := hid (HLX.out (by omega))
              rw [Nat.add_sub_cancel] at HLY
              obtain ⟨gH2, eg, -, -, l3, -⟩ := R_h.cellAt (by omega)
              obtain rfl : gH = gH2 := by injection eg with h; injection h
              have hcj := l3 j (by omega)
              have o_pv := R_h.row (k := j) (by omega)
              have hex : (nthR s_h j).xs = rowT L j := by rw [← HNH.out]; exact (numsOf_nth (by rw [R_h.len]; omega)).symm
              have hel := (HAT.out j (by omega)).1
              rw [hex, hel] at hcj o_pv
              have hwj : IntKind.i64.wrap (((j + 1 : Nat) : Int) - 1) = (j : Int) := by rw [IntKind.wrap_i64]; omega
              have hjp : (0 : Int) < ((j + 1 : Nat) : Int) := by omega
              have hjn : (j : Int) < (n_h : Int) := by omega
              have hj0 : (0 : Int) ≤ (j : Int) := by omega
              clear l3 hex hel eg
              go_wp2_with fail
              refine (wLess_any _ _ _ _ _ _ _ _ o_pv.has o_rw.has).mono ?_
              rintro e v13 ⟨rfl, q⟩
              have st : Below v12.heap.size v12 v13 := q.below _
              replace o_rw := o_rw.below st (Nat.le_refl _)
              replace o_ar := o_ar.below st (Nat.le_refl _)
              replace o_br := o_br.below st (Nat.le_refl _)
              replace o_pv := o_pv.below st (Nat.le_refl _)
              replace R_t := R_t.below st (Nat.le_refl _)
              replace R_h := R_h.below st (Nat.le_refl _)
              replace hB := hB.trans (st.mono hB.size)
              replace hq := hq.trans (st.mono hq.size)
              clear st
              clear q
              rw [HLY.out]
              go_wp2_with fail
              refine (wSumX_any _ _ _ _ _ o_rw.has (by omega) (fun i hi => HBND.out i hi)).mono ?_
              rw [HTO.out]
              rintro e _ ⟨rfl, rfl⟩
              obtain ⟨ga, rfl, a1, a2, a3, a4⟩ := o_ar.opened (by omega)
              obtain ⟨gb, rfl, b1, b2, b3, b4⟩ := o_br.opened (by omega)
              have kA := a3 A0 e4
              have zA := a4 A0
              have kB := b3 B0 e5
              have zB := b4 B0
              rw [hx] at kA
              rw [hy] at kB
              have hne : ga ≠ gb := fun e => ap _ _ rfl rfl e
              have kB2 : (v13.setCell ⟨ga, A0, none⟩ (.int .i64 (x + 1))).cell? ⟨gb, B0, none⟩ = some (.int .i64 y) := by rw [World.cell?_setCell_other _ _ _ _ (by intro hh; injection hh with h5; exact hne h5)]; exact kB
              have zB2 : (v13.setCell ⟨ga, A0, none⟩ (.int .i64 (x + 1))).frozen? ⟨gb, B0, none⟩ = false := by rw [World.frozen?_setCell]; exact zB
              have hA30 : (A0 : Int) < 30 := by omega
              have hB30 : (B0 : Int) < 30 := by omega
              have hw1 : IntKind.i64.wrap (x + 1) = x + 1 := by rw [IntKind.wrap_i64]; omega
              have hw2 : IntKind.i64.wrap (y + 1) = y + 1 := by rw [IntKind.wrap_i64]; omega
              have hw3 : IntKind.i64.wrap (lab + cl) = lab + cl := by rw [IntKind.wrap_i64]; omega
              obtain ⟨s1, -⟩ := o_ar.set A0 (x + 1)
              have s1b := s1.setNe (g := gb) (i := B0) (fun p hp e => by cases hp; exact hne e) (.int .i64 (y + 1))
              have s2 := o_br.setNe (g := ga) (i := A0) (fun p hp e => by cases hp; exact hne e.symm) (.int .i64 (x + 1))
              obtain ⟨s2b, -⟩ := s2.set B0 (y + 1)
              rw [← HH1.out] at s1b
              rw [← HH2.out] at s2b
              have hq2 := (hq.setCell (p := ⟨ga, A0, none⟩) a1 (.int .i64 (x + 1))).setCell (p := ⟨gb, B0, none⟩) b1 (.int .i64 (y + 1))
              clear a3 a4 b3 b4 s1 s2
              go_wp2_with fail
              go_roundw
              case rel => exact ⟨(j + 1) + 1, by omega, by go_num, congrArg (Value.int .i64) (by rw [HLL.out]), s1b, s2b, hq2⟩
              case measure => simp [intOf]; omega
          · skip
            obtain rfl : k = n_h := by omega
            have HLE : Hid (labTo' L k = (cnt N : Int)) := hid (by rw [← hLl]; exact HE3.out)
            have hEQ : histTo arN L k = histTo boN L k := by rw [← hLl]; exact HE2.out
            rw [HLE.out]
            rw [hEQ] at o_ar
            have hne := neq_self_int (cnt N : Int)
            clear hEQ hq
            go_wp2_with fail
            refine (countParking_any _ _).mono ?_
            rw [HCP.out]
            rintro e v11 ⟨rfl, st⟩
            replace o_ar := o_ar.below st (Nat.le_refl _)
            replace o_br := o_br.below st (Nat.le_refl _)
            replace R_t := R_t.below st (Nat.le_refl _)
            replace R_h := R_h.below st (Nat.le_refl _)
            replace hB := hB.trans (st.mono hB.size)
            clear st
            go_wp2_with fail
            refine (wSame_any _ _ _ _ _ _ _ _ _ o_ar.has o_br.has).mono ?_
            rintro e v12 ⟨rfl, q⟩
            have st : Below v11.heap.size v11 v12 := q.below _
            replace o_ar := o_ar.below st (Nat.le_refl _)
            replace o_br := o_br.below st (Nat.le_refl _)
            replace R_t := R_t.below st (Nat.le_refl _)
            replace R_h := R_h.below st (Nat.le_refl _)
            replace hB := hB.trans (st.mono hB.size)
            clear st
            clear q
            rw [same_self]
            clear o_ar o_br
            clear ap HLK HE2 HE3 HAT HCP hne
            clear R_h
            cases ok
            · skip
              go_wp2_with fail
              go_ret
              exact ⟨rfl, hB⟩
            · skip
              obtain ⟨N, M, rfl, hN5, F0, f1, f2⟩ := HSF.out rfl
              have F := hid F0
              have HCO := hid f1
              have HDI := hid f2
              obtain ⟨hm1, hm7⟩ := F0.m7
              obtain rfl : M = n_t := by rw [← F0.len, ← HNT.out]; simpa [numsOf] using R_t.len
              clear F0 f1 f2 n0 n9
              obtain ⟨gT, rfl, u1, u2, u3, u4⟩ := R_t.cellAt hm1
              have HRW := hid (fun a (ha : a < M) => (show ∃ ga oa ca, v12.cell? ⟨gT, a, none⟩ = some (.slice (some ⟨ga, oa, none⟩) M ca) ∧ ∀ b, b < M → v12.cell? ⟨ga, oa + b, none⟩ = some (.int .i64 (nth (rowT T a) b)) from by
                have e : (nthR s_t a).xs = rowT T a := by rw [← HNT.out]; exact (numsOf_nth (by rw [R_t.len]; exact ha)).symm
                have hr := (R_t.row ha).has
                have hc := u3 a ha
                rw [e] at hr hc
                have hl := (F.out.row a ha).1
                rw [hl] at hr hc
                obtain ⟨ga, oa, ea, -, hh⟩ := hr.2.2.2.2 (by omega)
                rw [ea] at hc
                exact ⟨ga, oa, _, hc, hh⟩))
              clear u3 u4
              go_wp2_with fail
              go_loopw [30, 202] (fun s i wr => ∃ a : Nat, a ≤ M ∧ i = .int .i64 (a : Int) ∧ s = .int .i64 (sumRows T a) ∧ Quiet v12 wr) (fun _ i _ => M - (intOf i).toNat)
              case atStart => exact ⟨0, Nat.zero_le _, rfl, rfl, ⟨0, rfl⟩⟩
              case round =>
                obtain ⟨a, ha, rfl, rfl, q0, hq0⟩ := hrel
                subst hq0
                by_cases hlt : a < M
                · skip
                  obtain ⟨ga, oa, ca, g1, g2⟩ := HRW.out a hlt
                  obtain ⟨hl, hbd⟩ := F.out.row a hlt
                  have HG2 := hid g2
                  have HL := hid hl
                  have HBD := hid hbd
                  have hsr := sumRows_b F.out a ha
                  have HSR : Hid (sumRows T (a + 1) = sumRows T a + total (rowT T a)) := hid rfl
                  have hai : (a : Int) < (M : Int) := by omega
                  clear g2 hl hbd
                  go_wp2_with fail
                  go_loopw [30, 209] (fun s i wr => ∃ b : Nat, b ≤ M ∧ i = .int .i64 (b : Int) ∧ s = .int .i64 (sumRows T a + total ((rowT T a).take b)) ∧ Quiet v12 wr) (fun _ i _ => M - (intOf i).toNat)
                  case atStart => exact ⟨0, Nat.zero_le _, rfl, by simp [total], ⟨q0, rfl⟩⟩
                  case round =>
                    obtain ⟨b, hb, rfl, rfl, q1, hq1⟩ := hrel
                    subst hq1
                    by_cases hlb : b < M
                    · skip
                      have k1 := HG2.out b hlb
                      obtain ⟨gb, ob, cb, g3, g4⟩ := HRW.out b hlb
                      have k2 := g4 a hlt
                      rw [← F.out.sym a b hlt hlb] at k2
                      have hx := HBD.out b hlb
                      have htk := total_take_b (xs := rowT T a) (c := 125) (fun i hi => HBD.out i (by rw [HL.out] at hi; exact hi)) b (by rw [HL.out]; omega)
                      have HTS : Hid (total ((rowT T a).take (b + 1)) = total ((rowT T a).take b) + nth (rowT T a) b) := hid (total_succ (by rw [HL.out]; exact hlb))
                      have hbi : (b : Int) < (M : Int) := by omega
                      have hb0 : (0 : Int) ≤ (b : Int) := by omega
                      have ha0 : (0 : Int) ≤ (a : Int) := by omega
                      clear g4
                      generalize hv2 : total ((rowT T a).take (b + 1)) = v2 at *
                      generalize total ((rowT T a).take b) = v1 at *
                      generalize nth (rowT T a) b = x at *
                      generalize hsu : sumRows T a = su at *
                      have hne := neq_self_int x
                      have hwr : IntKind.i64.wrap (su + v1 + x) = su + v1 + x := by rw [IntKind.wrap_i64]; omega
                      go_wp2_with fail
                      first | go_quiet (fail) | skip
                      first | go_wp2_with fail | skip
                      go_roundw
                      case rel => exact ⟨b + 1, by omega, by go_num, congrArg (Value.int .i64) (by have := HTS.out; rw [hv2]; omega), ⟨_, rfl⟩⟩
                      case measure => simp [intOf]; omega
                    · skip
                      obtain rfl : M = b := by omega
                      have HTW : Hid (total ((rowT T a).take M) = total (rowT T a)) := hid (by rw [List.take_of_length_le (by rw [HL.out]; exact Nat.le_refl _)])
                      go_wp2_with fail
                      go_roundw
                      case rel => exact ⟨a + 1, by omega, by go_num, congrArg (Value.int .i64) (by rw [HTW.out, HSR.out]), ⟨_, rfl⟩⟩
                      case measure => simp [intOf]; omega
                · skip
                  obtain rfl : M = a := by omega
                  rw [F.out.sum]
                  have st := (show Quiet v12 (v12.drewN q0) from ⟨q0, rfl⟩).below v12.heap.size
                  replace R_t := R_t.below st (Nat.le_refl _)
                  replace hB := hB.trans (st.mono hB.size)
                  clear st
                  generalize v12.drewN q0 = vq at *
                  have hne := neq_self_int (cnt N : Int)
                  go_wp2_with fail
                  refine (countParking_any _ _).mono ?_
                  rw [HCO.out]
                  rintro e v13 ⟨rfl, st⟩
                  replace R_t := R_t.below st (Nat.le_refl _)
                  replace hB := hB.trans (st.mono hB.size)
                  clear st
                  go_wp2_with fail
                  refine (countByDistance_any _ _).mono ?_
                  rw [HDI.out]
                  rintro e v14 ⟨a_d, n_d, c_d, rfl, o_d, st⟩
                  replace R_t := R_t.below st (Nat.le_refl _)
                  replace hB := hB.trans (st.mono hB.size)
                  clear st
                  have hdl : n_d = M := by have h1 : (distCounts N).length = n_d := o_d.len; have := F.out.dl; omega
                  subst hdl
                  go_wp2_with fail
                  go_loopw [251] (fun i wr => ∃ a : Nat, a ≤ n_d ∧ i = .int .i64 (a : Int) ∧ Quiet v14 wr) (fun i _ => n_d - (intOf i).toNat)
                  case atStart => exact ⟨0, Nat.zero_le _, rfl, ⟨0, rfl⟩⟩
                  case round =>
                    obtain ⟨a, ha, rfl, q1, hq1⟩ := hrel
                    subst hq1
                    by_cases hla : a < n_d
                    · skip
                      obtain ⟨gT2, eg, -, -, w3x, -⟩ := R_t.cellAt hm1
                      obtain rfl : gT = gT2 := by injection eg with h; injection h
                      have hca := w3x a hla
                      have hr := R_t.row hla
                      have hex : (nthR s_t a).xs = rowT T a := by rw [← HNT.out]; exact (numsOf_nth (by rw [R_t.len]; exact hla)).symm
                      rw [hex] at hca hr
                      have hl := (F.out.row a hla).1
                      rw [hl] at hca hr
                      have cq : ∀ b z, Calls Tryz.prog 17 #[.slice (nthR s_t a).a n_d (nthR s_t a).c] (v14.drewN (b + z)) fun e w'' => e = .returned (.int .i64 (total (rowT T a))) ∧ ∃ n, w'' = v14.drewN (b + n) := fun b z => (wSumX_any _ _ _ (rowT T a) _ (hr.below (below_drewN (Below.refl v14.heap.size v14) (b + z)) (Nat.le_refl _)).has (by omega) (fun i hi => by have := (F.out.row a hla).2 i hi; omega)).mono (fun e w'' ⟨h1, h2⟩ => ⟨h1, z, h2.symm⟩)
                      rw [F.out.dist a hla] at cq
                      obtain ⟨bd, od, rfl, hbd, hcd⟩ := o_d.has.2.2.2.2 (by omega)
                      have hda := hcd a hla
                      clear hcd w3x hex hl hr eg
                      generalize nth (distCounts N) a = x at *
                      generalize nthR s_t a = rw0 at *
                      have hne2 := neq_self_int x
                      have hai : (a : Int) < (n_d : Int) := by omega
                      have ha0 : (0 : Int) ≤ (a : Int) := by omega
                      have CQ := hid cq
                      clear cq
                      go_wp2_with fail
                      go_quiet ((go_at_call 17; exact CQ.out _ _))
                      go_wp2_with fail
                      go_roundw
                      case rel => exact ⟨a + 1, by omega, by go_num, ⟨_, rfl⟩⟩
                      case measure => simp [intOf]; omega
                    · skip
                      obtain rfl : n_d = a := by omega
                      go_wp2_with fail
                      go_ret
                      exact ⟨rfl, hB.trans ((show Quiet v14 _ from ⟨_, rfl⟩).below _)⟩
end Go.Proofs.YtakadjhbomggbaaGreat

