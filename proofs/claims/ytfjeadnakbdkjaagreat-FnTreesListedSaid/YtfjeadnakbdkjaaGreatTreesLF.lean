/- The law that trees are listed by their words, walked. -/
import Derived.Test.YtfjeadnakbdkjaaGreatLawKit
import Derived.Test.YtfjeadnakbdkjaaGreatSpecS
import Derived.Test.YtfjeadnakbdkjaaGreatMathT
import Derived.Deep.LoopGhost
import Derived.Test.YtfjeadnakbdkjaaGreatMathS
import Derived.Test.YtfjeadnakbdkjaaGreatMathL
import Derived.Test.YtfjeadnakbdkjaaGreatMathPr
import Derived.Test.YtfjeadnakbdkjaaGreatMathIv
import Derived.Test.YtfjeadnakbdkjaaGreatImplDistG
import Derived.Test.YtfjeadnakbdkjaaGreatMathQ
import Derived.Deep.RegionLaw
import Derived.Laws.CopyOwn
import Derived.Test.YtfjeadnakbdkjaaGreatImplC
import Derived.Test.YtfjeadnakbdkjaaGreatMathO
import Derived.Test.YtfjeadnakbdkjaaGreatMathP
import Derived.Test.YtfjeadnakbdkjaaGreatHelp2
import Derived.RangeFuncNested
import Derived.RangeFuncBound
import Derived.RangeFuncCalls
import Derived.RangeFuncLeaves
import Derived.Shelf.Abstract
import Derived.WalkKit
import Derived.OwnWalkIn
import Derived.TacticsInMore
import Derived.LoopNIn
import Derived.LoopIn
import Derived.Deep.RegionHeld3
import Derived.Deep.DeepCutAuto
import Derived.Deep.AppendLies
import Derived.Test.YtfjeadnakbdkjaaGreatSpecTv
import Derived.Test.YtfjeadnakbdkjaaGreatImplTs
import Derived.Test.YtfjeadnakbdkjaaGreatSpecTw
import Derived.BigQuiet
import Derived.Test.YtfjeadnakbdkjaaGreatSpecA
import Derived.Test.YtfjeadnakbdkjaaGreatLit2
import Derived.Test.YtfjeadnakbdkjaaGreatImplIv
import Derived.Test.YtfjeadnakbdkjaaGreatHelp
import Derived.Test.YtfjeadnakbdkjaaGreatImplTr
namespace Go.Proofs.YtfjeadnakbdkjaaGreat
open Go.RowKit

/-- A slice of bytes below block K. -/
def HasB (w : World) (a : Option Addr) (n : Nat) (K : Nat) : Prop :=
  n ≤ 1099511627776 ∧ (0 < n → ∃ b off, a = some ⟨b, off, none⟩ ∧ b < K ∧ ∀ i, i < n → ∃ u : Int, 0 ≤ u ∧ u ≤ 255 ∧ w.cell? ⟨b, off + i, none⟩ = some (.int .u8 u))

/-- The cursor in block g, that has drawn t numbers. -/
structure Cur (w : World) (g t : Nat) : Prop where
  code : ∃ a n cap, w.cell? ⟨g, 0, none⟩ = some (.slice a n cap) ∧ HasB w a n g
  pos : w.cell? ⟨g, 1, none⟩ = some (.int .i64 t)
  seed : ∃ s : Int, 0 ≤ s ∧ s ≤ 18446744073709551615 ∧ w.cell? ⟨g, 2, none⟩ = some (.int .u64 s)
  free : ∀ i, w.frozen? ⟨g, i, none⟩ = false
  lt : g < w.heap.size

theorem Cur.below {w w' : World} {g t K : Nat} (h : Cur w g t) (hb : Below K w w') (hK : g < K) : Cur w' g t := by
  obtain ⟨⟨a, n, cap, h1, h2, h3⟩, h4, ⟨s, h5, h6, h7⟩, h8, h9⟩ := h
  refine ⟨⟨a, n, cap, by rw [hb.cell (p := ⟨g, 0, none⟩) hK]; exact h1, h2, fun hn => ?_⟩, by rw [hb.cell (p := ⟨g, 1, none⟩) hK]; exact h4, ⟨s, h5, h6, by rw [hb.cell (p := ⟨g, 2, none⟩) hK]; exact h7⟩, fun i => by rw [hb.frozen (p := ⟨g, i, none⟩) hK]; exact h8 i, Nat.lt_of_lt_of_le h9 hb.size⟩
  obtain ⟨b, off, ha, hbk, hc⟩ := h3 hn
  refine ⟨b, off, ha, hbk, fun i hi => ?_⟩
  obtain ⟨u, u0, u1, hu⟩ := hc i hi
  exact ⟨u, u0, u1, by rw [hb.cell (p := ⟨b, off + i, none⟩) (by simp; omega)]; exact hu⟩

theorem cell_other' {w : World} {b c i j : Nat} {v : Value} (h : b ≠ c ∨ i ≠ j) : (w.setCell ⟨b, i, none⟩ v).cell? ⟨c, j, none⟩ = w.cell? ⟨c, j, none⟩ :=
  World.cell?_setCell_other _ _ _ _ (by
    intro hh
    injection hh with h1 h2 _
    rcases h with h | h
    · exact h h1
    · exact h h2)

theorem cur_after {w : World} {g t k1 k2 : Nat} {s' : Int} (h : Cur w g t) (h0 : 0 ≤ s') (h1 : s' ≤ 18446744073709551615) :
    Cur ((((w.drewN k1).setCell ⟨g, 1, none⟩ (.int .i64 ((t : Int) + 1))).setCell ⟨g, 2, none⟩ (.int .u64 s')).drewN k2) g (t + 1) ∧
      w.grownBy ((((w.drewN k1).setCell ⟨g, 1, none⟩ (.int .i64 ((t : Int) + 1))).setCell ⟨g, 2, none⟩ (.int .u64 s')).drewN k2) (some g) := by
  obtain ⟨⟨a, n, cap, c0, hn, hb⟩, c1, ⟨s, _, _, c2⟩, hf, hlt⟩ := h
  have e : ∀ p, ((((w.drewN k1).setCell ⟨g, 1, none⟩ (.int .i64 ((t : Int) + 1))).setCell ⟨g, 2, none⟩ (.int .u64 s')).drewN k2).cell? p = (((w.setCell ⟨g, 1, none⟩ (.int .i64 ((t : Int) + 1))).setCell ⟨g, 2, none⟩ (.int .u64 s'))).cell? p := fun _ => rfl
  refine ⟨⟨⟨a, n, cap, ?_, hn, fun hp => ?_⟩, ?_, ⟨s', h0, h1, ?_⟩, fun i => ?_, ?_⟩, ⟨rfl, rfl, rfl, by simp, fun k _ hk => ?_⟩⟩
  · rw [e, cell_other' (.inr (by omega)), cell_other' (.inr (by omega))]; exact c0
  · obtain ⟨b, off, ha, hbg, hc⟩ := hb hp
    refine ⟨b, off, ha, hbg, fun i hi => ?_⟩
    obtain ⟨u, u0, u1, hu⟩ := hc i hi
    exact ⟨u, u0, u1, by rw [e, cell_other' (.inl (by omega)), cell_other' (.inl (by omega))]; exact hu⟩
  · rw [e, cell_other' (.inr (by omega)), World.cell?_setCell_same _ _ _ c1]; rfl
  · rw [e, World.cell?_setCell_same (u := .int .u64 s)]
    rw [cell_other' (.inr (by omega))]; exact c2
  · show ((w.setCell ⟨g, 1, none⟩ (.int .i64 ((t : Int) + 1))).setCell ⟨g, 2, none⟩ (.int .u64 s')).frozen? ⟨g, i, none⟩ = false
    rw [World.frozen?_setCell, World.frozen?_setCell]; exact hf i
  · simpa using hlt
  · show ((w.setCell ⟨g, 1, none⟩ (.int .i64 ((t : Int) + 1))).setCell ⟨g, 2, none⟩ (.int .u64 s')).heap[k]? = _
    have hkg : k ≠ g := fun e => hk (by rw [e])
    rw [heap_setCell_other _ _ _ _ hkg, heap_setCell_other _ _ _ _ hkg]

theorem and255 {x : Int} (h0 : 0 ≤ x) (h1 : x < 18446744073709551616) : 0 ≤ wrap64 (bits .and .u64 x 255) ∧ wrap64 (bits .and .u64 x 255) ≤ 255 := by
  have e := u64_and x 255 h0 h1 (by omega) (by omega)
  have hle : (x.toNat &&& (255 : Int).toNat : Nat) ≤ 255 := Nat.and_le_right
  rw [e, IntWalk.wrap64_in _ ⟨by omega, by omega⟩]
  omega

/-- A number of the cursor, and the cursor behind it. -/
def Drew (w : World) (g t : Nat) (hi : Int) (e : Ending) (w' : World) : Prop := ∃ v : Int, e = .returned (.int .i64 v) ∧ 0 ≤ v ∧ v ≤ hi ∧ Cur w' g t ∧ w.grownBy w' (some g)

set_option maxHeartbeats 2000000 in
theorem next_cur (g t : Nat) (w : World) (h : Cur w g t) (ht : t ≤ 1000000) :
    Calls Tryz.prog 40 #[.pointer (some ⟨g, 0, none⟩)] w (Drew w g (t + 1) 255) := by
  have HC := hid h
  obtain ⟨⟨a, n, cap, h1, h2, h3⟩, h4, ⟨s, h5, h6, h7⟩, h8, h9⟩ := h
  have f1 := h8 1
  have f2 := h8 2
  by_cases hlt : t < n
  · obtain ⟨b, off, rfl, hbk, hc⟩ := h3 (by omega)
    obtain ⟨u, u0, u1, hu⟩ := hc t hlt
    have hti : (t : Int) < (n : Int) := by omega
    have htz : (0 : Int) ≤ (t : Int) := by omega
    have htd : decide ((t : Int) < (n : Int)) = true := by simpa using hti
    clear hc h3
    go_enter Tryz.func40, Tryz.ntmps40
    go_wp2_with fail
    go_quiet (fail)
    go_wp2_with fail
    go_quiet (fail)
    go_wp2_with fail
    have hle : (t : Int) + 1 ≤ (n : Int) := by omega
    have hld : decide ((t : Int) + 1 ≤ (n : Int)) = true := by simpa using hle
    generalize hs' : IntKind.u64.wrap (IntKind.u64.wrap (IntKind.u64.wrap (s * 6364136223846793005) + u) + 1442695040888963407) = s'
    have HS := hid hs'
    clear hs'
    go_quiet (fail)
    go_wp2_with fail
    go_ret
    have hs := HS.out
    have hs0 : 0 ≤ s' := by rw [← hs, IntKind.wrap_u64]; omega
    have hs1 : s' ≤ 18446744073709551615 := by rw [← hs, IntKind.wrap_u64]; omega
    obtain ⟨r1, r2⟩ := cur_after HC.out hs0 hs1
    exact ⟨u, rfl, u0, u1, r1, r2⟩
  · have hti : ¬ (t : Int) < (n : Int) := by omega
    have htd : decide ((t : Int) < (n : Int)) = false := by simp; omega
    have hle : ¬ (t : Int) + 1 ≤ (n : Int) := by omega
    have hld : decide ((t : Int) + 1 ≤ (n : Int)) = false := by simp; omega
    clear h3
    go_enter Tryz.func40, Tryz.ntmps40
    go_wp2_with fail
    go_quiet (fail)
    go_wp2_with fail
    generalize hs' : IntKind.u64.wrap (IntKind.u64.wrap (IntKind.u64.wrap (s * 6364136223846793005)) + 1442695040888963407) = s'
    have hs0 : 0 ≤ s' := by rw [← hs', IntKind.wrap_u64]; omega
    have hs1 : s' ≤ 18446744073709551615 := by rw [← hs', IntKind.wrap_u64]; omega
    clear hs'
    have HS0 := hid hs0
    have HS1 := hid hs1
    clear hs0 hs1
    go_quiet (fail)
    go_wp2_with fail
    go_ret
    obtain ⟨r1, r2⟩ := cur_after HC.out HS0.out HS1.out
    obtain ⟨b0, b1⟩ := and255 (x := s' / 1099511627776) (by have := HS0.out; omega) (by have := HS1.out; omega)
    exact ⟨_, rfl, b0, b1, r1, r2⟩

set_option maxHeartbeats 800000 in
theorem pick_cur (g t : Nat) (n : Int) (w : World) (h : Cur w g t) (ht : t ≤ 100000) (hn : n ≤ 65000) :
    Calls Tryz.prog 23 #[.pointer (some ⟨g, 0, none⟩), .int .i64 n] w fun e w' => ∃ v : Int, e = .returned (.int .i64 v) ∧ 0 ≤ v ∧ (v < n ∨ n ≤ 1 ∧ v = 0) ∧ (∃ t', t ≤ t' ∧ t' ≤ t + 2 ∧ Cur w' g t') ∧ w.grownBy w' (some g) := by
  by_cases h1 : n ≤ 1
  · go_enter Tryz.func23, Tryz.ntmps23
    go_wp2_with fail
    go_ret
    exact ⟨0, rfl, Int.le_refl _, .inr ⟨h1, rfl⟩, ⟨t, Nat.le_refl _, by omega, h⟩, World.grownBy.refl _ _⟩
  · have h2 : 1 < n := by omega
    by_cases h3 : 200 < n
    · go_enter Tryz.func23, Tryz.ntmps23
      go_wp2_with fail
      refine (next_cur g t _ h (by omega)).mono ?_
      rintro e w1 ⟨v, rfl, v0, v1, hc1, hg1⟩
      go_wp2_with fail
      refine (next_cur g (t + 1) _ hc1 (by omega)).mono ?_
      rintro e w2 ⟨u, rfl, u0, u1, hc2, hg2⟩
      have hm0 : 0 ≤ (v * 256 + u) % n := Int.emod_nonneg _ (by omega)
      have hm1 : (v * 256 + u) % n < n := Int.emod_lt_of_pos _ (by omega)
      go_wp2_with fail
      go_ret
      exact ⟨_, rfl, hm0, .inl hm1, ⟨t + 2, by omega, by omega, hc2⟩, ⟨hg2.os.trans hg1.os, hg2.tape.trans hg1.tape, hg2.output.trans hg1.output, Nat.le_trans hg1.size hg2.size, fun j hj hne => (hg2.block j (Nat.lt_of_lt_of_le hj hg1.size) hne).trans (hg1.block j hj hne)⟩⟩
    · go_enter Tryz.func23, Tryz.ntmps23
      go_wp2_with fail
      refine (next_cur g t _ h (by omega)).mono ?_
      rintro e w1 ⟨v, rfl, v0, v1, hc1, hg1⟩
      have hm0 : 0 ≤ v % n := Int.emod_nonneg _ (by omega)
      have hm1 : v % n < n := Int.emod_lt_of_pos _ (by omega)
      go_wp2_with fail
      go_ret
      exact ⟨_, rfl, hm0, .inl hm1, ⟨t + 1, by omega, by omega, hc1⟩, hg1⟩

set_option maxHeartbeats 800000 in
theorem one_cur (g t : Nat) (n : Int) (w : World) (h : Cur w g t) (ht : t ≤ 100000) (hn : n ≤ 65000) :
    Calls Tryz.prog 21 #[.pointer (some ⟨g, 0, none⟩), .int .i64 n] w fun e w' => ∃ b : Bool, e = .returned (.bool b) ∧ (∃ t', t ≤ t' ∧ t' ≤ t + 2 ∧ Cur w' g t') ∧ w.grownBy w' (some g) := by
  go_enter Tryz.func21, Tryz.ntmps21
  go_wp2_with fail
  refine (pick_cur g t n _ h ht hn).mono ?_
  rintro e w1 ⟨v, rfl, v0, v1, hc1, hg1⟩
  go_wp2_with fail
  go_ret
  exact ⟨_, rfl, hc1, hg1⟩

set_option maxHeartbeats 800000 in
theorem among_cur (g t : Nat) (a : Option Addr) (n cap : Nat) (xs : List Int) (w : World) (h : Cur w g t) (ht : t ≤ 100000) (hh : Has w a n cap xs) (hn : 0 < n) (hn2 : n ≤ 60000) (hne : ∀ p, a = some p → p.block ≠ g) :
    Calls Tryz.prog 39 #[.pointer (some ⟨g, 0, none⟩), .slice a n cap] w fun e w' => ∃ v : Int, e = .returned (.int .i64 v) ∧ v ∈ xs ∧ (∃ t', t ≤ t' ∧ t' ≤ t + 2 ∧ Cur w' g t') ∧ w.grownBy w' (some g) := by
  have HL := hid hh.len
  obtain ⟨b, off, rfl, hbb, hc⟩ := hh.2.2.2.2 hn
  have hbg := hne _ rfl
  clear hne
  go_enter Tryz.func39, Tryz.ntmps39
  go_wp2_with fail
  refine (pick_cur g t n _ h ht (by omega)).mono ?_
  rintro e w1 ⟨v, rfl, v0, v1, hc1, hg1⟩
  obtain ⟨k, rfl⟩ : ∃ k : Nat, v = (k : Int) := ⟨_, (Int.toNat_of_nonneg v0).symm⟩
  have hk : k < n := by omega
  have hck : w1.cell? ⟨b, off + k, none⟩ = some (.int .i64 (nth xs k)) := hg1.cell (hc k hk) (by simpa using hbg)
  clear hc v1
  go_wp2_with fail
  go_ret
  exact ⟨_, rfl, nth_mem (by rw [HL.out]; exact hk), hc1, hg1⟩
end Go.Proofs.YtfjeadnakbdkjaaGreat

namespace Go.Proofs.YtfjeadnakbdkjaaGreat
open Go.RowKit

theorem HasB.below {w w' : World} {a : Option Addr} {n K : Nat} (h : HasB w a n K) (hb : Below K w w') : HasB w' a n K := by
  refine ⟨h.1, fun hx => ?_⟩
  obtain ⟨b, off, ha, hbk, hc⟩ := h.2 hx
  refine ⟨b, off, ha, hbk, fun i hi => ?_⟩
  obtain ⟨u, u0, u1, hu⟩ := hc i hi
  exact ⟨u, u0, u1, by rw [hb.cell (p := ⟨b, off + i, none⟩) hbk]; exact hu⟩

/-- An argument's slice of bytes. -/
theorem hasB_of_row {w : World} {a : Option Addr} {len cap : Nat} {zs : List Int}
    (h : (a = none ∧ len = 0 ∧ cap = 0 ∧ zs = []) ∨ ∃ x, a = some x ∧ len ≤ cap ∧ cap ≤ maxLen ∧ zs.length = cap ∧ (∀ i, i < zs.length → w.cell? (x.add i) = some (.int .u8 (zs.getD i 0))) ∧ ∀ n ∈ zs, (Lit.int .u8 n).wf = true) :
    len ≤ maxLen ∧ (len ≤ 1048576 → HasB w a len w.heap.size) := by
  rcases h with ⟨rfl, rfl, rfl, rfl⟩ | ⟨x, rfl, h1, h2, h3, h4, h5⟩
  · exact ⟨by unfold maxLen; omega, fun _ => ⟨by omega, by omega⟩⟩
  · refine ⟨by omega, fun hl => ⟨by omega, fun hx => ?_⟩⟩
    obtain ⟨b, off, spot⟩ := x
    have hc := h4 0 (by omega)
    have hspot : spot = none := by simpa [Addr.add] using World.cell?_spot hc
    subst hspot
    refine ⟨b, off, rfl, by have := World.block_lt_of_cell? w _ hc; simpa [Addr.add] using this, fun i hi => ?_⟩
    have := h4 i (by omega)
    have e : (⟨b, off, none⟩ : Addr).add i = ⟨b, off + i, none⟩ := by unfold Addr.add; split <;> simp_all
    rw [e] at this
    have hm : zs.getD i 0 ∈ zs := by simp [show i < zs.length by omega]
    have hw := h5 _ hm
    generalize zs.getD i 0 = u at *
    have hw' : (0 : Int) ≤ u ∧ u ≤ 255 := by simpa [Lit.wf, IntKind.min, IntKind.max, IntKind.signed, IntKind.bits] using hw
    exact ⟨u, hw'.1, hw'.2, this⟩

/-- The law's answer. -/
def Holds (w : World) (e : Ending) (w' : World) : Prop := e = .returned (.bool true) ∧ Below w.heap.size w w'
end Go.Proofs.YtfjeadnakbdkjaaGreat

namespace Go.Proofs.YtfjeadnakbdkjaaGreat
open Go.RowKit

/-- Whether the bytes are too many. -/
def Big (n m : Nat) (w : World) (e : Ending) (w' : World) : Prop := ∃ r : Bool, e = .returned (.bool r) ∧ (r = false → n + m ≤ 1048576) ∧ w = w'

theorem big_any (a b : Option Addr) (n m cap cap' : Nat) (w : World) (hn : n ≤ 9223372036854775807) :
    Calls Tryz.prog 4 #[.slice a n cap, .slice b m cap'] w (Big n m w) := by
  by_cases h1 : (1048576 : Int) < (n : Int)
  · go_enter Tryz.func4, Tryz.ntmps4
    go_wp2_with fail
    go_ret
    exact ⟨true, ret_bool (by simp), by simp, rfl⟩
  · by_cases h2 : (1048576 : Int) - n < (m : Int)
    · go_enter Tryz.func4, Tryz.ntmps4
      go_wp2_with fail
      go_ret
      exact ⟨true, ret_bool (by simp), by simp, rfl⟩
    · go_enter Tryz.func4, Tryz.ntmps4
      go_wp2_with fail
      go_ret
      exact ⟨false, ret_bool (by simp), fun _ => by omega, rfl⟩

end Go.Proofs.YtfjeadnakbdkjaaGreat

namespace Go.Proofs.YtfjeadnakbdkjaaGreat
open Go.RowKit

/-- The cursor stands, and below its block all is as it was. -/
structure At (w0 w : World) (g t : Nat) : Prop where
  cur : Cur w g t
  below : Below g w0 w

theorem At.pick {w0 w w' : World} {g t t' : Nat} (h : At w0 w g t) (hc : Cur w' g t') (hg : w.grownBy w' (some g)) : At w0 w' g t' :=
  ⟨hc, h.below.trans (below_grown hg (Nat.le_of_lt h.cur.lt) (by intro k hk; cases hk; exact Nat.le_refl _))⟩
theorem At.later {w0 w w' : World} {g t K : Nat} (h : At w0 w g t) (hb : Below K w w') (hK : g < K) : At w0 w' g t :=
  ⟨h.cur.below hb hK, h.below.trans (hb.mono (Nat.le_of_lt hK))⟩
theorem At.size {w0 w : World} {g t : Nat} (h : At w0 w g t) : w0.heap.size ≤ w.heap.size := h.below.size

theorem has_lit (w : World) (xs : List Int) (hx : xs.length ≤ 100) : Has (w.alloc (.cells (xs.map (Value.int .i64)).toArray 3)) (some ⟨w.heap.size, 0, none⟩) xs.length xs.length xs := by
  have := World.ownsRow_lit (base := w.heap.size) (e := 3) (size := 1) w (xs.map (Value.int .i64)).toArray xs.length (Nat.le_refl _) (by unfold maxLen; omega) (by simp)
  exact Own.has (B := w.heap.size) ⟨by simpa using this, rfl, by omega⟩
theorem has_lit3 (w : World) (a b c : Int) : Has (w.alloc (.cells #[.int .i64 a, .int .i64 b, .int .i64 c] 3)) (some ⟨w.heap.size, 0, none⟩) 3 3 [a, b, c] := has_lit w [a, b, c] (by simp)
theorem has_lit4 (w : World) (a b c d : Int) : Has (w.alloc (.cells #[.int .i64 a, .int .i64 b, .int .i64 c, .int .i64 d] 3)) (some ⟨w.heap.size, 0, none⟩) 4 4 [a, b, c, d] := has_lit w [a, b, c, d] (by simp)
theorem has_lit6 (w : World) (a b c d e f : Int) : Has (w.alloc (.cells #[.int .i64 a, .int .i64 b, .int .i64 c, .int .i64 d, .int .i64 e, .int .i64 f] 3)) (some ⟨w.heap.size, 0, none⟩) 6 6 [a, b, c, d, e, f] := has_lit w [a, b, c, d, e, f] (by simp)
theorem alloc_below (w : World) (o : Obj) : Below w.heap.size w (w.alloc o) := (Below.refl _ _).alloc (Nat.le_refl _) _
theorem lit_ne {w : World} {g t : Nat} (h : Cur w g t) : ∀ p, (some ⟨w.heap.size, 0, none⟩ : Option Addr) = some p → p.block ≠ g := by
  intro p hp
  cases hp
  have := h.lt
  simp
  omega

/-- Favourites and a number of places, whatever they are. -/
def DrewFav (w : World) (g : Nat) (e : Ending) (w' : World) : Prop :=
  ∃ a n cap xs p, e = .returned (.tuple #[.slice a n cap, .int .i64 p]) ∧ Own w' w.heap.size a n cap xs ∧ n ≤ 10 ∧ -1 ≤ p ∧ p ≤ 13 ∧ Below g w w'

/-- The same, and the cursor stands. -/
def DrewFavC (w : World) (g : Nat) (e : Ending) (w' : World) : Prop :=
  ∃ a n cap xs p, e = .returned (.tuple #[.slice a n cap, .int .i64 p]) ∧ Own w' w.heap.size a n cap xs ∧ n ≤ 10 ∧ -1 ≤ p ∧ p ≤ 13 ∧ ∃ t', At w w' g t' ∧ t' ≤ 4000

/-- A slice of bytes that came in. -/
theorem cur_new {w : World} {a : Option Addr} {n cap : Nat} (h : HasB w a n w.heap.size) : Cur (w.alloc (.cells #[.slice a n cap, .int .i64 0, .int .u64 0] 41)) w.heap.size 0 := by
  refine ⟨⟨a, n, cap, ?_, h.1, fun hp => ?_⟩, ?_, ⟨0, by omega, by omega, ?_⟩, fun i => ?_, by simp⟩
  · rw [World.cell?_alloc_at _ _ _ _ rfl]; rfl
  · obtain ⟨b, off, ha, hb, hc⟩ := h.2 hp
    refine ⟨b, off, ha, hb, fun i hi => ?_⟩
    obtain ⟨u, u0, u1, hu⟩ := hc i hi
    exact ⟨u, u0, u1, by rw [World.cell?_alloc_past _ _ _ hb]; exact hu⟩
  · rw [World.cell?_alloc_at _ _ _ _ rfl]; rfl
  · rw [World.cell?_alloc_at _ _ _ _ rfl]; rfl
  · rw [World.frozen?_alloc_at _ _ _ _ rfl]

/-- What a draw of favourites leaves to its caller. -/
def DrewFav' (w : World) (e : Ending) (w' : World) : Prop :=
  ∃ a n cap xs p, e = .returned (.tuple #[.slice a n cap, .int .i64 p]) ∧ Own w' w.heap.size a n cap xs ∧ n ≤ 10 ∧ -1 ≤ p ∧ p ≤ 13 ∧ Below w.heap.size w w'

end Go.Proofs.YtfjeadnakbdkjaaGreat

namespace Go.Proofs.YtfjeadnakbdkjaaGreat
open Go.RowKit

theorem HasB.grow {w w' : World} {a : Option Addr} {n K : Nat} (h : HasB w a n K) (hb : Below K w w') (hK : K ≤ w.heap.size) : HasB w' a n w'.heap.size := by
  refine ⟨h.1, fun hx => ?_⟩
  obtain ⟨b, off, ha, hbk, hc⟩ := h.2 hx
  refine ⟨b, off, ha, Nat.lt_of_lt_of_le hbk (Nat.le_trans hK hb.size), fun i hi => ?_⟩
  obtain ⟨u, u0, u1, hu⟩ := hc i hi
  exact ⟨u, u0, u1, by rw [hb.cell (p := ⟨b, off + i, none⟩) hbk]; exact hu⟩

/-- A number put into a list. -/
def putIn (xs : List Int) (j : Nat) (x : Int) : List Int := xs.take j ++ [x] ++ xs.drop j
theorem mem_putIn {xs : List Int} {j : Nat} {x y : Int} : y ∈ putIn xs j x ↔ y = x ∨ y ∈ xs := by
  unfold putIn
  have : y ∈ xs ↔ y ∈ xs.take j ∨ y ∈ xs.drop j := by rw [← List.mem_append, List.take_append_drop]
  simp only [List.mem_append, List.mem_singleton, this]
  constructor
  · rintro ((h | h) | h)
    · exact .inr (.inl h)
    · exact .inl h
    · exact .inr (.inr h)
  · rintro (h | h | h)
    · exact .inl (.inr h)
    · exact .inl (.inl h)
    · exact .inr h
def Within (xs : List Int) (lo hi : Int) : Prop := ∀ x ∈ xs, lo ≤ x ∧ x ≤ hi
theorem Within.put {xs : List Int} {lo hi x : Int} {j : Nat} (h : Within xs lo hi) (hx : lo ≤ x ∧ x ≤ hi) : Within (putIn xs j x) lo hi := by
  intro y hy
  rcases mem_putIn.1 hy with rfl | hy
  · exact hx
  · exact h y hy
theorem Within.snoc {xs : List Int} {lo hi x : Int} (h : Within xs lo hi) (hx : lo ≤ x ∧ x ≤ hi) : Within (xs ++ [x]) lo hi := by
  intro y hy
  rcases List.mem_append.1 hy with hy | hy
  · exact h y hy
  · rw [List.mem_singleton] at hy; subst hy; exact hx
theorem Within.set {xs : List Int} {lo hi x : Int} {i : Nat} (h : Within xs lo hi) (hx : lo ≤ x ∧ x ≤ hi) : Within (xs.set i x) lo hi := by
  intro y hy
  rcases List.mem_or_eq_of_mem_set hy with hy | rfl
  · exact h y hy
  · exact hx
theorem Within.wide {xs : List Int} {lo hi lo' hi' : Int} (h : Within xs lo hi) (h1 : lo' ≤ lo) (h2 : hi ≤ hi') : Within xs lo' hi' := fun y hy => by have := h y hy; omega

/-- The cursor stands; its block alone was written among those that were there. -/
structure AtG (w0 w : World) (g t : Nat) : Prop where
  cur : Cur w g t
  grew : w0.grownBy w (some g)
  lt : g < w0.heap.size
theorem AtG.new {w : World} {g t : Nat} (h : Cur w g t) : AtG w w g t := ⟨h, World.grownBy.refl _ _, h.lt⟩
theorem AtG.size {w0 w : World} {g t : Nat} (h : AtG w0 w g t) : w0.heap.size ≤ w.heap.size := h.grew.size
theorem grown_then {w w1 w2 : World} {r : Option Nat} (h : w.grownBy w1 r) (h' : w1.grownBy w2 r) : w.grownBy w2 r :=
  ⟨h'.os.trans h.os, h'.tape.trans h.tape, h'.output.trans h.output, Nat.le_trans h.size h'.size, fun j hj hne => (h'.block j (Nat.lt_of_lt_of_le hj h.size) hne).trans (h.block j hj hne)⟩
theorem AtG.pick {w0 w w' : World} {g t t' : Nat} (h : AtG w0 w g t) (hc : Cur w' g t') (hg : w.grownBy w' (some g)) : AtG w0 w' g t' := ⟨hc, grown_then h.grew hg, h.lt⟩
theorem AtG.later {w0 w w' : World} {g t K : Nat} (h : AtG w0 w g t) (hb : Below K w w') (hK : w0.heap.size ≤ K) : AtG w0 w' g t :=
  ⟨h.cur.below hb (Nat.lt_of_lt_of_le h.lt hK), ⟨hb.os.trans h.grew.os, hb.tape.trans h.grew.tape, hb.output.trans h.grew.output, Nat.le_trans h.grew.size hb.size, fun j hj hne => (hb.block j (Nat.lt_of_lt_of_le hj hK)).trans (h.grew.block j hj hne)⟩, h.lt⟩
theorem AtG.below {w0 w : World} {g t : Nat} (h : AtG w0 w g t) : Below g w0 w := below_grown h.grew (Nat.le_of_lt h.lt) fun k hk => by cases hk; exact Nat.le_refl _
theorem AtG.trans {w0 w w' : World} {g t t' : Nat} (h : AtG w0 w g t) (h' : AtG w w' g t') : AtG w0 w' g t' := ⟨h'.cur, grown_then h.grew h'.grew, h.lt⟩

/-- A list that was drawn. -/
def DrewList (w : World) (g t : Nat) (e : Ending) (w' : World) : Prop :=
  ∃ a n cap xs t', e = .returned (.slice a n cap) ∧ Own w' w.heap.size a n cap xs ∧ n ≤ 10 ∧ Within xs (-1) 100 ∧ AtG w w' g t' ∧ t' ≤ t + 100

end Go.Proofs.YtfjeadnakbdkjaaGreat

namespace Go.Proofs.YtfjeadnakbdkjaaGreat
open Go.RowKit

/-- A number that was drawn. -/
def DrewN (w : World) (e : Ending) (w' : World) : Prop := ∃ z : Int, e = .returned (.int .i64 z) ∧ -1 ≤ z ∧ z ≤ 100 ∧ Below w.heap.size w w'
theorem has_lit5T (w : World) (a b c d e : Int) : Has (w.alloc (.cells #[.int .i64 a, .int .i64 b, .int .i64 c, .int .i64 d, .int .i64 e] 3)) (some ⟨w.heap.size, 0, none⟩) 5 5 [a, b, c, d, e] := has_lit w [a, b, c, d, e] (by simp)
set_option maxHeartbeats 800000 in
theorem sized_cur (g t : Nat) (W : World) (hC : Cur W g t) (ht : t ≤ 100) :
    Calls Tryz.prog 22 #[.pointer (some ⟨g, 0, none⟩), .int .i64 5] W fun e w' => ∃ (k : Int) (t' : Nat), e = .returned (.int .i64 k) ∧ -1 ≤ k ∧ k ≤ 6 ∧ AtG W w' g t' := by
  have A := AtG.new hC
  go_enter Tryz.func22, Tryz.ntmps22
  go_wp2_with fail
  refine (one_cur g t 6 _ A.cur (by omega) (by omega)).mono ?_
  rintro e w2 ⟨b2, rfl, ⟨t2, z1, z2, hc2⟩, hg2⟩
  have A2 := A.pick hc2 hg2
  clear hc2 hg2
  cases b2 with
  | true =>
    go_wp2_with fail
    refine (among_cur g t2 _ 5 5 [-1, 0, 1, 5, 6] _ (A2.later (alloc_below _ _) (A2.size)).cur (by omega) (has_lit5T w2 (-1) 0 1 5 6) (by omega) (by omega) (lit_ne A2.cur)).mono ?_
    rintro e w3 ⟨v3, rfl, hv3, ⟨t3, x3, x4, hc3⟩, hg3⟩
    have hv : -1 ≤ v3 ∧ v3 ≤ 6 := by simp at hv3; omega
    have A2' := A2.later (alloc_below w2 (.cells #[.int .i64 (-1), .int .i64 0, .int .i64 1, .int .i64 5, .int .i64 6] 3)) (A2.size)
    have A3 := A2'.pick hc3 hg3
    clear hv3
    go_wp2_with fail
    go_ret
    exact ⟨_, t3, rfl, hv.1, hv.2, A3⟩
  | false =>
    go_wp2_with fail
    refine (pick_cur g t2 6 _ A2.cur (by omega) (by omega)).mono ?_
    rintro e w3 ⟨v3, rfl, v0, v1, ⟨t3, x3, x4, hc3⟩, hg3⟩
    have A3 := A2.pick hc3 hg3
    have hv : v3 ≤ 6 := by omega
    clear v1
    go_wp2_with fail
    go_ret
    exact ⟨_, t3, rfl, by omega, hv, A3⟩
theorem drawByInv_any (a : Option Addr) (n cap : Nat) (w : World) (h : HasB w a n w.heap.size) :
    Calls Tryz.prog 11 #[.slice a n cap] w (DrewN w) := by
  have C0 := cur_new (cap := cap) h
  have hb0 := alloc_below w (.cells #[.slice a n cap, .int .i64 0, .int .u64 0] 41)
  go_enter Tryz.func11, Tryz.ntmps11
  go_wp2_with fail
  refine (sized_cur _ 0 _ C0 (by omega)).mono ?_
  rintro e w1 ⟨k, t1, rfl, k0, k1, A1⟩
  have hb1 := hb0.trans A1.below
  go_wp2_with fail
  go_ret
  exact ⟨_, rfl, k0, by omega, hb1⟩
set_option maxHeartbeats 800000 in
theorem drawAllTrees_any (a : Option Addr) (n cap : Nat) (w : World) (h : HasB w a n w.heap.size) :
    Calls Tryz.prog 5 #[.slice a n cap] w (DrewN w) := by
  have C0 := cur_new (cap := cap) h
  have hb0 := alloc_below w (.cells #[.slice a n cap, .int .i64 0, .int .u64 0] 41)
  have A0 := AtG.new C0
  go_enter Tryz.func5, Tryz.ntmps5
  go_wp2_with fail
  refine (one_cur _ 0 8 _ C0 (by omega) (by omega)).mono ?_
  rintro e w2 ⟨b2, rfl, ⟨t2, z1, z2, hc2⟩, hg2⟩
  have A2 := A0.pick hc2 hg2
  clear hc2 hg2 A0 C0
  cases b2 with
  | true =>
    go_wp2_with fail
    refine (sized_cur _ t2 _ A2.cur (by omega)).mono ?_
    rintro e w1 ⟨k, t1, rfl, k0, k1, A1⟩
    have hb1 := hb0.trans ((A2.trans A1).below)
    go_wp2_with fail
    go_ret
    exact ⟨_, rfl, k0, by omega, hb1⟩
  | false =>
    go_wp2_with fail
    refine (pick_cur _ t2 4 _ A2.cur (by omega) (by omega)).mono ?_
    rintro e w3 ⟨v3, rfl, v0, v1, ⟨t3, x3, x4, hc3⟩, hg3⟩
    have A3 := A2.pick hc3 hg3
    have hb1 := hb0.trans A3.below
    have hv : v3 ≤ 3 := by omega
    clear v1
    go_wp2_with fail
    go_ret
    exact ⟨_, rfl, by omega, by omega, hb1⟩
end Go.Proofs.YtfjeadnakbdkjaaGreat

namespace Go.Proofs.YtfjeadnakbdkjaaGreat
open Go.RowKit

theorem place_run {p : Int} {out : List Int} : ∀ (f : Nat) (x : Int), x ≤ p → p - x ≤ f → ∃ y, Runs out p x y ∧ ¬ (y < p ∧ y ∈ out) ∧ y ≤ p ∧ place p out x = if p ≤ y then -1 else y := by
  have key : ∀ (f : Nat) (x : Int), x ≤ p → p - x ≤ f → ∃ y, Runs out p x y ∧ ¬ (y < p ∧ y ∈ out) ∧ y ≤ p := by
    intro f
    induction f with
    | zero => intro x h1 h2; exact ⟨x, Runs.refl _ _ _, by omega, h1⟩
    | succ f ih =>
      intro x h1 h2
      by_cases hx : x < p ∧ x ∈ out
      · obtain ⟨y, r, h3, h4⟩ := ih (x + 1) (by omega) (by omega)
        refine ⟨y, ⟨by have := r.1; omega, fun z z1 z2 => ?_⟩, h3, h4⟩
        by_cases e : z = x
        · subst e; exact hx
        · exact r.2 z (by omega) z2
      · exact ⟨x, Runs.refl _ _ _, hx, h1⟩
  intro f x h1 h2
  obtain ⟨y, r, h3, h4⟩ := key f x h1 h2
  exact ⟨y, r, h3, h4, place_of r h3 h4⟩

theorem place_ex {p : Int} {out : List Int} {x : Int} (h : x ≤ p) : ∃ y, Runs out p x y ∧ ¬ (y < p ∧ y ∈ out) ∧ y ≤ p ∧ place p out x = if p ≤ y then -1 else y :=
  place_run (p - x).toNat x h (by omega)

/-! ### Looking back -/
/-- The first free place from x on backwards, of so many; -1 if there is none. -/
def lookBack (out : List Int) : Nat → Int → Int
  | 0, _ => -1
  | f + 1, x => if x < 0 then -1 else if hasB out x then lookBack out f (x - 1) else x

theorem lookBack_bounds (out : List Int) : ∀ (f : Nat) (x : Int), -1 ≤ lookBack out f x ∧ (lookBack out f x ≤ x ∨ lookBack out f x = -1)
  | 0, x => by simp [lookBack]
  | f + 1, x => by
    have ih := lookBack_bounds out f (x - 1)
    unfold lookBack
    split
    · simp
    · split
      · omega
      · omega
theorem lookBack_neg {out : List Int} {f : Nat} {x : Int} (h : x < 0) : lookBack out f x = -1 := by
  cases f with
  | zero => rfl
  | succ f => simp [lookBack, h]
theorem lookBack_zero {out : List Int} {x : Int} : lookBack out 0 x = -1 := rfl
theorem lookBack_step {out : List Int} {f : Nat} {x : Int} (h : 0 ≤ x) (hm : hasB out x = true) : lookBack out (f + 1) x = lookBack out f (x - 1) := by
  rw [lookBack, if_neg (by omega), if_pos hm]
theorem lookBack_hit {out : List Int} {f : Nat} {x : Int} (h : 0 ≤ x) (hm : ¬ hasB out x = true) : lookBack out (f + 1) x = x := by
  rw [lookBack, if_neg (by omega), if_neg hm]

/-- Where a car goes that looks back m places. -/
def backPlace (p : Int) (m : Nat) (out : List Int) (x : Int) : Int := if lookBack out (m + 1) x < 0 then place p out x else lookBack out (m + 1) x
theorem backPlace_neg {p : Int} {m : Nat} {out : List Int} {x : Int} (h : lookBack out (m + 1) x = -1) : backPlace p m out x = place p out x := by
  unfold backPlace; rw [if_pos (by omega)]
theorem backPlace_pos {p : Int} {m : Nat} {out : List Int} {x : Int} (h : 0 ≤ lookBack out (m + 1) x) : backPlace p m out x = lookBack out (m + 1) x := by
  unfold backPlace; rw [if_neg (by omega)]
def backs (p : Int) (m : Nat) (xs : List Int) : List Int := xs.foldl (fun out x => out ++ [backPlace p m out x]) []
theorem backs_nil (p : Int) (m : Nat) : backs p m [] = [] := rfl
theorem backs_snoc (p : Int) (m : Nat) (xs : List Int) (x : Int) : backs p m (xs ++ [x]) = backs p m xs ++ [backPlace p m (backs p m xs) x] := by simp [backs]
theorem backs_succ {p : Int} {m : Nat} {xs : List Int} {k : Nat} (h : k < xs.length) : backs p m (xs.take (k + 1)) = backs p m (xs.take k) ++ [backPlace p m (backs p m (xs.take k)) (nth xs k)] := by
  rw [take_succ_nth h, backs_snoc]
theorem length_backs (p : Int) (m : Nat) (xs : List Int) : (backs p m xs).length = xs.length := by
  have : ∀ (ys out : List Int), (ys.foldl (fun out x => out ++ [backPlace p m out x]) out).length = out.length + ys.length := by
    intro ys
    induction ys with
    | nil => intro out; rfl
    | cons y ys ih => intro out; simp only [List.foldl_cons]; rw [ih]; simp; omega
  simp [backs, this]
theorem backPlace_bounds {p : Int} {m : Nat} {out : List Int} {x : Int} (h0 : 0 ≤ x) (h1 : x < p) : -1 ≤ backPlace p m out x ∧ (backPlace p m out x < p) := by
  have h2 := lookBack_bounds out (m + 1) x
  have h3 := place_bounds (p := p) (out := out) h0
  unfold backPlace
  split <;> omega
theorem backs_zero_place {p : Int} {out : List Int} {x : Int} (h0 : 0 ≤ x) (h1 : x < p) : backPlace p 0 out x = place p out x := by
  unfold backPlace
  by_cases hm : hasB out x = true
  · rw [lookBack_step h0 hm, lookBack_zero, if_pos (by omega)]
  · rw [lookBack_hit h0 hm, if_neg (by omega)]
    have := place_of (p := p) (Runs.refl out p x) (fun e => hm (hasB_iff.2 e.2)) (by omega)
    rw [this, if_neg (by omega)]

def backB (xs : List Int) (p k : Int) : Bool := good xs p && inB k 0 8
def driveBackOf (xs : List Int) (p k : Int) : List Int × Bool := if backB xs p k && !hasB (backs p k.toNat xs) (-1) then (backs p k.toNat xs, true) else ([], false)
def doBackOf (xs : List Int) (p k : Int) : Bool × Bool := if backB xs p k then (!hasB (backs p k.toNat xs) (-1), true) else (false, false)
/-- The least number of places from k on, of so many. -/
def leastFrom (xs : List Int) (p : Int) : Nat → Nat → Int × Bool
  | 0, _ => (0, false)
  | f + 1, k => if hasB (backs p k xs) (-1) then leastFrom xs p f (k + 1) else ((k : Int), true)
def leastBackOf (xs : List Int) (p : Int) : Int × Bool := if good xs p then leastFrom xs p 9 0 else (0, false)

/-! ### Cars that fail -/
def driveSomeOf (xs : List Int) (p : Int) : List Int × Bool := if good xs p then (drive p xs, true) else ([], false)
/-- How many stand on no place. -/
def fails (ys : List Int) : Nat := ys.countP fun y => decide (y < 0)
theorem fails_le (ys : List Int) : fails ys ≤ ys.length := List.countP_le_length
theorem fails_succ {ys : List Int} {k : Nat} (h : k < ys.length) : fails (ys.take (k + 1)) = fails (ys.take k) + if nth ys k < 0 then 1 else 0 := by
  unfold fails
  rw [take_succ_nth h, List.countP_append]
  simp
/-- The surplus of favourites from a place on. -/
def surplus (xs : List Int) (p j : Int) : Int := (xs.length : Int) - below xs j - (p - j)
/-- The greatest surplus from the places less than j on, or 0. -/
def defTo (xs : List Int) (p : Int) : Nat → Int
  | 0 => 0
  | j + 1 => max (defTo xs p j) (surplus xs p j)

/-- How many stand on a place less than j. -/
def stood (ys : List Int) (j : Int) : Nat := ys.countP fun y => decide (0 ≤ y) && decide (y < j)

theorem place_new {p : Int} {out : List Int} {x : Int} (h1 : x ≤ p) : place p out x = -1 ∨ (place p out x ∉ out ∧ x ≤ place p out x ∧ place p out x < p) := by
  obtain ⟨y, r, h3, h4, h5⟩ := place_ex (out := out) h1
  have h6 := r.1
  rw [h5]
  split
  · exact .inl rfl
  · exact .inr ⟨fun e => h3 ⟨by omega, e⟩, h6, by omega⟩

/-- No place is taken twice. -/
theorem drive_once {p : Int} {xs : List Int} (hb : ∀ x ∈ xs, 0 ≤ x ∧ x ≤ p - 1) (j : Int) (hj : 0 ≤ j) : ∀ k, k ≤ xs.length → (drive p (xs.take k)).countP (fun y => decide (y = j)) = if hasB (drive p (xs.take k)) j then 1 else 0 := by
  intro k
  induction k with
  | zero => intro _; simp [drive, hasB]
  | succ k ih =>
    intro hk
    have ih := ih (by omega)
    obtain ⟨h0, h1⟩ := hb _ (nth_mem (xs := xs) (i := k) (by omega))
    rw [drive_succ (by omega), List.countP_append, ih]
    generalize drive p (xs.take k) = out at *
    have hn := place_new (p := p) (out := out) (x := nth xs k) (by omega)
    generalize place p out (nth xs k) = y at *
    by_cases e : y = j
    · subst e
      have : y ∉ out := by rcases hn with h | h; omega; exact h.1
      simp [this, hasB]
    · have e' : ¬ j = y := fun h => e h.symm
      simp [hasB, e, e']

theorem stood_succ (ys : List Int) (j : Int) (hj : 0 ≤ j) : stood ys (j + 1) = stood ys j + ys.countP (fun y => decide (y = j)) := by
  induction ys with
  | nil => rfl
  | cons y ys ih =>
    unfold stood at *
    simp only [List.countP_cons, ih, Bool.and_eq_true, decide_eq_true_eq]
    by_cases e : y = j
    · subst e
      rw [if_pos ⟨hj, by omega⟩, if_neg (by omega), if_pos rfl]
      omega
    · simp only [if_neg e]
      by_cases e2 : 0 ≤ y ∧ y < j
      · rw [if_pos ⟨e2.1, by omega⟩, if_pos e2]; omega
      · rw [if_neg (by omega), if_neg e2]; omega

/-- Fewer than the favourites below j + 1 stand below j: just then j is taken. -/
theorem taken_iff {p : Int} {xs : List Int} (hb : ∀ x ∈ xs, 0 ≤ x ∧ x ≤ p - 1) (j : Int) (hj : 0 ≤ j) (hp : j < p) : ∀ k, k ≤ xs.length →
    (stood (drive p (xs.take k)) j ≤ below (xs.take k) j) ∧ (hasB (drive p (xs.take k)) j = true ↔ stood (drive p (xs.take k)) j < below (xs.take k) (j + 1)) := by
  intro k
  induction k with
  | zero => intro _; simp [drive, hasB, stood, below]
  | succ k ih =>
    intro hk
    have ih := ih (by omega)
    obtain ⟨h0, h1⟩ := hb _ (nth_mem (xs := xs) (i := k) (by omega))
    rw [drive_succ (by omega), below_succ (by omega), below_succ (by omega)]
    obtain ⟨y, r, h3, h4, h5⟩ := place_ex (p := p) (out := drive p (xs.take k)) (x := nth xs k) (by omega)
    rw [h5]
    have hmono : below (xs.take k) j ≤ below (xs.take k) (j + 1) := by
      unfold below
      exact List.countP_mono_left fun x _ hx => by simp at *; omega
    generalize drive p (xs.take k) = out at *
    have hs : ∀ z : Int, stood (out ++ [z]) j = stood out j + if 0 ≤ z ∧ z < j then 1 else 0 := by
      intro z
      unfold stood
      rw [List.countP_append]
      simp [List.countP_cons]
    rw [hs]
    have hh : ∀ z : Int, hasB (out ++ [z]) j = (hasB out j || decide (z = j)) := by
      intro z
      by_cases e : z = j
      · subst e; simp [hasB]
      · have e' : ¬ j = z := fun h => e h.symm
        simp [hasB, e, e']
    rw [hh]
    have hr := r.1
    by_cases hy : p ≤ y
    · rw [if_pos hy]
      have hj2 : nth xs k ≤ j → hasB out j = true := fun h => hasB_iff.2 (r.2 j h (by omega)).2
      have e1 : ¬ ((0 : Int) ≤ -1 ∧ (-1 : Int) < j) := by omega
      have e2 : ¬ (-1 : Int) = j := by omega
      simp only [if_neg e1, e2, decide_false, Bool.or_false]
      by_cases hx : nth xs k < j + 1
      · have := hj2 (by omega)
        rw [if_pos hx]
        refine ⟨by split <;> omega, ⟨fun _ => ?_, fun _ => this⟩⟩
        have := ih.2.1 this
        omega
      · rw [if_neg hx, if_neg (by omega)]
        exact ⟨by omega, ih.2⟩
    · rw [if_neg hy]
      by_cases hyj : y < j
      · rw [if_pos ⟨by omega, hyj⟩, if_pos (show nth xs k < j by omega), if_pos (show nth xs k < j + 1 by omega), show decide (y = j) = false from by simp; omega, Bool.or_false]
        refine ⟨by omega, ih.2.trans ⟨fun h => by omega, fun h => by omega⟩⟩
      · rw [if_neg (show ¬ (0 ≤ y ∧ y < j) by omega)]
        by_cases e : y = j
        · subst e
          have : hasB out y = false := hasB_not.2 fun e => h3 ⟨by omega, e⟩
          have h6 : ¬ stood out y < below (xs.take k) (y + 1) := fun h => by have := ih.2.2 h; simp_all
          simp only [decide_true, Bool.or_true, true_iff]
          rw [if_pos (show nth xs k < y + 1 by omega)]
          refine ⟨by split <;> omega, by omega⟩
        · rw [show decide (y = j) = false from by simp; omega, Bool.or_false]
          have hj2 : nth xs k ≤ j → hasB out j = true := fun h => hasB_iff.2 (r.2 j h (by omega)).2
          by_cases hx : nth xs k < j + 1
          · have h7 := hj2 (by omega)
            rw [if_pos hx]
            refine ⟨by split <;> omega, ⟨fun _ => ?_, fun _ => h7⟩⟩
            have := ih.2.1 h7
            omega
          · rw [if_neg hx, if_neg (by omega)]
            exact ⟨by omega, ih.2⟩

/-- How many of the favourites below a place do not stand below it. -/
theorem over_step {p : Int} {xs : List Int} (hb : ∀ x ∈ xs, 0 ≤ x ∧ x ≤ p - 1) (j : Int) (hj : 0 ≤ j) (hp : j < p) :
    (stood (drive p xs) (j + 1) = if stood (drive p xs) j < below xs (j + 1) then stood (drive p xs) j + 1 else stood (drive p xs) j) ∧ stood (drive p xs) j ≤ below xs j ∧ below xs j ≤ below xs (j + 1) := by
  have h1 := taken_iff hb j hj hp xs.length (Nat.le_refl _)
  have h2 := drive_once hb j hj xs.length (Nat.le_refl _)
  rw [List.take_of_length_le (Nat.le_refl _)] at h1 h2
  have hmono : below xs j ≤ below xs (j + 1) := by
    unfold below
    exact List.countP_mono_left fun x _ hx => by simp at *; omega
  refine ⟨?_, h1.1, hmono⟩
  rw [stood_succ _ _ hj, h2]
  by_cases e : hasB (drive p xs) j = true
  · rw [if_pos e, if_pos (h1.2.1 e)]
  · rw [if_neg e, if_neg fun h => e (h1.2.2 h)]; rfl

theorem over_max {p : Int} {xs : List Int} (hb : ∀ x ∈ xs, 0 ≤ x ∧ x ≤ p - 1) : ∀ q : Nat, (q : Int) ≤ p →
    (∀ j : Nat, j ≤ q → (below xs q : Int) - below xs j - ((q : Int) - j) ≤ (below xs q : Int) - stood (drive p xs) q) ∧ (∃ j : Nat, j ≤ q ∧ (below xs q : Int) - below xs j - ((q : Int) - j) = (below xs q : Int) - stood (drive p xs) q) ∧ (stood (drive p xs) q : Int) ≤ below xs q := by
  intro q
  induction q with
  | zero =>
    intro _
    have h0 : stood (drive p xs) 0 = 0 := by
      unfold stood
      rw [List.countP_eq_zero]
      intro y _
      simp
    have h1 : below xs 0 = 0 := by
      unfold below
      rw [List.countP_eq_zero]
      intro y hy
      have := hb y hy
      simp
      omega
    simp only [Int.natCast_zero] at *
    refine ⟨fun j hj => ?_, ⟨0, Nat.le_refl _, ?_⟩, ?_⟩
    · obtain rfl : j = 0 := by omega
      simp [h0, h1]
    · simp [h0, h1]
    · rw [h0, h1]; simp
  | succ q ih =>
    intro hq
    obtain ⟨i1, ⟨j, i2, i3⟩, i4⟩ := ih (by omega)
    obtain ⟨s1, s2, s3⟩ := over_step hb (q : Int) (by omega) (by omega)
    have e : ((q + 1 : Nat) : Int) = (q : Int) + 1 := by omega
    rw [e]
    refine ⟨fun k hk => ?_, ?_, ?_⟩
    · by_cases hk2 : k ≤ q
      · have := i1 k hk2
        rw [s1]
        split <;> omega
      · obtain rfl : k = q + 1 := by omega
        rw [e, s1]
        split <;> omega
    · by_cases hlt : stood (drive p xs) q < below xs ((q : Int) + 1)
      · refine ⟨j, by omega, ?_⟩
        rw [s1, if_pos hlt]
        omega
      · refine ⟨q + 1, Nat.le_refl _, ?_⟩
        rw [e, s1, if_neg hlt]
        omega
    · rw [s1]
      split <;> omega

theorem defTo_max (xs : List Int) (p : Int) : ∀ q : Nat, 0 ≤ defTo xs p q ∧ (∀ j, j < q → surplus xs p j ≤ defTo xs p q) ∧ (defTo xs p q = 0 ∨ ∃ j, j < q ∧ defTo xs p q = surplus xs p j)
  | 0 => ⟨by simp [defTo], fun j hj => by omega, .inl rfl⟩
  | q + 1 => by
    obtain ⟨h1, h2, h3⟩ := defTo_max xs p q
    refine ⟨by rw [defTo]; omega, fun j hj => ?_, ?_⟩
    · rw [defTo]
      by_cases e : j < q
      · have := h2 j e; omega
      · obtain rfl : j = q := by omega
        omega
    · rw [defTo]
      by_cases e : surplus xs p q ≤ defTo xs p q
      · rw [Int.max_eq_left e]
        rcases h3 with h | ⟨j, h, h'⟩
        · exact .inl h
        · exact .inr ⟨j, by omega, h'⟩
      · rw [Int.max_eq_right (by omega)]
        exact .inr ⟨q, by omega, rfl⟩

theorem stood_fails {ys : List Int} {p : Int} (h : ∀ y ∈ ys, y < p) : stood ys p + fails ys = ys.length := by
  induction ys with
  | nil => rfl
  | cons y ys ih =>
    have ih := ih fun z hz => h z (List.mem_cons_of_mem _ hz)
    have := h y List.mem_cons_self
    unfold stood fails at *
    simp only [List.countP_cons, List.length_cons, Bool.and_eq_true, decide_eq_true_eq]
    split <;> split <;> omega

theorem drive_lt {p : Int} (hp : 0 ≤ p) {xs : List Int} (hb : ∀ x ∈ xs, 0 ≤ x ∧ x ≤ p - 1) : ∀ k, k ≤ xs.length → ∀ y ∈ drive p (xs.take k), -1 ≤ y ∧ y < p := by
  intro k
  induction k with
  | zero => intro _ y hy; simp [drive] at hy
  | succ k ih =>
    intro hk y hy
    rw [drive_succ (by omega), List.mem_append, List.mem_singleton] at hy
    rcases hy with hy | rfl
    · exact ih (by omega) y hy
    · obtain ⟨h0, h1⟩ := hb _ (nth_mem (xs := xs) (i := k) (by omega))
      have := place_bounds (p := p) (out := drive p (xs.take k)) h0
      omega

/-- The cars that fail are as many as the greatest surplus. -/
theorem fails_defect {p : Nat} {xs : List Int} (hp : 1 ≤ p) (hb : ∀ x ∈ xs, 0 ≤ x ∧ x ≤ (p : Int) - 1) : (fails (drive p xs) : Int) = defTo xs p p := by
  obtain ⟨h1, ⟨j, h2, h3⟩, h4⟩ := over_max hb p (Int.le_refl _)
  have hall : below xs p = xs.length := by
    unfold below
    rw [List.countP_eq_length]
    intro x hx
    have := hb x hx
    simp
    omega
  have hs := stood_fails (ys := drive p xs) (p := p) (fun y hy => by
    have := drive_lt (p := (p : Int)) (by omega) hb xs.length (Nat.le_refl _) y (by rw [List.take_of_length_le (Nat.le_refl _)]; exact hy)
    omega)
  rw [length_drive] at hs
  obtain ⟨d1, d2, d3⟩ := defTo_max xs p p
  have hall2 := hall
  rw [hall] at h1 h3 h4
  have e1 : ∀ j : Nat, surplus xs p j = (xs.length : Int) - below xs j - ((p : Int) - j) := fun j => rfl
  have hle : defTo xs p p ≤ fails (drive p xs) := by
    rcases d3 with h | ⟨k, hk, h⟩
    · omega
    · have := h1 k (by omega)
      rw [h, e1]
      omega
  have hge : (fails (drive p xs) : Int) ≤ defTo xs p p := by
    by_cases e : j < p
    · have := d2 j e
      rw [e1] at this
      omega
    · obtain rfl : j = p := by omega
      rw [hall] at h3
      omega
  omega

def defectOf (xs : List Int) (p : Int) : Int × Bool := if good xs p then ((fails (drive p xs) : Int), true) else (0, false)

/-! ### Places that are needed -/
theorem drive_other {p q : Int} {xs : List Int} (hb : ∀ x ∈ xs, 0 ≤ x ∧ x ≤ q - 1) : ∀ k, k ≤ xs.length → (∀ y ∈ drive q (xs.take k), 0 ≤ y ∧ y < p) → drive p (xs.take k) = drive q (xs.take k) := by
  intro k
  induction k with
  | zero => intro _ _; rfl
  | succ k ih =>
    intro hk hy
    obtain ⟨h0, h1⟩ := hb _ (nth_mem (xs := xs) (i := k) (by omega))
    rw [drive_succ (by omega)] at hy
    have ih := ih (by omega) fun y h => hy y (List.mem_append_left _ h)
    have hz := hy _ (List.mem_append_right _ List.mem_cons_self)
    rw [drive_succ (by omega), drive_succ (by omega), ih]
    generalize drive q (xs.take k) = out at *
    obtain ⟨y, r, h3, h4, h5⟩ := place_ex (p := q) (out := out) (x := nth xs k) (by omega)
    rw [h5] at hz ⊢
    have hyq : ¬ q ≤ y := fun e => by rw [if_pos e] at hz; omega
    rw [if_neg hyq] at hz ⊢
    rw [place_of (p := p) (y := y) ⟨r.1, fun z h6 h7 => ⟨by omega, (r.2 z h6 h7).2⟩⟩ (fun e => h3 ⟨by omega, e.2⟩) (by omega), if_neg (by omega)]

theorem drive_same {p q : Int} (hpq : p ≤ q) {xs : List Int} (hb : ∀ x ∈ xs, 0 ≤ x ∧ x ≤ p - 1) : ∀ k, k ≤ xs.length → (-1 : Int) ∉ drive p (xs.take k) → drive q (xs.take k) = drive p (xs.take k) := by
  intro k
  induction k with
  | zero => intro _ _; rfl
  | succ k ih =>
    intro hk hy
    obtain ⟨h0, h1⟩ := hb _ (nth_mem (xs := xs) (i := k) (by omega))
    rw [drive_succ (by omega)] at hy
    have ih := ih (by omega) fun h => hy (List.mem_append_left _ h)
    have hz : place p (drive p (xs.take k)) (nth xs k) ≠ -1 := fun e => hy (List.mem_append_right _ (by rw [e]; exact List.mem_cons_self))
    rw [drive_succ (by omega), drive_succ (by omega), ih]
    generalize drive p (xs.take k) = out at *
    obtain ⟨y, r, h3, h4, h5⟩ := place_ex (p := p) (out := out) (x := nth xs k) (by omega)
    rw [h5] at hz ⊢
    have hyq : ¬ p ≤ y := fun e => by rw [if_pos e] at hz; exact hz rfl
    rw [if_neg hyq]
    rw [place_of (p := q) (y := y) ⟨r.1, fun z h6 h7 => ⟨by omega, (r.2 z h6 h7).2⟩⟩ (fun e => h3 ⟨by omega, e.2⟩) (by omega), if_neg (by omega)]

/-- The greatest place and one more, at least 1. -/
def needTo (ys : List Int) : Int := ys.foldl (fun m y => max m (y + 1)) 1
theorem needTo_snoc (ys : List Int) (y : Int) : needTo (ys ++ [y]) = max (needTo ys) (y + 1) := by simp [needTo]
theorem needTo_succ {ys : List Int} {k : Nat} (h : k < ys.length) : needTo (ys.take (k + 1)) = max (needTo (ys.take k)) (nth ys k + 1) := by rw [take_succ_nth h, needTo_snoc]
theorem needTo_max : ∀ (ys : List Int), 1 ≤ needTo ys ∧ (∀ y ∈ ys, y < needTo ys) ∧ (needTo ys = 1 ∨ ∃ y ∈ ys, needTo ys = y + 1) := by
  intro ys
  have key : ∀ k, k ≤ ys.length → 1 ≤ needTo (ys.take k) ∧ (∀ y ∈ ys.take k, y < needTo (ys.take k)) ∧ (needTo (ys.take k) = 1 ∨ ∃ y ∈ ys.take k, needTo (ys.take k) = y + 1) := by
    intro k
    induction k with
    | zero => intro _; simp [needTo]
    | succ k ih =>
      intro hk
      obtain ⟨h1, h2, h3⟩ := ih (by omega)
      rw [needTo_succ (by omega), take_succ_nth (by omega)]
      refine ⟨by omega, fun y hy => ?_, ?_⟩
      · rw [List.mem_append, List.mem_singleton] at hy
        rcases hy with hy | rfl
        · have := h2 y hy; omega
        · omega
      · by_cases e : nth ys k + 1 ≤ needTo (ys.take k)
        · rw [Int.max_eq_left e]
          rcases h3 with h | ⟨y, hy, h⟩
          · exact .inl h
          · exact .inr ⟨y, List.mem_append_left _ hy, h⟩
        · rw [Int.max_eq_right (by omega)]
          exact .inr ⟨_, List.mem_append_right _ List.mem_cons_self, rfl⟩
  have := key ys.length (Nat.le_refl _)
  rwa [List.take_of_length_le (Nat.le_refl _)] at this

def neededOf (xs : List Int) : Int × Bool := if good xs 12 && allPark 12 xs then (needTo (drive 12 xs), true) else (0, false)
/-- Does a street of so many places serve? -/
def serves (xs : List Int) (p : Int) : Bool := allB xs 0 (p - 1) && allPark p xs

theorem serves_iff {xs : List Int} (hb : ∀ x ∈ xs, 0 ≤ x ∧ x ≤ 11) {p : Int} (h1 : 1 ≤ p) (h2 : p ≤ 12) : serves xs p = true ↔ allPark 12 xs = true ∧ needTo (drive 12 xs) ≤ p := by
  obtain ⟨n1, n2, n3⟩ := needTo_max (drive 12 xs)
  unfold serves
  rw [Bool.and_eq_true, allB_iff, allPark_iff, allPark_iff]
  constructor
  · rintro ⟨h3, h4⟩
    have := drive_same (q := 12) h2 h3 xs.length (Nat.le_refl _) (by rw [List.take_of_length_le (Nat.le_refl _)]; exact h4)
    rw [List.take_of_length_le (Nat.le_refl _)] at this
    refine ⟨by rw [this]; exact h4, ?_⟩
    rcases n3 with h | ⟨y, hy, h⟩
    · omega
    · rw [this] at hy
      have := drive_lt (p := p) (by omega) h3 xs.length (Nat.le_refl _) y (by rw [List.take_of_length_le (Nat.le_refl _)]; exact hy)
      omega
  · rintro ⟨h3, h4⟩
    have hy : ∀ y ∈ drive 12 xs, 0 ≤ y ∧ y < p := by
      intro y hy
      have h5 := n2 y hy
      have h6 := drive_lt (p := 12) (by omega) (by simpa using hb) xs.length (Nat.le_refl _) y (by rw [List.take_of_length_le (Nat.le_refl _)]; exact hy)
      have h7 : y ≠ -1 := fun e => h3 (e ▸ hy)
      omega
    have := drive_other (p := p) (q := 12) (by simpa using hb) xs.length (Nat.le_refl _) (by rw [List.take_of_length_le (Nat.le_refl _)]; exact hy)
    rw [List.take_of_length_le (Nat.le_refl _)] at this
    refine ⟨fun x hx => ?_, by rw [this]; exact h3⟩
    obtain ⟨k, hk, rfl⟩ : ∃ k, k < xs.length ∧ nth xs k = x := by
      obtain ⟨k, hk, e⟩ := List.getElem_of_mem hx
      exact ⟨k, hk, by simp [nth, hk, e]⟩
    have h8 := hb _ hx
    have h9 := drive_get (p := 12) hk
    have h10 := hy (nth (drive 12 xs) k) (nth_mem (by rw [length_drive]; exact hk))
    have h11 := place_bounds (p := 12) (out := drive 12 (xs.take k)) h8.1
    rw [h9] at h10
    omega
end Go.Proofs.YtfjeadnakbdkjaaGreat

namespace Go.Proofs.YtfjeadnakbdkjaaGreat
open Go.RowKit

/-- Are so many places from y on all there and free? -/
def fits (tk : List Int) (p y : Int) : Nat → Bool
  | 0 => true
  | L + 1 => fits tk p y L && (decide (y + (L : Int) < p) && !hasB tk (y + (L : Int)))
/-- So many places from y on. -/
def cover (y : Int) : Nat → List Int
  | 0 => []
  | L + 1 => cover y L ++ [y + (L : Int)]
theorem mem_cover {y z : Int} : ∀ {L : Nat}, z ∈ cover y L ↔ y ≤ z ∧ z < y + L
  | 0 => by simp [cover]; try omega
  | L + 1 => by
    rw [cover, List.mem_append, mem_cover, List.mem_singleton]
    omega
theorem hasB_append (xs ys : List Int) (z : Int) : hasB (xs ++ ys) z = (hasB xs z || hasB ys z) := by simp [hasB]
theorem hasB_cover {T : List Int} {y z : Int} {L : Nat} (h : ¬ (y ≤ z ∧ z < y + L)) : hasB (T ++ cover y L) z = hasB T z := by
  rw [hasB_append, show hasB (cover y L) z = false from hasB_not.2 fun e => h (mem_cover.1 e), Bool.or_false]
theorem hasB_covered {T : List Int} {y z : Int} {L : Nat} (h : y ≤ z ∧ z < y + L) : hasB (T ++ cover y L) z = true := by
  rw [hasB_append, show hasB (cover y L) z = true from hasB_iff.2 (mem_cover.2 h), Bool.or_true]
theorem fits_yes {T : List Int} {p y : Int} {L : Nat} (h : fits T p y L = true) (h1 : y + (L : Int) < p) (h2 : hasB T (y + (L : Int)) = false) : fits T p y (L + 1) = true := by
  simp [fits, h, h1, h2]
theorem fits_no {T : List Int} {p y : Int} {L M : Nat} (h : ¬ (y + (L : Int) < p ∧ hasB T (y + (L : Int)) = false)) (hl : L < M) : fits T p y M = false := by
  induction M with
  | zero => omega
  | succ M ih =>
    by_cases e : L = M
    · subst e
      rw [fits]
      by_cases h1 : y + (L : Int) < p
      · have : hasB T (y + (L : Int)) = true := by
          cases hh : hasB T (y + (L : Int)) with
          | true => rfl
          | false => exact absurd ⟨h1, hh⟩ h
        simp [this]
      · simp [h1]
    · rw [fits, ih (by omega), Bool.false_and]

/-- Behind k cars: their places, all places that are taken, and whether none is blocked (otherwise those ahead of the blocked one). -/
def longAt (p : Int) (xs ls : List Int) : Nat → List Int × List Int × Bool
  | 0 => ([], [], true)
  | k + 1 =>
    if (longAt p xs ls k).2.2 then
      if decide (0 ≤ place p (longAt p xs ls k).2.1 (nth xs k)) && fits (longAt p xs ls k).2.1 p (place p (longAt p xs ls k).2.1 (nth xs k)) (nth ls k).toNat then
        ((longAt p xs ls k).1 ++ [place p (longAt p xs ls k).2.1 (nth xs k)], (longAt p xs ls k).2.1 ++ cover (place p (longAt p xs ls k).2.1 (nth xs k)) (nth ls k).toNat, true)
      else ((longAt p xs ls k).1, (longAt p xs ls k).2.1, false)
    else longAt p xs ls k

theorem longAt_go {p : Int} {xs ls out T : List Int} {k : Nat} {y : Int} (h : longAt p xs ls k = (out, T, true)) (hy : place p T (nth xs k) = y) (h0 : 0 ≤ y) (hf : fits T p y (nth ls k).toNat = true) :
    longAt p xs ls (k + 1) = (out ++ [y], T ++ cover y (nth ls k).toNat, true) := by
  rw [longAt, h]
  simp [hy, h0, hf]
theorem longAt_stop {p : Int} {xs ls out T : List Int} {k : Nat} (h : longAt p xs ls k = (out, T, true)) (hy : ¬ (0 ≤ place p T (nth xs k) ∧ fits T p (place p T (nth xs k)) (nth ls k).toNat = true)) :
    longAt p xs ls (k + 1) = (out, T, false) := by
  rw [longAt, h]
  have : (decide (0 ≤ place p T (nth xs k)) && fits T p (place p T (nth xs k)) (nth ls k).toNat) = false := by
    rw [Bool.eq_false_iff]
    intro e
    simp at e
    exact hy e
  simp only [this, if_true, Bool.false_eq_true, if_false]
theorem longAt_stays {p : Int} {xs ls : List Int} {k : Nat} (h : (longAt p xs ls k).2.2 = false) : longAt p xs ls (k + 1) = longAt p xs ls k := by
  rw [longAt, h]
  simp
theorem longAt_end {p : Int} {xs ls : List Int} {k : Nat} (h : (longAt p xs ls k).2.2 = false) : ∀ m, k ≤ m → longAt p xs ls m = longAt p xs ls k := by
  intro m hm
  induction m with
  | zero => rw [show k = 0 from by omega]
  | succ m ih =>
    by_cases e : k = m + 1
    · rw [e]
    · have := ih (by omega)
      rw [longAt_stays (by rw [this]; exact h), this]
theorem longAt_facts (p : Int) (xs ls : List Int) : ∀ k, (∀ y ∈ (longAt p xs ls k).1, 0 ≤ y) ∧ ((longAt p xs ls k).2.2 = true → (longAt p xs ls k).1.length = k) ∧ ((longAt p xs ls k).2.2 = false → (longAt p xs ls k).1.length < k) := by
  intro k
  induction k with
  | zero => simp [longAt]
  | succ k ih =>
    obtain ⟨h1, h2, h3⟩ := ih
    by_cases hb : (longAt p xs ls k).2.2 = true
    · rw [longAt, if_pos hb]
      split
      · rename_i hc
        simp at hc
        refine ⟨fun y hy => ?_, fun _ => by simp [h2 hb], fun e => by simp at e⟩
        simp at hy
        rcases hy with hy | rfl
        · exact h1 y hy
        · exact hc.1
      · exact ⟨h1, fun e => by simp at e, fun _ => by simp only; rw [h2 hb]; omega⟩
    · have hb' : (longAt p xs ls k).2.2 = false := by simpa using hb
      rw [longAt_stays hb']
      exact ⟨h1, fun e => absurd e hb, fun _ => by have := h3 hb'; omega⟩

/-- Lengths. -/
def lenB (ls : List Int) : Bool := inB ls.length 1 8 && (allB ls 1 12 && decide (total ls ≤ 12))
theorem lenB_iff {ls : List Int} : lenB ls = true ↔ (1 ≤ ls.length ∧ ls.length ≤ 8) ∧ (∀ x ∈ ls, 1 ≤ x ∧ x ≤ 12) ∧ total ls ≤ 12 := by
  have e : ((1 : Int) ≤ (ls.length : Int) ∧ (ls.length : Int) ≤ 8) ↔ (1 ≤ ls.length ∧ ls.length ≤ 8) := by omega
  simp only [lenB, Bool.and_eq_true, inB_iff, allB_iff, decide_eq_true_eq, e]
def taskB (xs ls : List Int) : Bool := lenB ls && (decide (xs.length = ls.length) && allB xs 0 (total ls - 1))
/-- How many cars park. -/
def longN (xs ls : List Int) : List Int := (longAt (total ls) xs ls xs.length).1
def longOk (xs ls : List Int) : Bool := (longAt (total ls) xs ls xs.length).2.2
theorem longN_ok (xs ls : List Int) : (longN xs ls).length = xs.length ↔ longOk xs ls = true := by
  obtain ⟨_, h2, h3⟩ := longAt_facts (total ls) xs ls xs.length
  unfold longN longOk
  cases hb : (longAt (total ls) xs ls xs.length).2.2 with
  | true => simp [h2 hb]
  | false => have := h3 hb; simp; omega
theorem longN_le (xs ls : List Int) : (longN xs ls).length ≤ xs.length := by
  obtain ⟨_, h2, h3⟩ := longAt_facts (total ls) xs ls xs.length
  unfold longN
  cases hb : (longAt (total ls) xs ls xs.length).2.2 with
  | true => rw [h2 hb]; omega
  | false => have := h3 hb; omega
def driveLongOf (xs ls : List Int) : List Int × Bool := if taskB xs ls && longOk xs ls then (longN xs ls, true) else ([], false)
def isLongOf (xs ls : List Int) : Bool × Bool := if taskB xs ls then (longOk xs ls, true) else (false, false)
def blockedOf (xs ls : List Int) : Int × Bool := if taskB xs ls && !longOk xs ls then (((longN xs ls).length : Int), true) else (0, false)

theorem total_lens {ls : List Int} (h : ∀ x ∈ ls, 0 ≤ x) : ∀ k, k ≤ ls.length → 0 ≤ total (ls.take k) ∧ total (ls.take k) ≤ total ls := by
  have h0 : ∀ k, k ≤ ls.length → 0 ≤ total (ls.take k) := by
    intro k
    induction k with
    | zero => intro _; simp [total]
    | succ k ih =>
      intro hk
      rw [total_succ (by omega)]
      have := ih (by omega)
      have := h _ (nth_mem (xs := ls) (i := k) (by omega))
      omega
  have h1 : ∀ j k, k + j = ls.length → total (ls.take k) ≤ total ls := by
    intro j
    induction j with
    | zero => intro k hk; rw [List.take_of_length_le (by omega)]; exact Int.le_refl _
    | succ j ih =>
      intro k hk
      have h2 := ih (k + 1) (by omega)
      rw [total_succ (by omega)] at h2
      have := h _ (nth_mem (xs := ls) (i := k) (by omega))
      omega
  exact fun k hk => ⟨h0 k hk, h1 (ls.length - k) k (by omega)⟩
theorem total_ge {ls : List Int} (h : ∀ x ∈ ls, 1 ≤ x) : ∀ k, k ≤ ls.length → (k : Int) ≤ total (ls.take k) := by
  intro k
  induction k with
  | zero => intro _; simp [total]
  | succ k ih =>
    intro hk
    rw [total_succ (by omega)]
    have := ih (by omega)
    have := h _ (nth_mem (xs := ls) (i := k) (by omega))
    omega

/-! ### The count of long parking functions -/
def prodLong (ls : List Int) : Nat → Int
  | 0 => 1
  | i + 1 => if i = 0 then 1 else prodLong ls i * (total (ls.take i) + ls.length - i + 1)
theorem prodLong_one (ls : List Int) : prodLong ls 1 = 1 := by simp [prodLong]
theorem prodLong_succ (ls : List Int) {i : Nat} (h : 1 ≤ i) : prodLong ls (i + 1) = prodLong ls i * (total (ls.take i) + ls.length - i + 1) := by
  rw [prodLong, if_neg (by omega)]
theorem factor_bounds {ls : List Int} (h : lenB ls = true) {i : Nat} (hi : i ≤ ls.length) : 0 ≤ total (ls.take i) ∧ total (ls.take i) ≤ 12 ∧ 1 ≤ total (ls.take i) + ls.length - i + 1 ∧ total (ls.take i) + ls.length - i + 1 ≤ 21 := by
  obtain ⟨h1, h2, h3⟩ := lenB_iff.1 h
  have := total_lens (fun x hx => by have := h2 x hx; omega) i hi
  omega
theorem prodLong_bounds {ls : List Int} (h : lenB ls = true) : ∀ i, i ≤ ls.length → 1 ≤ prodLong ls i ∧ prodLong ls i ≤ 21 ^ i
  | 0, _ => by simp [prodLong]
  | i + 1, hi => by
    obtain ⟨h1, h2⟩ := prodLong_bounds h i (by omega)
    rw [prodLong]
    split
    · rename_i e; subst e; simp
    · obtain ⟨_, _, f1, f2⟩ := factor_bounds h (i := i) (by omega)
      generalize total (ls.take i) + ls.length - i + 1 = f at *
      constructor
      · have := Int.mul_le_mul h1 f1 (by omega) (by omega)
        omega
      · have := Int.mul_le_mul h2 f2 (by omega) (by exact Int.pow_nonneg (by omega))
        rw [Int.pow_succ]
        exact this
theorem prodLong_le {ls : List Int} (h : lenB ls = true) {i : Nat} (hi : i ≤ ls.length) : 1 ≤ prodLong ls i ∧ prodLong ls i ≤ 37822859361 := by
  obtain ⟨h1, h2⟩ := prodLong_bounds h i hi
  obtain ⟨h3, _⟩ := lenB_iff.1 h
  refine ⟨h1, Int.le_trans h2 ?_⟩
  have : (21 : Nat) ^ i ≤ 21 ^ 8 := Nat.pow_le_pow_right (by omega) (by omega)
  have e : ((21 : Int) ^ i) = (((21 : Nat) ^ i : Nat) : Int) := by simp
  rw [e]
  have : (21 : Nat) ^ 8 = 37822859361 := by decide
  omega
def countLongOf (ls : List Int) : Int × Bool := if lenB ls then (prodLong ls ls.length, true) else (0, false)

/-! ### Stretched lists -/
/-- The lengths of the first k cars that stand on places less than x. -/
def strSum (order ls : List Int) (x : Int) : Nat → Int
  | 0 => 0
  | k + 1 => strSum order ls x k + if nth order k < x then nth ls k else 0
theorem strSum_bounds {order ls : List Int} (h : ∀ x ∈ ls, 0 ≤ x) (x : Int) : ∀ k, k ≤ ls.length → 0 ≤ strSum order ls x k ∧ strSum order ls x k ≤ total (ls.take k)
  | 0, _ => by simp [strSum, total]
  | k + 1, hk => by
    obtain ⟨h1, h2⟩ := strSum_bounds (order := order) h x k (by omega)
    have := h _ (nth_mem (xs := ls) (i := k) (by omega))
    rw [strSum, total_succ (by omega)]
    split <;> omega
def stretch (xs ls : List Int) : List Int := xs.map fun x => strSum (drive xs.length xs) ls x ls.length
theorem length_stretch (xs ls : List Int) : (stretch xs ls).length = xs.length := by simp [stretch]
theorem stretch_take {xs ls : List Int} {k : Nat} (h : k < xs.length) : (stretch xs ls).take (k + 1) = (stretch xs ls).take k ++ [strSum (drive xs.length xs) ls (nth xs k) ls.length] := by
  rw [take_succ_nth (by rw [length_stretch]; exact h)]
  congr 2
  simp [stretch, nth, h]
def stretchOf (xs ls : List Int) : List Int × Bool := if isPark xs && (lenB ls && decide (xs.length = ls.length)) then (stretch xs ls, true) else ([], false)
end Go.Proofs.YtfjeadnakbdkjaaGreat

namespace Go.Proofs.YtfjeadnakbdkjaaGreat
open Go.RowKit

/-- All lists of n numbers less than n. -/
def allTried (n : Nat) : List (List Int) := lex (List.replicate n 0) (List.replicate n ((n : Int) - 1))

theorem nth_rep {n i : Nat} {x : Int} (h : i < n) : nth (List.replicate n x) i = x := by simp [nth, h]
theorem tried_seq {n : Nat} (hn : 1 ≤ n) : SeqTo (fun ys => stepC ys (List.replicate n 0) (List.replicate n ((n : Int) - 1))) (List.replicate n 0) (allTried n) (List.replicate n 0, true) :=
  lex_ne _ _ (fun i hi => by
    simp at hi
    rw [nth_rep hi, nth_rep hi]
    omega) (by simp)
theorem length_lexRep (n : Nat) (hn : 1 ≤ n) : ∀ k, (lex (List.replicate k 0) (List.replicate k ((n : Int) - 1))).length = n ^ k
  | 0 => by simp [lex]
  | k + 1 => by
    rw [List.replicate_succ, List.replicate_succ, length_lex_cons, length_lexRep n hn k, Nat.pow_succ, Nat.mul_comm]
    congr 1
    unfold span
    omega
theorem length_allTried {n : Nat} (hn : 1 ≤ n) : (allTried n).length = n ^ n := length_lexRep n hn n


theorem upFrom_mem {x : Int} : ∀ {k : Nat} {l : Int}, x ∈ upFrom l k → l ≤ x ∧ x < l + k
  | 0, _, h => by simp [upFrom] at h
  | k + 1, l, h => by
    rw [upFrom, List.mem_cons] at h
    rcases h with rfl | h
    · omega
    · have := upFrom_mem h; omega
theorem lexRep_mem {n : Nat} {zs : List Int} : ∀ {k : Nat}, zs ∈ lex (List.replicate k 0) (List.replicate k ((n : Int) - 1)) → zs.length = k ∧ ∀ x ∈ zs, 0 ≤ x ∧ x ≤ (n : Int) - 1 := by
  intro k
  induction k generalizing zs with
  | zero => intro h; simp [lex] at h; subst h; simp
  | succ k ih =>
    intro h
    rw [List.replicate_succ, List.replicate_succ, lex, List.mem_flatMap] at h
    obtain ⟨x, hx, h⟩ := h
    rw [List.mem_map] at h
    obtain ⟨ys, hy, rfl⟩ := h
    obtain ⟨h1, h2⟩ := ih hy
    have h3 := upFrom_mem hx
    unfold span at h3
    refine ⟨by simp [h1], fun z hz => ?_⟩
    rw [List.mem_cons] at hz
    rcases hz with rfl | hz
    · omega
    · exact h2 z hz
theorem tried_get {n k : Nat} (hn : 1 ≤ n) (hk : k < n ^ n) : (allTried n).getD k [] ∈ allTried n := by
  have h := length_allTried hn
  have hk' : k < (allTried n).length := by omega
  rw [List.getD_eq_getElem?_getD, List.getElem?_eq_getElem hk']
  exact List.getElem_mem hk'
/-- What is known of one of them. -/
theorem tried_good {n k : Nat} (hn : 1 ≤ n) (hn5 : n ≤ 5) (hk : k < n ^ n) : ((allTried n).getD k []).length = n ∧ good ((allTried n).getD k []) n = true := by
  obtain ⟨h1, h2⟩ := lexRep_mem (n := n) (k := n) (tried_get hn hk)
  exact ⟨h1, good_iff.2 ⟨by omega, by omega, h2⟩⟩

/-- How many of the first k lists meet a test. -/
def cntTo (f : List Int → Bool) (L : List (List Int)) (k : Nat) : Nat := (L.take k).countP f
theorem cntTo_succ {f : List Int → Bool} {L : List (List Int)} {k : Nat} (h : k < L.length) : cntTo f L (k + 1) = cntTo f L k + if f (L.getD k []) = true then 1 else 0 := by
  unfold cntTo
  rw [List.take_succ_eq_append_getElem h, List.countP_append]
  have : L.getD k [] = L[k] := by simp [h]
  rw [this]
  simp [List.countP_cons]
theorem cntTo_le (f : List Int → Bool) (L : List (List Int)) (k : Nat) : cntTo f L k ≤ k := by
  unfold cntTo
  exact Nat.le_trans List.countP_le_length (by simp; omega)

/-- Do all cars park that look back so many places? -/
def backOk (n m : Nat) (l : List Int) : Bool := !hasB (backs n m l) (-1)
def countBackOf (n k : Int) : Int × Bool := if inB n 1 5 && inB k 0 8 then ((cntTo (backOk n.toNat k.toNat) (allTried n.toNat) (n.toNat ^ n.toNat) : Int), true) else (0, false)
end Go.Proofs.YtfjeadnakbdkjaaGreat

namespace Go.Proofs.YtfjeadnakbdkjaaGreat
open Go.RowKit

/-- A node that is left, and occurs no more. -/
def uf (w g : List Int) (k : Nat) (v : Int) : Bool := !hasB g v && !hasB (w.drop k) v
theorem uf_iff {w g : List Int} {k : Nat} {v : Int} : uf w g k v = true ↔ v ∉ g ∧ v ∉ w.drop k := by simp [uf, hasB]
def untG (w : List Int) : Nat → List Int
  | 0 => []
  | k + 1 => untG w k ++ [grt (uf w (untG w k) k) (w.length + 1)]
theorem length_untG (w : List Int) : ∀ k, (untG w k).length = k
  | 0 => rfl
  | k + 1 => by simp [untG, length_untG w k]
/-- The numbers are those of a word of a tree with n nodes. -/
structure Word (w : List Int) (n : Nat) : Prop where
  len : w.length + 1 = n
  le : n ≤ 8
  nthB : ∀ i, i < w.length → 0 ≤ nth w i ∧ nth w i ≤ (n : Int)
structure UnG (w g : List Int) (n k : Nat) : Prop where
  len : g.length = k
  mem : ∀ v ∈ g, (1 : Int) ≤ v ∧ v ≤ n
  nodup : g.Nodup
  off : ∀ v ∈ g, v ∉ w.drop k
theorem unG_nil (w : List Int) (n : Nat) : UnG w [] n 0 := ⟨rfl, by simp, by simp, by simp⟩
theorem unG_step {w g : List Int} {n k : Nat} (hw : Word w n) (hg : UnG w g n k) (hk : k < w.length) :
    ∃ x : Nat, 1 ≤ x ∧ x ≤ n ∧ uf w g k x = true ∧ grt (uf w g k) n = x ∧ (∀ v : Nat, x < v → v ≤ n → uf w g k v = false) ∧ UnG w (g ++ [(x : Int)]) n (k + 1) := by
  have hl := hw.len
  obtain ⟨v, h1, h2, h3⟩ := left_ex (n := n) (g := g ++ w.drop k) (by simp [hg.len]; omega)
  simp only [List.mem_append, not_or] at h3
  obtain ⟨x, q1, q2, q3, q4, q5⟩ := grt_ex n ⟨v, h1, h2, uf_iff.2 h3⟩
  obtain ⟨q6, q7⟩ := uf_iff.1 q3
  have hsub : ∀ v : Int, v ∈ w.drop (k + 1) → v ∈ w.drop k := fun v hv => by
    rw [drop_nth hk]; simp [hv]
  refine ⟨x, q1, q2, q3, q4, q5, ⟨by simp [hg.len], fun v hv => ?_, ?_, fun v hv hd => ?_⟩⟩
  · rcases List.mem_append.1 hv with hv | hv
    · exact hg.mem v hv
    · simp at hv; subst hv; omega
  · rw [List.nodup_append]
    exact ⟨hg.nodup, by simp, fun a ha b hb => by simp at hb; subst hb; rintro rfl; exact q6 ha⟩
  · rcases List.mem_append.1 hv with hv | hv
    · exact hg.off v hv (hsub v hd)
    · simp at hv; subst hv; exact q7 (hsub _ hd)
theorem untG_is {w : List Int} {n : Nat} (hw : Word w n) : ∀ k, k ≤ w.length → UnG w (untG w k) n k
  | 0, _ => unG_nil w n
  | k + 1, h => by
    obtain ⟨x, _, _, _, q, _, r⟩ := unG_step hw (untG_is hw k (by omega)) (by omega)
    simp only [untG]
    rw [hw.len, q]
    exact r
/-- The parents, as far as they are laid. -/
def unTo (w : List Int) : Nat → List Int
  | 0 => List.replicate (w.length + 1) 0
  | k + 1 => (unTo w k).set ((grt (uf w (untG w k) k) (w.length + 1)).toNat - 1) (nth w k)
def unOf (w : List Int) : List Int := unTo w w.length
theorem length_unTo (w : List Int) : ∀ k, (unTo w k).length = w.length + 1
  | 0 => by simp [unTo]
  | k + 1 => by simp [unTo, length_unTo w k]
theorem unTo_is {w : List Int} {n : Nat} (hw : Word w n) : ∀ k, k ≤ w.length →
    (∀ j, j < k → par (unTo w k) (nth (untG w k) j) = nth w j) ∧ ∀ v : Int, 1 ≤ v → v ≤ n → v ∉ untG w k → par (unTo w k) v = 0
  | 0, _ => ⟨by omega, fun v _ _ _ => by unfold par unTo; rw [nth_replicate0']⟩
  | k + 1, h => by
    obtain ⟨ih1, ih2⟩ := unTo_is hw k (by omega)
    have hg := untG_is hw k (by omega)
    obtain ⟨x, q1, q2, q3, q4, _, r⟩ := unG_step hw hg (by omega)
    have hx := (uf_iff.1 q3).1
    have hl := hw.len
    have e : untG w (k + 1) = untG w k ++ [(x : Int)] := by simp only [untG]; rw [hl, q4]
    have e2 : unTo w (k + 1) = (unTo w k).set (x - 1) (nth w k) := by simp only [unTo]; rw [hl, q4, Int.toNat_natCast]
    have hs : ∀ v : Int, 1 ≤ v → v ≤ n → par (unTo w (k + 1)) v = if v = x then nth w k else par (unTo w k) v := fun v v1 v2 => by
      unfold par
      rw [e2, nth_set (by rw [length_unTo]; omega)]
      by_cases ee : v = x
      · rw [if_pos (by omega), if_pos ee]
      · rw [if_neg (by omega), if_neg ee]
    refine ⟨fun j hj => ?_, fun v v1 v2 hv => ?_⟩
    · rw [e]
      by_cases ej : j = k
      · subst ej
        have : nth (untG w j ++ [(x : Int)]) j = x := by
          have := nth_append_at (xs := untG w j) (y := (x : Int))
          rwa [length_untG] at this
        rw [this, hs _ (by omega) (by omega), if_pos rfl]
      · have hjk : j < (untG w k).length := by rw [length_untG]; omega
        rw [nth_left hjk]
        have hm := hg.mem _ (nth_mem hjk)
        have hne : ¬ nth (untG w k) j = (x : Int) := fun hh => hx (by rw [← hh]; exact nth_mem hjk)
        rw [hs _ hm.1 hm.2, if_neg hne, ih1 j (by omega)]
    · rw [e] at hv
      simp only [List.mem_append, List.mem_singleton, not_or] at hv
      rw [hs v v1 v2, if_neg hv.2, ih2 v v1 v2 hv.1]

/-- The degrees of those that are left. -/
def degW (w g : List Int) (k : Nat) (v : Nat) : Nat := if hasB g v = true then 0 else (if v = 0 then 0 else 1) + (w.drop k ++ [0]).count (v : Int)
theorem degW_nil (w : List Int) (v : Nat) : degW w [] 0 v = deg (w ++ [0]) v := by simp [degW, deg, hasB]
theorem degW_leaf {w g : List Int} {k v : Nat} (h : 1 ≤ v) : degW w g k v = 1 ↔ uf w g k v = true := by
  rw [uf_iff]
  unfold degW
  by_cases e : (v : Int) ∈ g
  · simp [hasB, e]
  · have h0 : ¬ v = 0 := by omega
    have h1 : ¬ (0 : Int) = (v : Int) := by omega
    have h2 : List.count (v : Int) [0] = 0 := by rw [List.count_eq_zero]; simp; omega
    rw [List.count_append, h2]
    simp [hasB, e, h0, List.count_eq_zero]
theorem degW_step {w g : List Int} {n k x p v : Nat} (hg : UnG w g n k) (hk : k < w.length) (h1 : 1 ≤ x) (h3 : uf w g k x = true) (hp : nth w k = (p : Int)) :
    degW w (g ++ [(x : Int)]) (k + 1) v = if v = p then degW w g k p - 1 else if v = x then 0 else degW w g k v := by
  obtain ⟨q1, q2⟩ := uf_iff.1 h3
  have hd := drop_nth hk
  have hpd : (p : Int) ∈ w.drop k := by rw [hd, hp]; simp
  have hpg : (p : Int) ∉ g := fun h => hg.off _ h hpd
  have hpx : ¬ (p : Int) = (x : Int) := fun e => q2 (e ▸ hpd)
  have hs : (w.drop k ++ [0]).count (v : Int) = (w.drop (k + 1) ++ [0]).count (v : Int) + if v = p then 1 else 0 := by
    rw [hd, hp, List.cons_append, List.count_cons]
    congr 1
    by_cases e : v = p
    · subst e; simp
    · have : ¬ (p : Int) = (v : Int) := by omega
      simp [e, this]
  by_cases e : v = p
  · subst e
    rw [if_pos rfl] at hs ⊢
    simp only [degW, hasB, List.mem_append, List.mem_singleton, hpg, hpx, or_false, decide_false, Bool.false_eq_true, if_false]
    omega
  · rw [if_neg e]
    rw [if_neg e] at hs
    by_cases e2 : v = x
    · subst e2; simp [degW, hasB]
    · rw [if_neg e2]
      have e3 : ¬ (v : Int) = (x : Int) := by omega
      simp only [degW, hasB, List.mem_append, List.mem_singleton, e3, or_false]
      rw [hs]; simp
theorem degW_pos {w g : List Int} {n k x p : Nat} (hw : Word w n) (hg : UnG w g n k) (hk : k < w.length) (h3 : uf w g k x = true) (hp : nth w k = (p : Int)) : 1 ≤ degW w g k p ∧ p ≠ x ∧ p ≤ n := by
  obtain ⟨q1, q2⟩ := uf_iff.1 h3
  have hd := drop_nth hk
  have hpd : (p : Int) ∈ w.drop k := by rw [hd, hp]; simp
  have hpg : (p : Int) ∉ g := fun h => hg.off _ h hpd
  have hpx : p ≠ x := fun e => q2 (e ▸ hpd)
  have hb := hw.nthB k hk
  refine ⟨?_, hpx, by omega⟩
  have : 0 < (w.drop k ++ [0]).count (p : Int) := List.count_pos_iff.2 (by simp [hpd])
  simp only [degW, hasB, hpg, decide_false, Bool.false_eq_true, if_false]
  omega
theorem degW_le {w g : List Int} {k v n : Nat} (hw : Word w n) : degW w g k v ≤ 9 := by
  have h1 : (w.drop k ++ [0]).count (v : Int) ≤ (w.drop k ++ [0]).length := List.count_le_length
  have h2 := hw.len
  have h3 := hw.le
  simp only [List.length_append, List.length_drop, List.length_singleton] at h1
  unfold degW
  split
  · omega
  · split <;> omega

/-! ### The edges of a word, and how they are followed from the root -/
/-- The ends of the edges, the lower ones and the upper ones. -/
structure Edges (ps es os : List Int) (n : Nat) : Prop where
  plen : ps.length = n
  elen : es.length = n
  olen : os.length = n
  mem : ∀ i, i < n → 1 ≤ nth es i ∧ nth es i ≤ (n : Int)
  all : ∀ v : Int, 1 ≤ v → v ≤ n → v ∈ es
  up : ∀ i, i < n → nth os i = par ps (nth es i)
  later : ∀ i, i < n → nth os i = 0 ∨ ∃ j, i < j ∧ j < n ∧ nth os i = nth es j
theorem full_of {n : Nat} {es : List Int} (hl : es.length = n) (hn : es.Nodup) (hb : ∀ v ∈ es, 1 ≤ v ∧ v ≤ (n : Int)) : ∀ v : Int, 1 ≤ v → v ≤ n → v ∈ es := fun v h1 h2 => by
  apply Classical.byContradiction
  intro hv
  have := nodup_le n ((v :: es).map fun x => x - 1) (by
    rw [List.Nodup, List.pairwise_map]
    refine (List.nodup_cons.2 ⟨hv, hn⟩ : (v :: es).Nodup).imp ?_
    intro a b h e
    omega) (fun x hx => by
    obtain ⟨y, hy, rfl⟩ := List.mem_map.1 hx
    rcases List.mem_cons.1 hy with rfl | hy
    · omega
    · have := hb y hy; omega)
  simp at this
  omega
theorem edges_of {w : List Int} {n : Nat} (hw : Word w n) {last : Int} (h1 : 1 ≤ last) (h2 : last ≤ n) (h3 : last ∉ untG w w.length) : Edges (unOf w) (untG w w.length ++ [last]) (w ++ [0]) n := by
  have hl := hw.len
  have hg := untG_is hw w.length (Nat.le_refl _)
  have hel : (untG w w.length ++ [last]).length = n := by simp [length_untG]; omega
  have hem : ∀ v ∈ untG w w.length ++ [last], 1 ≤ v ∧ v ≤ (n : Int) := fun v hv => by
    rcases List.mem_append.1 hv with hv | hv
    · exact hg.mem v hv
    · simp at hv; omega
  have hnd : (untG w w.length ++ [last]).Nodup := by
    rw [List.nodup_append]
    exact ⟨hg.nodup, by simp, fun a ha b hb => by simp at hb; subst hb; rintro rfl; exact h3 ha⟩
  have hfull := full_of hel hnd hem
  obtain ⟨u1, u2⟩ := unTo_is hw w.length (Nat.le_refl _)
  refine ⟨by simp [unOf, length_unTo]; omega, hel, by simp; omega, fun i hi => hem _ (nth_mem (by omega)), hfull, fun i hi => ?_, fun i hi => ?_⟩
  · by_cases e : i < w.length
    · rw [nth_left e, nth_left (by rw [length_untG]; exact e)]
      exact (u1 i e).symm
    · obtain rfl : i = w.length := by omega
      have e1 : nth (untG w w.length ++ [last]) w.length = last := by
        have := nth_append_at (xs := untG w w.length) (y := last)
        rwa [length_untG] at this
      rw [nth_append_at, e1]
      exact (u2 last h1 h2 h3).symm
  · by_cases e : i < w.length
    · rw [nth_left e]
      by_cases e0 : nth w i = 0
      · exact .inl e0
      · have hb := hw.nthB i e
        obtain ⟨j, hj, ej⟩ := mem_nth (hfull (nth w i) (by omega) hb.2)
        refine .inr ⟨j, ?_, by omega, ej.symm⟩
        apply Classical.byContradiction
        intro hij
        have hji : j ≤ i := by omega
        have hsub : nth (untG w w.length ++ [last]) j ∈ untG w (i + 1) := by
          have hp : ∀ m k, ∃ t, untG w (k + m) = untG w k ++ t := by
            intro m
            induction m with
            | zero => exact fun k => ⟨[], by simp⟩
            | succ m ih =>
              intro k
              obtain ⟨t, ht⟩ := ih k
              exact ⟨t ++ [grt (uf w (untG w (k + m)) (k + m)) (w.length + 1)], by rw [← Nat.add_assoc, ← List.append_assoc, ← ht]; rfl⟩
          obtain ⟨t, ht⟩ := hp (w.length - (i + 1)) (i + 1)
          rw [show i + 1 + (w.length - (i + 1)) = w.length by omega] at ht
          rw [nth_left (by rw [length_untG]; omega), ht, nth_left (by rw [length_untG]; omega)]
          exact nth_mem (by rw [length_untG]; omega)
        rw [ej] at hsub
        have hgi := untG_is hw i (by omega)
        obtain ⟨x, q1, q2, q3, q4, _, r⟩ := unG_step hw hgi e
        have e2 : untG w (i + 1) = untG w i ++ [(x : Int)] := by simp only [untG]; rw [hl, q4]
        have hd : nth w i ∈ w.drop i := by rw [drop_nth e]; simp
        rw [e2] at hsub
        rcases List.mem_append.1 hsub with hs | hs
        · exact hgi.off _ hs hd
        · simp at hs; rw [hs] at hd; exact (uf_iff.1 q3).2 hd
    · obtain rfl : i = w.length := by omega
      exact .inl nth_append_at
structure Rch (ps es os R ys : List Int) (n k i : Nat) : Prop where
  nodup : R.Nodup
  first : 0 ∈ R
  mem : ∀ v ∈ R, (0 : Int) ≤ v ∧ v ≤ n
  closed : ∀ v ∈ R, v = 0 ∨ par ps v ∈ R
  ylen : ys.length = n
  ys : ∀ v, v < n → nth ys v = if ((v : Int) + 1) ∈ R then nth ps v else 0
  done : ∀ j, j < n → (∃ q, q < k ∧ q < R.length ∧ nth os j = nth R q) ∨ (j < i ∧ nth os j = nth R k) → nth es j ∈ R
theorem rch_zero {ps es os : List Int} {n : Nat} : Rch ps es os [0] (List.replicate n 0) n 0 0 :=
  ⟨by simp, by simp, by simp, by simp, by simp, fun v _ => by rw [if_neg (by simp; omega), nth_replicate0'], fun j _ h => by
    rcases h with ⟨q, h, _⟩ | ⟨h, _⟩ <;> omega⟩
theorem rch_len {ps es os R ys : List Int} {n k i : Nat} (h : Rch ps es os R ys n k i) : R.length ≤ n + 1 ∧ 0 < R.length :=
  ⟨nodup_le _ _ h.nodup fun v hv => by have := h.mem v hv; omega, List.length_pos_of_mem h.first⟩
/-- An edge that leads on from what was reached. -/
theorem rch_new {ps es os R ys : List Int} {n k i : Nat} (he : Edges ps es os n) (h : Rch ps es os R ys n k i) (hi : i < n) (hk : k < R.length) (ho : nth os i = nth R k) (hn : nth es i ∉ R) :
    Rch ps es os (R ++ [nth es i]) (ys.set ((nth es i).toNat - 1) (nth R k)) n k (i + 1) := by
  have hm := he.mem i hi
  have hu := he.up i hi
  refine ⟨?_, by simp [h.first], fun v hv => ?_, fun v hv => ?_, by simp [h.ylen], fun v hv => ?_, fun j hj hd => ?_⟩
  · rw [List.nodup_append]
    exact ⟨h.nodup, by simp, fun a ha b hb => by simp at hb; subst hb; rintro rfl; exact hn ha⟩
  · rcases List.mem_append.1 hv with hv | hv
    · exact h.mem v hv
    · simp at hv; subst hv; omega
  · rcases List.mem_append.1 hv with hv | hv
    · rcases h.closed v hv with h0 | h0
      · exact .inl h0
      · exact .inr (by simp [h0])
    · simp at hv; subst hv
      refine .inr ?_
      rw [← hu, ho]
      simp [nth_mem hk]
  · rw [nth_set (by rw [h.ylen]; omega), h.ys v hv]
    by_cases e : (nth es i).toNat - 1 = v
    · have e2 : (v : Int) + 1 = nth es i := by omega
      rw [if_pos e, e2, if_pos (by simp), ← ho, hu]
      unfold par
      rw [e]
    · have e2 : ¬ (v : Int) + 1 = nth es i := by omega
      rw [if_neg e]
      simp only [List.mem_append, List.mem_singleton, e2, or_false]
  · by_cases e : j = i
    · subst e; simp
    · have : nth es j ∈ R := by
        apply h.done j hj
        rcases hd with ⟨q, q1, q2, q3⟩ | ⟨q1, q2⟩
        · have hq : q < R.length := by omega
          exact .inl ⟨q, q1, hq, by rw [q3, nth_left hq]⟩
        · exact .inr ⟨by omega, by rw [q2, nth_left hk]⟩
      simp [this]
/-- An edge that leads nowhere new. -/
theorem rch_old {ps es os R ys : List Int} {n k i : Nat} (h : Rch ps es os R ys n k i) (ho : nth os i = nth R k → nth es i ∈ R) : Rch ps es os R ys n k (i + 1) := by
  refine ⟨h.nodup, h.first, h.mem, h.closed, h.ylen, h.ys, fun j hj hd => ?_⟩
  rcases hd with hd | ⟨h1, h2⟩
  · exact h.done j hj (.inl hd)
  · by_cases e : j = i
    · subst e; exact ho h2
    · exact h.done j hj (.inr ⟨by omega, h2⟩)
theorem rch_next {ps es os R ys : List Int} {n k : Nat} (h : Rch ps es os R ys n k n) (hk : k < R.length) : Rch ps es os R ys n (k + 1) 0 := by
  refine ⟨h.nodup, h.first, h.mem, h.closed, h.ylen, h.ys, fun j hj hd => ?_⟩
  rcases hd with ⟨q, h1, h2, h3⟩ | ⟨h1, _⟩
  · by_cases e : q = k
    · subst e; exact h.done j hj (.inr ⟨hj, h3⟩)
    · exact h.done j hj (.inl ⟨q, by omega, h2, h3⟩)
  · omega
theorem rch_all {ps es os R ys : List Int} {n k : Nat} (he : Edges ps es os n) (h : Rch ps es os R ys n k 0) (hk : R.length ≤ k) : ys = ps := by
  have hin : ∀ d j, n - j = d → j < n → nth es j ∈ R := by
    intro d
    induction d using Nat.strongRecOn with
    | _ d ih =>
      intro j hd hj
      have ho : nth os j ∈ R := by
        rcases he.later j hj with h0 | ⟨j', h1, h2, h3⟩
        · rw [h0]; exact h.first
        · rw [h3]; exact ih (n - j') (by omega) j' rfl h2
      obtain ⟨q, hq, e⟩ := mem_nth ho
      exact h.done j hj (.inl ⟨q, by omega, hq, e.symm⟩)
  refine ext_nth (by rw [h.ylen, he.plen]) fun v hv => ?_
  rw [h.ylen] at hv
  obtain ⟨j, hj, e⟩ := mem_nth (he.all ((v : Int) + 1) (by omega) (by omega))
  rw [h.ys v hv, if_pos (by rw [← e]; exact hin _ j rfl (by rw [he.elen] at hj; exact hj))]
/-- Edges of this kind are those of a tree. -/
theorem edges_tree {ps es os : List Int} {n : Nat} (he : Edges ps es os n) (h8 : n ≤ 8) : Tree ps n := by
  have hup : ∀ d j, n - j = d → j < n → up ps (nth es j) d = 0 := by
    intro d
    induction d using Nat.strongRecOn with
    | _ d ih =>
      intro j hd hj
      have hm := he.mem j hj
      have e1 : up ps (nth es j) 1 = nth os j := by rw [he.up j hj]; simp [up, show nth es j ≠ 0 by omega]
      rcases he.later j hj with h0 | ⟨j', h1, h2, h3⟩
      · exact up_zero (k := 1) (by rw [e1, h0]) d (by omega)
      · have h4 := ih (n - j') (by omega) j' rfl h2
        have h5 := up_add ps (nth es j) 1 (n - j')
        rw [e1, h3, h4] at h5
        exact up_zero h5 d (by omega)
  have hb : ∀ v : Nat, v < n → (0 ≤ nth ps v ∧ nth ps v ≤ (n : Int)) ∧ up ps ((v : Int) + 1) n = 0 := fun v hv => by
    obtain ⟨j, hj, e⟩ := mem_nth (he.all ((v : Int) + 1) (by omega) (by omega))
    rw [he.elen] at hj
    have h1 := he.up j hj
    rw [e] at h1
    have e2 : par ps ((v : Int) + 1) = nth ps v := by unfold par; rw [show ((v : Int) + 1).toNat - 1 = v by omega]
    rw [e2] at h1
    refine ⟨?_, by rw [← e]; exact up_zero (hup _ j rfl hj) n (by omega)⟩
    rcases he.later j hj with h0 | ⟨j', _, h2, h3⟩
    · omega
    · have := he.mem j' h2
      omega
  exact ⟨he.plen, h8, fun i hi => (hb i hi).1, fun i hi => (hb i hi).2⟩
theorem unOf_tree {w : List Int} {n : Nat} (hw : Word w n) : Tree (unOf w) n := by
  obtain ⟨v, h1, h2, h3⟩ := left_ex (n := n) (g := untG w w.length) (by rw [length_untG]; have := hw.len; omega)
  exact edges_tree (edges_of hw (by omega) (by omega) h3) hw.le
theorem length_unOf (w : List Int) : (unOf w).length = w.length + 1 := length_unTo w _
end Go.Proofs.YtfjeadnakbdkjaaGreat

namespace Go.Proofs.YtfjeadnakbdkjaaGreat
open Go.RowKit

/-- The last c digits of a number. -/
def dg (B N : Nat) : Nat → List Int
  | 0 => []
  | c + 1 => ((N / B ^ c % B : Nat) : Int) :: dg B N c
theorem length_dg (B N : Nat) : ∀ c, (dg B N c).length = c
  | 0 => rfl
  | c + 1 => by simp [dg, length_dg B N c]
/-- All words of m numbers of at most m + 1. -/
def wordsL (m : Nat) : List (List Int) := lex (List.replicate m 0) (List.replicate m ((m : Int) + 1))
theorem words_dg : ∀ m, m < 5 → wordsL m = (List.range ((m + 2) ^ m)).map fun k => dg (m + 2) k m := by decide +kernel
theorem words_len {m : Nat} (hm : m < 5) : (wordsL m).length = (m + 2) ^ m := by rw [words_dg m hm]; simp
theorem words_get {m k : Nat} (hm : m < 5) (hk : k < (m + 2) ^ m) : (wordsL m).getD k [] = dg (m + 2) k m := by
  rw [words_dg m hm]
  simp [hk]
theorem words_seq (m : Nat) : SeqTo (fun ys => stepC ys (List.replicate m 0) (List.replicate m ((m : Int) + 1))) (List.replicate m 0) (wordsL m) (List.replicate m 0, true) :=
  lex_ne _ _ (fun i hi => by
    simp at hi
    rw [nth_rep hi, nth_rep hi]
    omega) (by simp)
theorem dg_bound {B N : Nat} (hB : 0 < B) : ∀ c, ∀ x ∈ dg B N c, 0 ≤ x ∧ x < B
  | 0, x, h => by simp [dg] at h
  | c + 1, x, h => by
    rw [dg, List.mem_cons] at h
    rcases h with rfl | h
    · have := Nat.mod_lt (N / B ^ c) hB; omega
    · exact dg_bound hB c x h
theorem dg_word {m k : Nat} (hm : m < 5) : Word (dg (m + 2) k m) (m + 1) := by
  refine ⟨by rw [length_dg], by omega, fun i hi => ?_⟩
  have := dg_bound (B := m + 2) (N := k) (by omega) m _ (nth_mem hi)
  omega
def allTrees (m : Nat) : List (List Int) := (wordsL m).map unOf
def allTr (n : Int) : List (List Int) × Bool := if inB n 1 5 then (allTrees (n.toNat - 1), true) else ([], false)
theorem allTrees_take {m k : Nat} (hm : m < 5) (hk : k < (m + 2) ^ m) : (allTrees m).take (k + 1) = (allTrees m).take k ++ [unOf (dg (m + 2) k m)] := by
  have hl : k < (allTrees m).length := by simp [allTrees, words_len hm, hk]
  rw [List.take_succ_eq_append_getElem hl]
  congr 2
  have hk' : k < (wordsL m).length := by rw [words_len hm]; exact hk
  have := words_get hm hk
  simp [hk'] at this
  simp [allTrees, this]
theorem length_allTrees {m : Nat} (hm : m < 5) : (allTrees m).length = (m + 2) ^ m := by simp [allTrees, words_len hm]
theorem cnt_words (m : Nat) : (m + 2) ^ m = if m + 1 = 0 then 1 else (m + 1 + 1) ^ (m + 1 - 1) := by simp
end Go.Proofs.YtfjeadnakbdkjaaGreat

namespace Go.Proofs.YtfjeadnakbdkjaaGreat
open Go.RowKit

/-- How often a number occurs. -/
def occ5 (s : List Int) (v : Int) : Int := (s.count v : Int)
theorem occ5_succ {s : List Int} {k : Nat} (h : k < s.length) (v : Int) : occ5 (s.take (k + 1)) v = occ5 (s.take k) v + if nth s k = v then 1 else 0 := by
  unfold occ5
  rw [take_succ_nth h, List.count_append, List.count_singleton]
  simp only [beq_iff_eq]
  split <;> omega
/-- The counts of the first k. -/
def Hist5 (ts : List Int) (m k : Nat) (zs : List Int) : Prop := ∀ d : Nat, d < m → nth zs d = occ5 (ts.take k) d
theorem hist5_first (ts : List Int) (m : Nat) : Hist5 ts m 0 (List.replicate m 0) := fun d hd => by
  rw [nth_rep hd]
  simp [occ5]
theorem hist5_step {ts zs : List Int} {m k d : Nat} (h : Hist5 ts m k zs) (hk : k < ts.length) (hd : nth ts k = (d : Int)) (hm : d < m) (hl : zs.length = m) : Hist5 ts m (k + 1) (zs.set d (nth zs d + 1)) := fun e he => by
  rw [nth_set (by omega), occ5_succ hk, hd]
  by_cases x : d = e
  · subst x
    rw [if_pos rfl, if_pos rfl, h d hm]
  · rw [if_neg x, if_neg (by omega), h e he, Int.add_zero]
theorem hist5_le {ts zs : List Int} {m k d : Nat} (h : Hist5 ts m k zs) (hd : d < m) (hk : k ≤ ts.length) : 0 ≤ nth zs d ∧ nth zs d ≤ ts.length := by
  rw [h d hd]
  unfold occ5
  have := List.count_le_length (a := (d : Int)) (l := ts.take k)
  simp at this
  omega

/-- The defects of all lists. -/
def defTs (n : Nat) : List Int := (allTried n).map fun l => (fails (drive n l) : Int)
def byDefect (n : Nat) : List Int := (List.range n).map fun (d : Nat) => occ5 (defTs n) d
def byDefectOf (n : Int) : List Int × Bool := if inB n 1 5 then (byDefect n.toNat, true) else ([], false)
theorem length_defTs {n : Nat} (hn : 1 ≤ n) : (defTs n).length = n ^ n := by simp [defTs, length_allTried hn]
theorem nth_defTs {n k : Nat} (hn : 1 ≤ n) (hk : k < n ^ n) : nth (defTs n) k = (fails (drive n ((allTried n).getD k [])) : Int) := by
  have hk' : k < (allTried n).length := by rw [length_allTried hn]; exact hk
  simp [nth, defTs, hk']
/-- At least the first car parks. -/
theorem fails_lt {n : Nat} {l : List Int} (hn : 1 ≤ n) (hl : l.length = n) (hb : ∀ x ∈ l, 0 ≤ x ∧ x ≤ (n : Int) - 1) : fails (drive n l) < n := by
  have hd := length_drive (n : Int) l
  have h0 := drive_get (p := (n : Int)) (xs := l) (k := 0) (by omega)
  obtain ⟨x0, x1⟩ := hb _ (nth_mem (xs := l) (i := 0) (by omega))
  have hp := place_new (p := (n : Int)) (out := drive n (l.take 0)) (x := nth l 0) (by omega)
  rw [← h0] at hp
  have hpos : 0 ≤ nth (drive n l) 0 := by
    rcases hp with hp | hp
    · have h9 := place_of (p := (n : Int)) (out := drive n (l.take 0)) (Runs.refl _ _ (nth l 0)) (by simp [drive]) (by omega)
      rw [if_neg (by omega), ← h0] at h9
      omega
    · omega
  generalize drive n l = ys at *
  cases ys with
  | nil => simp at hd; omega
  | cons y ys =>
    rw [nth_cons_zero] at hpos
    have := fails_le ys
    have e : fails (y :: ys) = fails ys := by unfold fails; rw [List.countP_cons]; simp; omega
    rw [e]
    simp at hd
    omega
end Go.Proofs.YtfjeadnakbdkjaaGreat

namespace Go.Proofs.YtfjeadnakbdkjaaGreat
open Go.RowKit

theorem grt_congr {f g : Int → Bool} : ∀ {m : Nat}, (∀ v : Nat, 1 ≤ v → v ≤ m → f v = g v) → grt f m = grt g m
  | 0, _ => rfl
  | m + 1, h => by
    have h1 := h (m + 1) (by omega) (Nat.le_refl _)
    have h2 := grt_congr (f := f) (g := g) (m := m) (fun v a b => h v a (by omega))
    have h3 : f ((m : Int) + 1) = g ((m : Int) + 1) := by exact_mod_cast h1
    simp only [grt, h3, h2]
theorem untG_grows (w : List Int) (k : Nat) : ∀ m, ∃ t, untG w (k + m) = untG w k ++ t
  | 0 => ⟨[], by simp⟩
  | m + 1 => by
    obtain ⟨t, ht⟩ := untG_grows w k m
    exact ⟨t ++ [grt (uf w (untG w (k + m)) (k + m)) (w.length + 1)], by rw [← Nat.add_assoc, ← List.append_assoc, ← ht]; rfl⟩
theorem pruG_grows (w : List Int) (k : Nat) : ∀ m, ∃ t, pruG w (k + m) = pruG w k ++ t
  | 0 => ⟨[], by simp⟩
  | m + 1 => by
    obtain ⟨t, ht⟩ := pruG_grows w k m
    exact ⟨t ++ [grt (lf w (pruG w (k + m))) w.length], by rw [← Nat.add_assoc, ← List.append_assoc, ← ht]; rfl⟩
/-- What is left, by edges. -/
theorem lf_uf {ps es ws : List Int} {n k : Nat} (he : Edges ps es (ws ++ [0]) n) (hn : es.Nodup) (hw : ws.length + 1 = n) (hk : k ≤ ws.length) {v : Int} (h1 : 1 ≤ v) :
    lf ps (es.take k) v = uf ws (es.take k) k v := by
  rw [Bool.eq_iff_iff, lf_iff, uf_iff]
  constructor
  · rintro ⟨a, b⟩
    refine ⟨a, fun hd => ?_⟩
    obtain ⟨i, hi, e⟩ := mem_nth hd
    rw [nth_dropP] at e
    simp at hi
    have hu := he.up (k + i) (by omega)
    rw [nth_left (by omega), e] at hu
    have hm := he.mem (k + i) (by omega)
    have := kids_zero.1 b (nth es (k + i)) hm.1 (by rw [he.plen]; exact hm.2) hu.symm
    obtain ⟨j, hj, ej⟩ := mem_nth this
    simp at hj
    rw [nth_take (by omega)] at ej
    have := nth_inj hn (i := j) (j := k + i) (by omega) (by rw [he.elen]; omega) ej
    omega
  · rintro ⟨a, b⟩
    refine ⟨a, kids_zero.2 fun u u1 u2 u3 => ?_⟩
    obtain ⟨j, hj, ej⟩ := mem_nth (he.all u u1 (by rw [← he.plen]; exact u2))
    rw [he.elen] at hj
    have hu := he.up j hj
    rw [ej, u3] at hu
    by_cases hjk : j < k
    · rw [← ej, ← nth_take hjk]
      exact nth_mem (by simp [he.elen]; omega)
    · exfalso
      by_cases hjw : j < ws.length
      · rw [nth_left hjw] at hu
        refine b ?_
        rw [← hu, show j = k + (j - k) by omega, ← nth_dropP]
        exact nth_mem (by simp; omega)
      · have : j = ws.length := by omega
        subst this
        rw [nth_append_at] at hu
        omega
theorem take_grown {es : List Int} {t : List Int} {k : Nat} {g : List Int} (h : es = g ++ t) (hl : g.length = k) : es.take k = g := by
  subst h; subst hl; simp
/-- The word of the tree of a word. -/
theorem pru_un {ws : List Int} {n : Nat} (hw : Word ws n) : pruOf (unOf ws) = ws ∧ Tree (unOf ws) n := by
  have hl := hw.len
  have ht := unOf_tree hw
  obtain ⟨last, l1, l2, l3⟩ := left_ex (n := n) (g := untG ws ws.length) (by rw [length_untG]; omega)
  have he := edges_of hw (last := (last : Int)) (by omega) (by omega) l3
  have hg := untG_is hw ws.length (Nat.le_refl _)
  have hnd : (untG ws ws.length ++ [(last : Int)]).Nodup := by
    rw [List.nodup_append]
    exact ⟨hg.nodup, by simp, fun a ha b hb => by simp at hb; subst hb; rintro rfl; exact l3 ha⟩
  have hgo : ∀ k, k ≤ ws.length → pruG (unOf ws) k = untG ws k := by
    intro k
    induction k with
    | zero => intro _; rfl
    | succ k ih =>
      intro hk
      have ih' := ih (by omega)
      simp only [pruG, untG]
      rw [ih', ht.len, hl]
      congr 2
      refine grt_congr fun v v1 _ => ?_
      obtain ⟨t, hte⟩ := untG_grows ws k (ws.length - k)
      rw [show k + (ws.length - k) = ws.length by omega] at hte
      have htk : (untG ws ws.length ++ [(last : Int)]).take k = untG ws k := take_grown (t := t ++ [(last : Int)]) (by rw [hte, List.append_assoc]) (length_untG ws k)
      have := lf_uf he hnd hl (k := k) (by omega) (v := (v : Int)) (by omega)
      rw [htk] at this
      exact this
  refine ⟨?_, ht⟩
  unfold pruOf pruW
  rw [length_unOf, Nat.add_sub_cancel, hgo _ (Nat.le_refl _)]
  refine ext_nth (by simp [length_untG]) fun i hi => ?_
  simp [length_untG] at hi
  have := (unTo_is hw ws.length (Nat.le_refl _)).1 i hi
  have e : nth ((untG ws ws.length).map (par (unOf ws))) i = par (unOf ws) (nth (untG ws ws.length) i) := by
    simp [nth, length_untG, hi]
  rw [e]
  exact this

/-- The word of a tree is a word. -/
theorem pru_word {xs : List Int} {n : Nat} (ht : Tree xs n) (hn : 1 ≤ n) : Word (pruOf xs) n := by
  have hg := pruG_gone ht (n - 1) (by omega)
  refine ⟨by unfold pruOf; rw [length_pruW, ht.len]; omega, ht.le, fun i hi => ?_⟩
  have hm := nth_mem hi
  unfold pruOf pruW at hm
  rw [ht.len] at hm
  obtain ⟨v, hv, e⟩ := List.mem_map.1 hm
  have hb := hg.mem v hv
  have := ht.par hb.1 (by rw [← ht.len]; exact hb.2)
  rw [e] at this
  unfold pruOf
  rw [ht.len]
  exact this
/-- A tree's edges, as its leaves are taken away. -/
theorem pru_edges {xs : List Int} {n : Nat} (ht : Tree xs n) (hn : 1 ≤ n) : ∃ last : Nat, 1 ≤ last ∧ last ≤ n ∧ (last : Int) ∉ pruG xs (n - 1) ∧ par xs last = 0 ∧ (pruG xs (n - 1) ++ [(last : Int)]).Nodup ∧
    Edges xs (pruG xs (n - 1) ++ [(last : Int)]) (pruOf xs ++ [0]) n := by
  have hg := pruG_gone ht (n - 1) (by omega)
  have hw := pru_word ht hn
  obtain ⟨last, l1, l2, l3⟩ := left_ex (n := n) (g := pruG xs (n - 1)) (by rw [hg.len]; omega)
  have hnd : (pruG xs (n - 1) ++ [(last : Int)]).Nodup := by
    rw [List.nodup_append]
    exact ⟨hg.nodup, by simp, fun a ha b hb => by simp at hb; subst hb; rintro rfl; exact l3 ha⟩
  have hel : (pruG xs (n - 1) ++ [(last : Int)]).length = n := by simp [hg.len]; omega
  have hem : ∀ v ∈ pruG xs (n - 1) ++ [(last : Int)], 1 ≤ v ∧ v ≤ (n : Int) := fun v hv => by
    rcases List.mem_append.1 hv with hv | hv
    · have := hg.mem v hv; rw [ht.len] at this; exact this
    · simp at hv; omega
  have hfull := full_of hel hnd hem
  have hpl : par xs last = 0 := by
    apply Classical.byContradiction
    intro h0
    have hb := ht.par (v := last) (by omega) (by omega)
    have hm := hfull (par xs last) (by omega) hb.2
    rcases List.mem_append.1 hm with hm | hm
    · exact l3 (hg.down _ (by omega) (by rw [ht.len]; omega) hm)
    · simp at hm
      have hd := ht.dep_par (v := last) (by omega) (by omega)
      rw [hm] at hd
      omega
  have hlw : (pruOf xs).length = n - 1 := by unfold pruOf; rw [length_pruW, ht.len]
  have hwn : ∀ i, i < n - 1 → nth (pruOf xs) i = par xs (nth (pruG xs (n - 1)) i) := fun i hi => by
    unfold pruOf pruW
    rw [ht.len]
    simp [nth, hg.len, hi]
  refine ⟨last, l1, l2, l3, hpl, hnd, ht.len, hel, by simp [hlw]; omega, fun i hi => hem _ (nth_mem (by rw [hel]; exact hi)), hfull, fun i hi => ?_, fun i hi => ?_⟩
  · by_cases e : i < n - 1
    · rw [nth_left (by rw [hlw]; exact e), nth_left (by rw [hg.len]; exact e)]
      exact hwn i e
    · have e1 : i = (pruOf xs).length := by rw [hlw]; omega
      have e2 : i = (pruG xs (n - 1)).length := by rw [hg.len]; omega
      have r1 : nth (pruOf xs ++ [0]) i = 0 := by rw [e1]; exact nth_append_at
      have r2 : nth (pruG xs (n - 1) ++ [(last : Int)]) i = last := by rw [e2]; exact nth_append_at
      rw [r1, r2]; exact hpl.symm
  · by_cases e : i < n - 1
    · rw [nth_left (by rw [hlw]; exact e), hwn i e]
      by_cases e0 : par xs (nth (pruG xs (n - 1)) i) = 0
      · exact .inl e0
      · have hb := ht.par (v := nth (pruG xs (n - 1)) i) ((hg.mem _ (nth_mem (by rw [hg.len]; exact e))).1) (by have := (hg.mem _ (nth_mem (xs := pruG xs (n - 1)) (i := i) (by rw [hg.len]; exact e))).2; rw [ht.len] at this; exact this)
        obtain ⟨j, hj, ej⟩ := mem_nth (hfull _ (by omega) hb.2)
        refine .inr ⟨j, ?_, by omega, ej.symm⟩
        apply Classical.byContradiction
        intro hij
        have hji : j ≤ i := by omega
        -- j was taken away by then, so its child i was, too: before itself
        obtain ⟨t, hte⟩ := pruG_grows xs j (n - 1 - j)
        rw [show j + (n - 1 - j) = n - 1 by omega] at hte
        have hgj := pruG_gone ht (j + 1) (by omega)
        obtain ⟨t2, hte2⟩ := pruG_grows xs (j + 1) (n - 1 - (j + 1))
        rw [show j + 1 + (n - 1 - (j + 1)) = n - 1 by omega] at hte2
        obtain ⟨x, _, _, x3, x4, _, _⟩ := gone_step ht (pruG_gone ht j (by omega)) (by omega)
        have hgx : pruG xs (j + 1) = pruG xs j ++ [(x : Int)] := by simp only [pruG]; rw [ht.len, x4]
        have hxj : nth (pruG xs (n - 1)) j = (x : Int) := by
          rw [hte2, nth_left (by rw [hgj.len]; omega), hgx]
          have := nth_append_at (xs := pruG xs j) (y := (x : Int))
          rwa [length_pruG] at this
        rw [nth_left (by rw [hg.len]; omega), hxj] at ej
        have hin := kids_zero.1 (lf_iff.1 x3).2 (nth (pruG xs (n - 1)) i) ((hg.mem _ (nth_mem (by rw [hg.len]; exact e))).1) ((hg.mem _ (nth_mem (by rw [hg.len]; exact e))).2) ej.symm
        obtain ⟨q, hq, eq⟩ := mem_nth hin
        rw [length_pruG] at hq
        have hq2 : nth (pruG xs (n - 1)) q = nth (pruG xs (n - 1)) i := by rw [← eq, hte, nth_left (by rw [length_pruG]; exact hq)]
        have := nth_inj hg.nodup (i := q) (j := i) (by rw [hg.len]; omega) (by rw [hg.len]; exact e) hq2
        omega
    · have e1 : i = (pruOf xs).length := by rw [hlw]; omega
      exact .inl (by rw [e1]; exact nth_append_at)
/-- The tree of the word of a tree. -/
theorem un_pru {xs : List Int} {n : Nat} (ht : Tree xs n) (hn : 1 ≤ n) : unOf (pruOf xs) = xs := by
  have hw := pru_word ht hn
  obtain ⟨last, l1, l2, l3, hpl, hnd, he⟩ := pru_edges ht hn
  have hlw : (pruOf xs).length = n - 1 := by have := hw.len; omega
  have hg := pruG_gone ht (n - 1) (by omega)
  have hgo : ∀ k, k ≤ n - 1 → untG (pruOf xs) k = pruG xs k := by
    intro k
    induction k with
    | zero => intro _; rfl
    | succ k ih =>
      intro hk
      have ih' := ih (by omega)
      simp only [pruG, untG]
      rw [ih', ht.len, hw.len]
      congr 2
      refine grt_congr fun v v1 _ => ?_
      obtain ⟨t, hte⟩ := pruG_grows xs k (n - 1 - k)
      rw [show k + (n - 1 - k) = n - 1 by omega] at hte
      have htk : (pruG xs (n - 1) ++ [(last : Int)]).take k = pruG xs k := take_grown (t := t ++ [(last : Int)]) (by rw [hte, List.append_assoc]) (length_pruG xs k)
      have := lf_uf he hnd hw.len (k := k) (by omega) (v := (v : Int)) (by omega)
      rw [htk] at this
      exact this.symm
  obtain ⟨u1, u2⟩ := unTo_is hw (pruOf xs).length (Nat.le_refl _)
  rw [hlw, hgo (n - 1) (Nat.le_refl _)] at u1 u2
  have key : ∀ v : Int, 1 ≤ v → v ≤ n → par (unOf (pruOf xs)) v = par xs v := fun v v1 v2 => by
    by_cases hv : v ∈ pruG xs (n - 1)
    · obtain ⟨j, hj, rfl⟩ := mem_nth hv
      rw [length_pruG] at hj
      have h1 := u1 j hj
      have h2 := he.up j (by omega)
      rw [nth_left (by rw [hlw]; exact hj), nth_left (by rw [length_pruG]; exact hj)] at h2
      unfold unOf
      rw [hlw, h1, h2]
    · have hvl : v = last := by
        have := he.all v v1 v2
        rcases List.mem_append.1 this with h | h
        · exact absurd h hv
        · simpa using h
      have h1 := u2 v v1 v2 hv
      unfold unOf
      rw [hlw, h1, hvl, hpl]
  refine ext_nth (by rw [length_unOf, hlw, ht.len]; omega) fun i hi => ?_
  rw [length_unOf, hlw] at hi
  have := key ((i : Int) + 1) (by omega) (by omega)
  unfold par at this
  rwa [show ((i : Int) + 1).toNat - 1 = i by omega] at this
/-- How often a node occurs in the word. -/
theorem deg_word {xs : List Int} {n : Nat} (ht : Tree xs n) (hn : 1 ≤ n) (v : Nat) : deg xs v = (pruOf xs).count (v : Int) + 1 := by
  obtain ⟨last, l1, l2, l3, hpl, hnd, he⟩ := pru_edges ht hn
  have hp : (pruG xs (n - 1) ++ [(last : Int)]).map (par xs) = pruOf xs ++ [0] := by
    unfold pruOf pruW
    rw [List.map_append, ht.len]
    simp [hpl]
  have hperm : (pruG xs (n - 1) ++ [(last : Int)]).Perm ((List.range n).map fun (i : Nat) => (i : Int) + 1) := by
    rw [List.perm_ext_iff_of_nodup hnd]
    · intro a
      rw [List.mem_map]
      constructor
      · intro ha
        obtain ⟨j, hj, e⟩ := mem_nth ha
        have := he.mem j (by rw [← he.elen]; exact hj)
        rw [e] at this
        exact ⟨a.toNat - 1, List.mem_range.2 (by omega), by omega⟩
      · rintro ⟨i, hi, rfl⟩
        exact he.all _ (by omega) (by have := List.mem_range.1 hi; omega)
    · rw [List.Nodup, List.pairwise_map]
      refine List.nodup_range.imp ?_
      intro a b h e
      omega
  have hx : ((List.range n).map fun (i : Nat) => (i : Int) + 1).map (par xs) = xs := by
    refine ext_nth (by simp [ht.len]) fun i hi => ?_
    simp at hi
    simp only [nth, List.getD_eq_getElem?_getD, List.getElem?_map, List.getElem?_range hi, Option.map_some, Option.getD_some]
    unfold par
    rw [show ((i : Int) + 1).toNat - 1 = i by omega]
    rfl
  have hc := (hperm.map (par xs)).count_eq (v : Int)
  rw [hp, hx, List.count_append] at hc
  unfold deg
  rw [← hc]
  by_cases e : v = 0
  · subst e; simp
  · have : ¬ (0 : Int) = (v : Int) := by omega
    have h2 : List.count (v : Int) [0] = 0 := by rw [List.count_eq_zero]; simp; omega
    rw [h2]
    simp [e]; omega
theorem mem_leaves {xs : List Int} {v : Nat} (h1 : 1 ≤ v) (h2 : v ≤ xs.length) : hasB (leavesL xs) v = decide (deg xs v = 1) := by
  rw [Bool.eq_iff_iff, hasB_iff, decide_eq_true_eq]
  unfold leavesL
  rw [mem_nodesW, List.length_drop, length_degL]
  unfold par
  rw [nth_dropP, Int.toNat_natCast, show 1 + (v - 1) = v by omega, nth_degL h2]
  constructor
  · rintro ⟨_, _, h⟩; omega
  · intro h; exact ⟨by omega, by omega, by omega⟩
end Go.Proofs.YtfjeadnakbdkjaaGreat

namespace Go.Proofs.YtfjeadnakbdkjaaGreat
open Go.RowKit

def treesL (n : Nat) : List (List Int) := if n = 0 then [[]] else allTrees (n - 1)
def invTs (n : Nat) : List Int := (treesL n).map fun xs => ((invL xs).length : Int)
def pairsN (n : Nat) : Nat := n * (n - 1) / 2
def byInv (n : Nat) : List Int := (List.range (pairsN n + 1)).map fun (d : Nat) => occ5 (invTs n) d
def byInvOf (n : Int) : List Int × Bool := if inB n 0 5 then (byInv n.toNat, true) else ([], false)
def treesQ (n : Nat) : Nat := if n = 0 then 1 else (n + 1) ^ (n - 1)
theorem length_invTo {xs : List Int} : ∀ k, k ≤ xs.length → 2 * (invTo xs k).length + k * (k + 1) ≤ 2 * (k * xs.length)
  | 0, _ => by simp [invTo]
  | k + 1, hk => by
    have ih := length_invTo (xs := xs) k (by omega)
    have hr := length_invRow xs (k + 1) (xs.length - (k + 1))
    have h1 : (k + 1) * (k + 1 + 1) = k * (k + 1) + 2 * (k + 1) := by
      rw [Nat.mul_add (k + 1) (k + 1) 1, Nat.add_mul k 1 (k + 1)]
      omega
    have h2 : (k + 1) * xs.length = k * xs.length + xs.length := by rw [Nat.add_mul, Nat.one_mul]
    rw [invTo_succ, List.length_append, h1, h2]
    omega
theorem length_invL {xs : List Int} {n : Nat} (hl : xs.length = n) (h1 : 1 ≤ n) (h5 : n ≤ 5) : (invL xs).length ≤ pairsN n := by
  have h := length_invTo (xs := xs) xs.length (Nat.le_refl _)
  rw [hl] at h
  have e : invL xs = invTo xs n := by rw [invL, hl]
  rw [e]
  obtain rfl | rfl | rfl | rfl | rfl : n = 1 ∨ n = 2 ∨ n = 3 ∨ n = 4 ∨ n = 5 := by omega
  all_goals simp only [pairsN]; omega
theorem allTrees_get {m k : Nat} (hm : m < 5) (hk : k < (m + 2) ^ m) : (allTrees m).getD k [] = unOf (dg (m + 2) k m) := by
  have h := words_get hm hk
  have hl := words_len hm
  have h1 : k < (wordsL m).length := by omega
  simp only [allTrees, List.getD_eq_getElem?_getD, List.getElem?_map, List.getElem?_eq_getElem h1, Option.map_some, Option.getD_some] at *
  rw [h]
theorem allTrees_tree {m k : Nat} (hm : m < 5) (hk : k < (m + 2) ^ m) : Tree ((allTrees m).getD k []) (m + 1) := by
  rw [allTrees_get hm hk]
  exact (pru_un (dg_word hm)).2
theorem length_treesL {n : Nat} (h5 : n ≤ 5) : (treesL n).length = treesQ n := by
  by_cases h0 : n = 0
  · subst h0; rfl
  · obtain ⟨m, rfl⟩ : ∃ m, n = m + 1 := ⟨n - 1, by omega⟩
    simp only [treesL, treesQ, if_neg h0, Nat.add_sub_cancel]
    exact length_allTrees (by omega)
theorem length_invTs {n : Nat} (h5 : n ≤ 5) : (invTs n).length = treesQ n := by simp [invTs, length_treesL h5]
theorem treesQ_le {n : Nat} (h5 : n ≤ 5) : treesQ n ≤ 1296 := by
  have : ∀ n, n ≤ 5 → treesQ n ≤ 1296 := by decide
  exact this n h5
theorem treesL_tree {n k : Nat} (h5 : n ≤ 5) (hk : k < treesQ n) : Tree ((treesL n).getD k []) n := by
  by_cases h0 : n = 0
  · subst h0
    obtain rfl : k = 0 := by simp [treesQ] at hk; exact hk
    exact tree_of (by decide) rfl
  · obtain ⟨m, rfl⟩ : ∃ m, n = m + 1 := ⟨n - 1, by omega⟩
    simp only [treesL, treesQ, if_neg h0, Nat.add_sub_cancel] at *
    exact allTrees_tree (by omega) hk
theorem invTs_facts {n k : Nat} (h5 : n ≤ 5) (hk : k < treesQ n) {xs : List Int} (hx : xs = (treesL n).getD k []) : Tree xs n ∧ ∃ d : Nat, (invL xs).length = d ∧ d < pairsN n + 1 ∧ nth (invTs n) k = (d : Int) ∧ invCnt xs = ((d : Int), true) := by
  have ht := treesL_tree h5 hk
  rw [← hx] at ht
  have hd : (invL xs).length ≤ pairsN n := by
    by_cases h0 : n = 0
    · have hl := ht.len
      subst h0
      obtain rfl := List.eq_nil_of_length_eq_zero hl
      decide
    · exact length_invL ht.len (by omega) h5
  refine ⟨ht, _, rfl, Nat.lt_succ_of_le hd, ?_, by simp [invCnt, ht.b]⟩
  have h1 : k < (treesL n).length := by rw [length_treesL h5]; exact hk
  subst hx
  simp only [nth, invTs, List.getD_eq_getElem?_getD, List.getElem?_map, List.getElem?_eq_getElem h1, Option.map_some, Option.getD_some]
theorem hist_inv {n : Nat} {zs : List Int} {N : Nat} (h : Hist5 (invTs n) (pairsN n + 1) N zs) (hN : (invTs n).length = N) (hl : zs.length = pairsN n + 1) : zs = byInv n := by
  refine ext_nth (by simp [byInv, hl]) fun i hi => ?_
  rw [h i (by omega), List.take_of_length_le (by omega)]
  simp [nth, byInv, show i < pairsN n + 1 by omega]
end Go.Proofs.YtfjeadnakbdkjaaGreat

namespace Go.Proofs.YtfjeadnakbdkjaaGreat
open Go.RowKit
theorem inv_dist : ∀ n, n < 6 → byInv n = distCounts n ∧ total (distCounts n) = (cnt n : Int) ∧ (distCounts n).all (fun x => decide (0 ≤ x) && decide (x ≤ 1296)) = true ∧ (distCounts n).length ≤ 11 := by decide +kernel
theorem allTr_facts {m k : Nat} (hm : m < 5) (hk : k < (allTrees m).length) : ∃ ws, ((allTrees m).getD k []).length = m + 1 ∧ treeB ((allTrees m).getD k []) = true ∧ pruOf ((allTrees m).getD k []) = ws ∧ ws = (wordsL m).getD k [] ∧ ws.length = m := by
  have hl : (allTrees m).length = (m + 2) ^ m := by simp [allTrees, words_len hm]
  rw [hl] at hk
  have hg := allTrees_get hm hk
  obtain ⟨p1, p2⟩ := pru_un (dg_word (k := k) hm)
  rw [hg]
  refine ⟨_, p2.len, p2.b, p1, (words_get hm hk).symm, ?_⟩
  exact length_dg _ _ _
end Go.Proofs.YtfjeadnakbdkjaaGreat

namespace Go.Proofs.YtfjeadnakbdkjaaGreat
open Go.RowKit

theorem mul64_0 (w : World) : Calls Tryz.prog 68 #[.int .u64 1, .int .u64 0] w fun e w' => e = .returned (.tuple #[.int .u64 0, .int .u64 0]) ∧ w = w' := by
  go_enter Tryz.func68, Tryz.ntmps68
  go_wp2
  go_ret2
  exact ⟨rfl, rfl⟩
theorem mul64_1 (w : World) : Calls Tryz.prog 68 #[.int .u64 1, .int .u64 1] w fun e w' => e = .returned (.tuple #[.int .u64 0, .int .u64 1]) ∧ w = w' := by
  go_enter Tryz.func68, Tryz.ntmps68
  go_wp2
  go_ret2
  exact ⟨rfl, rfl⟩
theorem mul64_2 (w : World) : Calls Tryz.prog 68 #[.int .u64 1, .int .u64 2] w fun e w' => e = .returned (.tuple #[.int .u64 0, .int .u64 2]) ∧ w = w' := by
  go_enter Tryz.func68, Tryz.ntmps68
  go_wp2
  go_ret2
  exact ⟨rfl, rfl⟩
theorem mul64_3 (w : World) : Calls Tryz.prog 68 #[.int .u64 1, .int .u64 3] w fun e w' => e = .returned (.tuple #[.int .u64 0, .int .u64 3]) ∧ w = w' := by
  go_enter Tryz.func68, Tryz.ntmps68
  go_wp2
  go_ret2
  exact ⟨rfl, rfl⟩
theorem mul64_4 (w : World) : Calls Tryz.prog 68 #[.int .u64 1, .int .u64 4] w fun e w' => e = .returned (.tuple #[.int .u64 0, .int .u64 4]) ∧ w = w' := by
  go_enter Tryz.func68, Tryz.ntmps68
  go_wp2
  go_ret2
  exact ⟨rfl, rfl⟩
theorem mul64_5 (w : World) : Calls Tryz.prog 68 #[.int .u64 1, .int .u64 5] w fun e w' => e = .returned (.tuple #[.int .u64 0, .int .u64 5]) ∧ w = w' := by
  go_enter Tryz.func68, Tryz.ntmps68
  go_wp2
  go_ret2
  exact ⟨rfl, rfl⟩
theorem mul64_any (k : Nat) (hk : k ≤ 5) (w : World) : Calls Tryz.prog 68 #[.int .u64 1, .int .u64 (k : Int)] w fun e w' => e = .returned (.tuple #[.int .u64 0, .int .u64 (k : Int)]) ∧ w = w' := by
  rcases (show k = 0 ∨ k = 1 ∨ k = 2 ∨ k = 3 ∨ k = 4 ∨ k = 5 by omega) with rfl | rfl | rfl | rfl | rfl | rfl
  · exact mul64_0 w
  · exact mul64_1 w
  · exact mul64_2 w
  · exact mul64_3 w
  · exact mul64_4 w
  · exact mul64_5 w
theorem mul_any (k : Nat) (hk : k ≤ 5) (w : World) : Calls Tryz.prog 57 #[.int .u64 1, .int .u64 (k : Int)] w fun e w' => e = .returned (.tuple #[.int .u64 0, .int .u64 (k : Int)]) ∧ w = w' := by
  go_enter Tryz.func57, Tryz.ntmps57
  go_wp2_with (go_at_call 68; refine (mul64_any k hk _).mono ?_; rintro e w' ⟨rfl, rfl⟩)
  go_ret2
  exact ⟨rfl, rfl⟩

/-- The first m numbers copied behind themselves. -/
def overAt (zs : List Int) (m c : Nat) : List Int := zs.take m ++ (zs.take c ++ zs.drop (m + c))
theorem length_overAt {zs : List Int} {m c : Nat} (h : m + c ≤ zs.length) : (overAt zs m c).length = zs.length := by simp [overAt]; omega
theorem overAt_rep {zs : List Int} {m c : Nat} {x : Int} (hc : c ≤ m) (hz : zs.take m = List.replicate m x) : (overAt zs m c).take (m + c) = List.replicate (m + c) x := by
  unfold overAt
  have h1 : zs.take c = List.replicate c x := by
    have := congrArg (List.take c) hz
    rw [List.take_take, Nat.min_eq_left hc] at this
    rw [this]
    simp [Nat.min_eq_left hc]
  rw [hz, h1, List.take_append, List.take_of_length_le (by simp), List.length_replicate, Nat.add_sub_cancel_left, List.take_append, List.take_of_length_le (by simp), List.length_replicate, Nat.sub_self, List.take_zero, List.append_nil, List.replicate_append_replicate]

theorem int_size : (Tryz.prog.info? 3).map (·.size) = some 1 := by
  obtain ⟨i0, hi, hz0, hz1, hz2⟩ := info_parts Tryz.infoInt
  rw [hi]; simp [hz1]

theorem take_three {α : Type} {A X Z : List α} {n m c : Nat} (hA : A.length = m) (hX : X.length = c) (h : m + c ≤ n) : (A ++ (X ++ Z)).take n = A ++ (X ++ Z.take (n - (m + c))) := by
  subst hA hX
  rw [← List.append_assoc, List.take_append, List.take_of_length_le (by simp; omega), List.append_assoc, List.length_append]

theorem step_copy_self {ops : Array Oper} {o : Oper} {a : Act} {w : World} {K : Act → World → Prop} {Q : Exit → Act → World → Prop} {E : Prop} (hgd : o.guard = none) (d s : Operand)
    (ho : o.op = .call { callee := .builtin .copy, args := #[d, s], argTypes := #[31, 31] })
    (B g n cap m c : Nat) (zs : List Int) (hd : a.eval d = .slice (some ⟨g, m, none⟩) (n - m) (cap - m)) (hs : a.eval s = .slice (some ⟨g, 0, none⟩) m cap)
    (hown : Own w B (some ⟨g, 0, none⟩) n cap zs) (hm : m ≤ n) (hc : c = Nat.min m (n - m))
    (h : ∀ w', Own w' B (some ⟨g, 0, none⟩) n cap (overAt zs m c) → Below B w w' → K (a.put o.dst (.int .i64 (c : Int))) w') :
    if Region.wanted o (yielded ops a.tmps) = true then Oper.wp Tryz.prog o a w K Q else E := by
  have hlx := hown.len
  have hcm : c ≤ m ∧ c ≤ n - m := by rw [hc]; exact ⟨Nat.min_le_left _ _, Nat.min_le_right _ _⟩
  have hcells := has_cells (hown.has)
  obtain ⟨⟨h1, h2⟩, h3⟩ := hown
  obtain ⟨i0, hi, hz0, hz1, hz2⟩ := info_parts Tryz.infoInt
  have hsz : (Tryz.prog.info? 3).map (·.size) = some 1 := by rw [hi]; simp [hz1]
  rcases h2 with ⟨hv, hn⟩ | ⟨g', cap', cur, hv, hg, hh, hnc, hcm', hcs, htake⟩
  · simp at hv
  · simp at hv
    obtain ⟨rfl, rfl⟩ := hv
    have htk : cur.toList.take n = zs.map (Value.int .i64) := by simpa using htake
    refine step_copy_splice hgd d s 31 31 ho 3 Tryz.underlying31 hsz (some ⟨g, m, none⟩) (some ⟨g, 0, none⟩) (n - m) (cap - m) m cap hd hs g m cur.toList 3 (by simpa using hh) ((zs.take c).map (Value.int .i64)) (by simp; omega) (fun hp => ⟨rfl, _, rfl, fun j v hj => ?_⟩) (by simp; omega) (by intro v hv; obtain ⟨y, _, rfl⟩ := List.mem_map.1 hv; rfl) B w (Below.refl _ _) hg ?_
    · refine hcells j v ?_
      rw [List.getElem?_map] at hj ⊢
      rw [List.getElem?_take] at hj
      split at hj
      · exact hj
      · simp at hj
    · intro w' hw' hb
      have hl : ((zs.take c).map (Value.int .i64)).length = c := by simp; omega
      have e : (a.put o.dst (goInt ((zs.take c).map (Value.int .i64)).length)) = a.put o.dst (.int .i64 (c : Int)) := by rw [hl]; simp [goInt]
      rw [e]
      refine h w' ⟨⟨by rw [List.length_map, length_overAt (by omega)]; simpa using h1, .inr ⟨g, cap, _, rfl, hg, hw'.out, hnc, hcm', ?_, ?_⟩⟩, by rw [length_overAt (by omega)]; exact h3.1, h3.2⟩ hb
      · simp only [splice, hl]
        simp
        omega
      · simp only [splice]
        rw [hl]
        simp only [Nat.mul_one, overAt, List.map_append, List.map_take, List.map_drop]
        rw [← htk]
        have e1 : (cur.toList.take n).take m = cur.toList.take m := by rw [List.take_take, Nat.min_eq_left hm]
        have hlen : n ≤ cur.toList.length := by
          have := congrArg List.length htk
          simp at this
          simp
          omega
        rw [e1, List.drop_take]
        exact take_three (by rw [List.length_take]; omega) (by rw [List.length_take, List.length_take]; omega) (by omega)

set_option maxRecDepth 100000 in
set_option maxHeartbeats 1000000 in
theorem repeat_any (a : Option Addr) (cap k : Nat) (x : Int) (w : World) (h : Has w a 1 cap [x]) (hk : k ≤ 5) :
    Calls Tryz.prog 41 #[.slice a 1 cap, .int .i64 (k : Int)] w fun e w' => ∃ a' cap', e = .returned (.slice a' k cap') ∧ Own w' w.heap.size a' k cap' (List.replicate k x) ∧ Below w.heap.size w w' := by
  by_cases hk0 : k = 0
  · subst hk0
    go_enter Tryz.func41, Tryz.ntmps41
    go_wp2_with (first | (go_at_call 57; refine (mul_any 0 hk _).mono ?_; rintro e w' ⟨rfl, rfl⟩) | (at_make; refine wpList_make_ints _ rfl _ _ rfl 0 rfl rfl (by omega) ?_; intro a1 cap1 w1 hown1 hb1) | (with_reducible refine wpList_copy_nothing rfl _ _ _ _ rfl 3 Tryz.underlying31 int_size _ _ _ _ _ _ rfl rfl (Nat.min_eq_right (Nat.zero_le _)) ?_))
    refine wp_loop_rounds 1 ?_
    rw [rounds_succ]
    go_wp2_with fail
    go_ret
    exact ⟨_, _, rfl, hown1, hb1⟩
  · have hk1 : 1 ≤ k := by omega
    clear hk0
    go_enter Tryz.func41, Tryz.ntmps41
    go_wp2_with (first | (go_at_call 57; refine (mul_any k hk _).mono ?_; rintro e w' ⟨rfl, rfl⟩) | (at_make; refine wpList_make_ints _ rfl _ _ rfl k rfl rfl (by omega) ?_; intro a1 cap1 w1 hown1 hb1) | (with_reducible refine wpList_copy_ints _ rfl _ _ rfl w.heap.size _ _ _ _ _ _ _ _ rfl rfl hown1 (h.below hb1 (Nat.le_refl _)) (by omega) ?_; intro w2 hown2 hb2))
    have hT : (over0 (List.replicate k 0) [x]).take 1 = List.replicate 1 x := by
      obtain ⟨j, rfl⟩ : ∃ j, k = j + 1 := ⟨k - 1, by omega⟩
      simp [over0]
    obtain ⟨g, rfl, hg1, hg2, -, -⟩ := hown1.opened (by omega)
    have HT := hid hT
    have hbw := hb1.trans hb2
    clear hT hown1 hb1 hb2 hg2
    go_wp2_with fail
    go_loopw [8] (fun i wr => ∃ (m : Nat) (zs : List Int), i = .int .i64 m ∧ 1 ≤ m ∧ m ≤ k ∧ Own wr w.heap.size (some ⟨g, 0, none⟩) k cap1 zs ∧ Hid (zs.take m = List.replicate m x) ∧ Below w.heap.size w wr) (fun i _ => k - (intOf i).toNat)
    case atStart => exact ⟨1, _, rfl, Nat.le_refl _, hk1, hown2, HT, hbw⟩
    case round =>
      clear HT hown2 hbw
      obtain ⟨m, zs, rfl, hm1, hm2, hown, HZ, hb⟩ := hrel
      by_cases hlt : m < k
      · have hcap := hown.has.2.1
        have hm3 : m ≤ cap1 := by omega
        have hcm : ¬ cap1 = m := by omega
        have HL := hid hown.len
        obtain ⟨c, hc⟩ : ∃ c, c = Nat.min m (k - m) := ⟨_, rfl⟩
        have hc1 : c ≤ m ∧ c ≤ k - m ∧ 1 ≤ c := by rw [hc]; exact ⟨Nat.min_le_left _ _, Nat.min_le_right _ _, Nat.le_min.2 ⟨hm1, by omega⟩⟩
        obtain ⟨hc2, hc3, hc4⟩ := hc1
        have HC := hid hc
        have hwr : IntKind.i64.wrap ((m : Int) + (c : Int)) = (m : Int) + (c : Int) := IntWalk.i64_in _ (by omega)
        have HZ2 := hid (overAt_rep (zs := zs) hc2 HZ.out)
        clear hc
        go_wp2_with fail
        go_region_law (refine step_copy_self rfl (.tmp 41) (.tmp 44) rfl w.heap.size g k cap1 m c zs (by simp [Act.eval, Act.put]) (by simp [Act.eval, Act.put]) hown hm2 HC.out ?_; intro w4 hown4 hb4)
        all_goals
          have hbd := hb.trans (((Below.refl w.heap.size wr).drew).trans hb4)
          clear hb4
          simp [Act.put]
          go_wp2_with fail
          go_roundw
          case rel => exact ⟨m + c, _, by go_num, by omega, by omega, hown4, HZ2, hbd⟩
          case measure => simp [intOf]; omega
      · obtain rfl : m = k := by omega
        have HL := hid hown.len
        go_wp2_with fail
        go_ret
        have hz := HZ.out
        rw [List.take_of_length_le (by rw [HL.out]; exact Nat.le_refl _)] at hz
        exact ⟨_, _, rfl, by rw [← hz]; exact hown, hb⟩
end Go.Proofs.YtfjeadnakbdkjaaGreat

namespace Go.Proofs.YtfjeadnakbdkjaaGreat
open Go.RowKit

/-- A local array of eight cells: what each holds. -/
structure Arr (w : World) (blk : Nat) (f : Nat → Value) : Prop where
  cell : ∀ z, z < 8 → w.cell? ⟨blk, z, none⟩ = some (f z)
  free : ∀ z, w.frozen? ⟨blk, z, none⟩ = false
theorem eight {v : Value} {z : Nat} (h : z < 8) : (#[v, v, v, v, v, v, v, v] : Array Value)[z]? = some v := by
  rcases (show z = 0 ∨ z = 1 ∨ z = 2 ∨ z = 3 ∨ z = 4 ∨ z = 5 ∨ z = 6 ∨ z = 7 by omega) with rfl | rfl | rfl | rfl | rfl | rfl | rfl | rfl <;> rfl
theorem arr_new (w : World) (v : Value) (t : TypeId) : Arr (w.alloc (.cells #[v, v, v, v, v, v, v, v] t)) w.heap.size fun _ => v :=
  ⟨fun z hz => by rw [World.cell?_alloc_at _ _ _ _ rfl, eight hz], fun z => by rw [World.frozen?_alloc_at _ _ _ _ rfl]⟩
theorem Arr.set {w : World} {blk : Nat} {f : Nat → Value} (h : Arr w blk f) {z : Nat} (hz : z < 8) (v : Value) : Arr (w.setCell ⟨blk, z, none⟩ v) blk fun y => if y = z then v else f y := by
  refine ⟨fun y hy => ?_, fun y => by rw [World.frozen?_setCell]; exact h.free y⟩
  by_cases e : y = z
  · subst e
    rw [World.cell?_setCell_same _ _ _ (h.cell y hy), if_pos rfl]
  · rw [World.cell?_setCell_other _ _ _ _ (by intro hh; injection hh with _ h5 _; exact e h5.symm), if_neg e]
    exact h.cell y hy
theorem Arr.congr {w : World} {blk : Nat} {f g : Nat → Value} (h : Arr w blk f) (e : ∀ z, z < 8 → g z = f z) : Arr w blk g := ⟨fun z hz => by rw [e z hz]; exact h.cell z hz, h.free⟩
theorem has_take_succ {xs : List Int} {k : Nat} (h : k < xs.length) (z : Int) : hasB (xs.take (k + 1)) z = (hasB (xs.take k) z || decide (z = nth xs k)) := by
  rw [Bool.eq_iff_iff]
  simp [hasB, take_succ_nth h]
theorem Arr.below {w w' : World} {blk B : Nat} {f : Nat → Value} (h : Arr w blk f) (hb : Below B w w') (hB : blk < B) : Arr w' blk f :=
  ⟨fun z hz => by rw [hb.cell (p := ⟨blk, z, none⟩) hB]; exact h.cell z hz, fun z => by rw [hb.frozen (p := ⟨blk, z, none⟩) hB]; exact h.free z⟩

/-- What the array of cars holds, behind the first k cars. -/
def carAt (xs : List Int) : Nat → Nat → Int
  | 0, _ => 0
  | k + 1, z => if nth xs k = (z : Int) then (k : Int) else carAt xs k z
theorem carAt_at {xs : List Int} (h : outB xs = true) {j : Nat} (hj : j < xs.length) {v : Nat} (hv : nth xs j = (v : Int)) : ∀ k, j < k → k ≤ xs.length → carAt xs k v = (j : Int)
  | 0, h1, _ => by omega
  | k + 1, h1, h2 => by
    simp only [carAt]
    by_cases e : nth xs k = (v : Int)
    · have := out_inj h (i := k) (j := j) (by omega) hj (by rw [e, hv])
      rw [if_pos e]; omega
    · rw [if_neg e]
      have hne : j ≠ k := by rintro rfl; exact e hv
      exact carAt_at h hj hv k (by omega) (by omega)
/-- The car at a place is an earlier one exactly if the place is among the earlier places. -/
theorem carAt_lt {xs : List Int} (h : outB xs = true) {i v : Nat} (hi : i < xs.length) (hv : v < xs.length) : carAt xs xs.length v < (i : Int) ↔ (v : Int) ∈ xs.take i := by
  obtain ⟨j, hj, e⟩ := mem_nth (out_all h hv)
  rw [carAt_at h hj e xs.length hj (Nat.le_refl _), ← e, out_before h hi hj]
  omega
theorem carAt_bounds (xs : List Int) (z : Nat) : ∀ k, 0 ≤ carAt xs k z ∧ carAt xs k z ≤ (k : Int)
  | 0 => by simp [carAt]
  | k + 1 => by
    have := carAt_bounds xs z k
    simp only [carAt]
    split <;> omega

end Go.Proofs.YtfjeadnakbdkjaaGreat

namespace Go.Proofs.YtfjeadnakbdkjaaGreat
open Go.RowKit

theorem taken_yes {xs : List Int} {p : Int} (h : (good xs p && allPark p xs) = true) : takenOf xs p = (insSort (drive p xs), true) := by simp only [takenOf, if_pos h]
theorem taken_no {xs : List Int} {p : Int} (h : ¬ (good xs p && allPark p xs) = true) : takenOf xs p = ([], false) := by simp only [takenOf, if_neg h]

theorem fits_und {xs : List Int} {n : Nat} (hl : xs.length = n) (h : carsB xs 100 = true) : undTo (insSort xs) (idx n) n = fitsB (insSort xs) n := by
  rw [Bool.eq_iff_iff, undTo_iff, fitsB_iff]
  have h0 := (carsB_iff.1 h).2
  have hp := insSort_perm xs
  have hl2 := length_insSort xs
  constructor
  · intro hh i hi
    have := hh i hi
    rw [nth_idx hi] at this
    exact this.2
  · intro hh i hi
    rw [nth_idx hi]
    exact ⟨(h0 _ (hp.mem_iff.1 (nth_mem (by omega)))).1, hh i hi⟩

end Go.Proofs.YtfjeadnakbdkjaaGreat

namespace Go.Proofs.YtfjeadnakbdkjaaGreat
open Go.RowKit

/-- A slice of slices of the call's own. -/
def RetRows (w : World) (ls : List (List Int)) (e : Ending) (w' : World) : Prop := ∃ a q cap rs, e = .returned (.slice a q cap) ∧ OwnR w' w.heap.size a q cap rs ∧ numsOf rs = ls ∧ Below w.heap.size w w'

theorem numsOf_append (rs ss : List Rw) : numsOf (rs ++ ss) = numsOf rs ++ numsOf ss := by simp [numsOf]

/-- The lists with an outcome that begin with some numbers. -/
def lexAt (xs : List Int) (m : Nat) : List (List Int) := lex ((leasts xs).drop m) (xs.drop m)
/-- Of them, with the first c choices of the next number. -/
def lexTo (xs : List Int) (m c : Nat) : List (List Int) := (upFrom (leastOf xs m) c).flatMap fun x => (lexAt xs (m + 1)).map (x :: ·)
theorem lexTo_succ (xs : List Int) (m c : Nat) : lexTo xs m (c + 1) = lexTo xs m c ++ (lexAt xs (m + 1)).map ((leastOf xs m + c) :: ·) := by
  simp [lexTo, upFrom_snoc]
theorem lexAt_step {xs : List Int} {m : Nat} (h : m < xs.length) : lexAt xs m = lexTo xs m (span (leastOf xs m) (nth xs m)) := by
  unfold lexAt lexTo
  rw [drop_nth h, drop_nth (by rw [length_leasts]; exact h), nth_leasts h, lex]
  rfl
theorem length_lexTo (xs : List Int) (m : Nat) : ∀ c, (lexTo xs m c).length = c * (lexAt xs (m + 1)).length
  | 0 => by simp [lexTo, upFrom]
  | c + 1 => by rw [lexTo_succ, List.length_append, length_lexTo xs m c, List.length_map, Nat.add_mul]; omega
theorem lexAt_pos {xs : List Int} (ho : outB xs = true) (m : Nat) (hm : m ≤ xs.length) : 0 < (lexAt xs m).length := by
  have := lex_ne ((leasts xs).drop m) (xs.drop m) (fun i hi => by
    simp [length_leasts] at hi
    rw [show nth ((leasts xs).drop m) i = nth (leasts xs) (m + i) from nth_drop, nth_drop, nth_leasts (by omega)]
    exact (leastOf_bounds (out_nth ho (by omega)).1).2) (by simp [length_leasts])
  cases hl : lexAt xs m with
  | nil => unfold lexAt at hl; rw [hl] at this; exact this.elim
  | cons a b => simp

theorem outcomes_yes {xs : List Int} (h : outB xs = true) : outcomesOf xs = (prodTo xs xs.length, true) := by simp [outcomesOf, h]
theorem outcomes_no {xs : List Int} (h : ¬ outB xs = true) : outcomesOf xs = (0, false) := by simp [outcomesOf, h]
theorem lexAt_zero {xs : List Int} (ho : outB xs = true) : (((lexAt xs 0).length : Nat) : Int) = prodTo xs xs.length := by
  have := length_lex xs ho xs.length (Nat.le_refl _)
  rw [Nat.sub_self, prodTo, Int.one_mul] at this
  exact this

theorem stepC_nonneg : ∀ (ys ls hs : List Int), (∀ x ∈ ys, 0 ≤ x) → (∀ x ∈ ls, 0 ≤ x) → ∀ x ∈ (stepC ys ls hs).1, 0 ≤ x
  | [], _, _, _, _ => by simp [stepC]
  | y :: ys, [], _, h, _ => by simpa [stepC] using h
  | y :: ys, l :: ls, [], h, _ => by simpa [stepC] using h
  | y :: ys, l :: ls, h' :: hs, h, hl => by
    have ih := stepC_nonneg ys ls hs (fun x hx => h x (by simp [hx])) (fun x hx => hl x (by simp [hx]))
    have h0 := h y (by simp)
    have l0 := hl l (by simp)
    intro x hx
    simp only [stepC] at hx
    split at hx
    · split at hx
      · rcases List.mem_cons.1 hx with rfl | hx
        · omega
        · exact ih x hx
      · rcases List.mem_cons.1 hx with rfl | hx
        · exact l0
        · exact ih x hx
    · rcases List.mem_cons.1 hx with rfl | hx
      · exact h0
      · exact ih x hx

theorem Marked.trans' {w w' w'' : World} {g : Nat} (h : w.grownBy w' (some g)) (h' : w'.grownBy w'' (some g)) : w.grownBy w'' (some g) := grown_trans h h'

/-- What the list holds in the middle of a step: behind k all numbers were the greatest. -/
def midStep (ys ls hs : List Int) (k : Nat) : List Int := ys.take k ++ (stepC (ys.drop k) (ls.drop k) (hs.drop k)).1

theorem grown_drewN {w w' : World} {row : Option Nat} (h : w.grownBy w' row) (k : Nat) : w.grownBy (w'.drewN k) row := ⟨h.os, h.tape, h.output, h.size, h.block⟩

set_option maxHeartbeats 2000000 in
theorem stepBetween_any (B : Nat) (a al ah : Option Addr) (n cap capl caph : Nat) (ys ls hs : List Int) (w : World) (h : Own w B a n cap ys) (hl : Has w al n capl ls) (hh : Has w ah n caph hs)
    (hal : 0 < n → BlkLt al B) (hah : 0 < n → BlkLt ah B) (hbd : ∀ i, i < n → nth hs i ≤ 1000) (hys : ∀ i, i < n → 0 ≤ nth ys i) :
    Calls Tryz.prog 43 #[.slice a n cap, .slice al n capl, .slice ah n caph] w fun e w' => e = .returned (.tuple #[]) ∧ Own w' B a n cap (stepC ys ls hs).1 ∧ Marked w w' a := by
  have hn := h.le
  have HLY := hid h.len
  have HLL := hid hl.len
  have HLH := hid hh.len
  by_cases h0 : n = 0
  · have hn0 : n ≤ 0 := by omega
    have HR : Hid ((stepC ys ls hs).1 = ys) := hid (by
      have : ys = [] := List.eq_nil_of_length_eq_zero (by rw [HLY.out]; omega)
      subst this
      simp [stepC])
    clear h0
    go_enter Tryz.func43, Tryz.ntmps43
    go_wp2_with fail
    refine wp_loop_rounds 1 ?_
    rw [rounds_succ]
    go_wp2_with fail
    go_end0
    exact ⟨rfl, by rw [HR.out]; exact h, ⟨none, World.grownBy.refl _ _, by simp⟩⟩
  · obtain ⟨g, rfl, hg1, hg2, hg3, hg4⟩ := h.opened (by omega)
    obtain ⟨bl, ol, rfl, hbl, hcl⟩ := hl.2.2.2.2 (by omega)
    obtain ⟨bh, oh, rfl, hbh, hch⟩ := hh.2.2.2.2 (by omega)
    have hl1 := hal (by omega) _ rfl
    have hh1 := hah (by omega) _ rfl
    clear hg3 hg4 hal hah
    go_enter Tryz.func43, Tryz.ntmps43
    go_wp2_with fail
    go_loopw [6] (fun i wr => ∃ (k : Nat), k ≤ n ∧ i = .int .i64 ((k : Int) - 1) ∧ Own wr B (some ⟨g, 0, none⟩) n cap (midStep ys ls hs k) ∧ Hid ((stepC (ys.drop k) (ls.drop k) (hs.drop k)).2 = true) ∧ w.grownBy wr (some g)) (fun i _ => (intOf i + 1).toNat)
    case atStart =>
      refine ⟨n, Nat.le_refl _, rfl, ?_, hid ?_, World.grownBy.refl _ _⟩
      · unfold midStep
        rw [List.drop_eq_nil_of_le (by rw [HLY.out]; omega), List.take_of_length_le (by rw [HLY.out]; omega)]
        simpa [stepC] using h
      · rw [List.drop_eq_nil_of_le (by rw [HLY.out]; omega)]; simp [stepC]
    case round =>
      obtain ⟨k, hk, rfl, hown, HC, hgr⟩ := hrel
      match k, hk, HC, hown with
      | 0, hk, HC, hown =>
        go_wp2_with fail
        go_end0
        refine ⟨rfl, ?_, ⟨some g, hgr, fun g' hg' => ⟨_, rfl, by simpa using hg'⟩⟩⟩
        simpa [midStep] using hown
      | j + 1, hk, HC, hown =>
        have e : ((j + 1 : Nat) : Int) - 1 = (j : Int) := by omega
        rw [e]
        clear e
        obtain ⟨g', hga, hg1', hg2', hg3', hg4'⟩ := hown.opened (by omega)
        cases hga
        have hcy := hg3' j (by omega)
        have hfy := hg4' j
        have e1 : nth (midStep ys ls hs (j + 1)) j = nth ys j := by
          unfold midStep
          rw [nth_append_left (by simp; rw [HLY.out]; omega), nth_take (by omega)]
        rw [e1] at hcy
        have hcl' : wr.cell? ⟨bl, ol + j, none⟩ = some (.int .i64 (nth ls j)) := grown_cell hgr (hcl j (by omega)) (by omega)
        have hch' : wr.cell? ⟨bh, oh + j, none⟩ = some (.int .i64 (nth hs j)) := grown_cell hgr (hch j (by omega)) (by omega)
        have hb1000 := hbd j (by omega)
        have hy0 := hys j (by omega)
        have hjn : (j : Int) < (n : Int) := by omega
        have hjz : (0 : Int) ≤ (j : Int) := by omega
        have HE := hid (stepC_at (ys := ys) (ls := ls) (hs := hs) (j := j) (by rw [HLY.out]; omega) (by rw [HLL.out]; omega) (by rw [HLH.out]; omega))
        have hset : ∀ z : Int, (midStep ys ls hs (j + 1)).set j z = ys.take j ++ z :: (stepC (ys.drop (j + 1)) (ls.drop (j + 1)) (hs.drop (j + 1))).1 := by
          intro z
          unfold midStep
          rw [take_succ_nth (by rw [HLY.out]; omega), List.append_assoc]
          have hlj : (ys.take j).length = j := by simp; rw [HLY.out]; omega
          rw [List.set_append_right _ _ (by omega), hlj, Nat.sub_self]
          rfl
        have HSET := hid hset
        clear hcl hch hg3' hg4' e1 hset hbd hys hg2' hg1'
        by_cases hlt : nth ys j < nth hs j
        · have htd : decide (nth ys j < nth hs j) = true := by simpa using hlt
          have HR : Hid ((midStep ys ls hs (j + 1)).set j (nth ys j + 1) = (stepC ys ls hs).1) := hid (by
            have he := HE.out
            simp only [HC.out, if_true, if_pos hlt] at he
            rw [HSET.out, stepC_done (ys := ys) (ls := ls) (hs := hs) j (by rw [HLY.out]; omega) (by rw [HLY.out, HLL.out]) (by rw [HLY.out, HLH.out]) (by rw [he]), he])
          go_wp2_with fail
          go_quiet (fail)
          go_wp2_with fail
          refine bodyPost_ret (results_none rfl _ _ _) rfl ?_
          have hd : Own (wr.drewN nq) B (some ⟨g, 0, none⟩) n cap (midStep ys ls hs (j + 1)) := hown
          obtain ⟨s1, s2⟩ := hd.set j (nth ys j + 1)
          rw [HR.out] at s1
          exact ⟨rfl, s1, ⟨some g, grown_trans (grown_drewN hgr nq) s2, fun g' hg' => ⟨_, rfl, by simpa using hg'⟩⟩⟩
        · have htd : decide (nth ys j < nth hs j) = false := by simp; omega
          have HR : Hid ((midStep ys ls hs (j + 1)).set j (nth ls j) = midStep ys ls hs j ∧ (stepC (ys.drop j) (ls.drop j) (hs.drop j)).2 = true) := hid (by
            have he := HE.out
            simp only [HC.out, if_true, if_neg hlt] at he
            refine ⟨?_, by rw [he]⟩
            rw [HSET.out]
            unfold midStep
            rw [he])
          go_wp2_with fail
          go_quiet (fail)
          go_wp2_with fail
          go_roundw
          case rel =>
            have hd : Own (wr.drewN nq) B (some ⟨g, 0, none⟩) n cap (midStep ys ls hs (j + 1)) := hown
            obtain ⟨s1, s2⟩ := hd.set j (nth ls j)
            rw [HR.out.1] at s1
            exact ⟨j, by omega, by go_num, s1, hid HR.out.2, grown_trans (grown_drewN hgr nq) s2⟩
          case measure => simp [intOf]

theorem lex_seq {xs : List Int} (ho : outB xs = true) : SeqTo (fun ys => stepC ys (leasts xs) xs) (leasts xs) (lex (leasts xs) xs) (leasts xs, true) :=
  lex_ne _ _ (fun i hi => by
    rw [length_leasts] at hi
    rw [nth_leasts hi]
    exact (leastOf_bounds (out_nth ho hi).1).2) (length_leasts xs)

theorem take_succ_getD {L : List (List Int)} {k : Nat} (h : k < L.length) : L.take (k + 1) = L.take k ++ [L.getD k []] := by
  rw [List.take_succ_eq_append_getElem h]
  simp [h]

theorem leasts_nonneg {xs : List Int} (ho : outB xs = true) : ∀ x ∈ leasts xs, 0 ≤ x := by
  intro x hx
  obtain ⟨i, hi, rfl⟩ := mem_nth hx
  rw [length_leasts] at hi
  rw [nth_leasts hi]
  exact (leastOf_bounds (out_nth ho hi).1).1

end Go.Proofs.YtfjeadnakbdkjaaGreat

namespace Go.Proofs.YtfjeadnakbdkjaaGreat
open Go.RowKit

set_option maxHeartbeats 2000000 in
theorem stepApart_any (B : Nat) (a al ah : Option Addr) (n cap capl caph : Nat) (ys ls hs : List Int) (w : World) (h : Own w B a n cap ys) (hl : Has w al n capl ls) (hh : Has w ah n caph hs)
    (hal : ∀ g, a = some ⟨g, 0, none⟩ → ∀ q, al = some q → q.block ≠ g) (hah : ∀ g, a = some ⟨g, 0, none⟩ → ∀ q, ah = some q → q.block ≠ g) (hbd : ∀ i, i < n → nth hs i ≤ 1000) (hys : ∀ i, i < n → 0 ≤ nth ys i) :
    Calls Tryz.prog 43 #[.slice a n cap, .slice al n capl, .slice ah n caph] w fun e w' => e = .returned (.tuple #[]) ∧ Own w' B a n cap (stepC ys ls hs).1 ∧ Marked w w' a := by
  have hn := h.le
  have HLY := hid h.len
  have HLL := hid hl.len
  have HLH := hid hh.len
  by_cases h0 : n = 0
  · have hn0 : n ≤ 0 := by omega
    have HR : Hid ((stepC ys ls hs).1 = ys) := hid (by
      have : ys = [] := List.eq_nil_of_length_eq_zero (by rw [HLY.out]; omega)
      subst this
      simp [stepC])
    clear h0
    go_enter Tryz.func43, Tryz.ntmps43
    go_wp2_with fail
    refine wp_loop_rounds 1 ?_
    rw [rounds_succ]
    go_wp2_with fail
    go_end0
    exact ⟨rfl, by rw [HR.out]; exact h, ⟨none, World.grownBy.refl _ _, by simp⟩⟩
  · obtain ⟨g, rfl, hg1, hg2, hg3, hg4⟩ := h.opened (by omega)
    obtain ⟨bl, ol, rfl, hbl, hcl⟩ := hl.2.2.2.2 (by omega)
    obtain ⟨bh, oh, rfl, hbh, hch⟩ := hh.2.2.2.2 (by omega)
    have hl1 : bl ≠ g := hal _ rfl _ rfl
    have hh1 : bh ≠ g := hah _ rfl _ rfl
    clear hg3 hg4 hal hah
    go_enter Tryz.func43, Tryz.ntmps43
    go_wp2_with fail
    go_loopw [6] (fun i wr => ∃ (k : Nat), k ≤ n ∧ i = .int .i64 ((k : Int) - 1) ∧ Own wr B (some ⟨g, 0, none⟩) n cap (midStep ys ls hs k) ∧ Hid ((stepC (ys.drop k) (ls.drop k) (hs.drop k)).2 = true) ∧ w.grownBy wr (some g)) (fun i _ => (intOf i + 1).toNat)
    case atStart =>
      refine ⟨n, Nat.le_refl _, rfl, ?_, hid ?_, World.grownBy.refl _ _⟩
      · unfold midStep
        rw [List.drop_eq_nil_of_le (by rw [HLY.out]; omega), List.take_of_length_le (by rw [HLY.out]; omega)]
        simpa [stepC] using h
      · rw [List.drop_eq_nil_of_le (by rw [HLY.out]; omega)]; simp [stepC]
    case round =>
      obtain ⟨k, hk, rfl, hown, HC, hgr⟩ := hrel
      match k, hk, HC, hown with
      | 0, hk, HC, hown =>
        go_wp2_with fail
        go_end0
        refine ⟨rfl, ?_, ⟨some g, hgr, fun g' hg' => ⟨_, rfl, by simpa using hg'⟩⟩⟩
        simpa [midStep] using hown
      | j + 1, hk, HC, hown =>
        have e : ((j + 1 : Nat) : Int) - 1 = (j : Int) := by omega
        rw [e]
        clear e
        obtain ⟨g', hga, hg1', hg2', hg3', hg4'⟩ := hown.opened (by omega)
        cases hga
        have hcy := hg3' j (by omega)
        have hfy := hg4' j
        have e1 : nth (midStep ys ls hs (j + 1)) j = nth ys j := by
          unfold midStep
          rw [nth_append_left (by simp; rw [HLY.out]; omega), nth_take (by omega)]
        rw [e1] at hcy
        have hcl' : wr.cell? ⟨bl, ol + j, none⟩ = some (.int .i64 (nth ls j)) := grown_cell hgr (hcl j (by omega)) (by omega)
        have hch' : wr.cell? ⟨bh, oh + j, none⟩ = some (.int .i64 (nth hs j)) := grown_cell hgr (hch j (by omega)) (by omega)
        have hb1000 := hbd j (by omega)
        have hy0 := hys j (by omega)
        have hjn : (j : Int) < (n : Int) := by omega
        have hjz : (0 : Int) ≤ (j : Int) := by omega
        have HE := hid (stepC_at (ys := ys) (ls := ls) (hs := hs) (j := j) (by rw [HLY.out]; omega) (by rw [HLL.out]; omega) (by rw [HLH.out]; omega))
        have hset : ∀ z : Int, (midStep ys ls hs (j + 1)).set j z = ys.take j ++ z :: (stepC (ys.drop (j + 1)) (ls.drop (j + 1)) (hs.drop (j + 1))).1 := by
          intro z
          unfold midStep
          rw [take_succ_nth (by rw [HLY.out]; omega), List.append_assoc]
          have hlj : (ys.take j).length = j := by simp; rw [HLY.out]; omega
          rw [List.set_append_right _ _ (by omega), hlj, Nat.sub_self]
          rfl
        have HSET := hid hset
        clear hcl hch hg3' hg4' e1 hset hbd hys hg2' hg1'
        by_cases hlt : nth ys j < nth hs j
        · have htd : decide (nth ys j < nth hs j) = true := by simpa using hlt
          have HR : Hid ((midStep ys ls hs (j + 1)).set j (nth ys j + 1) = (stepC ys ls hs).1) := hid (by
            have he := HE.out
            simp only [HC.out, if_true, if_pos hlt] at he
            rw [HSET.out, stepC_done (ys := ys) (ls := ls) (hs := hs) j (by rw [HLY.out]; omega) (by rw [HLY.out, HLL.out]) (by rw [HLY.out, HLH.out]) (by rw [he]), he])
          go_wp2_with fail
          go_quiet (fail)
          go_wp2_with fail
          refine bodyPost_ret (results_none rfl _ _ _) rfl ?_
          have hd : Own (wr.drewN nq) B (some ⟨g, 0, none⟩) n cap (midStep ys ls hs (j + 1)) := hown
          obtain ⟨s1, s2⟩ := hd.set j (nth ys j + 1)
          rw [HR.out] at s1
          exact ⟨rfl, s1, ⟨some g, grown_trans (grown_drewN hgr nq) s2, fun g' hg' => ⟨_, rfl, by simpa using hg'⟩⟩⟩
        · have htd : decide (nth ys j < nth hs j) = false := by simp; omega
          have HR : Hid ((midStep ys ls hs (j + 1)).set j (nth ls j) = midStep ys ls hs j ∧ (stepC (ys.drop j) (ls.drop j) (hs.drop j)).2 = true) := hid (by
            have he := HE.out
            simp only [HC.out, if_true, if_neg hlt] at he
            refine ⟨?_, by rw [he]⟩
            rw [HSET.out]
            unfold midStep
            rw [he])
          go_wp2_with fail
          go_quiet (fail)
          go_wp2_with fail
          go_roundw
          case rel =>
            have hd : Own (wr.drewN nq) B (some ⟨g, 0, none⟩) n cap (midStep ys ls hs (j + 1)) := hown
            obtain ⟨s1, s2⟩ := hd.set j (nth ls j)
            rw [HR.out.1] at s1
            exact ⟨j, by omega, by go_num, s1, hid HR.out.2, grown_trans (grown_drewN hgr nq) s2⟩
          case measure => simp [intOf]

end Go.Proofs.YtfjeadnakbdkjaaGreat

namespace Go.Proofs.YtfjeadnakbdkjaaGreat
open Go.RowKit Go.Shelf

attribute [local go_sem] Oper.semAt_some

def zcells (n : Nat) : Array Value := madeCells #[.int .i64 0] n
theorem run_mk (n : Nat) (hn : n ≤ 2097152) (w : World) : (Instr.makeSlice 31 (.int .i64 (n : Int)) (.int .i64 (n : Int))).run Tryz.prog w = .ok (.slice (some ⟨w.heap.size, 0, none⟩) n n) (w.alloc (.cells (zcells n) 3)) := by
  obtain ⟨i0, hi, hz0, hz1, hz2⟩ := info_parts Tryz.infoInt
  have h := run_makeSlice (P := Tryz.prog) w 31 3 i0 (.int .i64 0) Tryz.underlying31 hi hz0 .i64 .i64 n n (by omega) (Int.le_refl _) (by simp [hz1]; omega) (by rw [hz2]; omega) (by omega)
  simp only [Int.toNat_natCast, hz1, Nat.mul_one] at h
  exact h
/-- What such a make lays. -/
theorem own_mk {W : World} {B n b : Nat} (hn : n ≤ 2097152) (hb : b = W.heap.size) (hB : B ≤ W.heap.size) : Own (W.alloc (.cells (zcells n) 3)) B (some ⟨b, 0, none⟩) n n (List.replicate n 0) := by
  subst hb
  have hz : (zcells n).toList = (List.replicate n (0 : Int)).map (Value.int .i64) := by
    unfold zcells
    rw [toList_madeCells_one]
    simp
  refine ⟨⟨by simp, .inr ⟨W.heap.size, n, zcells n, rfl, hB, heap_alloc_new W _, Nat.le_refl _, by unfold maxLen; omega, by simp [zcells, size_madeCells], ?_⟩⟩, by simp, hn⟩
  rw [hz]
  simp
theorem Own.al {W : World} {B : Nat} {a : Option Addr} {n cap : Nat} {xs : List Int} (h : Own W B a n cap xs) (O : Obj) : Own (W.alloc O) B a n cap xs := h.below ((Below.refl W.heap.size W).alloc (Nat.le_refl _) O) (Nat.le_refl _)
theorem Own.ct {W W' : World} {B : Nat} {a : Option Addr} {n cap : Nat} {xs : List Int} (hb : Below W.heap.size W W') (h : Own W B a n cap xs) : Own W' B a n cap xs := h.below hb (Nat.le_refl _)
theorem Own.dr {W : World} {B : Nat} {a : Option Addr} {n cap : Nat} {xs : List Int} (h : Own W B a n cap xs) : Own W.drew B a n cap xs := h
theorem below_al {B : Nat} {W V : World} {O : Obj} (hB : B ≤ V.heap.size) (h : Below B W V) : Below B W (V.alloc O) := h.alloc hB O
theorem below_dr {B : Nat} {W V : World} (h : Below B W V) : Below B W V.drew := h.drew
theorem below_ct {B K : Nat} {W V V' : World} (hb : Below K V V') (hK : B ≤ K) (h : Below B W V) : Below B W V' := h.trans (hb.mono hK)
theorem has_cell {W : World} {b : Nat} {x : Int} (hb : b < W.heap.size) (hc : W.cell? ⟨b, 0, none⟩ = some (.int .i64 x)) : Has W (some ⟨b, 0, none⟩) 1 1 [x] := by
  refine ⟨rfl, Nat.le_refl _, by unfold maxLen; omega, by omega, fun _ => ⟨b, 0, rfl, hb, fun i hi => ?_⟩⟩
  obtain rfl : i = 0 := by omega
  exact hc
theorem cell_past {w : World} {bn : Nat} {v : Value} (hb : bn < w.heap.size) (hc : w.cell? ⟨bn, 0, none⟩ = some v) :
    (∀ O, (w.alloc O).cell? ⟨bn, 0, none⟩ = some v) ∧ (∀ O1 O2, ((w.alloc O1).alloc O2).cell? ⟨bn, 0, none⟩ = some v) ∧ (∀ O1 O2 O3, (((w.alloc O1).alloc O2).alloc O3).cell? ⟨bn, 0, none⟩ = some v) := by
  have k1 : ∀ (w : World), bn < w.heap.size → w.cell? ⟨bn, 0, none⟩ = some v → ∀ O, (w.alloc O).cell? ⟨bn, 0, none⟩ = some v := fun w hb hc O => by rw [World.cell?_alloc_past _ _ _ (by simpa using hb)]; exact hc
  exact ⟨k1 w hb hc, fun O1 O2 => k1 _ (by simp; omega) (k1 w hb hc O1) O2, fun O1 O2 O3 => k1 _ (by simp; omega) (k1 _ (by simp; omega) (k1 w hb hc O1) O2) O3⟩
theorem lit0 (W : World) (b : Nat) (x : Int) (t : TypeId) (h : b = W.heap.size) : ((W.alloc (.cells #[.int .i64 x] t)).drew).cell? ⟨b, 0, none⟩ = some (.int .i64 x) := by
  show (W.alloc (.cells #[.int .i64 x] t)).cell? ⟨b, 0, none⟩ = _
  rw [World.cell?_alloc_at _ _ _ _ (by simpa using h)]; rfl
theorem lit1 (W : World) (O : Obj) (b : Nat) (x : Int) (t : TypeId) (h : b = W.heap.size) : (((W.alloc (.cells #[.int .i64 x] t)).alloc O).drew).cell? ⟨b, 0, none⟩ = some (.int .i64 x) := by
  show ((W.alloc (.cells #[.int .i64 x] t)).alloc O).cell? ⟨b, 0, none⟩ = _
  rw [World.cell?_alloc_past _ _ _ (by simp; omega)]
  exact lit0 W b x t h
theorem lit2 (W : World) (O O' : Obj) (b : Nat) (x : Int) (t : TypeId) (h : b = W.heap.size) : ((((W.alloc (.cells #[.int .i64 x] t)).alloc O).alloc O').drew).cell? ⟨b, 0, none⟩ = some (.int .i64 x) := by
  show (((W.alloc (.cells #[.int .i64 x] t)).alloc O).alloc O').cell? ⟨b, 0, none⟩ = _
  rw [World.cell?_alloc_past _ _ _ (by simp; omega)]
  exact lit1 W O b x t h

/-- What lies at or beyond a block, and lay there, lies as it lay. -/
def Kept (base : Nat) (W W' : World) : Prop := W.heap.size ≤ W'.heap.size ∧ ∀ b, base ≤ b → b < W.heap.size → W'.heap[b]? = W.heap[b]?
theorem Own.keptFrom {W W' : World} {B : Nat} {a : Option Addr} {n cap : Nat} {xs : List Int} (h : Own W B a n cap xs) (hk : Kept B W W') : Own W' B a n cap xs := by
  obtain ⟨⟨h1, h2⟩, h3⟩ := h
  refine ⟨⟨h1, ?_⟩, h3⟩
  rcases h2 with h2 | ⟨g, cap', cur, hv, hg, hh, r⟩
  · exact .inl h2
  · exact .inr ⟨g, cap', cur, hv, hg, by rw [hk.2 g hg (Array.getElem?_eq_some_iff.1 hh).1]; exact hh, r⟩

/-- The three lists of the iterator: the present one, the least and the greatest. -/
structure Tri (W : World) (base n g1 : Nat) (a2 a3 : Option Addr) (c2 c3 : Nat) (zs : List Int) : Prop where
  l : Own W base (some ⟨g1, 0, none⟩) n n zs
  lo : Own W base a2 n c2 (List.replicate n 0)
  hi : Own W base a3 n c3 (List.replicate n ((n : Int) - 1))
  ne2 : ∀ g, (some ⟨g1, 0, none⟩ : Option Addr) = some ⟨g, 0, none⟩ → ∀ q, a2 = some q → q.block ≠ g
  ne3 : ∀ g, (some ⟨g1, 0, none⟩ : Option Addr) = some ⟨g, 0, none⟩ → ∀ q, a3 = some q → q.block ≠ g

theorem Own.marked_ne {w w' : World} {B : Nat} {a : Option Addr} {g1 n cap : Nat} {xs : List Int} (h : Own w B a n cap xs) (hm : Marked w w' (some ⟨g1, 0, none⟩)) (hne : ∀ q, a = some q → q.block ≠ g1) : Own w' B a n cap xs := by
  obtain ⟨row, hgr, hr⟩ := hm
  cases row with
  | none => exact ⟨h.1.kept hgr ((Classical.em _).elim .inl fun h => .inr h), h.2⟩
  | some g =>
    obtain ⟨p, hp, rfl⟩ := hr g rfl
    cases hp
    exact h.kept hgr (.inr hne)
theorem Tri.keptFrom {W W' : World} {base n g1 : Nat} {a2 a3 : Option Addr} {c2 c3 : Nat} {zs : List Int} (h : Tri W base n g1 a2 a3 c2 c3 zs) (hk : Kept base W W') : Tri W' base n g1 a2 a3 c2 c3 zs :=
  ⟨h.l.keptFrom hk, h.lo.keptFrom hk, h.hi.keptFrom hk, h.ne2, h.ne3⟩

/-- Behind the statement that makes the three lists. -/
def RegPost (W : World) (base n : Nat) (y : Value) (bn : Nat) (e : Exit) (a : Act) (w' : World) : Prop :=
  e = .normal ∧ ∃ (g1 g2 g0 : Nat) (a3 : Option Addr) (c3 : Nat), a = { tmps := #[y, .pointer (some ⟨bn, 0, none⟩), undef, .slice (some ⟨g1, 0, none⟩) n n, .slice (some ⟨g2, 0, none⟩) n n, .slice a3 n c3, .int .i64 (n : Int), .slice (some ⟨g1, 0, none⟩) n n, .int .i64 (n : Int), .slice (some ⟨g2, 0, none⟩) n n, .int .i64 (n : Int), .int .i64 ((n : Int) - 1), .slice (some ⟨g0, 0, none⟩) 1 1, .int .i64 (n : Int), .slice a3 n c3, undef, undef, undef, undef, undef, undef, undef, undef, undef, undef, undef, undef, undef, undef], defers := [] } ∧
    Tri w' base n g1 (some ⟨g2, 0, none⟩) a3 n c3 (List.replicate n 0) ∧ Below base W w'

/-! END OF tried1_in -/

/-- How a round of such a loop ends: it goes on. -/
def trPost (B base : Nat) (I : Nat → World → Prop) (k : Nat) (W : World) : Exit → Act → World → Prop
  | .normal, _, W' => KeepsFrom B W W' ∧ I (k + 1) W' ∧ Kept base W W'
  | _, _, _ => False

end Go.Proofs.YtfjeadnakbdkjaaGreat

namespace Go.Proofs.YtfjeadnakbdkjaaGreat
open Go.RowKit Go.Shelf

attribute [local go_sem] Oper.semAt_some

theorem keeps_below {B K : Nat} {W W' : World} (hb : Below K W W') (hK : W.heap.size ≤ K) : KeepsFrom B W W' :=
  ⟨hb.size, fun k o _ hk _ => by rw [hb.block k (by have := (Array.getElem?_eq_some_iff.1 hk).1; omega)]; exact hk⟩
theorem kept_below {base K : Nat} {W W' : World} (hb : Below K W W') (hK : W.heap.size ≤ K) : Kept base W W' :=
  ⟨hb.size, fun b _ h2 => hb.block b (by omega)⟩
theorem kept_set {base : Nat} (W : World) (g i : Nat) (v : Value) (hg : g < base) : Kept base W (W.setCell ⟨g, i, none⟩ v) :=
  ⟨by simp, fun b h1 _ => heap_setCell_other W ⟨g, i, none⟩ b v (by simp; omega)⟩
theorem Kept.trans {base : Nat} {A B C : World} (h : Kept base A B) (h' : Kept base B C) : Kept base A C :=
  ⟨Nat.le_trans h.1 h'.1, fun b h1 h2 => by rw [h'.2 b h1 (by have := h.1; omega), h.2 b h1 h2]⟩

theorem alloc_keep {w : World} {b : Nat} {v : Value} (h : w.cell? ⟨b, 0, none⟩ = some v) (hb : b < w.heap.size) (O : Obj) : (w.alloc O).cell? ⟨b, 0, none⟩ = some v := by
  rw [World.cell?_alloc_past _ _ _ (by simpa using hb)]; exact h
end Go.Proofs.YtfjeadnakbdkjaaGreat

namespace Go.Proofs.YtfjeadnakbdkjaaGreat
open Go.RowKit

/-- Two slices lie in different blocks. -/
def Apart (a b : Option Addr) : Prop := ∀ p q : Addr, a = some p → b = some q → p.block ≠ q.block
theorem Apart.symm {a b : Option Addr} (h : Apart a b) : Apart b a := fun p q hp hq e => h q p hq hp e.symm
theorem Apart.noneL (b : Option Addr) : Apart none b := fun _ _ h => by cases h
theorem Apart.noneR (a : Option Addr) : Apart a none := fun _ _ _ h => by cases h

/-- 'append(out, y)' of one number to a slice of the call's own, beside another one. -/
theorem wpList_append_two {ops : Array Oper} {rest : List Oper} {o : Oper} {a : Act} {Q : Exit → Act → World → Prop} (w : World) (hgd : o.guard = none) (s x : Operand)
    (ho : o.op = .call { callee := .builtin .append, args := #[s, x], argTypes := #[31, 31] })
    (B : Nat) (a0 : Option Addr) (n cap : Nat) (xs : List Int) (y : Int) (hs : a.eval s = .slice a0 n cap) (hx : a.eval x = .slice (some ⟨w.heap.size, 0, none⟩) 1 1)
    (hown : Own w B a0 n cap xs) (hl : n + 1 ≤ 2097152) (hB : B ≤ w.heap.size) (B2 : Nat) (a2 : Option Addr) (n2 cap2 : Nat) (ys : List Int) (h2 : Own w B2 a2 n2 cap2 ys) (hap : Apart a0 a2)
    (h : ∀ a' cap' w', Own w' B a' (n + 1) cap' (xs ++ [y]) → Own w' B2 a2 n2 cap2 ys → Apart a' a2 → Below B w w' → wpList Tryz.prog ops Q rest (a.put o.dst (.slice a' (n + 1) cap')) w') :
    wpList Tryz.prog ops Q (o :: rest) a (w.alloc (.cells #[.int .i64 y] 3)) := by
  obtain ⟨i0, hi, hz0, hz1, hz2⟩ := info_parts Tryz.infoInt
  have hlen := hown.len
  have hba : Below w.heap.size w (w.alloc (.cells #[.int .i64 y] 3)) := (Below.refl _ _).alloc (Nat.le_refl _) _
  refine wpList_append_lies (P := Tryz.prog) _ hgd s x 31 ho B 3 i0 (.int .i64 0) 1 8 Tryz.underlying31 hi hz0 hz1 hz2 rfl (by decide) _ n (xs.map (Value.int .i64)) hs (hown.1.alloc _) ⟨w.heap.size, 0, none⟩ 1 1 [.int .i64 y] hx rfl (one_cell w y) (by intro u hu; simp at hu; subst hu; rfl) (by decide) (by unfold maxLen; omega) (by omega) (by simp; omega) _ rfl ?_
  intro g cap' w' hown' hgrow hg hlt
  have hb : Below B w w' := ((Below.refl B w).alloc hB _).grown hgrow (by simp; omega) (fun k hk => (hown.1.lt k hk).1)
  have h2a := h2.below hba (Nat.le_refl _)
  have hk2 : Own w' B2 a2 n2 cap2 ys := by
    cases a0 with
    | none =>
      exact ⟨h2a.1.kept hgrow ((Classical.em _).elim .inl fun h => .inr h), h2.2⟩
    | some p =>
      refine Own.kept (g := p.block) h2a (by simpa [Value.ownBlock] using hgrow) (.inr fun q hq e => hap p q rfl hq e.symm)
  obtain ⟨a', cap'', hv, ho'⟩ := own_of_row (xs := xs ++ [y]) hown' (by simp [hlen]) (by simp) (by simp; omega)
  cases hv
  refine h _ _ _ ho' hk2 (fun p q hp hq => ?_) hb
  cases hp
  rcases hg with hg | hg
  · cases a0 with
    | none => simp [Value.ownBlock] at hg
    | some p0 =>
      simp [Value.ownBlock] at hg
      have := hap p0 q rfl hq
      rw [hg] at this
      exact this
  · have hq2 : q.block < w.heap.size := by subst hq; exact (h2.1.lt q.block rfl).2
    simp at hg
    show g ≠ q.block
    omega
theorem apart_of {a b : Option Addr} {K : Nat} (h : BlkLt a K) (h' : BlkGe b K) : Apart a b := fun p q hp hq e => by
  have := h p hp
  have := h' q hq
  omega

end Go.Proofs.YtfjeadnakbdkjaaGreat

namespace Go.Proofs.YtfjeadnakbdkjaaGreat
open Go.RowKit

def pruB (xs : List Int) : List Int × Bool := if treeB xs && decide (0 < xs.length) then (pruOf xs, true) else ([], false)

theorem pruB_yes {xs : List Int} (h : treeB xs = true) (hn : 0 < xs.length) : pruB xs = (pruOf xs, true) := by simp [pruB, h, hn]
theorem pruB_no {xs : List Int} (h : treeB xs = false ∨ xs.length = 0) : pruB xs = ([], false) := by
  unfold pruB
  rcases h with h | h <;> simp [h]

end Go.Proofs.YtfjeadnakbdkjaaGreat

namespace Go.Proofs.YtfjeadnakbdkjaaGreat
open Go.RowKit

/-- The degrees as a list. -/
def Degs (ds : List Int) (f : Nat → Nat) (n : Nat) : Prop := ds.length = n + 1 ∧ ∀ v : Nat, v ≤ n → nth ds v = (f v : Int)
theorem Degs.cut {ds : List Int} {f : Nat → Nat} {n x : Nat} (h : Degs ds f n) (hx : x ≤ n) : Degs (ds.set x 0) (fun v => if v = x then 0 else f v) n :=
  ⟨by simp [h.1], fun v hv => by
    show nth (ds.set x 0) v = ((if v = x then 0 else f v : Nat) : Int)
    rw [nth_set (by rw [h.1]; omega)]
    by_cases e : x = v
    · subst e; rw [if_pos rfl, if_pos rfl]; rfl
    · rw [if_neg e, if_neg (fun hh => e hh.symm), h.2 v hv]⟩
theorem Degs.less {ds : List Int} {f : Nat → Nat} {n p : Nat} (h : Degs ds f n) (hp : p ≤ n) (h1 : 1 ≤ f p) : Degs (ds.set p (nth ds p - 1)) (fun v => if v = p then f p - 1 else f v) n :=
  ⟨by simp [h.1], fun v hv => by
    show nth (ds.set p (nth ds p - 1)) v = ((if v = p then f p - 1 else f v : Nat) : Int)
    rw [nth_set (by rw [h.1]; omega)]
    by_cases e : p = v
    · subst e; rw [if_pos rfl, if_pos rfl, h.2 p hp]; omega
    · rw [if_neg e, if_neg (fun hh => e hh.symm), h.2 v hv]⟩

set_option maxHeartbeats 400000 in
theorem cutLeaf_any (B : Nat) (g : Nat) (n cap : Nat) (ds : List Int) (f : Nat → Nat) (x : Nat) (w : World) (h : Own w B (some ⟨g, 0, none⟩) (n + 1) cap ds) (hd : Degs ds f n) (h8 : n ≤ 8) (hxn : x ≤ n) (h1 : f x = 1) (h2 : ∀ v, x < v → v ≤ n → f v ≠ 1) :
    Calls Tryz.prog 36 #[.slice (some ⟨g, 0, none⟩) (n + 1) cap] w fun e w' => e = .returned (.int .i64 (x : Int)) ∧ Own w' B (some ⟨g, 0, none⟩) (n + 1) cap (ds.set x 0) ∧ w.grownBy w' (some g) := by
  obtain ⟨g', hgg, hg1, hg2, hg3, hg4⟩ := h.opened (by omega)
  cases hgg
  have HD := hid hd
  have H2 := hid h2
  have H1 := hid h1
  clear hd h2 h1
  go_enter Tryz.func36, Tryz.ntmps36
  go_wp2_with fail
  go_loop [3] (fun i => ∃ j : Nat, x ≤ j ∧ j ≤ n ∧ i = .int .i64 j) (fun i => (intOf i).toNat)
  case atStart => exact ⟨n, hxn, Nat.le_refl _, by go_num⟩
  case round =>
    obtain ⟨j, hj1, hj2, rfl⟩ := hrel
    have hgj := hg3 j (by omega)
    have hgx := hg3 x (by omega)
    have hgf := hg4 x
    have HV : Hid (nth ds j = (f j : Int)) := hid (HD.out.2 j hj2)
    rw [HV.out] at hgj
    have hjn : j < n + 1 := by omega
    by_cases hjx : j = x
    · rw [hjx, H1.out] at hgj
      have HX := hid hjx
      subst hjx
      clear hg3 hg4
      go_wp2_with fail
      go_ret
      obtain ⟨s1, s2⟩ := h.set j 0
      exact ⟨rfl, s1, s2⟩
    · have hne : ¬ f j = 1 := H2.out j (by omega) hj2
      have hbe : ((f j : Int) != 1) = true := by simp; omega
      clear hg3 hg4 hgx
      go_wp2_with fail
      go_round
      case rel => exact ⟨j - 1, by omega, by omega, by go_num⟩
      case measure => simp [intOf]; omega

theorem degL_degs (xs : List Int) {n : Nat} (h : xs.length = n) : Degs (degL xs) (deg xs) n := by
  subst h
  exact ⟨length_degL xs, fun v hv => nth_degL hv⟩
theorem Degs.congr {ds : List Int} {f g : Nat → Nat} {n : Nat} (h : Degs ds f n) (he : ∀ v, v ≤ n → g v = f v) : Degs ds g n := ⟨h.1, fun v hv => by rw [he v hv]; exact h.2 v hv⟩

set_option maxHeartbeats 2000000 in
theorem implPrufer_any (a : Option Addr) (n cap : Nat) (xs : List Int) (w : World) (h : Has w a n cap xs) :
    Calls Tryz.prog 18 #[.slice a n cap] w (PostInts w (pruB xs)) := by
  have HL := hid h.len
  by_cases hg : treeB xs = true
  · have HT := hid (tree_of hg h.len)
    have h8 := HT.out.le
    by_cases hn : n = 0
    · have HR : Hid (pruB xs = ([], false)) := hid (pruB_no (.inr (by rw [HL.out]; exact hn)))
      have HG := hid hg
      clear hg
      have hbe : ((n : Int) == 0) = true := by simp [hn]
      have HN := hid hn
      clear hn
      go_enter Tryz.func18, Tryz.ntmps18
      go_wp2_with (go_at_call 19; refine (isTree_any _ _ _ _ _ h).mono ?_; rintro e w1 ⟨rfl, hb1⟩; rw [HG.out])
      go_ret2
      exact postInts_no HR.out hb1
    · have HR : Hid (pruB xs = (pruOf xs, true)) := hid (pruB_yes hg (by rw [HL.out]; omega))
      have HG := hid hg
      clear hg
      have hbe : ((n : Int) == 0) = false := by simp; omega
      have HC : Hid ((n : Int) - 1 = ((n - 1 : Nat) : Int)) := hid (by omega)
      have HB := hid HT.out.nthB
      go_enter Tryz.func18, Tryz.ntmps18
      go_wp2_with (first | (go_at_call 19; refine (isTree_any _ _ _ _ _ h).mono ?_; rintro e w1 ⟨rfl, hb1⟩; rw [HG.out]) | (go_at_call 35; refine (degreesOf_any _ _ _ _ _ (h.below hb1 (Nat.le_refl _)) h8 HB.out).mono ?_; rintro e w2 ⟨a2, cap2, rfl, hown2, hb2⟩) | (at_make; refine wpList_make_ints _ rfl _ _ rfl (n - 1) (by rw [← HC.out]; rfl) (by rw [← HC.out]; rfl) (by omega) ?_; intro a3 cap3 w3 hown3 hb3))
      have hs1 := hb1.size
      have hs2 := hb2.size
      have hs3 := hb3.size
      obtain ⟨g2, rfl, hg21, hg22, hg23, hg24⟩ := hown2.opened (by omega)
      have hownD := hown2.below hb3 (Nat.le_refl _)
      have hbx := (hb1.trans (hb2.mono hs1)).trans (hb3.mono (by omega))
      have hx2 := ((h.below hb1 (Nat.le_refl _)).below hb2 (Nat.le_refl _))
      clear hg23 hg24 hown2
      go_loopw [23] (fun i wr => ∃ (k : Nat) (ds ys : List Int), k ≤ n - 1 ∧ i = .int .i64 k ∧ Own wr w1.heap.size (some ⟨g2, 0, none⟩) (n + 1) cap2 ds ∧ Own wr w2.heap.size a3 (n - 1) cap3 ys ∧ Degs ds (degAt xs (pruG xs k)) n ∧ FromTo (pruOf xs) ys k ∧ Below w.heap.size w wr) (fun i _ => n - 1 - (intOf i).toNat)
      case atStart => exact ⟨0, _, _, by omega, rfl, hownD, hown3, (degL_degs xs HL.out).congr (fun v _ => degAt_nil xs v), fun i hi => by omega, hbx⟩
      case round =>
        clear hownD hown3 hbx
        obtain ⟨k, ds, ys, hk, rfl, hD, hY, hds, hft, hb⟩ := hrel
        have HDS := hid hds
        have HFT := hid hft
        clear hds hft
        by_cases hlt : k < n - 1
        · have HG2 := hid (pruG_gone HT.out k (by omega))
          obtain ⟨x, x1, x2, x3, x4, x5, x6⟩ := gone_step HT.out HG2.out (by omega)
          have X3 := hid x3
          have HG1 : Hid (pruG xs (k + 1) = pruG xs k ++ [(x : Int)]) := hid (by simp only [pruG]; rw [HL.out, x4])
          have HDX : Hid (degAt xs (pruG xs k) x = 1) := hid ((degAt_leaf x1).2 x3)
          have HD2 : Hid (∀ v, x < v → v ≤ n → degAt xs (pruG xs k) v ≠ 1) := hid (fun v h1 h2 e => by
            have := (degAt_leaf (ps := xs) (g := pruG xs k) (v := v) (by omega)).1 e
            rw [x5 v h1 h2] at this
            cases this)
          obtain ⟨t, rfl⟩ : ∃ t : Nat, x = t + 1 := ⟨x - 1, by omega⟩
          have hbt := HB.out t (by omega)
          obtain ⟨p, hp⟩ : ∃ p : Nat, nth xs t = (p : Int) := ⟨(nth xs t).toNat, by omega⟩
          have HP : Hid (par xs ((t + 1 : Nat) : Int) = (p : Int)) := hid (by unfold par; rw [show ((t + 1 : Nat) : Int).toNat - 1 = t by omega]; exact hp)
          obtain ⟨p1, p2, p3⟩ := degAt_pos HT.out HG2.out x1 x2 X3.out HP.out
          have P1 := hid p1
          clear x3 x4 x5 x6 p1 hbt
          have hsz := hb.size
          go_wp2_with fail
          refine (cutLeaf_any _ _ _ _ _ _ (t + 1) _ hD HDS.out h8 x2 HDX.out HD2.out).mono ?_
          rintro e w4 ⟨rfl, hD4, hgr⟩
          have hY4 := hY.kept hgr (.inl (by omega))
          have hb4 : Below w.heap.size w w4 := hb.trans (below_grown hgr hsz (by intro j hj; cases hj; omega))
          obtain ⟨b, off, rfl, hbb, hc⟩ := (h.below hb4 (Nat.le_refl _)).2.2.2.2 (by omega)
          have hct := hc t (by omega)
          rw [hp] at hct
          obtain ⟨g3, rfl, hh1, hh2, hh3, hh4⟩ := hY4.opened (by omega)
          have hyk := hh3 k hlt
          have hyf := hh4 k
          obtain ⟨y1, y2⟩ := hY4.set k (p : Int)
          have hD5 := hD4.kept y2 (.inr (fun q hq => by cases hq; show g2 ≠ g3; omega))
          obtain ⟨_, hgg, gg1, gg2, gg3, gg4⟩ := hD5.opened (by omega)
          cases hgg
          have hdp := gg3 p (by omega)
          have hdf := gg4 p
          obtain ⟨_, hgg, ff1, ff2, ff3, ff4⟩ := y1.opened (by omega)
          cases hgg
          have hyk2 := ff3 k hlt
          rw [nth_set (by rw [hY4.len]; exact hlt), if_pos rfl] at hyk2
          have DC := HDS.out.cut x2
          have hpx : ¬ p = t + 1 := p2
          have DV : Hid (nth (ds.set (t + 1) 0) p = (degAt xs (pruG xs k) p : Int)) := hid (by rw [DC.2 p p3]; show ((if p = t + 1 then 0 else degAt xs (pruG xs k) p : Nat) : Int) = _; rw [if_neg hpx])
          have hd9 : degAt xs (pruG xs k) p ≤ 9 := degAt_le (by rw [HL.out]; exact h8)
          obtain ⟨z1, z2⟩ := hD5.set p (nth (ds.set (t + 1) 0) p - 1)
          have hY6 := y1.kept z2 (.inl (by omega))
          have DL := DC.less (p := p) p3 (by show 1 ≤ if p = t + 1 then 0 else degAt xs (pruG xs k) p; rw [if_neg hpx]; exact P1.out)
          have HDL : Hid (Degs ((ds.set (t + 1) 0).set p (nth (ds.set (t + 1) 0) p - 1)) (degAt xs (pruG xs (k + 1))) n) := hid (DL.congr (fun v hv => by
            show _ = if v = p then (if p = t + 1 then 0 else degAt xs (pruG xs k) p) - 1 else (if v = t + 1 then 0 else degAt xs (pruG xs k) v)
            rw [HG1.out, degAt_step HT.out HG2.out x1 x2 X3.out HP.out, if_neg hpx]))
          have HF2 : Hid (FromTo (pruOf xs) (ys.set k (p : Int)) (k + 1)) := hid (fun i hi => by
            rw [nth_set (by rw [hY.len]; exact hlt)]
            by_cases e : k = i
            · subst e
              rw [if_pos rfl]
              have hpl : (pruOf xs).length = n - 1 := by unfold pruOf; rw [length_pruW, HL.out]
              have hg : ∀ m, k < m → nth (pruW xs m) k = nth (pruW xs (k + 1)) k := by
                intro m
                induction m with
                | zero => intro hm; omega
                | succ m ih =>
                  intro hm
                  by_cases e2 : k = m
                  · subst e2; rfl
                  · rw [pruW_succ, nth_left (by rw [length_pruW]; omega)]
                    exact ih (by omega)
              have e3 : nth (pruOf xs) k = nth (pruW xs (k + 1)) k := by unfold pruOf; exact hg _ (by rw [HL.out]; exact hlt)
              have e4 : pruW xs (k + 1) = pruW xs k ++ [(p : Int)] := by unfold pruW; rw [HG1.out, List.map_append, List.map_singleton, HP.out]
              have e5 := nth_append_at (xs := pruW xs k) (y := (p : Int))
              rw [length_pruW] at e5
              rw [e3, e4, e5]
            · rw [if_neg e]; exact HFT.out i (by omega))
          rw [DV.out] at hdp z1 z2 HDL hY6
          have hb6 := (hb4.setCell (p := ⟨g3, k, none⟩) (by simp; omega) (.int .i64 (p : Int))).setCell (p := ⟨g2, p, none⟩) (by simp; omega) (.int .i64 ((degAt xs (pruG xs k) p : Int) - 1))
          clear hc hh3 hh4 gg3 gg4 ff3 ff4 DC DL hD4 hD5 y1 y2 hY4 hY hD hp
          go_wp2_with fail
          go_roundw
          case rel => exact ⟨k + 1, _, _, by omega, by go_num, z1, hY6, HDL.out, HF2.out, hb6⟩
          case measure => simp [intOf]; omega
        · obtain rfl : k = n - 1 := by omega
          have HE : Hid (ys = pruOf xs) := hid (ext_nth (by rw [hY.len]; unfold pruOf; rw [length_pruW, HL.out]) (fun i hi => HFT.out i (by rw [hY.len] at hi; exact hi)))
          go_wp2_with fail
          go_ret2
          exact postInts HR.out (by rw [← HE.out]; exact hY.mono (by omega)) hb
  · have HR : Hid (pruB xs = ([], false)) := hid (pruB_no (.inl (Bool.eq_false_iff.2 hg)))
    have HG := hid (Bool.eq_false_iff.2 hg)
    clear hg
    go_enter Tryz.func18, Tryz.ntmps18
    go_wp2_with (go_at_call 19; refine (isTree_any _ _ _ _ _ h).mono ?_; rintro e w1 ⟨rfl, hb1⟩; rw [HG.out])
    go_ret2
    exact postInts_no HR.out hb1
end Go.Proofs.YtfjeadnakbdkjaaGreat

namespace Go.Proofs.YtfjeadnakbdkjaaGreat
open Go.RowKit

set_option maxRecDepth 10000 in
set_option maxHeartbeats 4000000 in
theorem trEdges_any (a b0 : Option Addr) (n cap cap2 : Nat) (N : Int) (ps es os : List Int) (w : World) (hN : N = (n : Int)) (h : Has w a n cap es) (h' : Has w b0 n cap2 os) (he : Edges ps es os n) (h8 : n ≤ 8) :
    Calls Tryz.prog 59 #[.int .i64 N, .slice a n cap, .slice b0 n cap2] w fun e w' => ∃ a' cap', e = .returned (.slice a' n cap') ∧ Own w' w.heap.size a' n cap' ps ∧ Below w.heap.size w w' := by
  subst hN
  have HE := hid he
  clear he
  go_enter Tryz.func59, Tryz.ntmps59
  go_wp2_with (at_make; refine wpList_make_ints _ rfl _ _ rfl n rfl rfl (by omega) ?_; intro a1 cap1 w1 hown1 hb1)
  have hs1 := hb1.size
  have ho0 := own_lit1 w1 w1.heap.size 0 (Nat.le_refl _)
  have hbl : Below w1.heap.size w1 (w1.alloc (.cells #[.int .i64 0] 3)) := (Below.refl _ _).alloc (Nat.le_refl _) _
  have hb0 : Below w.heap.size w (w1.alloc (.cells #[.int .i64 0] 3)) := hb1.trans (hbl.mono hs1)
  have hy0 := hown1.below hbl (Nat.le_refl _)
  have hlt2 : ∀ p, a1 = some p → p.block < w1.heap.size := fun p hp => by subst hp; exact (hown1.1.lt p.block rfl).2
  have HLT := hid hlt2
  clear hbl hlt2 hown1 hb1
  go_loopw [8, 9] (fun o i wr => ∃ (k m : Nat) (a' : Option Addr) (cap' : Nat) (R ys : List Int), k ≤ m ∧ i = .int .i64 k ∧ o = .slice a' m cap' ∧ Own wr w1.heap.size a' m cap' R ∧ Own wr w.heap.size a1 n cap1 ys ∧ Rch ps es os R ys n k 0 ∧ Below w.heap.size w wr) (fun _ i _ => n + 2 - (intOf i).toNat)
  case atStart => exact ⟨0, 1, _, 1, _, _, by omega, rfl, rfl, ho0, hy0, rch_zero, hb0⟩
  case round =>
    obtain ⟨k, m, a', cap', R, ys, hkm, rfl, rfl, hown, hy, hr, hb⟩ := hrel
    clear ho0 hy0 hb0
    have hmn : m ≤ n + 1 := by have := (rch_len hr).1; rw [hown.len] at this; exact this
    have HR := hid hr
    clear hr
    by_cases hlt : k < m
    · go_wp2_with fail
      go_loopw [8, 24] (fun o i wr => ∃ (j q : Nat) (a' : Option Addr) (cap' : Nat) (R ys : List Int), j ≤ n ∧ i = .int .i64 j ∧ o = .slice a' q cap' ∧ k < q ∧ Own wr w1.heap.size a' q cap' R ∧ Own wr w.heap.size a1 n cap1 ys ∧ Rch ps es os R ys n k j ∧ Below w.heap.size w wr) (fun _ i _ => n - (intOf i).toNat)
      case atStart => exact ⟨0, m, a', cap', R, ys, by omega, rfl, rfl, hlt, hown, hy, HR.out, hb⟩
      case round =>
        clear hown hb hy HR
        obtain ⟨j, q, a3, cap3, R, ys, hj, rfl, rfl, hkq, hown, hy, hr, hb⟩ := hrel
        have hqn : q ≤ n + 1 := by have := (rch_len hr).1; rw [hown.len] at this; exact this
        have HR := hid hr
        have HRL := hid hown.len
        clear hr
        by_cases hjl : j < n
        · obtain ⟨b, off, rfl, hbb, hc⟩ := h.2.2.2.2 (by omega)
          have hck : wr.cell? ⟨b, off + j, none⟩ = some (.int .i64 (nth es j)) := by rw [hb.cell (p := ⟨b, off + j, none⟩) hbb]; exact hc j hjl
          obtain ⟨b', off', rfl, hbb', hc'⟩ := h'.2.2.2.2 (by omega)
          have hck' : wr.cell? ⟨b', off' + j, none⟩ = some (.int .i64 (nth os j)) := by rw [hb.cell (p := ⟨b', off' + j, none⟩) hbb']; exact hc' j hjl
          obtain ⟨g, rfl, hg1, hg2, hg3, hg4⟩ := hown.opened (by omega)
          obtain ⟨g2, rfl, hh1, hh2, hh3, hh4⟩ := hy.opened (by omega)
          have hgl := HLT.out _ rfl
          have hgk := hg3 k hkq
          have hem := HE.out.mem j hjl
          obtain ⟨t, ht⟩ : ∃ t : Nat, nth es j = (t : Int) + 1 := ⟨(nth es j).toNat - 1, by omega⟩
          rw [ht] at hck
          have htn : t < n := by omega
          have hht := hh3 t htn
          have hhf := hh4 t
          have hjj : (j : Int) < (n : Int) := by omega
          have hjz : (0 : Int) ≤ (j : Int) := by omega
          have hq8 : q ≤ 9 := by omega
          clear hc hc' hg3 hg4 hh3 hh4 hem
          by_cases ho : nth os j = nth R k
          · have HO := hid ho
            rw [ho] at hck'
            have hbe : (nth R k == nth R k) = true := by simp
            clear ho
            by_cases hin : hasB R ((t : Int) + 1) = true
            · have HIN := hid hin
              have HN : Hid (Rch ps es os R ys n k (j + 1)) := hid (rch_old HR.out (fun _ => by rw [ht]; exact hasB_iff.1 HIN.out))
              have HT := hid ht
              clear hin ht
              go_wp2_with fail
              go_quiet (fail)
              have hownD : Own (wr.drewN nq) w1.heap.size (some ⟨g, 0, none⟩) q cap3 R := hown
              have hyD : Own (wr.drewN nq) w.heap.size (some ⟨g2, 0, none⟩) n cap1 ys := hy
              have hbD : Below w.heap.size w (wr.drewN nq) := below_drewN hb _
              have hgkD : (wr.drewN nq).cell? ⟨g, k, none⟩ = some (.int .i64 (nth R k)) := hgk
              have hhtD : (wr.drewN nq).cell? ⟨g2, t, none⟩ = some (.int .i64 (nth ys t)) := hht
              have hhfD : (wr.drewN nq).frozen? ⟨g2, t, none⟩ = false := hhf
              have hszD : w1.heap.size < (wr.drewN nq).heap.size := Nat.lt_of_le_of_lt hg1 hg2
              clear hown hy hb hgk hht hhf hck hck'
              generalize wr.drewN nq = wd at *
              go_wp2_with (go_at_call 48; refine (l1Has_any _ _ _ _ _ _ hownD.has).mono ?_; rintro e w' ⟨rfl, rfl⟩; rw [HIN.out])
              go_roundw
              case rel => exact ⟨j + 1, q, _, cap3, R, ys, by omega, by go_num, rfl, hkq, hownD, hyD, HN.out, hbD⟩
              case measure => simp [intOf]; omega
            · have HIN := hid (Bool.eq_false_iff.2 hin)
              have HN := hid (rch_new HE.out HR.out hjl (by rw [HRL.out]; exact hkq) HO.out (by rw [ht]; exact hasB_not.1 HIN.out))
              rw [ht, show ((t : Int) + 1).toNat - 1 = t by omega] at HN
              have HT := hid ht
              clear hin ht
              go_wp2_with fail
              go_quiet (fail)
              have hownD : Own (wr.drewN nq) w1.heap.size (some ⟨g, 0, none⟩) q cap3 R := hown
              have hyD : Own (wr.drewN nq) w.heap.size (some ⟨g2, 0, none⟩) n cap1 ys := hy
              have hbD : Below w.heap.size w (wr.drewN nq) := below_drewN hb _
              have hgkD : (wr.drewN nq).cell? ⟨g, k, none⟩ = some (.int .i64 (nth R k)) := hgk
              have hhtD : (wr.drewN nq).cell? ⟨g2, t, none⟩ = some (.int .i64 (nth ys t)) := hht
              have hhfD : (wr.drewN nq).frozen? ⟨g2, t, none⟩ = false := hhf
              have hszD : w1.heap.size < (wr.drewN nq).heap.size := Nat.lt_of_le_of_lt hg1 hg2
              clear hown hy hb hgk hht hhf hck hck'
              generalize wr.drewN nq = wd at *
              obtain ⟨y1, y2⟩ := hyD.set t (nth R k)
              have hownE := hownD.kept y2 (.inl hgl)
              have hbE := hbD.setCell (p := ⟨g2, t, none⟩) (by simp; omega) (.int .i64 (nth R k))
              have hsz : (wd.setCell ⟨g2, t, none⟩ (.int .i64 (nth R k))).heap.size = wd.heap.size := by simp
              have hle4 : w1.heap.size ≤ (wd.setCell ⟨g2, t, none⟩ (.int .i64 (nth R k))).heap.size := by omega
              have HSZ := hid hsz
              clear hsz
              go_wp2_with (first | (go_at_call 48; refine (l1Has_any _ _ _ _ _ _ hownD.has).mono ?_; rintro e w' ⟨rfl, rfl⟩; rw [HIN.out]) | (at_builtin; rw [← HSZ.out]; refine wpList_append_int _ rfl _ _ rfl w1.heap.size _ _ _ _ _ rfl rfl hownE (by omega) hle4 ?_; intro a4 cap4 w4 hown4 hb4))
              go_roundw
              case rel => exact ⟨j + 1, q + 1, a4, cap4, _, _, by omega, by go_num, rfl, by omega, hown4, own_kept y1 hb4 hgl, HN.out, hbE.trans (hb4.mono hs1)⟩
              case measure => simp [intOf]; omega
          · have hbe : (nth os j == nth R k) = false := by simp [ho]
            have HO := hid ho
            clear ho
            by_cases hE : (t : Int) + 1 = nth R k
            · have HIN : Hid (hasB R (nth os j) = true) := hid (hasB_iff.2 (by
                have h1 := HR.out.closed _ (nth_mem (xs := R) (i := k) (by rw [HRL.out]; exact hkq))
                rw [← hE] at h1
                rcases h1 with h1 | h1
                · omega
                · rw [HE.out.up j hjl, ht]; exact h1))
              have HN : Hid (Rch ps es os R ys n k (j + 1)) := hid (rch_old HR.out (fun hh => absurd hh HO.out))
              rw [← hE] at hgk
              have hbe2 : ((t : Int) + 1 == (t : Int) + 1) = true := by simp
              rw [← hE] at hbe
              have HE2 := hid hE
              have HT := hid ht
              clear hE ht
              go_wp2_with fail
              go_quiet (fail)
              have hownD : Own (wr.drewN nq) w1.heap.size (some ⟨g, 0, none⟩) q cap3 R := hown
              have hyD : Own (wr.drewN nq) w.heap.size (some ⟨g2, 0, none⟩) n cap1 ys := hy
              have hbD : Below w.heap.size w (wr.drewN nq) := below_drewN hb _
              have hgkD : (wr.drewN nq).cell? ⟨g, k, none⟩ = some (.int .i64 ((t : Int) + 1)) := hgk
              have hhtD : (wr.drewN nq).cell? ⟨g2, t, none⟩ = some (.int .i64 (nth ys t)) := hht
              have hhfD : (wr.drewN nq).frozen? ⟨g2, t, none⟩ = false := hhf
              have hszD : w1.heap.size < (wr.drewN nq).heap.size := Nat.lt_of_le_of_lt hg1 hg2
              clear hown hy hb hgk hht hhf hck hck'
              generalize wr.drewN nq = wd at *
              go_wp2_with (go_at_call 48; refine (l1Has_any _ _ _ _ _ _ hownD.has).mono ?_; rintro e w' ⟨rfl, rfl⟩; rw [HIN.out])
              go_roundw
              case rel => exact ⟨j + 1, q, _, cap3, R, ys, by omega, by go_num, rfl, hkq, hownD, hyD, HN.out, hbD⟩
              case measure => simp [intOf]; omega
            · have hbe2 : ((t : Int) + 1 == nth R k) = false := by simp [hE]
              have HN : Hid (Rch ps es os R ys n k (j + 1)) := hid (rch_old HR.out (fun hh => absurd hh HO.out))
              have HT := hid ht
              clear hE ht
              go_wp2_with fail
              go_quiet (fail)
              have hownD : Own (wr.drewN nq) w1.heap.size (some ⟨g, 0, none⟩) q cap3 R := hown
              have hyD : Own (wr.drewN nq) w.heap.size (some ⟨g2, 0, none⟩) n cap1 ys := hy
              have hbD : Below w.heap.size w (wr.drewN nq) := below_drewN hb _
              have hgkD : (wr.drewN nq).cell? ⟨g, k, none⟩ = some (.int .i64 (nth R k)) := hgk
              have hhtD : (wr.drewN nq).cell? ⟨g2, t, none⟩ = some (.int .i64 (nth ys t)) := hht
              have hhfD : (wr.drewN nq).frozen? ⟨g2, t, none⟩ = false := hhf
              have hszD : w1.heap.size < (wr.drewN nq).heap.size := Nat.lt_of_le_of_lt hg1 hg2
              clear hown hy hb hgk hht hhf hck hck'
              generalize wr.drewN nq = wd at *
              go_wp2_with fail
              go_roundw
              case rel => exact ⟨j + 1, q, _, cap3, R, ys, by omega, by go_num, rfl, hkq, hownD, hyD, HN.out, hbD⟩
              case measure => simp [intOf]; omega
        · obtain rfl : j = n := by omega
          have HN := hid (rch_next HR.out (by rw [HRL.out]; exact hkq))
          go_wp2_with fail
          go_roundw
          case rel => exact ⟨k + 1, q, a3, cap3, R, ys, by omega, by go_num, rfl, hown, hy, HN.out, hb⟩
          case measure => simp [intOf]; omega
    · have HF : Hid (ys = ps) := hid (rch_all HE.out HR.out (by rw [hown.len]; omega))
      go_wp2_with fail
      go_ret
      exact ⟨_, _, rfl, by rw [← HF.out]; exact hy, hb⟩

def unB (ws : List Int) : List Int × Bool := if decide (ws.length < 8) && allB ws 0 ((ws.length : Int) + 1) then (unOf ws, true) else ([], false)
theorem unB_yes {ws : List Int} {m : Nat} (hl : ws.length = m) (h8 : m < 8) (hb : allB ws 0 ((m : Int) + 1) = true) : unB ws = (unOf ws, true) ∧ Word ws (m + 1) := by
  subst hl
  refine ⟨by simp [unB, h8, hb], ⟨rfl, by omega, fun i hi => ?_⟩⟩
  have := allB_nth hb hi
  omega
theorem unB_no {ws : List Int} {m : Nat} (hl : ws.length = m) (h : ¬ m < 8 ∨ allB ws 0 ((m : Int) + 1) = false) : unB ws = ([], false) := by
  subst hl
  unfold unB
  rcases h with h | h <;> simp [h]

set_option maxRecDepth 10000 in
set_option maxHeartbeats 4000000 in
theorem trOf_any (a : Option Addr) (m cap : Nat) (ws : List Int) (w : World) (h : Has w a m cap ws) (hw : Word ws (m + 1)) :
    Calls Tryz.prog 44 #[.slice a m cap] w fun e w' => ∃ a' cap', e = .returned (.slice a' (m + 1) cap') ∧ Own w' w.heap.size a' (m + 1) cap' (unOf ws) ∧ Below w.heap.size w w' := by
  have HW := hid hw
  have h8 : m ≤ 7 := by have := hw.le; omega
  have HL := hid h.len
  have hcapm : m ≤ cap := h.2.1
  clear hw
  go_enter Tryz.func44, Tryz.ntmps44
  go_wp2_with fail
  go_loopw [4, 5, 15] (fun gn ot i wr => ∃ (k : Nat) (a1 : Option Addr) (c1 : Nat) (a2 : Option Addr) (c2 : Nat), k ≤ m ∧ i = .int .i64 k ∧ gn = .slice a1 k c1 ∧ ot = .slice a2 k c2 ∧ Own wr w.heap.size a1 k c1 (untG ws k) ∧ Own wr w.heap.size a2 k c2 (ws.take k) ∧ Apart a1 a2 ∧ Below w.heap.size w wr) (fun _ _ i _ => m - (intOf i).toNat)
  case atStart => exact ⟨0, none, 0, none, 0, by omega, rfl, rfl, rfl, Own.nil _ _, Own.nil _ _, Apart.noneL _, Below.refl _ _⟩
  case round =>
    obtain ⟨k, a1, c1, a2, c2, hk, rfl, rfl, rfl, hown1, hown2, hap, hb⟩ := hrel
    have hsz := hb.size
    by_cases hlt : k < m
    · have HG := hid (untG_is HW.out k (by rw [HL.out]; omega))
      obtain ⟨x, x1, x2, x3, x4, x5, x6⟩ := unG_step HW.out HG.out (by rw [HL.out]; exact hlt)
      have X3 := hid (uf_iff.1 x3)
      have X5 := hid x5
      have HG1 : Hid (untG ws (k + 1) = untG ws k ++ [(x : Int)]) := hid (by simp only [untG]; rw [HL.out, x4])
      have HT1 := hid (take_succ_nth (xs := ws) (k := k) (by rw [HL.out]; exact hlt))
      obtain ⟨b, off, rfl, hbb, hc⟩ := h.2.2.2.2 (by omega)
      have hck : wr.cell? ⟨b, off + k, none⟩ = some (.int .i64 (nth ws k)) := by rw [hb.cell (p := ⟨b, off + k, none⟩) hbb]; exact hc k hlt
      have hdr := (h.drop (k := k) (by omega)).below hb (Nat.le_refl _)
      have hcj : ¬ cap = k := by omega
      have hcj' : ¬ (cap : Int) = (k : Int) := by omega
      clear hc x3 x4 x5 x6
      go_wp2_with fail
      go_loopw [8] (fun nd wq => wq = wr ∧ ∃ j : Nat, x ≤ j ∧ j ≤ m + 1 ∧ nd = .int .i64 j) (fun nd _ => (intOf nd).toNat)
      case atStart => exact ⟨rfl, m + 1, x2, Nat.le_refl _, by go_num⟩
      case round =>
        obtain ⟨rfl, j, hxj, hjm, rfl⟩ := hrel
        by_cases hjx : j = x
        · have H1 : Hid (hasB (untG ws k) x = false) := hid (hasB_not.2 X3.out.1)
          have H2 : Hid (hasB (ws.drop k) x = false) := hid (hasB_not.2 X3.out.2)
          rw [hjx]
          have HJ := hid hjx
          clear hjx
          have hk8 : k ≤ 8 := by omega
          have hA := hown1.has
          go_wp2_with (first | (go_at_call 48; refine (l1Has_any _ _ _ _ _ _ hA).mono ?_; clear hA; rintro e w' ⟨rfl, rfl⟩; rw [H1.out]) | (go_at_call 48; refine (l1Has_any _ _ _ _ _ _ hdr).mono ?_; clear hdr; rintro e w' ⟨rfl, rfl⟩; rw [H2.out]) | (at_builtin; refine wpList_append_two _ rfl _ _ rfl w.heap.size _ _ _ _ _ rfl rfl hown1 (by omega) hsz w.heap.size _ _ _ _ hown2 hap ?_; intro a5 c5 w5 hown5 hg5 hap5 hb5; have hsz5 := (hb.trans hb5).size; clear hown1 hown2) | (at_builtin; refine wpList_append_two _ rfl _ _ rfl w.heap.size _ _ _ _ _ rfl rfl hg5 (by omega) hsz5 w.heap.size _ _ _ _ hown5 hap5.symm ?_; intro a6 c6 w6 hown6 hw6 hap6 hb6))
          go_roundw
          case rel => exact ⟨k + 1, a5, c5, a6, c6, by omega, by go_num, rfl, rfl, by rw [HG1.out]; exact hw6, by rw [HT1.out]; exact hown6, hap6.symm, (hb.trans hb5).trans hb6⟩
          case measure => simp [intOf]; omega
        · have HU : Hid (uf ws (untG ws k) k j = false) := hid (X5.out j (by omega) hjm)
          by_cases hh : hasB (untG ws k) j = true
          · have HH := hid hh
            clear hh
            go_wp2_with (go_at_call 48; refine (l1Has_any _ _ _ _ _ _ hown1.has).mono ?_; rintro e w' ⟨rfl, rfl⟩; rw [HH.out])
            go_roundw
            case rel => exact ⟨by first | trivial | rfl, j - 1, by omega, by omega, by go_num⟩
            case measure => simp [intOf]; omega
          · have H1 := hid (Bool.eq_false_iff.2 hh)
            have H2 : Hid (hasB (ws.drop k) j = true) := hid (by
              have := HU.out
              unfold uf at this
              rw [H1.out] at this
              simpa using this)
            clear hh
            have hA := hown1.has
            go_wp2_with (first | (go_at_call 48; refine (l1Has_any _ _ _ _ _ _ hA).mono ?_; clear hA; rintro e w' ⟨rfl, rfl⟩; rw [H1.out]) | (go_at_call 48; refine (l1Has_any _ _ _ _ _ _ hdr).mono ?_; clear hdr; rintro e w' ⟨rfl, rfl⟩; rw [H2.out]))
            go_roundw
            case rel => exact ⟨by first | trivial | rfl, j - 1, by omega, by omega, by go_num⟩
            case measure => simp [intOf]; omega
    · obtain rfl : k = m := by omega
      obtain ⟨v, v1, v2, v3⟩ := left_ex (n := k + 1) (g := untG ws k) (by rw [length_untG]; omega)
      have V3 := hid v3
      clear v3
      have hown2' : Own wr w.heap.size a2 k c2 ws := by rw [List.take_of_length_le (by rw [HL.out]; omega)] at hown2; exact hown2
      clear hown2
      go_wp2_with fail
      obtain ⟨wo, rfl⟩ : ∃ wo : World, wo = wr := ⟨_, rfl⟩
      go_loopg [4, 5, 9] (k + 2) (fun q gn ot nd wq => wq = wo ∧ ∃ j : Nat, gn = .slice a1 k c1 ∧ ot = .slice a2 k c2 ∧ 1 ≤ j ∧ j ≤ v ∧ j + q = k + 3 ∧ nd = .int .i64 j)
      case atStart => exact ⟨rfl, 1, rfl, rfl, Nat.le_refl _, v1, by omega, rfl⟩
      case round =>
        obtain ⟨rfl, j, rfl, rfl, hj1, hjv, hjq, rfl⟩ := hrel
        have hjk : (j : Int) ≤ (k : Int) + 1 := by omega
        by_cases hh : hasB (untG ws k) j = true
        · have HH := hid hh
          have hjne : j ≠ v := fun e => by
            subst e
            exact V3.out (hasB_iff.1 HH.out)
          clear hh
          go_wp2_with (go_at_call 48; refine (l1Has_any _ _ _ _ _ _ hown1.has).mono ?_; rintro e w' ⟨rfl, rfl⟩; rw [HH.out])
          go_roundg (gk - 1)
          case rel => exact ⟨by first | trivial | rfl, j + 1, rfl, rfl, by omega, by omega, by omega, by go_num⟩
          case measure => omega
        · have HH := hid (Bool.eq_false_iff.2 hh)
          have HED : Hid (Edges (unOf ws) (untG ws k ++ [(j : Int)]) (ws ++ [0]) (k + 1)) := hid (by
            have := edges_of HW.out (last := (j : Int)) (by omega) (by omega) (by rw [HL.out]; exact hasB_not.1 HH.out)
            rwa [HL.out] at this)
          clear hh
          go_wp2_with (first | (go_at_call 48; refine (l1Has_any _ _ _ _ _ _ hown1.has).mono ?_; rintro e w' ⟨rfl, rfl⟩; rw [HH.out]) | (at_builtin; refine wpList_append_two _ rfl _ _ rfl w.heap.size _ _ _ _ _ rfl rfl hown1 (by omega) hsz w.heap.size _ _ _ _ hown2' hap ?_; intro a5 c5 w5 hown5 hg5 hap5 hb5; have hsz5 := (hb.trans hb5).size; clear hown1 hown2') | (at_builtin; refine wpList_append_two _ rfl _ _ rfl w.heap.size _ _ _ _ _ rfl rfl hg5 (by omega) hsz5 w.heap.size _ _ _ _ hown5 hap5.symm ?_; intro a6 c6 w6 hown6 hw6 hap6 hb6))
          refine (trEdges_any _ _ (k + 1) _ _ _ _ _ _ _ (by omega) hw6.has hown6.has HED.out (by omega)).mono ?_
          rintro e w7 ⟨a7, c7, rfl, hown7, hb7⟩
          have hbb := (hb.trans hb5).trans hb6
          go_wp2_with fail
          go_ret
          exact ⟨_, _, rfl, hown7.mono hbb.size, hbb.trans (hb7.mono hbb.size)⟩

end Go.Proofs.YtfjeadnakbdkjaaGreat

namespace Go.Proofs.YtfjeadnakbdkjaaGreat
open Go.RowKit

set_option maxHeartbeats 2000000 in
theorem treeOfWord_any (a : Option Addr) (m cap : Nat) (ws : List Int) (w : World) (h : Has w a m cap ws) (hw : Word ws (m + 1)) :
    Calls Tryz.prog 42 #[.slice a m cap] w fun e w' => ∃ a' cap', e = .returned (.slice a' (m + 1) cap') ∧ Own w' w.heap.size a' (m + 1) cap' (unOf ws) ∧ Below w.heap.size w w' := by
  have HW := hid hw
  have h8 : m ≤ 7 := by have := hw.le; omega
  have HL := hid h.len
  have HB : Hid (∀ i, i < m + 1 → 0 ≤ nth (ws ++ [0]) i ∧ nth (ws ++ [0]) i ≤ ((m + 1 : Nat) : Int)) := hid (fun i hi => by
    by_cases e : i < m
    · rw [nth_left (by rw [HL.out]; exact e)]
      exact hw.nthB i (by rw [HL.out]; exact e)
    · have hm : i = ws.length := by rw [HL.out]; omega
      rw [hm, nth_append_at]; omega)
  have HC : Hid ((m : Int) + 1 = ((m + 1 : Nat) : Int)) := hid (by omega)
  have h8' : m + 1 ≤ 8 := by omega
  clear hw
  go_enter Tryz.func42, Tryz.ntmps42
  go_wp2_with fail
  refine (cloneT_any _ _ _ _ _ h).mono ?_
  rintro e w1 ⟨a1, cap1, rfl, hown1, hb1⟩
  have hs1 := hb1.size
  go_wp2_with (first | (go_at_call 35; refine (degreesOf_any _ _ _ _ _ hown2.has h8' HB.out).mono ?_; rintro e w3 ⟨a3, cap3, rfl, hown3, hb3⟩) | (at_make; refine wpList_make_ints _ rfl _ _ rfl (m + 1) (by rw [← HC.out]; rfl) (by rw [← HC.out]; rfl) (by omega) ?_; intro a4 cap4 w4 hown4 hb4) | (at_builtin; refine wpList_append_int _ rfl _ _ rfl w.heap.size _ _ _ _ _ rfl rfl hown1 (by omega) hs1 ?_; intro a2 cap2 w2 hown2 hb2))
  have hs2 := (hb1.trans hb2).size
  have hs3 := hb3.size
  have hs4 := hb4.size
  obtain ⟨g2, rfl, hg21, hg22, hg23, hg24⟩ := hown3.opened (by omega)
  have hownD := hown3.below hb4 (Nat.le_refl _)
  have hbx := ((hb1.trans hb2).trans (hb3.mono hs2)).trans (hb4.mono (by omega))
  have HLX : Hid ((ws ++ [0]).length = m + 1) := hid (by simp [HL.out])
  clear hg23 hg24 hown3
  go_loopw [18] (fun i wr => ∃ (k : Nat) (ds : List Int), k ≤ m ∧ i = .int .i64 k ∧ Own wr w2.heap.size (some ⟨g2, 0, none⟩) (m + 1 + 1) cap3 ds ∧ Own wr w3.heap.size a4 (m + 1) cap4 (unTo ws k) ∧ Degs ds (degW ws (untG ws k) k) (m + 1) ∧ Below w.heap.size w wr) (fun i _ => m - (intOf i).toNat)
  case atStart => exact ⟨0, _, by omega, rfl, hownD, by have : unTo ws 0 = List.replicate (m + 1) 0 := by { show List.replicate (ws.length + 1) 0 = _; rw [HL.out] }
                                                        rw [this]; exact hown4, (degL_degs _ HLX.out).congr (fun v _ => degW_nil ws v), hbx⟩
  case round =>
    clear hownD hown4 hbx
    obtain ⟨k, ds, hk, rfl, hD, hY, hds, hb⟩ := hrel
    have HDS := hid hds
    clear hds
    by_cases hlt : k < m
    · have HG2 := hid (untG_is HW.out k (by rw [HL.out]; omega))
      obtain ⟨x, x1, x2, x3, x4, x5, x6⟩ := unG_step HW.out HG2.out (by rw [HL.out]; exact hlt)
      have X3 := hid x3
      have HG1 : Hid (untG ws (k + 1) = untG ws k ++ [(x : Int)]) := hid (by simp only [untG]; rw [HL.out, x4])
      have HU1 : Hid (unTo ws (k + 1) = (unTo ws k).set (x - 1) (nth ws k)) := hid (by simp only [unTo]; rw [HL.out, x4, Int.toNat_natCast])
      have HDX : Hid (degW ws (untG ws k) k x = 1) := hid ((degW_leaf x1).2 x3)
      have HD2 : Hid (∀ v, x < v → v ≤ m + 1 → degW ws (untG ws k) k v ≠ 1) := hid (fun v h1 h2 e => by
        have := (degW_leaf (w := ws) (g := untG ws k) (k := k) (v := v) (by omega)).1 e
        rw [x5 v h1 h2] at this
        cases this)
      obtain ⟨t, rfl⟩ : ∃ t : Nat, x = t + 1 := ⟨x - 1, by omega⟩
      have hbt := HW.out.nthB k (by rw [HL.out]; exact hlt)
      obtain ⟨p, hp⟩ : ∃ p : Nat, nth ws k = (p : Int) := ⟨(nth ws k).toNat, by omega⟩
      have HP := hid hp
      obtain ⟨p1, p2, p3⟩ := degW_pos HW.out HG2.out (by rw [HL.out]; exact hlt) X3.out hp
      have P1 := hid p1
      clear x3 x4 x5 x6 p1 hbt
      have hsz := hb.size
      obtain ⟨b, off, rfl, hbb, hc⟩ := (h.below hb (Nat.le_refl _)).2.2.2.2 (by omega)
      have hct := hc k hlt
      rw [hp] at hct
      clear hc
      go_wp2_with fail
      refine (cutLeaf_any _ _ _ _ _ _ (t + 1) _ hD HDS.out h8' x2 HDX.out HD2.out).mono ?_
      rintro e w5 ⟨rfl, hD4, hgr⟩
      have hY4 := hY.kept hgr (.inl (by omega))
      have hb4 : Below w.heap.size w w5 := hb.trans (below_grown hgr hsz (by intro j hj; cases hj; omega))
      obtain ⟨g3, rfl, hh1, hh2, hh3, hh4⟩ := hY4.opened (by omega)
      have htm : t < m + 1 := by omega
      have hyk := hh3 t htm
      have hyf := hh4 t
      obtain ⟨y1, y2⟩ := hY4.set t (p : Int)
      have hD5 := hD4.kept y2 (.inr (fun q hq => by cases hq; show g2 ≠ g3; omega))
      obtain ⟨_, hgg, gg1, gg2, gg3, gg4⟩ := hD5.opened (by omega)
      cases hgg
      have hdp := gg3 p (by omega)
      have hdf := gg4 p
      have DC := HDS.out.cut x2
      have hpx : ¬ p = t + 1 := p2
      have DV : Hid (nth (ds.set (t + 1) 0) p = (degW ws (untG ws k) k p : Int)) := hid (by rw [DC.2 p p3]; show ((if p = t + 1 then 0 else degW ws (untG ws k) k p : Nat) : Int) = _; rw [if_neg hpx])
      have hd9 : degW ws (untG ws k) k p ≤ 9 := degW_le HW.out
      obtain ⟨z1, z2⟩ := hD5.set p (nth (ds.set (t + 1) 0) p - 1)
      have hY6 := y1.kept z2 (.inl (by omega))
      have DL := DC.less (p := p) p3 (by show 1 ≤ if p = t + 1 then 0 else degW ws (untG ws k) k p; rw [if_neg hpx]; exact P1.out)
      have HDL : Hid (Degs ((ds.set (t + 1) 0).set p (nth (ds.set (t + 1) 0) p - 1)) (degW ws (untG ws (k + 1)) (k + 1)) (m + 1)) := hid (DL.congr (fun v hv => by
        show _ = if v = p then (if p = t + 1 then 0 else degW ws (untG ws k) k p) - 1 else (if v = t + 1 then 0 else degW ws (untG ws k) k v)
        rw [HG1.out, degW_step HG2.out (by rw [HL.out]; exact hlt) x1 X3.out HP.out, if_neg hpx]))
      rw [DV.out] at hdp z1 z2 HDL hY6
      have HU2 : Hid ((unTo ws k).set t (p : Int) = unTo ws (k + 1)) := hid (by rw [HU1.out, HP.out, Nat.add_sub_cancel])
      have hb6 := (hb4.setCell (p := ⟨g3, t, none⟩) (by simp; omega) (.int .i64 (p : Int))).setCell (p := ⟨g2, p, none⟩) (by simp; omega) (.int .i64 ((degW ws (untG ws k) k p : Int) - 1))
      clear hh3 hh4 gg3 gg4 DC DL hD4 hD5 y1 y2 hY4 hY hD hp
      go_wp2_with fail
      go_roundw
      case rel => exact ⟨k + 1, _, by omega, by go_num, z1, by rw [← HU2.out]; exact hY6, HDL.out, hb6⟩
      case measure => simp [intOf]; omega
    · obtain rfl : k = m := by omega
      have HE : Hid (unTo ws k = unOf ws) := hid (by unfold unOf; rw [HL.out])
      go_wp2_with fail
      go_ret
      exact ⟨_, _, rfl, by rw [← HE.out]; exact hY.mono (by omega), hb⟩

end Go.Proofs.YtfjeadnakbdkjaaGreat

namespace Go.Proofs.YtfjeadnakbdkjaaGreat
open Go.RowKit

/-- The product as the model makes it. -/
def trC (n : Nat) (k : Nat) : Nat := (n + 1) ^ (k - 1)
theorem trC_le {n k : Nat} (hn : n ≤ 8) (hk : k ≤ 8) : trC n k ≤ 4782969 := by
  have : ∀ n, n < 9 → ∀ k, k < 9 → (n + 1) ^ (k - 1) ≤ 4782969 := by decide +kernel
  exact this n (by omega) k (by omega)
theorem trC_cnt {n : Nat} : (if n = 0 then trC n 1 else trC n n) = cnt n := by
  unfold cnt trC
  split <;> simp

set_option maxHeartbeats 400000 in
theorem trCount_any (n : Nat) (w : World) (h8 : n ≤ 8) : Calls Tryz.prog 27 #[.int .i64 (n : Int)] w fun e w' => e = .returned (.int .i64 (cnt n : Int)) ∧ w = w' := by
  have HC := hid (trC_cnt (n := n))
  go_enter Tryz.func27, Tryz.ntmps27
  go_wp2_with fail
  go_loop [3, 4] (fun o i => ∃ k : Nat, 1 ≤ k ∧ (k ≤ n ∨ k = 1) ∧ i = .int .i64 k ∧ o = .int .i64 (trC n k : Int)) (fun _ i => n - (intOf i).toNat)
  case atStart => exact ⟨1, by omega, .inr rfl, rfl, by simp [trC]⟩
  case round =>
    obtain ⟨k, hk1, hk2, rfl, rfl⟩ := hrel
    by_cases hlt : k < n
    · have hb := trC_le h8 (k := k) (by omega)
      have HS : Hid (trC n (k + 1) = trC n k * (n + 1)) := hid (by unfold trC; rw [show k + 1 - 1 = (k - 1) + 1 by omega, Nat.pow_succ])
      have hm : (trC n k : Int) * ((n : Int) + 1) = ((trC n (k + 1) : Nat) : Int) := by rw [HS.out]; simp
      have hb2 := trC_le h8 (k := k + 1) (by omega)
      have hw : IntKind.i64.wrap ((trC n k : Int) * ((n : Int) + 1)) = ((trC n (k + 1) : Nat) : Int) := by rw [hm, IntKind.wrap_i64]; omega
      have hw2 : wrap64 ((trC n k : Int) * ((n : Int) + 1)) = ((trC n (k + 1) : Nat) : Int) := by rw [hm]; exact IntWalk.wrap64_in _ ⟨by omega, by omega⟩
      clear hm hb hb2
      go_wp2_with fail
      go_round
      case rel => exact ⟨k + 1, by omega, by omega, by go_num, rfl⟩
      case measure => simp [intOf]; omega
    · have HF : Hid (trC n k = cnt n) := hid (by
        rw [← HC.out]
        by_cases h0 : n = 0
        · rw [if_pos h0]; obtain rfl : k = 1 := by omega
          rfl
        · rw [if_neg h0]; obtain rfl : k = n := by omega
          rfl)
      go_wp2_with fail
      go_ret
      exact ⟨ret_int (by rw [HF.out]), rfl⟩

set_option maxHeartbeats 400000 in
theorem specCountTrees_any (n : Int) (w : World) : Calls Tryz.prog 9 #[.int .i64 n] w (PostInt w (countOf n)) := by
  by_cases hc : inB n 0 8 = true
  · have hb := inB_iff.1 hc
    obtain ⟨m, rfl⟩ : ∃ m : Nat, n = (m : Int) := ⟨n.toNat, by omega⟩
    have HR : Hid (countOf (m : Int) = ((cnt m : Int), true)) := hid (by simp [countOf, hc])
    have HC := hid hc
    clear hc
    go_enter Tryz.func9, Tryz.ntmps9
    go_wp2_with (first | (go_at_call 25; refine (l1In_any _ _ _ _).mono ?_; rintro e w' ⟨rfl, rfl⟩; rw [HC.out]) | (go_at_call 27; refine (trCount_any m _ (by omega)).mono ?_; rintro e w' ⟨rfl, rfl⟩))
    go_ret2
    exact postInt HR.out (Below.refl _ _)
  · have HR : Hid (countOf n = (0, false)) := hid (by simp [countOf, hc])
    have HC := hid (Bool.eq_false_iff.2 hc)
    clear hc
    go_enter Tryz.func9, Tryz.ntmps9
    go_wp2_with (go_at_call 25; refine (l1In_any _ _ _ _).mono ?_; rintro e w' ⟨rfl, rfl⟩; rw [HC.out])
    go_ret2
    exact postInt HR.out (Below.refl _ _)

set_option maxHeartbeats 400000 in
theorem countTrees_any (n : Int) (w : World) : Calls Tryz.prog 8 #[.int .i64 n] w (PostInt w (countOf n)) := by
  go_enter Tryz.func8, Tryz.ntmps8
  go_wp2_with fail
  refine (countParking_any _ _).mono ?_
  rintro e w1 ⟨rfl, hb1⟩
  go_wp2_with fail
  go_ret2
  exact postInt rfl hb1
end Go.Proofs.YtfjeadnakbdkjaaGreat

namespace Go.Proofs.YtfjeadnakbdkjaaGreat
open Go.RowKit

theorem drop_set {xs : List Int} {j : Nat} {y : Int} (h : j < xs.length) : (xs.set j y).drop j = y :: xs.drop (j + 1) := by
  rw [drop_nth (xs := xs.set j y) (by simpa using h), nth_set h, if_pos rfl]
  congr 1
  rw [List.drop_set]
  simp

set_option maxHeartbeats 800000 in
theorem trWord_is (m B N : Nat) (w : World) (hm : m ≤ 7) (hb0 : 1 ≤ B) (hb1 : B ≤ 100) (hn1 : N ≤ 1000000) :
    Calls Tryz.prog 45 #[.int .i64 (m : Int), .int .i64 (B : Int), .int .i64 (N : Int)] w fun e w' => ∃ a' cap', e = .returned (.slice a' m cap') ∧ Own w' w.heap.size a' m cap' (dg B N m) ∧ Below w.heap.size w w' := by
  go_enter Tryz.func45, Tryz.ntmps45
  go_wp2_with (at_make; refine wpList_make_ints _ rfl _ _ rfl m rfl rfl (by omega) ?_; intro a' cap' w1 hown1 hb1)
  go_loopw [2, 8] (fun nu i wr => ∃ (k : Nat) (z : Nat) (xs : List Int), k ≤ m ∧ i = .int .i64 ((k : Int) - 1) ∧ nu = .int .i64 (z : Int) ∧ z ≤ 1000000 ∧ Own wr w.heap.size a' m cap' xs ∧ Hid (z = N / B ^ (m - k) ∧ xs.drop k = dg B N (m - k)) ∧ Below w.heap.size w wr) (fun _ i _ => (intOf i + 1).toNat)
  case atStart => exact ⟨m, N, _, Nat.le_refl _, rfl, rfl, hn1, hown1, hid ⟨by simp, by rw [Nat.sub_self]; simp [dg]⟩, ‹_›⟩
  case round =>
    obtain ⟨k, z, xs, hk, rfl, rfl, z1, hown, HD, hb⟩ := hrel
    clear hown1
    by_cases h0 : 0 < k
    · obtain ⟨j, rfl⟩ : ∃ j, k = j + 1 := ⟨k - 1, by omega⟩
      obtain ⟨g, rfl, hg1, hg2, hcell, hfr⟩ := hown.opened (by omega)
      have hck := hcell j (by omega)
      have hfk := hfr j
      have ejj : ((j + 1 : Nat) : Int) - 1 = (j : Int) := by omega
      rw [ejj]
      have hmod : (z : Int) % (B : Int) = ((z % B : Nat) : Int) := by simp
      have hdiv : (z : Int) / (B : Int) = ((z / B : Nat) : Int) := by simp
      have hdl : z / B ≤ z := Nat.div_le_self _ _
      have HL := hid hown.len
      have HS : Hid (z / B = N / B ^ (m - j) ∧ (xs.set j ((z % B : Nat) : Int)).drop j = dg B N (m - j)) := hid (by
        obtain ⟨e1, e2⟩ := HD.out
        have e3 : m - j = (m - (j + 1)) + 1 := by omega
        refine ⟨?_, ?_⟩
        · rw [e1, Nat.div_div_eq_div_mul, e3, Nat.pow_succ]
        · rw [drop_set (by rw [HL.out]; omega), e2, e3, dg, e1])
      have hq0 : 0 ≤ (z : Int) / (B : Int) := Int.ediv_nonneg (by omega) (by omega)
      have hq1 : (z : Int) / (B : Int) ≤ 1000000 := by rw [hdiv]; omega
      have HM := hid hmod
      have HV := hid hdiv
      clear hcell hfr hmod hdiv
      go_wp2_with fail
      go_roundw
      case rel => exact ⟨j, z / B, xs.set j ((z % B : Nat) : Int), by omega, rfl, by rw [← HV.out], by omega, by rw [← HM.out]; exact (hown.set j _).1, HS, hb.setCell (by simpa using hg1) _⟩
      case measure => simp [intOf]
    · obtain rfl : k = 0 := by omega
      have HX : Hid (xs = dg B N m) := hid (by have := HD.out.2; simpa using this)
      go_wp2_with fail
      go_ret
      exact ⟨_, _, rfl, by rw [← HX.out]; exact hown, hb⟩

theorem trWord_at (m B N : Nat) (M b num : Int) (w : World) (hM : M = (m : Int)) (hB : b = (B : Int)) (hN : num = (N : Int)) (hm : m ≤ 7) (hb0 : 1 ≤ B) (hb1 : B ≤ 100) (hn1 : N ≤ 1000000) :
    Calls Tryz.prog 45 #[.int .i64 M, .int .i64 b, .int .i64 num] w fun e w' => ∃ a' cap', e = .returned (.slice a' m cap') ∧ Own w' w.heap.size a' m cap' (dg B N m) ∧ Below w.heap.size w w' := by
  subst hM hB hN
  exact trWord_is m B N w hm hb0 hb1 hn1

set_option maxHeartbeats 2000000 in
theorem trAll_any (n m : Nat) (hnm : n = m + 1) (hm : m < 5) (w : World) : Calls Tryz.prog 26 #[.int .i64 (n : Int)] w (RetRows w (allTrees m)) := by
  obtain ⟨N, hN⟩ : ∃ N, (m + 2) ^ m = N := ⟨_, rfl⟩
  have hN5 : N ≤ 1296 := by
    have : ∀ m, m < 5 → (m + 2) ^ m ≤ 1296 := by decide
    rw [← hN]; exact this m hm
  have HC : Hid (cnt n = N) := hid (by unfold cnt; rw [if_neg (by omega), ← hN, hnm]; simp)
  have HT := hid (fun k (hk : k < N) => allTrees_take hm (by rw [hN]; exact hk))
  have HL : Hid ((allTrees m).length = N) := hid (by rw [length_allTrees hm, hN])
  have HNM := hid hnm
  have hn1 : n ≤ m + 1 := by omega
  have hn2 : m + 1 ≤ n := by omega
  have hw1 : IntKind.i64.wrap ((n : Int) - 1) = (n : Int) - 1 := IntWalk.i64_in _ (by omega)
  have HWD := hid (fun k => dg_word (m := m) (k := k) hm)
  clear hN hnm hw1
  go_enter Tryz.func26, Tryz.ntmps26
  go_wp2_with fail
  go_loopw [3, 4] (fun o i wr => ∃ (k : Nat) (a' : Option Addr) (cap' : Nat) (rs : List Rw), k ≤ N ∧ i = .int .i64 k ∧ o = .slice a' k cap' ∧ OwnR wr w.heap.size a' k cap' rs ∧ Hid (numsOf rs = (allTrees m).take k) ∧ Below w.heap.size w wr) (fun _ i _ => N - (intOf i).toNat)
  case atStart => exact ⟨0, none, 0, [], Nat.zero_le _, rfl, rfl, OwnR.nil _ _, hid rfl, Below.refl _ _⟩
  case round =>
    obtain ⟨k, a', cap', rs, hk, rfl, rfl, hor, HNU, hb⟩ := hrel
    have hsz := hb.size
    by_cases hlt : k < N
    · go_wp2_with (go_at_call 27; refine (trCount_any n _ (by omega)).mono ?_; rintro e w' ⟨rfl, rfl⟩; rw [HC.out])
      refine (trWord_at m (m + 2) k _ _ _ _ (by omega) (by omega) rfl (by omega) (by omega) (by omega) (by omega)).mono ?_
      rintro e w3 ⟨a3, c3, rfl, o3, hb3⟩
      go_wp2_with fail
      refine (trOf_any _ _ _ _ _ o3.has (HWD.out k)).mono ?_
      rintro e w5 ⟨a5, c5, rfl, o5, hb5⟩
      have hb35 := hb3.trans (hb5.mono hb3.size)
      have o5' := o5.mono hb3.size
      clear o3 hb3 hb5 o5
      go_wp2_with (at_builtin; refine wpList_append_row wr w5 rfl _ _ rfl w.heap.size _ _ _ _ _ _ _ _ rfl rfl hor hb35 o5' (by omega) hsz ?_; intro a6 c6 w6 o6 hb6)
      go_roundw
      case rel =>
        refine ⟨k + 1, a6, c6, _, by omega, by go_num, rfl, o6, hid ?_, (hb.trans (hb35.mono hsz)).trans hb6⟩
        rw [numsOf_append, HNU.out, HT.out k hlt]
        rfl
      case measure => simp [intOf]; omega
    · obtain rfl : k = N := by omega
      have HF : Hid (numsOf rs = allTrees m) := hid (by rw [HNU.out, List.take_of_length_le (by rw [HL.out]; exact Nat.le_refl _)])
      go_wp2_with (go_at_call 27; refine (trCount_any n _ (by omega)).mono ?_; rintro e w' ⟨rfl, rfl⟩; rw [HC.out])
      go_ret
      exact ⟨_, _, _, _, rfl, hor, HF.out, hb⟩

theorem allTr_yes {n : Int} (h : inB n 1 5 = true) : allTr n = (allTrees (n.toNat - 1), true) := by simp [allTr, h]
theorem allTr_no {n : Int} (h : ¬ inB n 1 5 = true) : allTr n = ([], false) := by simp [allTr, h]

set_option maxHeartbeats 400000 in
theorem specAllTrees_any (n : Int) (w : World) : Calls Tryz.prog 7 #[.int .i64 n] w (PostRows w (allTr n)) := by
  by_cases hn : inB n 1 5 = true
  · obtain ⟨p, rfl⟩ : ∃ p : Nat, n = (p : Int) := ⟨n.toNat, by have := inB_iff.1 hn; omega⟩
    obtain ⟨m, hpm⟩ : ∃ m, p = m + 1 := ⟨p - 1, by have := inB_iff.1 hn; omega⟩
    have hm : m < 5 := by have := inB_iff.1 hn; omega
    have HN := hid hn
    have HR : Hid (allTr p = (allTrees m, true)) := hid (by rw [allTr_yes hn, show (p : Int).toNat - 1 = m by omega])
    have HP := hid hpm
    clear hn hpm
    go_enter Tryz.func7, Tryz.ntmps7
    go_wp2_with (go_at_call 25; refine (l1In_any _ _ _ _).mono ?_; rintro e w' ⟨rfl, rfl⟩; rw [HN.out])
    refine (trAll_any p m HP.out hm _).mono ?_
    rintro e w2 ⟨a2, q, cap2, rs, rfl, hown2, hn2, hb2⟩
    go_wp2_with fail
    go_ret2
    exact postRows HR.out hown2 hn2 hb2
  · have HR := hid (allTr_no hn)
    have HN := hid hn
    clear hn
    go_enter Tryz.func7, Tryz.ntmps7
    go_wp2_with (go_at_call 25; refine (l1In_any _ _ _ _).mono ?_; rintro e w' ⟨rfl, rfl⟩; rw [Bool.eq_false_iff.2 HN.out])
    go_ret2
    exact postRows_no HR.out (Below.refl _ _)
end Go.Proofs.YtfjeadnakbdkjaaGreat

namespace Go.Proofs.YtfjeadnakbdkjaaGreat
open Go.RowKit Go.Shelf

/-- The three lists of words: the present one, the least and the greatest. -/
structure TriW (W : World) (base m g1 : Nat) (a2 a3 : Option Addr) (c2 c3 : Nat) (zs : List Int) : Prop where
  l : Own W base (some ⟨g1, 0, none⟩) m m zs
  lo : Own W base a2 m c2 (List.replicate m 0)
  hi : Own W base a3 m c3 (List.replicate m ((m : Int) + 1))
  ne2 : ∀ g, (some ⟨g1, 0, none⟩ : Option Addr) = some ⟨g, 0, none⟩ → ∀ q, a2 = some q → q.block ≠ g
  ne3 : ∀ g, (some ⟨g1, 0, none⟩ : Option Addr) = some ⟨g, 0, none⟩ → ∀ q, a3 = some q → q.block ≠ g

/-- Behind the statement that makes the three lists. -/
def RegPostW (w : World) (n m : Nat) (e : Exit) (a : Act) (w' : World) : Prop :=
  e = .normal ∧ ∃ (g1 g2 g0 : Nat) (a3 : Option Addr) (c3 : Nat), a = { tmps := #[.int .i64 (n : Int), undef, .slice none 0 0, .slice (some ⟨g1, 0, none⟩) m m, .slice (some ⟨g2, 0, none⟩) m m, .slice a3 m c3, undef, .int .i64 (n : Int), .bool false, undef, .int .i64 (n : Int), .int .i64 (m : Int), .slice (some ⟨g1, 0, none⟩) m m, .int .i64 (n : Int), .int .i64 (m : Int), .slice (some ⟨g2, 0, none⟩) m m, .int .i64 (n : Int), .slice (some ⟨g0, 0, none⟩) 1 1, .int .i64 (n : Int), .int .i64 (m : Int), .slice a3 m c3, undef, undef, undef, undef, undef, undef, undef, undef, undef, undef, undef, undef, undef, undef, undef, undef], defers := [] } ∧
    TriW w' w.heap.size m g1 (some ⟨g2, 0, none⟩) a3 m c3 (List.replicate m 0) ∧ Below w.heap.size w w'

set_option maxRecDepth 100000 in
set_option maxHeartbeats 8000000 in
theorem treesOf_any (n m : Nat) (hnm : n = m + 1) (hm : m < 5) (w : World) : Calls Tryz.prog 24 #[.int .i64 (n : Int)] w (RetRows w (allTrees m)) := by
  have hmk := run_mk m (by omega)
  have e1 : (n : Int) - 1 = (m : Int) := by omega
  have hwr : IntKind.i64.wrap ((n : Int) - 1) = (m : Int) := by rw [e1]; exact IntWalk.i64_in _ (by omega)
  have hbe : ((n : Int) == 0) = false := by simp; omega
  have HNM := hid hnm
  have hn1 : n ≤ m + 1 := by omega
  have hn2 : m + 1 ≤ n := by omega
  clear hnm e1
  go_enter Tryz.func24, Tryz.ntmps24
  go_wp2_with fail
  refine Code.wp_mono (Q := RegPostW w n m) ?_ ?_
  · rintro e a w1 ⟨rfl, g1, g2, g0, a3, c3, rfl, T, hb1⟩
    obtain ⟨N, hN⟩ : ∃ N, (m + 2) ^ m = N := ⟨_, rfl⟩
    have hN5 : N ≤ 1296 := by
      have : ∀ m, m < 5 → (m + 2) ^ m ≤ 1296 := by decide
      rw [← hN]; exact this m hm
    have HC : Hid (streetCnt n n = N) := hid (by rw [streetCnt_self n (by omega)]; unfold cnt; rw [if_neg (by omega), ← hN, HNM.out]; simp)
    have HT := hid (fun k (hk : k < N) => allTrees_take hm (by rw [hN]; exact hk))
    have HL : Hid ((allTrees m).length = N) := hid (by rw [length_allTrees hm, hN])
    have HWL : Hid ((wordsL m).length = N) := hid (by rw [words_len hm, hN])
    have HWG := hid (fun k (hk : k < N) => words_get hm (by rw [hN]; exact hk))
    have HLS := hid (SeqTo.at [] (words_seq m))
    have HWD := hid (fun k => dg_word (m := m) (k := k) hm)
    have hs1 := hb1.size
    clear hN hmk
    go_wp2_with (go_at_call 34; refine (streetN_any n n _ (by omega) (by omega)).mono ?_; rintro e w' ⟨rfl, rfl⟩; rw [HC.out])
    have lt1 := T.l.lt
    have lt2 := T.lo.lt
    have lt3 := T.hi.lt
    go_loopw [6, 24] (fun o i wr => ∃ (k : Nat) (a' : Option Addr) (cap' : Nat) (rs : List Rw) (zs : List Int), k ≤ N ∧ i = .int .i64 k ∧ o = .slice a' k cap' ∧ OwnR wr w1.heap.size a' k cap' rs ∧ Hid (numsOf rs = (allTrees m).take k) ∧
      TriW wr w.heap.size m g1 (some ⟨g2, 0, none⟩) a3 m c3 zs ∧ Hid (k < N → zs = (wordsL m).getD k []) ∧ Hid (∀ x ∈ zs, 0 ≤ x) ∧ Below w.heap.size w wr ∧ w1.heap.size ≤ wr.heap.size) (fun _ i _ => N - (intOf i).toNat)
    case atStart => exact ⟨0, none, 0, [], _, Nat.zero_le _, rfl, rfl, OwnR.nil _ _, hid rfl, T, hid (fun _ => HLS.out.1.symm), hid (fun x hx => by have := List.eq_of_mem_replicate hx; omega), hb1, Nat.le_refl _⟩
    case round =>
      clear T
      obtain ⟨k, a', cap', rs, zs, hk, rfl, rfl, hor, HNU, T, HZ, HZN, hb, hsz⟩ := hrel
      by_cases hlt : k < N
      · have hzd : zs = dg (m + 2) k m := by rw [HZ.out hlt, HWG.out k hlt]
        have hw : Word zs (m + 1) := by rw [hzd]; exact HWD.out k
        have HZD := hid hzd
        have HW := hid hw
        clear hzd hw
        go_wp2_with fail
        refine (treeOfWord_any _ _ _ _ _ T.l.has HW.out).mono ?_
        rintro e w5 ⟨a5, c5, rfl, o5, hb5⟩
        go_wp2_with (at_builtin; refine wpList_append_row wr w5 rfl _ _ rfl w1.heap.size _ _ _ _ _ _ _ _ rfl rfl hor hb5 o5 (by omega) hsz ?_; intro a6 c6 w6 o6 hb6)
        have T6 : TriW w6 w.heap.size m g1 (some ⟨g2, 0, none⟩) a3 m c3 zs := ⟨(T.l.below hb5 (Nat.le_refl _)).belowB hb6 lt1, (T.lo.below hb5 (Nat.le_refl _)).belowB hb6 lt2, (T.hi.below hb5 (Nat.le_refl _)).belowB hb6 lt3, T.ne2, T.ne3⟩
        have hb06 := (hb.trans (hb5.mono hb.size)).trans (hb6.mono hs1)
        have hsz6 := hb6.size
        have hsz5 := hb5.size
        have STEP := hid (stepApart_any w.heap.size _ _ _ m m m c3 zs _ _ w6 T6.l T6.lo.has T6.hi.has T6.ne2 T6.ne3 (fun i hi => by rw [nth_rep hi]; omega) (fun i hi => HZN.out _ (nth_mem (by rw [T6.l.len]; exact hi))))
        clear hor T hb5 hb6 o5
        refine STEP.out.mono ?_
        rintro e w7 ⟨rfl, oc7, hm7⟩
        have o7 := o6.marked_gt hm7 lt1
        have T7 : TriW w7 w.heap.size m g1 (some ⟨g2, 0, none⟩) a3 m c3 _ := ⟨oc7, T6.lo.marked_ne hm7 (T6.ne2 _ rfl), T6.hi.marked_ne hm7 (T6.ne3 _ rfl), T6.ne2, T6.ne3⟩
        have hbm := hm7.below T6.l.ge hb06.size
        have hb07 := hb06.trans hbm
        have hszm := hbm.size
        clear STEP o6 T6 hm7 oc7
        go_wp2_with fail
        go_roundw
        case rel =>
          refine ⟨k + 1, a6, c6, _, _, by omega, by go_num, rfl, o7, hid ?_, T7, hid (fun hlt2 => ?_), hid (stepC_nonneg _ _ _ HZN.out (fun x hx => by have := List.eq_of_mem_replicate hx; omega)), hb07, by have := hbm.size; have := hb06.size; omega⟩
          · rw [numsOf_append, HNU.out, HT.out k hlt, ← HZD.out]
            rfl
          · rw [HZ.out hlt]
            exact HLS.out.2 k (by rw [HWL.out]; exact hlt2)
        case measure => simp [intOf]; omega
      · obtain rfl : k = N := by omega
        go_wp2_with fail
        go_ret
        exact ⟨_, _, _, _, rfl, hor.mono hs1, by rw [HNU.out, List.take_of_length_le (by rw [HL.out]; exact Nat.le_refl _)], hb⟩
  · go_region_held3 (fun _ => True) (trivial) (first | (go_at_call 41; refine (repeat_any _ 1 m (n : Int) _ (has_cell (by simp; try omega) (by first | exact lit0 _ _ _ _ (by simp) | exact lit1 _ _ _ _ _ (by simp) | exact lit2 _ _ _ _ _ _ (by simp))) (by omega)).mono ?_; rintro e w' ⟨a', cap', rfl, hown, hbw⟩))
    all_goals
      have hsz := hbw.size
      simp at hsz
      have hnm : (n : Int) = (m : Int) + 1 := by omega
      rw [hnm] at hown
      refine ⟨rfl, _, _, _, _, _, rfl, ⟨?_, ?_, ?_, ?_, ?_⟩, ?_⟩
      · repeat (first | ((with_reducible refine own_mk ?_ ?_ ?_) <;> first | omega | (simp; done) | (simp; omega)) | with_reducible refine Own.dr ?_ | with_reducible refine Own.al ?_ _ | with_reducible refine Own.ct hbw ?_)
      · repeat (first | ((with_reducible refine own_mk ?_ ?_ ?_) <;> first | omega | (simp; done) | (simp; omega)) | with_reducible refine Own.dr ?_ | with_reducible refine Own.al ?_ _ | with_reducible refine Own.ct hbw ?_)
      · repeat (first | ((with_reducible refine hown.mono ?_); focus (first | (simp; done) | (simp; omega))) | with_reducible refine Own.al ?_ _)
      · intro g e q hq; cases e; cases hq; simp; try omega
      · intro g e q hq; cases e
        have hg3 := hown.ge q hq
        have hl3 := hown.lt q hq
        simp at hg3
        omega
      · repeat (first | with_reducible exact Below.refl _ _ | ((with_reducible refine below_al ?_ ?_); (focus first | omega | (simp; omega) | simp)) | with_reducible refine below_dr ?_ | ((with_reducible refine below_ct hbw ?_ ?_); (focus first | omega | (simp; omega) | simp)))

set_option maxHeartbeats 400000 in
theorem implAllTrees_any (n : Int) (w : World) : Calls Tryz.prog 6 #[.int .i64 n] w (PostRows w (allTr n)) := by
  by_cases h1 : 1 ≤ n
  · by_cases h2 : n ≤ 5
    · obtain ⟨p, rfl⟩ : ∃ p : Nat, n = (p : Int) := ⟨n.toNat, by omega⟩
      obtain ⟨m, hpm⟩ : ∃ m, p = m + 1 := ⟨p - 1, by omega⟩
      have hm : m < 5 := by omega
      have HR : Hid (allTr p = (allTrees m, true)) := hid (by rw [allTr_yes (inB_iff.2 ⟨h1, h2⟩), show (p : Int).toNat - 1 = m by omega])
      have HP := hid hpm
      clear hpm
      go_enter Tryz.func6, Tryz.ntmps6
      go_wp2_with fail
      refine (treesOf_any p m HP.out hm _).mono ?_
      rintro e w2 ⟨a2, q, cap2, rs, rfl, hown2, hn2, hb2⟩
      go_wp2_with fail
      go_ret2
      exact postRows HR.out hown2 hn2 hb2
    · have HR : Hid (allTr n = ([], false)) := hid (allTr_no (by rw [inB_iff]; omega))
      go_enter Tryz.func6, Tryz.ntmps6
      go_wp2_with fail
      go_ret2
      exact postRows_no HR.out (Below.refl _ _)
  · have HR : Hid (allTr n = ([], false)) := hid (allTr_no (by rw [inB_iff]; omega))
    go_enter Tryz.func6, Tryz.ntmps6
    go_wp2_with fail
    go_ret2
    exact postRows_no HR.out (Below.refl _ _)
end Go.Proofs.YtfjeadnakbdkjaaGreat

namespace Go.Proofs.YtfjeadnakbdkjaaGreat
open Go.RowKit

set_option maxHeartbeats 1000000 in
theorem trPairs_any (a : Option Addr) (n cap : Nat) (xs : List Int) (w : World) (h : Has w a n cap xs) (ht : Tree xs n) (h8 : n ≤ 8) :
    Calls Tryz.prog 29 #[.slice a n cap] w (RowsRet w (invL xs)) := by
  have HL := hid h.len
  have HT := hid ht
  clear ht
  go_enter Tryz.func29, Tryz.ntmps29
  go_wp2_with fail
  go_loopw [3, 4] (fun o i wr => ∃ (k q : Nat) (a' : Option Addr) (cq : Nat) (rs : List Rw), k ≤ n ∧ q ≤ 8 * k ∧ i = .int .i64 ((k : Int) + 1) ∧ o = .slice a' q cq ∧ OwnR wr w.heap.size a' q cq rs ∧ Hid (numsOf rs = invTo xs k) ∧ Below w.heap.size w wr) (fun _ i _ => n + 1 - (intOf i).toNat)
  case atStart => exact ⟨0, 0, none, 0, [], Nat.zero_le _, Nat.zero_le _, rfl, rfl, OwnR.nil _ _, hid rfl, Below.refl _ _⟩
  case round =>
    obtain ⟨wo, rfl⟩ : ∃ wo : World, wo = wr := ⟨_, rfl⟩
    obtain ⟨k, q, a', cq, rs, hk, hq, rfl, rfl, hown, HN, hb⟩ := hrel
    by_cases hlt : k < n
    · go_wp2_with fail
      refine (trAbove_at _ _ _ _ (k + 1) _ _ (by omega) (h.below hb (Nat.le_refl _)) HT.out (by omega)).mono ?_
      rintro e w2 ⟨a2, m2, cap2, rfl, hown2, hb2⟩
      have hownX := hown.below hb2 (Nat.le_refl _)
      have hbX := hb.trans (hb2.mono hb.size)
      have hb0 := hb.size
      have hA := hown2
      have hAlt : wo.heap.size ≤ w2.heap.size := hb2.size
      clear hown hb
      go_wp2_with fail
      go_loopw [3, 6] (fun o jv wr => ∃ (c q : Nat) (a' : Option Addr) (cq : Nat) (rs : List Rw), c ≤ n - (k + 1) ∧ q ≤ 8 * k + c ∧ jv = .int .i64 (((k + 1 + 1 + c : Nat)) : Int) ∧ o = .slice a' q cq ∧ OwnR wr w.heap.size a' q cq rs ∧ Hid (numsOf rs = invTo xs k ++ invRow xs (k + 1) c) ∧ Own wr wo.heap.size a2 m2 cap2 (abv xs ((k + 1 : Nat) : Int)) ∧ Below w.heap.size w wr) (fun _ jv _ => n + 1 - (intOf jv).toNat)
      case atStart => exact ⟨0, q, a', cq, rs, Nat.zero_le _, by omega, by go_num, rfl, hownX, hid (by rw [HN.out, invRow_zero, List.append_nil]), hA, hbX⟩
      case round =>
        obtain ⟨c, q1, a1, cq1, rs1, hc, hq1, rfl, rfl, hown1, HN1, hA1, hb1⟩ := hrel
        have hv : Hid (((k + 1 + 1 + c : Nat) : Int) = (k : Int) + 1 + 1 + (c : Int)) := hid (by omega)
        by_cases hlc : c < n - (k + 1)
        · have hcn : k + 1 + 1 + c ≤ n := by omega
          by_cases hh : hasB (abv xs ((k + 1 : Nat) : Int)) ((k + 1 + 1 + c : Nat) : Int) = true
          · have HP := hid (invRow_yes hh)
            rw [hv.out] at hh
            have HH := hid hh
            clear hh
            go_wp2_with fail
            refine (l1Has_any _ _ _ _ _ _ hA1.has).mono ?_
            rintro e w3 ⟨rfl, rfl⟩
            rw [HH.out]
            go_wp2_with (at_builtin; refine wpList_append_lit2k _ rfl _ _ rfl w.heap.size _ _ _ _ _ _ rfl rfl hown1 (by omega) hb1.size ?_; intro a3 cap3 w3 rs3 hn3 hown3 hb3 hk3 _)
            go_roundw
            case rel => exact ⟨c + 1, q1 + 1, a3, cap3, rs3, by omega, by omega, by go_num, rfl, hown3, hid (by rw [hn3, HN1.out, HP.out, List.append_assoc]; simp), hk3 hA1, hb1.trans hb3⟩
            case measure => simp [intOf]; omega
          · have hh := Bool.eq_false_iff.2 hh
            have HP := hid (invRow_no hh)
            rw [hv.out] at hh
            have HH := hid hh
            clear hh
            go_wp2_with fail
            refine (l1Has_any _ _ _ _ _ _ hA1.has).mono ?_
            rintro e w3 ⟨rfl, rfl⟩
            rw [HH.out]
            go_wp2_with fail
            go_roundw
            case rel => exact ⟨c + 1, q1, a1, cq1, rs1, by omega, by omega, by go_num, rfl, hown1, hid (by rw [HN1.out, HP.out]), hA1, hb1⟩
            case measure => simp [intOf]; omega
        · obtain rfl : c = n - (k + 1) := by omega
          have hcn : ¬ k + 1 + 1 + (n - (k + 1)) ≤ n := by omega
          go_wp2_with fail
          go_roundw
          case rel => exact ⟨k + 1, q1, a1, cq1, rs1, by omega, by omega, by go_num, rfl, hown1, hid (by rw [HN1.out, invTo_succ, HL.out]), hb1⟩
          case measure => simp [intOf]; omega
    · obtain rfl : k = n := by omega
      have HE : Hid (numsOf rs = invL xs) := hid (by rw [HN.out, invL, HL.out])
      go_wp2_with fail
      go_ret
      exact ⟨a', q, cq, rs, rfl, hown, HE.out, hb⟩

end Go.Proofs.YtfjeadnakbdkjaaGreat

namespace Go.Proofs.YtfjeadnakbdkjaaGreat
open Go.RowKit

theorem grownI_on {w w' w'' : World} {r : Option Nat} (h : w.grownBy w' r) (hb : Below w'.heap.size w' w'') : w.grownBy w'' r :=
  ⟨hb.os.trans h.os, hb.tape.trans h.tape, hb.output.trans h.output, Nat.le_trans h.size hb.size, fun j hj hne => (hb.block j (Nat.lt_of_lt_of_le hj h.size)).trans (h.block j hj hne)⟩
theorem grownI_set {w w' : World} {g i : Nat} (h : w.grownBy w' (some g)) (v : Value) : w.grownBy (w'.setCell ⟨g, i, none⟩ v) (some g) :=
  ⟨h.os, h.tape, h.output, by simpa using h.size, fun j hj hne => by
    rw [heap_setCell_other w' ⟨g, i, none⟩ j v (by intro e; exact hne (by simp [e]))]
    exact h.block j hj hne⟩
theorem rows_trees {n q : Nat} {rs : List Rw} (h5 : n ≤ 5) (h : numsOf rs = treesL n) (hq : rs.length = q) : q = treesQ n ∧ ∀ k, k < q → (nthR rs k).xs = (treesL n).getD k [] := by
  have hl : q = treesQ n := by
    have := congrArg List.length h
    rw [length_treesL h5] at this
    simp [numsOf] at this
    omega
  refine ⟨hl, fun k hk => ?_⟩
  have h1 := map_nthR Rw.xs (rs := rs) (i := k) (by omega)
  have h2 : (treesL n)[k]? = some (nthR rs k).xs := by rw [← h]; exact h1
  simp [h2]
theorem pairs_int {n : Nat} (h5 : n ≤ 5) : ∃ M : Nat, (n : Int) * ((n : Int) - 1) = (M : Int) ∧ M ≤ 20 ∧ M / 2 = pairsN n ∧ pairsN n ≤ 10 := by
  have : ∀ n : Nat, n ≤ 5 → (n : Int) * ((n : Int) - 1) = ((n * (n - 1) : Nat) : Int) ∧ n * (n - 1) ≤ 20 ∧ n * (n - 1) / 2 = pairsN n ∧ pairsN n ≤ 10 := by decide
  exact ⟨_, this n h5⟩

set_option maxRecDepth 100000 in
set_option maxHeartbeats 2000000 in
theorem specByInv_any (n : Int) (w : World) : Calls Tryz.prog 13 #[.int .i64 n] w (PostInts w (byInvOf n)) := by
  by_cases hn : inB n 0 5 = true
  · by_cases h0 : n = 0
    · subst h0
      have HR : Hid (byInvOf 0 = ([1], true)) := hid (by decide)
      have HN := hid hn
      clear hn
      go_enter Tryz.func13, Tryz.ntmps13
      go_wp2_with (go_at_call 25; refine (l1In_any _ _ _ _).mono ?_; rintro e w' ⟨rfl, rfl⟩; rw [HN.out])
      go_ret2
      exact postInts HR.out (own_lit1 _ _ _ (Nat.le_refl _)) ((Below.refl _ _).alloc (Nat.le_refl _) _)
    · obtain ⟨p, rfl⟩ : ∃ p : Nat, n = (p : Int) := ⟨n.toNat, by have := inB_iff.1 hn; omega⟩
      have h5 : p ≤ 5 := by have := inB_iff.1 hn; omega
      have HR : Hid (byInvOf p = (byInv p, true)) := hid (by simp [byInvOf, hn])
      have HN := hid hn
      have HTL := hid (length_invTs h5)
      obtain ⟨M, hM, hM20, hM2, hM10⟩ := pairs_int h5
      have hd2 : (M : Int).tdiv 2 = ((pairsN p : Nat) : Int) := by rw [← hM2]; rfl
      have hbe : ((p : Int) == 0) = false := by simp; omega
      have HP1 : 1 ≤ p := by omega
      clear hn h0
      obtain ⟨K, hK⟩ : ∃ K, pairsN p = K := ⟨_, rfl⟩
      rw [hK] at hM10 hd2
      have HK := hid hK
      clear hK hM2
      have HC : Hid ((K : Int) + 1 = ((K + 1 : Nat) : Int)) := hid (by omega)
      have hq := treesQ_le h5
      have HT5 := hid h5
      have HTR := hid (trAll_any p (p - 1) (by omega) (by omega))
      have HTL2 : Hid (allTrees (p - 1) = treesL p) := hid (by rw [treesL, if_neg (by omega)])
      go_enter Tryz.func13, Tryz.ntmps13
      go_wp2_with (first | (go_at_call 25; refine (l1In_any _ _ _ _).mono ?_; rintro e w' ⟨rfl, rfl⟩; rw [HN.out]) | (at_make; refine wpList_make_ints _ rfl _ _ rfl (K + 1) (by rw [← HC.out]; rfl) (by rw [← HC.out]; rfl) (by omega) ?_; intro a1 cap1 w1 hown1 hb1))
      refine (HTR.out w1).mono ?_
      rintro e w2 ⟨a2, q, cap2, rs, rfl, hown2, hn2, hb2⟩
      rw [HTL2.out] at hn2
      obtain ⟨hqq, hrow⟩ := rows_trees h5 hn2 hown2.len
      have HROW := hid hrow
      have HQ := hid hqq
      have hq5 : q ≤ 1296 := by omega
      have ho1 := hown1.below hb2 (Nat.le_refl _)
      obtain ⟨g1, rfl, hg1, hg2, -, -⟩ := hown1.opened (by omega)
      have hbw := hb1.trans (hb2.mono hb1.size)
      have HGE := hid (fun i (hi : i < q) => (show ∀ x, (nthR rs i).a = some x → x.block ≠ g1 from fun x hx => by
        have := (hown2.2.2.2.1 i hi).ge x hx
        omega))
      have HRR := hid hown2.has
      have HGA := hid (show ∀ x, a2 = some x → x.block ≠ g1 from fun x hx => by
        subst hx
        have := (hown2.1.lt x.block rfl).1
        omega)
      have HH0 := hid (hist5_first (invTs p) (K + 1))
      have hlt2 : g1 < w2.heap.size := Nat.lt_of_lt_of_le hg2 hb2.size
      clear hn2 hqq hrow hown2 hown1 hb1 hb2 hq hM hd2 hbe
      go_wp2_with fail
      go_loopw [23] (fun i wr => ∃ (k : Nat) (zs : List Int), k ≤ q ∧ i = .int .i64 (k : Int) ∧ Own wr w.heap.size (some ⟨g1, 0, none⟩) (K + 1) cap1 zs ∧ Hid (Hist5 (invTs p) (K + 1) k zs) ∧ w2.grownBy wr (some g1)) (fun i _ => q - (intOf i).toNat)
      case atStart => exact ⟨0, _, Nat.zero_le _, rfl, ho1, HH0, World.grownBy.refl _ _⟩
      case round =>
        clear ho1 HH0
        obtain ⟨k, zs, hk, rfl, hz, HH, hgr⟩ := hrel
        by_cases hkq : k < q
        · have p1 := HROW.out k hkq
          obtain ⟨r0, r1, r2, r3, r4, r5⟩ := HRR.out
          obtain ⟨b, off, rfl, hbb, hc⟩ := r4 (by omega)
          have hbg := HGA.out _ rfl
          have hck : wr.cell? ⟨b, off + k, none⟩ = some (nthR rs k).v := hgr.cell (hc k hkq) (by simpa using hbg)
          have hrow := (r5 k hkq).kept hgr (HGE.out k hkq)
          obtain ⟨ht, d, hd, hdp, hdn, -⟩ := invTs_facts h5 (by rw [← HQ.out]; exact hkq) p1
          rw [HK.out] at hdp
          have p2 := ht.len
          rw [p2] at hrow
          unfold Rw.v at hck
          rw [p2] at hck
          have HH2 := hid (hist5_step HH.out (by rw [HTL.out, ← HQ.out]; exact hkq) hdn hdp hz.len)
          obtain ⟨z0, z1⟩ := hist5_le HH.out hdp (by rw [HTL.out, ← HQ.out]; omega)
          rw [HTL.out, ← HQ.out] at z1
          have HD := hid hd
          have HTT := hid ht
          generalize (nthR rs k).xs = xs at *
          generalize (nthR rs k).a = ax at *
          generalize (nthR rs k).c = cx at *
          have HL := hid (trPairs_any ax p cx xs wr hrow ht (by omega))
          clear hc r0 r1 r2 r3 r4 r5 p1 p2 hd hdn hrow ht
          go_wp2_with fail
          refine HL.out.mono ?_
          rintro e w5 ⟨a5, q5, c5, rs5, rfl, hown5, hn5, hb5⟩
          have hq5d : q5 = d := by
            have e5 := congrArg List.length hn5
            have e6 := hown5.len
            rw [HD.out] at e5
            simp [numsOf] at e5
            omega
          subst hq5d
          have hz5 := hz.below hb5 (Nat.le_refl _)
          obtain ⟨g', hga, -, -, hcg, hfg⟩ := hz5.opened (by omega)
          cases hga
          have hgd := hcg q5 hdp
          have hgf := hfg q5
          have hdi : (q5 : Int) < ((K + 1 : Nat) : Int) := by omega
          have hdi2 : (q5 : Int) < (K : Int) + 1 := by omega
          have hdz : (0 : Int) ≤ (q5 : Int) := by omega
          clear hcg hfg
          go_wp2_with fail
          go_roundw
          case rel => exact ⟨k + 1, _, by omega, by go_num, (hz5.set q5 _).1, HH2, grownI_set (grownI_on hgr hb5) _⟩
          case measure => simp [intOf]; omega
        · obtain rfl : k = q := by omega
          have HF := hid (hist_inv (n := p) (by rw [HK.out]; exact HH.out) (by rw [HTL.out, HQ.out]) (by rw [hz.len, HK.out]))
          go_wp2_with fail
          go_ret2
          exact postInts (by rw [HR.out, ← HF.out]) hz (hbw.trans (below_grown hgr hbw.size (fun j hj => by cases hj; exact hg1)))
  · have HR : Hid (byInvOf n = ([], false)) := hid (by simp [byInvOf, hn])
    have HN := hid hn
    clear hn
    go_enter Tryz.func13, Tryz.ntmps13
    go_wp2_with (go_at_call 25; refine (l1In_any _ _ _ _).mono ?_; rintro e w' ⟨rfl, rfl⟩; rw [Bool.eq_false_iff.2 HN.out])
    go_ret2
    exact postInts_no HR.out (Below.refl _ _)
end Go.Proofs.YtfjeadnakbdkjaaGreat

namespace Go.Proofs.YtfjeadnakbdkjaaGreat
open Go.RowKit

theorem treesNone_any (w : World) : Calls Tryz.prog 24 #[.int .i64 0] w (RetRows w [[]]) := by
  go_enter Tryz.func24, Tryz.ntmps24
  go_wp2_with fail
  go_ret
  exact ⟨_, 1, 1, [⟨none, 0, []⟩], rfl, ownR_lit1 (Own.nil _ _) (Nat.le_refl _), rfl, (Below.refl _ _).alloc (Nat.le_refl _) _⟩
theorem treesFor_any (p : Nat) (h5 : p ≤ 5) (w : World) : Calls Tryz.prog 24 #[.int .i64 (p : Int)] w (RetRows w (treesL p)) := by
  by_cases h0 : p = 0
  · subst h0
    exact treesNone_any w
  · rw [treesL, if_neg h0]
    exact treesOf_any p (p - 1) (by omega) (by omega) w

set_option maxRecDepth 100000 in
set_option maxHeartbeats 2000000 in
theorem implByInv_any (n : Int) (w : World) : Calls Tryz.prog 12 #[.int .i64 n] w (PostInts w (byInvOf n)) := by
  by_cases h1 : 0 ≤ n
  · by_cases h2 : n ≤ 5
    · obtain ⟨p, rfl⟩ : ∃ p : Nat, n = (p : Int) := ⟨n.toNat, by omega⟩
      have h5 : p ≤ 5 := by omega
      have HR : Hid (byInvOf p = (byInv p, true)) := hid (by simp [byInvOf, inB_iff.2 ⟨h1, h2⟩])
      have HTL := hid (length_invTs h5)
      obtain ⟨M, hM, hM20, hM2, hM10⟩ := pairs_int h5
      have hd2 : (M : Int).tdiv 2 = ((pairsN p : Nat) : Int) := by rw [← hM2]; rfl
      obtain ⟨K, hK⟩ : ∃ K, pairsN p = K := ⟨_, rfl⟩
      rw [hK] at hM10 hd2
      have HK := hid hK
      clear hK hM2
      have HC : Hid ((K : Int) + 1 = ((K + 1 : Nat) : Int)) := hid (by omega)
      have hq := treesQ_le h5
      have HT5 := hid h5
      have HTR := hid (treesFor_any p h5)
      go_enter Tryz.func12, Tryz.ntmps12
      go_wp2_with ((at_make; refine wpList_make_ints _ rfl _ _ rfl (K + 1) (by rw [← HC.out]; rfl) (by rw [← HC.out]; rfl) (by omega) ?_; intro a1 cap1 w1 hown1 hb1))
      refine (HTR.out w1).mono ?_
      rintro e w2 ⟨a2, q, cap2, rs, rfl, hown2, hn2, hb2⟩
      obtain ⟨hqq, hrow⟩ := rows_trees h5 hn2 hown2.len
      have HROW := hid hrow
      have HQ := hid hqq
      have hd : q ≤ 1296 := by omega
      have ho1 := hown1.below hb2 (Nat.le_refl _)
      obtain ⟨g1, rfl, hg1, hg2, -, -⟩ := hown1.opened (by omega)
      have hbw := hb1.trans (hb2.mono hb1.size)
      have HGE := hid (fun i (hi : i < q) => (show ∀ x, (nthR rs i).a = some x → x.block ≠ g1 from fun x hx => by
        have := (hown2.2.2.2.1 i hi).ge x hx
        omega))
      have HRR := hid hown2.has
      have HGA := hid (show ∀ x, a2 = some x → x.block ≠ g1 from fun x hx => by
        subst hx
        have := (hown2.1.lt x.block rfl).1
        omega)
      have HH0 := hid (hist5_first (invTs p) (K + 1))
      have hlt2 : g1 < w2.heap.size := Nat.lt_of_lt_of_le hg2 hb2.size
      clear hn2 hqq hrow hown2 hown1 hb1 hb2 hq hM hd2
      go_wp2_with fail
      go_loopw [25] (fun i wr => ∃ (k : Nat) (zs : List Int), k ≤ q ∧ i = .int .i64 (k : Int) ∧ Own wr w.heap.size (some ⟨g1, 0, none⟩) (K + 1) cap1 zs ∧ Hid (Hist5 (invTs p) (K + 1) k zs) ∧ w2.grownBy wr (some g1)) (fun i _ => q - (intOf i).toNat)
      case atStart => exact ⟨0, _, Nat.zero_le _, rfl, ho1, HH0, World.grownBy.refl _ _⟩
      case round =>
        clear ho1 HH0
        obtain ⟨k, zs, hk, rfl, hz, HH, hgr⟩ := hrel
        by_cases hkq : k < q
        · have p1 := HROW.out k hkq
          obtain ⟨r0, r1, r2, r3, r4, r5⟩ := HRR.out
          obtain ⟨b, off, rfl, hbb, hc⟩ := r4 (by omega)
          have hbg := HGA.out _ rfl
          have hck : wr.cell? ⟨b, off + k, none⟩ = some (nthR rs k).v := hgr.cell (hc k hkq) (by simpa using hbg)
          have hrow := (r5 k hkq).kept hgr (HGE.out k hkq)
          obtain ⟨ht, d, hd, hdp, hdn, hic⟩ := invTs_facts h5 (by rw [← HQ.out]; exact hkq) p1
          rw [HK.out] at hdp
          have p2 := ht.len
          rw [p2] at hrow
          unfold Rw.v at hck
          rw [p2] at hck
          have HH2 := hid (hist5_step HH.out (by rw [HTL.out, ← HQ.out]; exact hkq) hdn hdp hz.len)
          obtain ⟨z0, z1⟩ := hist5_le HH.out hdp (by rw [HTL.out, ← HQ.out]; omega)
          rw [HTL.out, ← HQ.out] at z1
          have HD := hid hd
          have HTT := hid hic
          generalize (nthR rs k).xs = xs at *
          generalize (nthR rs k).a = ax at *
          generalize (nthR rs k).c = cx at *
          have HL := hid (implInvs_any ax p cx xs wr hrow)
          clear hc r0 r1 r2 r3 r4 r5 p1 p2 hd hdn hrow ht hic
          go_wp2_with fail
          refine HL.out.mono ?_
          rintro e w5 ⟨rfl, hb5⟩
          rw [HTT.out]
          have hz5 := hz.below hb5 (Nat.le_refl _)
          obtain ⟨g', hga, -, -, hcg, hfg⟩ := hz5.opened (by omega)
          cases hga
          have hgd := hcg d hdp
          have hgf := hfg d
          have hdi : (d : Int) < ((K + 1 : Nat) : Int) := by omega
          have hdi2 : (d : Int) < (K : Int) + 1 := by omega
          have hdz : (0 : Int) ≤ (d : Int) := by omega
          clear hcg hfg
          go_wp2_with fail
          go_roundw
          case rel => exact ⟨k + 1, _, by omega, by go_num, (hz5.set d _).1, HH2, grownI_set (grownI_on hgr hb5) _⟩
          case measure => simp [intOf]; omega
        · obtain rfl : k = q := by omega
          have HF := hid (hist_inv (n := p) (by rw [HK.out]; exact HH.out) (by rw [HTL.out, HQ.out]) (by rw [hz.len, HK.out]))
          go_wp2_with fail
          go_ret2
          exact postInts (by rw [HR.out, ← HF.out]) hz (hbw.trans (below_grown hgr hbw.size (fun j hj => by cases hj; exact hg1)))
    · have HR : Hid (byInvOf n = ([], false)) := hid (by have : ¬ inB n 0 5 = true := by rw [inB_iff]; omega
                                                         simp [byInvOf, this])
      go_enter Tryz.func12, Tryz.ntmps12
      go_wp2_with fail
      go_ret2
      exact postInts_no HR.out (Below.refl _ _)
  · have HR : Hid (byInvOf n = ([], false)) := hid (by have : ¬ inB n 0 5 = true := by rw [inB_iff]; omega
                                                       simp [byInvOf, this])
    go_enter Tryz.func12, Tryz.ntmps12
    go_wp2_with fail
    go_ret2
    exact postInts_no HR.out (Below.refl _ _)
end Go.Proofs.YtfjeadnakbdkjaaGreat

namespace Go.Proofs.YtfjeadnakbdkjaaGreat
open Go.RowKit

set_option maxHeartbeats 400000 in
theorem wSame_any (a b : Option Addr) (n m cap cap' : Nat) (xs ys : List Int) (w : World) (h : Has w a n cap xs) (h' : Has w b m cap' ys) :
    Calls Tryz.prog 15 #[.slice a n cap, .slice b m cap'] w fun e w' => e = .returned (.bool (same xs ys)) ∧ Quiet w w' := by
  obtain ⟨h0, h1, h2, h3, h4⟩ := h
  obtain ⟨k0, k1, k2, k3, k4⟩ := h'
  by_cases hnm : n = m
  · have hb : ((n : Int) != (m : Int)) = false := by simp [hnm]
    subst hnm
    go_enter Tryz.func15, Tryz.ntmps15
    go_wp2_with fail
    go_loopw [13] (fun i wr => ∃ k : Nat, k ≤ n ∧ i = .int .i64 k ∧ FromTo xs ys k ∧ Quiet w wr) (fun i _ => n - (intOf i).toNat)
    case atStart => exact ⟨0, Nat.zero_le _, rfl, fun i hi => by omega, ⟨0, rfl⟩⟩
    case round =>
      obtain ⟨k, hk, rfl, hft, q, hq⟩ := hrel
      subst hq
      by_cases hlt : k < n
      · obtain ⟨b1, off1, rfl, hb1, hc1⟩ := h4 (by omega)
        obtain ⟨b2, off2, rfl, hb2, hc2⟩ := k4 (by omega)
        have hck := hc1 k hlt
        have hdk := hc2 k hlt
        have hkk : (k : Int) < (n : Int) := by omega
        have hkz : (0 : Int) ≤ (k : Int) := by omega
        clear hc1 hc2 h4 k4
        by_cases he : nth xs k = nth ys k
        · have hbe : (nth xs k != nth ys k) = false := by simp [he]
          have HE := hid he
          clear he
          go_wp2_with fail
          go_quiet (fail)
          go_wp2_with fail
          go_roundw
          case rel => exact ⟨k + 1, by omega, by go_num, fun i hi => by rcases Nat.lt_succ_iff_lt_or_eq.1 hi with h | rfl; exact hft i h; exact HE.out.symm, ⟨_, rfl⟩⟩
          case measure => simp [intOf]; omega
        · have hbe : (nth xs k != nth ys k) = true := by simp [he]
          have HE := hid he
          clear he
          go_wp2_with fail
          go_quiet (fail)
          go_wp2_with fail
          go_ret
          exact ⟨ret_bool (same_no HE.out).symm, (Quiet.more ⟨_, rfl⟩ _)⟩
      · obtain rfl : k = n := by omega
        go_wp2_with fail
        go_ret
        exact ⟨ret_bool (same_yes (by omega) (by rw [h0]; exact hft)).symm, ⟨_, rfl⟩⟩
  · have hb : ((n : Int) != (m : Int)) = true := by simp; omega
    go_enter Tryz.func15, Tryz.ntmps15
    go_wp2_with fail
    go_ret
    exact ⟨ret_bool (show false = same xs ys from by unfold same; symm; rw [decide_eq_false_iff_not]; rintro rfl; omega), ⟨0, rfl⟩⟩

end Go.Proofs.YtfjeadnakbdkjaaGreat

namespace Go.Proofs.YtfjeadnakbdkjaaGreat
open Go.RowKit

set_option maxHeartbeats 800000 in
theorem wRows_any (a b : Option Addr) (n m cap cap' : Nat) (rs ss : List Rw) (w : World) (h : HasR w a n cap rs) (h' : HasR w b m cap' ss) :
    Calls Tryz.prog 10 #[.slice a n cap, .slice b m cap'] w fun e w' => e = .returned (.bool (sameR rs ss)) ∧ Quiet w w' := by
  obtain ⟨h0, h1, h2, h3, h4, h5⟩ := h
  obtain ⟨k0, k1, k2, k3, k4, k5⟩ := h'
  by_cases hnm : n = m
  · have hb : ((n : Int) != (m : Int)) = false := by simp [hnm]
    subst hnm
    have HL := hid h0
    have HL' := hid k0
    have H5 := hid h5
    have K5 := hid k5
    clear h0 k0 h5 k5
    go_enter Tryz.func10, Tryz.ntmps10
    go_wp2_with fail
    go_loopw [13] (fun i wr => ∃ k : Nat, k ≤ n ∧ i = .int .i64 k ∧ Hid (∀ j, j < k → same (nthR rs j).xs (nthR ss j).xs = true) ∧ Quiet w wr) (fun i _ => n - (intOf i).toNat)
    case atStart => exact ⟨0, Nat.zero_le _, rfl, hid (fun i hi => by omega), ⟨0, rfl⟩⟩
    case round =>
      obtain ⟨k, hk, rfl, HF, HQ⟩ := hrel
      by_cases hlt : k < n
      · obtain ⟨b1, off1, rfl, hb1, hc1⟩ := h4 (by omega)
        obtain ⟨b2, off2, rfl, hb2, hc2⟩ := k4 (by omega)
        have hck : wr.cell? ⟨b1, off1 + k, none⟩ = some (nthR rs k).v := by obtain ⟨q, hq⟩ := HQ; rw [hq]; exact hc1 k hlt
        have hdk : wr.cell? ⟨b2, off2 + k, none⟩ = some (nthR ss k).v := by obtain ⟨q, hq⟩ := HQ; rw [hq]; exact hc2 k hlt
        have hkk : (k : Int) < (n : Int) := by omega
        have hkz : (0 : Int) ≤ (k : Int) := by omega
        have cq : ∀ j, Calls Tryz.prog 15 #[(nthR rs k).v, (nthR ss k).v] (wr.drewN j) fun e w' => e = .returned (.bool (same (nthR rs k).xs (nthR ss k).xs)) ∧ ∃ m, w' = (wr.drewN j).drewN m := fun j =>
          wSame_any _ _ _ _ _ _ _ _ _ (by obtain ⟨q, hq⟩ := HQ; rw [hq]; exact H5.out k hlt) (by obtain ⟨q, hq⟩ := HQ; rw [hq]; exact K5.out k hlt)
        clear hc1 hc2 h4 k4
        have HN := hid (sameR_no (rs := rs) (ss := ss) (k := k) (by rw [HL.out]; omega) (by rw [HL'.out]; omega))
        have HF2 := hid (fun (hh : same (nthR rs k).xs (nthR ss k).xs = true) (j : Nat) (hj : j < k + 1) => (show same (nthR rs j).xs (nthR ss j).xs = true from by rcases Nat.lt_succ_iff_lt_or_eq.1 hj with h1 | rfl; exact HF.out j h1; exact hh))
        generalize nthR rs k = rk at *
        generalize nthR ss k = sk at *
        by_cases he : same rk.xs sk.xs = true
        · have HE := hid he
          rw [he] at cq
          have CQ := hid cq
          clear he cq
          go_wp2_with fail
          go_quiet ((go_at_call 15; exact Calls.quiet_of (CQ.out _)))
          go_wp2_with fail
          go_roundw
          case rel => exact ⟨k + 1, by omega, by go_num, hid (HF2.out HE.out), Quiet.more HQ _⟩
          case measure => simp [intOf]; omega
        · have he' := Bool.eq_false_iff.2 he
          have HE := hid he'
          rw [he'] at cq
          have CQ := hid cq
          clear he he' cq
          go_wp2_with fail
          go_quiet ((go_at_call 15; exact Calls.quiet_of (CQ.out _)))
          go_wp2_with fail
          go_ret
          exact ⟨ret_bool (HN.out HE.out).symm, Quiet.more HQ _⟩
      · obtain rfl : k = n := by omega
        go_wp2_with fail
        go_ret
        exact ⟨ret_bool (sameR_yes (by rw [HL.out, HL'.out]) (by rw [HL.out]; exact HF.out)).symm, HQ⟩
  · have hb : ((n : Int) != (m : Int)) = true := by simp; omega
    have HR : Hid (sameR rs ss = false) := hid (by
      unfold sameR; rw [decide_eq_false_iff_not]
      intro e
      have : (numsOf rs).length = (numsOf ss).length := by rw [e]
      simp [numsOf] at this
      omega)
    go_enter Tryz.func10, Tryz.ntmps10
    go_wp2_with fail
    go_ret
    exact ⟨ret_bool HR.out.symm, ⟨0, rfl⟩⟩


set_option maxHeartbeats 800000 in
theorem wLess_any (a b : Option Addr) (n cap cap' : Nat) (xs ys : List Int) (w : World) (h : Has w a n cap xs) (h' : Has w b n cap' ys) :
    Calls Tryz.prog 20 #[.slice a n cap, .slice b n cap'] w fun e w' => e = .returned (.bool (lexLess xs ys)) ∧ Quiet w w' := by
  obtain ⟨h0, h1, h2, h3, h4⟩ := h
  obtain ⟨k0, k1, k2, k3, k4⟩ := h'
  have HL := hid h0
  have HL' := hid k0
  clear h0 k0
  go_enter Tryz.func20, Tryz.ntmps20
  go_wp2_with fail
  go_loopw [8] (fun i wr => ∃ k : Nat, k ≤ n ∧ i = .int .i64 k ∧ Hid (∀ i, i < k → nth xs i = nth ys i) ∧ Quiet w wr) (fun i _ => n - (intOf i).toNat)
  case atStart => exact ⟨0, Nat.zero_le _, rfl, hid (fun i hi => by omega), ⟨0, rfl⟩⟩
  case round =>
    obtain ⟨k, hk, rfl, HF, q, hq⟩ := hrel
    subst hq
    by_cases hlt : k < n
    · obtain ⟨b1, off1, rfl, hb1, hc1⟩ := h4 (by omega)
      obtain ⟨b2, off2, rfl, hb2, hc2⟩ := k4 (by omega)
      have hck := hc1 k hlt
      have hdk := hc2 k hlt
      have hkk : (k : Int) < (n : Int) := by omega
      have hkz : (0 : Int) ≤ (k : Int) := by omega
      have HX := hid (fun (hne : nth xs k ≠ nth ys k) => lexLess_at k xs ys (by rw [HL.out]; exact hlt) (by rw [HL.out, HL'.out]) HF.out hne)
      clear hc1 hc2 h4 k4
      by_cases he : nth xs k = nth ys k
      · have hbe : (nth xs k != nth ys k) = false := by simp [he]
        have HE := hid he
        clear he
        go_wp2_with fail
        go_quiet (fail)
        go_wp2_with fail
        go_roundw
        case rel => exact ⟨k + 1, by omega, by go_num, hid (fun i hi => by rcases Nat.lt_succ_iff_lt_or_eq.1 hi with h | rfl; exact HF.out i h; exact HE.out), ⟨_, rfl⟩⟩
        case measure => simp [intOf]; omega
      · have hbe : (nth xs k != nth ys k) = true := by simp [he]
        have HR := hid (HX.out he)
        clear he HX
        go_wp2_with fail
        go_quiet (fail)
        go_wp2_with fail
        go_quiet (fail)
        go_wp2_with fail
        go_ret
        exact ⟨ret_bool HR.out.symm, (Quiet.more (Quiet.more ⟨_, rfl⟩ _) _)⟩
    · obtain rfl : k = n := by omega
      have HR : Hid (lexLess xs ys = false) := hid (by
        rw [ext_nth (xs := xs) (ys := ys) (by rw [HL.out, HL'.out]) (by rw [HL.out]; exact HF.out)]
        exact lexLess_same _)
      go_wp2_with fail
      go_ret
      exact ⟨ret_bool HR.out.symm, ⟨_, rfl⟩⟩

end Go.Proofs.YtfjeadnakbdkjaaGreat

namespace Go.Proofs.YtfjeadnakbdkjaaGreat
open Go.RowKit

set_option maxHeartbeats 400000 in
theorem wSumT_any (a : Option Addr) (n cap : Nat) (xs : List Int) (w : World) (h : Has w a n cap xs) (h8 : n ≤ 100) (hb : ∀ i, i < n → 0 ≤ nth xs i ∧ nth xs i ≤ 5000) :
    Calls Tryz.prog 17 #[.slice a n cap] w fun e w' => e = .returned (.int .i64 (total xs)) ∧ w = w' := by
  have HL := hid h.len
  have HB := hid hb
  clear hb
  go_enter Tryz.func17, Tryz.ntmps17
  go_wp2_with fail
  go_loop [3, 8] (fun s i => ∃ (k : Nat) (v : Int), k ≤ n ∧ i = .int .i64 (k : Int) ∧ s = .int .i64 v ∧ Hid (v = total (xs.take k)) ∧ 0 ≤ v ∧ v ≤ 5000 * (k : Int)) (fun _ i => n - (intOf i).toNat)
  case atStart => exact ⟨0, 0, by omega, rfl, rfl, hid rfl, by omega, by omega⟩
  case round =>
    obtain ⟨k, v, hk, rfl, rfl, HV, s0, s1⟩ := hrel
    by_cases hlt : k < n
    · obtain ⟨b0, off, rfl, hbb, hc⟩ := h.2.2.2.2 (by omega)
      have hck := hc k hlt
      obtain ⟨u0, u1⟩ := HB.out k hlt
      have HS : Hid (total (xs.take (k + 1)) = v + nth xs k) := hid (by rw [total_succ (by rw [HL.out]; exact hlt), HV.out])
      clear hc
      go_wp2_with fail
      go_round
      case rel => exact ⟨k + 1, v + nth xs k, by omega, by go_num, by go_num, hid HS.out.symm, by omega, by omega⟩
      case measure => simp [intOf]; omega
    · obtain rfl : k = n := by omega
      have HR : Hid (v = total xs) := hid (by rw [HV.out, List.take_of_length_le (by rw [HL.out]; omega)])
      go_wp2_with fail
      go_ret
      exact ⟨ret_int HR.out, rfl⟩
theorem tl_len {m : Nat} (hm : m < 5) : (allTrees m).length = cnt (m + 1) := by
  have : ∀ m, m < 5 → (m + 2) ^ m = cnt (m + 1) := by decide +kernel
  rw [← this m hm]
  simp [allTrees, words_len hm]
theorem tl_at {rs : List Rw} {m q k : Nat} (h0 : rs.length = q) (hn : numsOf rs = allTrees m) (hk : k < q) : (nthR rs k).xs = (allTrees m).getD k [] ∧ (allTrees m).length = q := by
  have hl : (numsOf rs).length = q := by simp [numsOf, h0]
  have h1 : (numsOf rs)[k]? = some (nthR rs k).xs := map_nthR Rw.xs (by omega)
  rw [← hn]
  refine ⟨?_, hl⟩
  rw [List.getD_eq_getElem?_getD, h1]
  rfl
theorem tl_row {w : World} {b off q cap m : Nat} {rs : List Rw} (R : HasR w (some ⟨b, off, none⟩) q cap rs) (hm : m < 5) (hn : numsOf rs = allTrees m) {k : Nat} (hk : k < q) :
    ∃ ak ck, w.cell? ⟨b, off + k, none⟩ = some (.slice ak (m + 1) ck) ∧ Has w ak (m + 1) ck (nthR rs k).xs ∧ treeB (nthR rs k).xs = true ∧ pruB (nthR rs k).xs = ((wordsL m).getD k [], true) ∧ ((wordsL m).getD k []).length = m := by
  obtain ⟨r0, r1, r2, r3, r4, r5⟩ := R
  obtain ⟨b', off', e, _, hc⟩ := r4 (by omega)
  simp at e
  obtain ⟨rfl, rfl⟩ := e
  have h3 := hc k hk
  have h4 := r5 k hk
  unfold Rw.v at h3
  obtain ⟨e1, e2⟩ := tl_at r0 hn hk
  obtain ⟨ws, f1, f2, f3, f4, f5⟩ := allTr_facts (k := k) hm (by omega)
  rw [← e1] at f1 f2 f3
  rw [f1] at h3 h4
  refine ⟨_, _, h3, h4, f2, ?_, by rw [← f4]; exact f5⟩
  unfold pruB
  rw [f2, f3, f4, if_pos]
  rw [f1]
  simp
theorem tl_less {m k : Nat} (_ : m < 5) (hk : k + 1 < (allTrees m).length) : lexLess ((wordsL m).getD k []) ((wordsL m).getD (k + 1) []) = true := by
  have hl : (allTrees m).length = (wordsL m).length := by simp [allTrees]
  rw [hl] at hk
  have h := List.pairwise_iff_getElem.1 (lex_pairwise (List.replicate m 0) (List.replicate m ((m : Int) + 1))) k (k + 1) (show k < (wordsL m).length by omega) hk (by omega)
  rw [List.getD_eq_getElem?_getD, List.getD_eq_getElem?_getD, List.getElem?_eq_getElem hk, List.getElem?_eq_getElem (show k < (wordsL m).length by omega)]
  exact h

set_option maxRecDepth 100000 in
set_option maxHeartbeats 16000000 in
theorem treesl_walk (a b : Option Addr) (n m cap cap' : Nat) (w : World) (hn : n ≤ maxLen) (h : n ≤ 1048576 → HasB w a n w.heap.size) (h' : m ≤ 1048576 → HasB w b m w.heap.size) :
    Calls Tryz.prog 3 #[.slice a n cap, .slice b m cap'] w (Holds w) := by
  have H1 := hid h
  have H2 := hid h'
  have HN := hid hn
  clear h h' hn
  have hB : Below w.heap.size w w := Below.refl _ _
  go_enter Tryz.func3, Tryz.ntmps3
  go_wp2_with fail
  refine (big_any _ _ _ _ _ _ _ (by have := HN.out; unfold maxLen at this; omega)).mono ?_
  rintro e _ ⟨r, rfl, hr, rfl⟩
  have HR := hid hr
  clear hr
  cases r with
  | true =>
    go_wp2_with fail
    go_ret
    exact ⟨rfl, hB⟩
  | false =>
    have hnm := HR.out rfl
    clear HR
    have HA := hid (H1.out (by omega))
    have HM := hid (H2.out (by omega))
    clear H1 H2 HN
    go_wp2_with fail
    refine (drawAllTrees_any _ _ _ _ HA.out).mono ?_
    rintro e v1 ⟨nn, rfl, n0, n1, st⟩
    replace hB := hB.trans (st.mono hB.size)
    clear st
    by_cases hN : inB nn 1 5 = true
    · skip
      obtain ⟨m0, rfl⟩ : ∃ m0 : Nat, nn = ((m0 + 1 : Nat) : Int) := ⟨(nn - 1).toNat, by have := (inB_iff.1 hN).1; omega⟩
      have hm5 : m0 < 5 := by have := (inB_iff.1 hN).2; omega
      have HAL : Hid (allTr ((m0 + 1 : Nat) : Int) = (allTrees m0, true)) := hid (by rw [allTr_yes hN]; simp)
      have HCT : Hid (countOf ((m0 + 1 : Nat) : Int) = ((cnt (m0 + 1) : Int), true)) := hid (by have h8 : inB ((m0 + 1 : Nat) : Int) 0 8 = true := inB_iff.2 ⟨by omega, by omega⟩; unfold countOf; rw [if_pos h8, Int.toNat_natCast])
      obtain ⟨nz, hnz⟩ : ∃ nz : Int, ((m0 + 1 : Nat) : Int) = nz := ⟨_, rfl⟩
      rw [hnz] at HAL HCT ⊢
      clear hN n0 n1
      go_wp2_with fail
      refine (implAllTrees_any _ _).mono ?_
      rw [HAL.out]
      rintro e v2 ⟨a_g, n_g, c_g, rs, rfl, R_g, hng, st⟩
      replace hB := hB.trans (st.mono hB.size)
      clear st
      go_wp2_with fail
      refine (specAllTrees_any _ _).mono ?_
      rw [HAL.out]
      rintro e v3 ⟨a_s, n_s, c_s, ss, rfl, R_s, hns, st⟩
      replace R_g := R_g.below st (Nat.le_refl _)
      replace hB := hB.trans (st.mono hB.size)
      clear st
      have HRS : Hid (sameR rs ss = true) := hid (sameR_self' (hng.trans hns.symm))
      have HNG := hid hng
      clear hng hns
      have hgl := R_g.len
      have hq : cnt (m0 + 1) = n_g := by rw [← tl_len hm5, ← HNG.out, numsOf_len R_g]
      rw [hq] at HCT
      obtain ⟨mg, hmg⟩ : ∃ mg, n_g = mg + 1 := ⟨n_g - 1, by have := (cnt_le (n := m0 + 1) (by omega)).1; omega⟩
      subst hmg
      have HGL := hid hgl
      have hgl2 : mg + 1 ≤ 2097152 := R_g.has.2.2.2.1
      have hne0 := neq_self_int ((mg : Int) + 1)
      clear hgl hq
      go_wp2_with fail
      refine (countTrees_any _ _).mono ?_
      rw [HCT.out]
      rintro e v4 ⟨rfl, st⟩
      replace R_g := R_g.below st (Nat.le_refl _)
      replace R_s := R_s.below st (Nat.le_refl _)
      replace hB := hB.trans (st.mono hB.size)
      clear st
      go_wp2_with fail
      refine (specCountTrees_any _ _).mono ?_
      rw [HCT.out]
      rintro e v5 ⟨rfl, st⟩
      replace R_g := R_g.below st (Nat.le_refl _)
      replace R_s := R_s.below st (Nat.le_refl _)
      replace hB := hB.trans (st.mono hB.size)
      clear st
      go_wp2_with fail
      refine (wRows_any _ _ _ _ _ _ _ _ _ R_g.has R_s.has).mono ?_
      rintro e v6 ⟨rfl, q⟩
      have st : Below v5.heap.size v5 v6 := q.below _
      replace R_g := R_g.below st (Nat.le_refl _)
      replace R_s := R_s.below st (Nat.le_refl _)
      replace hB := hB.trans (st.mono hB.size)
      clear st
      clear q
      rw [HRS.out]
      clear HRS R_s
      go_wp2_with fail
      refine (drawByInv_any b m cap' _ (HM.out.grow hB (Nat.le_refl _))).mono ?_
      rintro e v7 ⟨mm, rfl, q0, q1, st⟩
      replace R_g := R_g.below st (Nat.le_refl _)
      replace hB := hB.trans (st.mono hB.size)
      clear st
      by_cases hM : inB mm 0 5 = true
      · skip
        obtain ⟨j, rfl⟩ : ∃ j : Nat, mm = (j : Int) := ⟨mm.toNat, by have := (inB_iff.1 hM).1; omega⟩
        have hj5 : j ≤ 5 := by have := (inB_iff.1 hM).2; omega
        obtain ⟨f1, f2, f3, f4⟩ := inv_dist j (by omega)
        obtain ⟨ds, hds⟩ : ∃ ds, distCounts j = ds := ⟨_, rfl⟩
        rw [hds] at f1 f2 f3 f4
        have HBI : Hid (byInvOf (j : Int) = (ds, true)) := hid (by simp [byInvOf, hM, f1])
        have HDI : Hid (distOfN (j : Int) = (ds, true)) := hid (by simp [distOfN, hM, hds])
        have HCP : Hid (countOf (j : Int) = ((cnt j : Int), true)) := hid (by have : inB (j : Int) 0 8 = true := inB_iff.2 ⟨by omega, by omega⟩; simp [countOf, this])
        obtain ⟨c, hc⟩ : ∃ c, cnt j = c := ⟨_, rfl⟩
        rw [hc] at f2 HCP
        have HSM := hid f2
        have HDL := hid f4
        have HDB : Hid (∀ i, i < ds.length → 0 ≤ nth ds i ∧ nth ds i ≤ 5000) := hid (fun i hi => by have := List.all_eq_true.1 f3 _ (nth_mem hi); simp at this; omega)
        have hcc := neq_self_int (c : Int)
        clear f1 f2 f3 f4 hds hc hM q0 q1
        go_wp2_with fail
        refine (implByInv_any _ _).mono ?_
        rw [HBI.out]
        rintro e v8 ⟨a_t, n_t, c_t, rfl, o_t, st⟩
        replace R_g := R_g.below st (Nat.le_refl _)
        replace hB := hB.trans (st.mono hB.size)
        clear st
        go_wp2_with fail
        refine (specByInv_any _ _).mono ?_
        rw [HBI.out]
        rintro e v9 ⟨a_u, n_u, c_u, rfl, o_u, st⟩
        replace o_t := o_t.below st (Nat.le_refl _)
        replace R_g := R_g.below st (Nat.le_refl _)
        replace hB := hB.trans (st.mono hB.size)
        clear st
        go_wp2_with fail
        refine (countByDistance_any _ _).mono ?_
        rw [HDI.out]
        rintro e v10 ⟨a_d, n_d, c_d, rfl, o_d, st⟩
        replace o_t := o_t.below st (Nat.le_refl _)
        replace o_u := o_u.below st (Nat.le_refl _)
        replace R_g := R_g.below st (Nat.le_refl _)
        replace hB := hB.trans (st.mono hB.size)
        clear st
        go_wp2_with fail
        refine (wSame_any _ _ _ _ _ _ _ _ _ o_t.has o_u.has).mono ?_
        rintro e v11 ⟨rfl, q⟩
        have st : Below v10.heap.size v10 v11 := q.below _
        replace o_t := o_t.below st (Nat.le_refl _)
        replace o_u := o_u.below st (Nat.le_refl _)
        replace o_d := o_d.below st (Nat.le_refl _)
        replace R_g := R_g.below st (Nat.le_refl _)
        replace hB := hB.trans (st.mono hB.size)
        clear st
        clear q
        rw [same_self]
        clear o_u
        go_wp2_with fail
        refine (wSame_any _ _ _ _ _ _ _ _ _ o_t.has o_d.has).mono ?_
        rintro e v12 ⟨rfl, q⟩
        have st : Below v11.heap.size v11 v12 := q.below _
        replace o_t := o_t.below st (Nat.le_refl _)
        replace o_d := o_d.below st (Nat.le_refl _)
        replace R_g := R_g.below st (Nat.le_refl _)
        replace hB := hB.trans (st.mono hB.size)
        clear st
        clear q
        rw [same_self]
        clear o_d
        go_wp2_with fail
        refine (countParking_any _ _).mono ?_
        rw [HCP.out]
        rintro e v13 ⟨rfl, st⟩
        replace o_t := o_t.below st (Nat.le_refl _)
        replace R_g := R_g.below st (Nat.le_refl _)
        replace hB := hB.trans (st.mono hB.size)
        clear st
        go_wp2_with fail
        refine (countTrees_any _ _).mono ?_
        rw [HCP.out]
        rintro e v14 ⟨rfl, st⟩
        replace o_t := o_t.below st (Nat.le_refl _)
        replace R_g := R_g.below st (Nat.le_refl _)
        replace hB := hB.trans (st.mono hB.size)
        clear st
        go_wp2_with fail
        refine (wSumT_any _ _ _ _ _ o_t.has (by rw [← o_t.len]; have := HDL.out; omega) (fun i hi => HDB.out i (by rw [o_t.len]; exact hi))).mono ?_
        rw [HSM.out]
        rintro e _ ⟨rfl, rfl⟩
        clear o_t
        by_cases h4 : nz ≤ 4
        · skip
          obtain ⟨bg, offg, rfl, hbg, -⟩ := R_g.has.2.2.2.2.1 (by omega)
          go_wp2_with fail
          go_loopw [157] (fun i wr => ∃ j : Nat, j ≤ mg + 1 ∧ i = .int .i64 j ∧ Below v14.heap.size v14 wr) (fun i _ => mg + 1 - (intOf i).toNat)
          case atStart => exact ⟨0, by omega, rfl, Below.refl _ _⟩
          case round =>
            obtain ⟨wo, rfl⟩ : ∃ wo : World, wo = wr := ⟨_, rfl⟩
            obtain ⟨i, hj, rfl, st⟩ := hrel
            have hV := st
            replace R_g := R_g.below st (Nat.le_refl _)
            replace hB := hB.trans (st.mono hB.size)
            clear st
            by_cases hlt : i < mg + 1
            · skip
              obtain ⟨ak, ck, hck, H_k, f1, f2, f3⟩ := tl_row R_g.has hm5 HNG.out (k := i) (by omega)
              have HT := hid f1
              have HPR := hid f2
              have HWL := hid f3
              clear f1 f2 f3
              by_cases hj0 : i = 0
              · skip
                subst hj0
                rw [Nat.add_zero] at hck
                go_wp2_with fail
                refine (implPrufer_any _ _ _ _ _ H_k).mono ?_
                rw [HPR.out]
                rintro e v15 ⟨a_w, n_w, c_w, rfl, o_w, st⟩
                replace R_g := R_g.below st (Nat.le_refl _)
                replace H_k := H_k.below st (Nat.le_refl _)
                replace hB := hB.trans (st.mono hB.size)
                replace hV := hV.trans (st.mono hV.size)
                clear st
                clear hck
                go_wp2_with fail
                refine (isTree_any _ _ _ _ _ H_k).mono ?_
                rw [HT.out]
                rintro e v16 ⟨rfl, st⟩
                replace o_w := o_w.below st (Nat.le_refl _)
                replace R_g := R_g.below st (Nat.le_refl _)
                replace H_k := H_k.below st (Nat.le_refl _)
                replace hB := hB.trans (st.mono hB.size)
                replace hV := hV.trans (st.mono hV.size)
                clear st
                go_wp2_with fail
                go_roundw
                case rel => exact ⟨1, by omega, by go_num, hV⟩
                case measure => simp [intOf] <;> omega
              · skip
                obtain ⟨x, rfl⟩ : ∃ x, i = x + 1 := ⟨i - 1, by omega⟩
                go_wp2_with fail
                refine (implPrufer_any _ _ _ _ _ H_k).mono ?_
                rw [HPR.out]
                rintro e v15 ⟨a_w, n_w, c_w, rfl, o_w, st⟩
                replace R_g := R_g.below st (Nat.le_refl _)
                replace H_k := H_k.below st (Nat.le_refl _)
                replace hB := hB.trans (st.mono hB.size)
                replace hV := hV.trans (st.mono hV.size)
                clear st
                clear hck
                go_wp2_with fail
                refine (isTree_any _ _ _ _ _ H_k).mono ?_
                rw [HT.out]
                rintro e v16 ⟨rfl, st⟩
                replace o_w := o_w.below st (Nat.le_refl _)
                replace R_g := R_g.below st (Nat.le_refl _)
                replace H_k := H_k.below st (Nat.le_refl _)
                replace hB := hB.trans (st.mono hB.size)
                replace hV := hV.trans (st.mono hV.size)
                clear st
                obtain ⟨aj, cj, hcj, H_j, -, g2, g3⟩ := tl_row R_g.has hm5 HNG.out (k := x) (by omega)
                have HPB := hid g2
                have HWB := hid g3
                have HLS := hid (tl_less (m := m0) (k := x) hm5 (by rw [← HNG.out]; simp [numsOf, HGL.out]; omega))
                clear g2 g3
                go_wp2_with fail
                refine (implPrufer_any _ _ _ _ _ H_j).mono ?_
                rw [HPB.out]
                rintro e v17 ⟨a_b, n_b, c_b, rfl, o_b, st⟩
                replace o_w := o_w.below st (Nat.le_refl _)
                replace R_g := R_g.below st (Nat.le_refl _)
                replace H_k := H_k.below st (Nat.le_refl _)
                replace H_j := H_j.below st (Nat.le_refl _)
                replace hB := hB.trans (st.mono hB.size)
                replace hV := hV.trans (st.mono hV.size)
                clear st
                clear hcj
                obtain rfl : n_b = n_w := by rw [← o_b.len, ← o_w.len, HWL.out, HWB.out]
                go_wp2_with fail
                refine (wLess_any _ _ _ _ _ _ _ _ o_b.has o_w.has).mono ?_
                rintro e v18 ⟨rfl, q⟩
                have st : Below v17.heap.size v17 v18 := q.below _
                replace o_w := o_w.below st (Nat.le_refl _)
                replace o_b := o_b.below st (Nat.le_refl _)
                replace R_g := R_g.below st (Nat.le_refl _)
                replace H_k := H_k.below st (Nat.le_refl _)
                replace H_j := H_j.below st (Nat.le_refl _)
                replace hB := hB.trans (st.mono hB.size)
                replace hV := hV.trans (st.mono hV.size)
                clear st
                clear q
                rw [HLS.out]
                go_wp2_with fail
                go_roundw
                case rel => exact ⟨x + 2, by omega, by go_num, hV⟩
                case measure => simp [intOf] <;> omega
            · skip
              obtain rfl : i = mg + 1 := by omega
              go_wp2_with fail
              go_ret
              exact ⟨rfl, hB⟩
        · skip
          clear R_g
          go_wp2_with fail
          go_ret
          exact ⟨rfl, hB⟩
      · skip
        have HBI : Hid (byInvOf mm = ([], false)) := hid (by simp [byInvOf, hM])
        have HDI : Hid (distOfN mm = ([], false)) := hid (by simp [distOfN, hM])
        clear hM q0 q1
        go_wp2_with fail
        refine (implByInv_any _ _).mono ?_
        rw [HBI.out]
        rintro e v8 ⟨a_t, n_t, c_t, rfl, o_t, st⟩
        replace R_g := R_g.below st (Nat.le_refl _)
        replace hB := hB.trans (st.mono hB.size)
        clear st
        go_wp2_with fail
        refine (specByInv_any _ _).mono ?_
        rw [HBI.out]
        rintro e v9 ⟨a_u, n_u, c_u, rfl, o_u, st⟩
        replace o_t := o_t.below st (Nat.le_refl _)
        replace R_g := R_g.below st (Nat.le_refl _)
        replace hB := hB.trans (st.mono hB.size)
        clear st
        go_wp2_with fail
        refine (countByDistance_any _ _).mono ?_
        rw [HDI.out]
        rintro e v10 ⟨a_d, n_d, c_d, rfl, o_d, st⟩
        replace o_t := o_t.below st (Nat.le_refl _)
        replace o_u := o_u.below st (Nat.le_refl _)
        replace R_g := R_g.below st (Nat.le_refl _)
        replace hB := hB.trans (st.mono hB.size)
        clear st
        go_wp2_with fail
        refine (wSame_any _ _ _ _ _ _ _ _ _ o_t.has o_u.has).mono ?_
        rintro e v11 ⟨rfl, q⟩
        have st : Below v10.heap.size v10 v11 := q.below _
        replace o_t := o_t.below st (Nat.le_refl _)
        replace o_u := o_u.below st (Nat.le_refl _)
        replace o_d := o_d.below st (Nat.le_refl _)
        replace R_g := R_g.below st (Nat.le_refl _)
        replace hB := hB.trans (st.mono hB.size)
        clear st
        clear q
        rw [same_self]
        clear o_u
        go_wp2_with fail
        refine (wSame_any _ _ _ _ _ _ _ _ _ o_t.has o_d.has).mono ?_
        rintro e v12 ⟨rfl, q⟩
        have st : Below v11.heap.size v11 v12 := q.below _
        replace o_t := o_t.below st (Nat.le_refl _)
        replace o_d := o_d.below st (Nat.le_refl _)
        replace R_g := R_g.below st (Nat.le_refl _)
        replace hB := hB.trans (st.mono hB.size)
        clear st
        clear q
        rw [same_self]
        clear o_d
        clear o_t
        by_cases h4 : nz ≤ 4
        · skip
          obtain ⟨bg, offg, rfl, hbg, -⟩ := R_g.has.2.2.2.2.1 (by omega)
          go_wp2_with fail
          go_loopw [157] (fun i wr => ∃ j : Nat, j ≤ mg + 1 ∧ i = .int .i64 j ∧ Below v12.heap.size v12 wr) (fun i _ => mg + 1 - (intOf i).toNat)
          case atStart => exact ⟨0, by omega, rfl, Below.refl _ _⟩
          case round =>
            obtain ⟨wo, rfl⟩ : ∃ wo : World, wo = wr := ⟨_, rfl⟩
            obtain ⟨i, hj, rfl, st⟩ := hrel
            have hV := st
            replace R_g := R_g.below st (Nat.le_refl _)
            replace hB := hB.trans (st.mono hB.size)
            clear st
            by_cases hlt : i < mg + 1
            · skip
              obtain ⟨ak, ck, hck, H_k, f1, f2, f3⟩ := tl_row R_g.has hm5 HNG.out (k := i) (by omega)
              have HT := hid f1
              have HPR := hid f2
              have HWL := hid f3
              clear f1 f2 f3
              by_cases hj0 : i = 0
              · skip
                subst hj0
                rw [Nat.add_zero] at hck
                go_wp2_with fail
                refine (implPrufer_any _ _ _ _ _ H_k).mono ?_
                rw [HPR.out]
                rintro e v13 ⟨a_w, n_w, c_w, rfl, o_w, st⟩
                replace R_g := R_g.below st (Nat.le_refl _)
                replace H_k := H_k.below st (Nat.le_refl _)
                replace hB := hB.trans (st.mono hB.size)
                replace hV := hV.trans (st.mono hV.size)
                clear st
                clear hck
                go_wp2_with fail
                refine (isTree_any _ _ _ _ _ H_k).mono ?_
                rw [HT.out]
                rintro e v14 ⟨rfl, st⟩
                replace o_w := o_w.below st (Nat.le_refl _)
                replace R_g := R_g.below st (Nat.le_refl _)
                replace H_k := H_k.below st (Nat.le_refl _)
                replace hB := hB.trans (st.mono hB.size)
                replace hV := hV.trans (st.mono hV.size)
                clear st
                go_wp2_with fail
                go_roundw
                case rel => exact ⟨1, by omega, by go_num, hV⟩
                case measure => simp [intOf] <;> omega
              · skip
                obtain ⟨x, rfl⟩ : ∃ x, i = x + 1 := ⟨i - 1, by omega⟩
                go_wp2_with fail
                refine (implPrufer_any _ _ _ _ _ H_k).mono ?_
                rw [HPR.out]
                rintro e v13 ⟨a_w, n_w, c_w, rfl, o_w, st⟩
                replace R_g := R_g.below st (Nat.le_refl _)
                replace H_k := H_k.below st (Nat.le_refl _)
                replace hB := hB.trans (st.mono hB.size)
                replace hV := hV.trans (st.mono hV.size)
                clear st
                clear hck
                go_wp2_with fail
                refine (isTree_any _ _ _ _ _ H_k).mono ?_
                rw [HT.out]
                rintro e v14 ⟨rfl, st⟩
                replace o_w := o_w.below st (Nat.le_refl _)
                replace R_g := R_g.below st (Nat.le_refl _)
                replace H_k := H_k.below st (Nat.le_refl _)
                replace hB := hB.trans (st.mono hB.size)
                replace hV := hV.trans (st.mono hV.size)
                clear st
                obtain ⟨aj, cj, hcj, H_j, -, g2, g3⟩ := tl_row R_g.has hm5 HNG.out (k := x) (by omega)
                have HPB := hid g2
                have HWB := hid g3
                have HLS := hid (tl_less (m := m0) (k := x) hm5 (by rw [← HNG.out]; simp [numsOf, HGL.out]; omega))
                clear g2 g3
                go_wp2_with fail
                refine (implPrufer_any _ _ _ _ _ H_j).mono ?_
                rw [HPB.out]
                rintro e v15 ⟨a_b, n_b, c_b, rfl, o_b, st⟩
                replace o_w := o_w.below st (Nat.le_refl _)
                replace R_g := R_g.below st (Nat.le_refl _)
                replace H_k := H_k.below st (Nat.le_refl _)
                replace H_j := H_j.below st (Nat.le_refl _)
                replace hB := hB.trans (st.mono hB.size)
                replace hV := hV.trans (st.mono hV.size)
                clear st
                clear hcj
                obtain rfl : n_b = n_w := by rw [← o_b.len, ← o_w.len, HWL.out, HWB.out]
                go_wp2_with fail
                refine (wLess_any _ _ _ _ _ _ _ _ o_b.has o_w.has).mono ?_
                rintro e v16 ⟨rfl, q⟩
                have st : Below v15.heap.size v15 v16 := q.below _
                replace o_w := o_w.below st (Nat.le_refl _)
                replace o_b := o_b.below st (Nat.le_refl _)
                replace R_g := R_g.below st (Nat.le_refl _)
                replace H_k := H_k.below st (Nat.le_refl _)
                replace H_j := H_j.below st (Nat.le_refl _)
                replace hB := hB.trans (st.mono hB.size)
                replace hV := hV.trans (st.mono hV.size)
                clear st
                clear q
                rw [HLS.out]
                go_wp2_with fail
                go_roundw
                case rel => exact ⟨x + 2, by omega, by go_num, hV⟩
                case measure => simp [intOf] <;> omega
            · skip
              obtain rfl : i = mg + 1 := by omega
              go_wp2_with fail
              go_ret
              exact ⟨rfl, hB⟩
        · skip
          clear R_g
          go_wp2_with fail
          go_ret
          exact ⟨rfl, hB⟩
    · skip
      have HAL : Hid (allTr nn = ([], false)) := hid (allTr_no hN)
      obtain ⟨⟨cx, cb⟩, hcx⟩ : ∃ r, countOf nn = r := ⟨_, rfl⟩
      have HCT := hid hcx
      have hx1 := neq_self_int cx
      have hx2 : (cb != cb) = false := by simp
      clear hcx hN
      go_wp2_with fail
      refine (implAllTrees_any _ _).mono ?_
      rw [HAL.out]
      rintro e v2 ⟨a_g, n_g, c_g, rs, rfl, R_g, hng, st⟩
      replace hB := hB.trans (st.mono hB.size)
      clear st
      go_wp2_with fail
      refine (specAllTrees_any _ _).mono ?_
      rw [HAL.out]
      rintro e v3 ⟨a_s, n_s, c_s, ss, rfl, R_s, hns, st⟩
      replace R_g := R_g.below st (Nat.le_refl _)
      replace hB := hB.trans (st.mono hB.size)
      clear st
      have HRS : Hid (sameR rs ss = true) := hid (sameR_self' (hng.trans hns.symm))
      have HNG := hid hng
      clear hng hns
      go_wp2_with fail
      refine (countTrees_any _ _).mono ?_
      rw [HCT.out]
      rintro e v4 ⟨rfl, st⟩
      replace R_g := R_g.below st (Nat.le_refl _)
      replace R_s := R_s.below st (Nat.le_refl _)
      replace hB := hB.trans (st.mono hB.size)
      clear st
      go_wp2_with fail
      refine (specCountTrees_any _ _).mono ?_
      rw [HCT.out]
      rintro e v5 ⟨rfl, st⟩
      replace R_g := R_g.below st (Nat.le_refl _)
      replace R_s := R_s.below st (Nat.le_refl _)
      replace hB := hB.trans (st.mono hB.size)
      clear st
      go_wp2_with fail
      refine (wRows_any _ _ _ _ _ _ _ _ _ R_g.has R_s.has).mono ?_
      rintro e v6 ⟨rfl, q⟩
      have st : Below v5.heap.size v5 v6 := q.below _
      replace R_g := R_g.below st (Nat.le_refl _)
      replace R_s := R_s.below st (Nat.le_refl _)
      replace hB := hB.trans (st.mono hB.size)
      clear st
      clear q
      rw [HRS.out]
      clear HRS R_s
      clear R_g
      go_wp2_with fail
      refine (drawByInv_any b m cap' _ (HM.out.grow hB (Nat.le_refl _))).mono ?_
      rintro e v7 ⟨mm, rfl, q0, q1, st⟩
      replace hB := hB.trans (st.mono hB.size)
      clear st
      by_cases hM : inB mm 0 5 = true
      · skip
        obtain ⟨j, rfl⟩ : ∃ j : Nat, mm = (j : Int) := ⟨mm.toNat, by have := (inB_iff.1 hM).1; omega⟩
        have hj5 : j ≤ 5 := by have := (inB_iff.1 hM).2; omega
        obtain ⟨f1, f2, f3, f4⟩ := inv_dist j (by omega)
        obtain ⟨ds, hds⟩ : ∃ ds, distCounts j = ds := ⟨_, rfl⟩
        rw [hds] at f1 f2 f3 f4
        have HBI : Hid (byInvOf (j : Int) = (ds, true)) := hid (by simp [byInvOf, hM, f1])
        have HDI : Hid (distOfN (j : Int) = (ds, true)) := hid (by simp [distOfN, hM, hds])
        have HCP : Hid (countOf (j : Int) = ((cnt j : Int), true)) := hid (by have : inB (j : Int) 0 8 = true := inB_iff.2 ⟨by omega, by omega⟩; simp [countOf, this])
        obtain ⟨c, hc⟩ : ∃ c, cnt j = c := ⟨_, rfl⟩
        rw [hc] at f2 HCP
        have HSM := hid f2
        have HDL := hid f4
        have HDB : Hid (∀ i, i < ds.length → 0 ≤ nth ds i ∧ nth ds i ≤ 5000) := hid (fun i hi => by have := List.all_eq_true.1 f3 _ (nth_mem hi); simp at this; omega)
        have hcc := neq_self_int (c : Int)
        clear f1 f2 f3 f4 hds hc hM q0 q1
        go_wp2_with fail
        refine (implByInv_any _ _).mono ?_
        rw [HBI.out]
        rintro e v8 ⟨a_t, n_t, c_t, rfl, o_t, st⟩
        replace hB := hB.trans (st.mono hB.size)
        clear st
        go_wp2_with fail
        refine (specByInv_any _ _).mono ?_
        rw [HBI.out]
        rintro e v9 ⟨a_u, n_u, c_u, rfl, o_u, st⟩
        replace o_t := o_t.below st (Nat.le_refl _)
        replace hB := hB.trans (st.mono hB.size)
        clear st
        go_wp2_with fail
        refine (countByDistance_any _ _).mono ?_
        rw [HDI.out]
        rintro e v10 ⟨a_d, n_d, c_d, rfl, o_d, st⟩
        replace o_t := o_t.below st (Nat.le_refl _)
        replace o_u := o_u.below st (Nat.le_refl _)
        replace hB := hB.trans (st.mono hB.size)
        clear st
        go_wp2_with fail
        refine (wSame_any _ _ _ _ _ _ _ _ _ o_t.has o_u.has).mono ?_
        rintro e v11 ⟨rfl, q⟩
        have st : Below v10.heap.size v10 v11 := q.below _
        replace o_t := o_t.below st (Nat.le_refl _)
        replace o_u := o_u.below st (Nat.le_refl _)
        replace o_d := o_d.below st (Nat.le_refl _)
        replace hB := hB.trans (st.mono hB.size)
        clear st
        clear q
        rw [same_self]
        clear o_u
        go_wp2_with fail
        refine (wSame_any _ _ _ _ _ _ _ _ _ o_t.has o_d.has).mono ?_
        rintro e v12 ⟨rfl, q⟩
        have st : Below v11.heap.size v11 v12 := q.below _
        replace o_t := o_t.below st (Nat.le_refl _)
        replace o_d := o_d.below st (Nat.le_refl _)
        replace hB := hB.trans (st.mono hB.size)
        clear st
        clear q
        rw [same_self]
        clear o_d
        go_wp2_with fail
        refine (countParking_any _ _).mono ?_
        rw [HCP.out]
        rintro e v13 ⟨rfl, st⟩
        replace o_t := o_t.below st (Nat.le_refl _)
        replace hB := hB.trans (st.mono hB.size)
        clear st
        go_wp2_with fail
        refine (countTrees_any _ _).mono ?_
        rw [HCP.out]
        rintro e v14 ⟨rfl, st⟩
        replace o_t := o_t.below st (Nat.le_refl _)
        replace hB := hB.trans (st.mono hB.size)
        clear st
        go_wp2_with fail
        refine (wSumT_any _ _ _ _ _ o_t.has (by rw [← o_t.len]; have := HDL.out; omega) (fun i hi => HDB.out i (by rw [o_t.len]; exact hi))).mono ?_
        rw [HSM.out]
        rintro e _ ⟨rfl, rfl⟩
        clear o_t
        go_wp2_with fail
        go_ret
        exact ⟨rfl, hB⟩
      · skip
        have HBI : Hid (byInvOf mm = ([], false)) := hid (by simp [byInvOf, hM])
        have HDI : Hid (distOfN mm = ([], false)) := hid (by simp [distOfN, hM])
        clear hM q0 q1
        go_wp2_with fail
        refine (implByInv_any _ _).mono ?_
        rw [HBI.out]
        rintro e v8 ⟨a_t, n_t, c_t, rfl, o_t, st⟩
        replace hB := hB.trans (st.mono hB.size)
        clear st
        go_wp2_with fail
        refine (specByInv_any _ _).mono ?_
        rw [HBI.out]
        rintro e v9 ⟨a_u, n_u, c_u, rfl, o_u, st⟩
        replace o_t := o_t.below st (Nat.le_refl _)
        replace hB := hB.trans (st.mono hB.size)
        clear st
        go_wp2_with fail
        refine (countByDistance_any _ _).mono ?_
        rw [HDI.out]
        rintro e v10 ⟨a_d, n_d, c_d, rfl, o_d, st⟩
        replace o_t := o_t.below st (Nat.le_refl _)
        replace o_u := o_u.below st (Nat.le_refl _)
        replace hB := hB.trans (st.mono hB.size)
        clear st
        go_wp2_with fail
        refine (wSame_any _ _ _ _ _ _ _ _ _ o_t.has o_u.has).mono ?_
        rintro e v11 ⟨rfl, q⟩
        have st : Below v10.heap.size v10 v11 := q.below _
        replace o_t := o_t.below st (Nat.le_refl _)
        replace o_u := o_u.below st (Nat.le_refl _)
        replace o_d := o_d.below st (Nat.le_refl _)
        replace hB := hB.trans (st.mono hB.size)
        clear st
        clear q
        rw [same_self]
        clear o_u
        go_wp2_with fail
        refine (wSame_any _ _ _ _ _ _ _ _ _ o_t.has o_d.has).mono ?_
        rintro e v12 ⟨rfl, q⟩
        have st : Below v11.heap.size v11 v12 := q.below _
        replace o_t := o_t.below st (Nat.le_refl _)
        replace o_d := o_d.below st (Nat.le_refl _)
        replace hB := hB.trans (st.mono hB.size)
        clear st
        clear q
        rw [same_self]
        clear o_d
        clear o_t
        go_wp2_with fail
        go_ret
        exact ⟨rfl, hB⟩
end Go.Proofs.YtfjeadnakbdkjaaGreat

