/- The law of prime parts, walked. -/
import Derived.Test.YtehdccfkkfkciaaLawKit
import Derived.Test.YtehdccfkkfkciaaSpecS
import Derived.Deep.LoopGhost
import Derived.Test.YtehdccfkkfkciaaSpecN
import Derived.Test.YtehdccfkkfkciaaMathN
import Derived.Test.YtehdccfkkfkciaaMathVq
import Derived.Test.YtehdccfkkfkciaaMathT
import Derived.Test.YtehdccfkkfkciaaMathX
import Derived.Test.YtehdccfkkfkciaaSpecC
import Derived.Test.YtehdccfkkfkciaaSpecO
import Derived.Test.YtehdccfkkfkciaaMath1
import Derived.Test.YtehdccfkkfkciaaPro
import Derived.Test.YtehdccfkkfkciaaShelf
import Derived.Sort.OwnSortedInts
import Derived.Test.YtehdccfkkfkciaaMathSm
import Derived.Test.YtehdccfkkfkciaaBase
import Derived.Laws.CopyOwn
import Derived.BigQuiet
import Derived.Test.YtehdccfkkfkciaaImplC
import Derived.Test.YtehdccfkkfkciaaSpecD
import Derived.Test.YtehdccfkkfkciaaMathVa
import Derived.Test.YtehdccfkkfkciaaMathVp
import Derived.Test.YtehdccfkkfkciaaSpecAll
import Derived.Test.YtehdccfkkfkciaaRowA
import Derived.Test.YtehdccfkkfkciaaMathSn
import Derived.Test.YtehdccfkkfkciaaMathW
import Derived.IntWalk
import Derived.Test.YtehdccfkkfkciaaHelp2
import Derived.Test.YtehdccfkkfkciaaMathQ
import Derived.Test.YtehdccfkkfkciaaImplPp
namespace Go.Proofs.Ytehdccfkkfkciaa
open Go.RowKit

/-- A slice of bytes below block K. -/
def HasB (w : World) (a : Option Addr) (n : Nat) (K : Nat) : Prop :=
  n ≤ 1099511627776 ∧ (0 < n → ∃ b off, a = some ⟨b, off, none⟩ ∧ b < K ∧ ∀ i, i < n → ∃ u : Int, 0 ≤ u ∧ u ≤ 255 ∧ w.cell? ⟨b, off + i, none⟩ = some (.int .u8 u))

/-- The cursor in block g, that has drawn t numbers. -/
structure Cur (w : World) (g t : Nat) : Prop where
  code : ∃ a n cap, w.cell? ⟨g, 0, none⟩ = some (.slice a n cap) ∧ HasB w a n g
  pos : w.cell? ⟨g, 1, none⟩ = some (.int .i64 t)
  seed : ∃ s : Int, 0 ≤ s ∧ s ≤ 18446744073709551615 ∧ w.cell? ⟨g, 2, none⟩ = some (.int .u64 s)
  free : ∀ i, w.frozen? ⟨g, i, none⟩ = false
  lt : g < w.heap.size

theorem Cur.below {w w' : World} {g t K : Nat} (h : Cur w g t) (hb : Below K w w') (hK : g < K) : Cur w' g t := by
  obtain ⟨⟨a, n, cap, h1, h2, h3⟩, h4, ⟨s, h5, h6, h7⟩, h8, h9⟩ := h
  refine ⟨⟨a, n, cap, by rw [hb.cell (p := ⟨g, 0, none⟩) hK]; exact h1, h2, fun hn => ?_⟩, by rw [hb.cell (p := ⟨g, 1, none⟩) hK]; exact h4, ⟨s, h5, h6, by rw [hb.cell (p := ⟨g, 2, none⟩) hK]; exact h7⟩, fun i => by rw [hb.frozen (p := ⟨g, i, none⟩) hK]; exact h8 i, Nat.lt_of_lt_of_le h9 hb.size⟩
  obtain ⟨b, off, ha, hbk, hc⟩ := h3 hn
  refine ⟨b, off, ha, hbk, fun i hi => ?_⟩
  obtain ⟨u, u0, u1, hu⟩ := hc i hi
  exact ⟨u, u0, u1, by rw [hb.cell (p := ⟨b, off + i, none⟩) (by simp; omega)]; exact hu⟩

theorem cell_other' {w : World} {b c i j : Nat} {v : Value} (h : b ≠ c ∨ i ≠ j) : (w.setCell ⟨b, i, none⟩ v).cell? ⟨c, j, none⟩ = w.cell? ⟨c, j, none⟩ :=
  World.cell?_setCell_other _ _ _ _ (by
    intro hh
    injection hh with h1 h2 _
    rcases h with h | h
    · exact h h1
    · exact h h2)

theorem cur_after {w : World} {g t k1 k2 : Nat} {s' : Int} (h : Cur w g t) (h0 : 0 ≤ s') (h1 : s' ≤ 18446744073709551615) :
    Cur ((((w.drewN k1).setCell ⟨g, 1, none⟩ (.int .i64 ((t : Int) + 1))).setCell ⟨g, 2, none⟩ (.int .u64 s')).drewN k2) g (t + 1) ∧
      w.grownBy ((((w.drewN k1).setCell ⟨g, 1, none⟩ (.int .i64 ((t : Int) + 1))).setCell ⟨g, 2, none⟩ (.int .u64 s')).drewN k2) (some g) := by
  obtain ⟨⟨a, n, cap, c0, hn, hb⟩, c1, ⟨s, _, _, c2⟩, hf, hlt⟩ := h
  have e : ∀ p, ((((w.drewN k1).setCell ⟨g, 1, none⟩ (.int .i64 ((t : Int) + 1))).setCell ⟨g, 2, none⟩ (.int .u64 s')).drewN k2).cell? p = (((w.setCell ⟨g, 1, none⟩ (.int .i64 ((t : Int) + 1))).setCell ⟨g, 2, none⟩ (.int .u64 s'))).cell? p := fun _ => rfl
  refine ⟨⟨⟨a, n, cap, ?_, hn, fun hp => ?_⟩, ?_, ⟨s', h0, h1, ?_⟩, fun i => ?_, ?_⟩, ⟨rfl, rfl, rfl, by simp, fun k _ hk => ?_⟩⟩
  · rw [e, cell_other' (.inr (by omega)), cell_other' (.inr (by omega))]; exact c0
  · obtain ⟨b, off, ha, hbg, hc⟩ := hb hp
    refine ⟨b, off, ha, hbg, fun i hi => ?_⟩
    obtain ⟨u, u0, u1, hu⟩ := hc i hi
    exact ⟨u, u0, u1, by rw [e, cell_other' (.inl (by omega)), cell_other' (.inl (by omega))]; exact hu⟩
  · rw [e, cell_other' (.inr (by omega)), World.cell?_setCell_same _ _ _ c1]; rfl
  · rw [e, World.cell?_setCell_same (u := .int .u64 s)]
    rw [cell_other' (.inr (by omega))]; exact c2
  · show ((w.setCell ⟨g, 1, none⟩ (.int .i64 ((t : Int) + 1))).setCell ⟨g, 2, none⟩ (.int .u64 s')).frozen? ⟨g, i, none⟩ = false
    rw [World.frozen?_setCell, World.frozen?_setCell]; exact hf i
  · simpa using hlt
  · show ((w.setCell ⟨g, 1, none⟩ (.int .i64 ((t : Int) + 1))).setCell ⟨g, 2, none⟩ (.int .u64 s')).heap[k]? = _
    have hkg : k ≠ g := fun e => hk (by rw [e])
    rw [heap_setCell_other _ _ _ _ hkg, heap_setCell_other _ _ _ _ hkg]

theorem and255 {x : Int} (h0 : 0 ≤ x) (h1 : x < 18446744073709551616) : 0 ≤ wrap64 (bits .and .u64 x 255) ∧ wrap64 (bits .and .u64 x 255) ≤ 255 := by
  have e := u64_and x 255 h0 h1 (by omega) (by omega)
  have hle : (x.toNat &&& (255 : Int).toNat : Nat) ≤ 255 := Nat.and_le_right
  rw [e, IntWalk.wrap64_in _ ⟨by omega, by omega⟩]
  omega

/-- A number of the cursor, and the cursor behind it. -/
def Drew (w : World) (g t : Nat) (hi : Int) (e : Ending) (w' : World) : Prop := ∃ v : Int, e = .returned (.int .i64 v) ∧ 0 ≤ v ∧ v ≤ hi ∧ Cur w' g t ∧ w.grownBy w' (some g)

set_option maxHeartbeats 2000000 in
theorem next_cur (g t : Nat) (w : World) (h : Cur w g t) (ht : t ≤ 1000000) :
    Calls Try.prog 86 #[.pointer (some ⟨g, 0, none⟩)] w (Drew w g (t + 1) 255) := by
  have HC := hid h
  obtain ⟨⟨a, n, cap, h1, h2, h3⟩, h4, ⟨s, h5, h6, h7⟩, h8, h9⟩ := h
  have f1 := h8 1
  have f2 := h8 2
  by_cases hlt : t < n
  · obtain ⟨b, off, rfl, hbk, hc⟩ := h3 (by omega)
    obtain ⟨u, u0, u1, hu⟩ := hc t hlt
    have hti : (t : Int) < (n : Int) := by omega
    have htz : (0 : Int) ≤ (t : Int) := by omega
    have htd : decide ((t : Int) < (n : Int)) = true := by simpa using hti
    clear hc h3
    go_enter Try.func86, Try.ntmps86
    go_wp2_with fail
    go_quiet (fail)
    go_wp2_with fail
    go_quiet (fail)
    go_wp2_with fail
    have hle : (t : Int) + 1 ≤ (n : Int) := by omega
    have hld : decide ((t : Int) + 1 ≤ (n : Int)) = true := by simpa using hle
    generalize hs' : IntKind.u64.wrap (IntKind.u64.wrap (IntKind.u64.wrap (s * 6364136223846793005) + u) + 1442695040888963407) = s'
    have HS := hid hs'
    clear hs'
    go_quiet (fail)
    go_wp2_with fail
    go_ret
    have hs := HS.out
    have hs0 : 0 ≤ s' := by rw [← hs, IntKind.wrap_u64]; omega
    have hs1 : s' ≤ 18446744073709551615 := by rw [← hs, IntKind.wrap_u64]; omega
    obtain ⟨r1, r2⟩ := cur_after HC.out hs0 hs1
    exact ⟨u, rfl, u0, u1, r1, r2⟩
  · have hti : ¬ (t : Int) < (n : Int) := by omega
    have htd : decide ((t : Int) < (n : Int)) = false := by simp; omega
    have hle : ¬ (t : Int) + 1 ≤ (n : Int) := by omega
    have hld : decide ((t : Int) + 1 ≤ (n : Int)) = false := by simp; omega
    clear h3
    go_enter Try.func86, Try.ntmps86
    go_wp2_with fail
    go_quiet (fail)
    go_wp2_with fail
    generalize hs' : IntKind.u64.wrap (IntKind.u64.wrap (IntKind.u64.wrap (s * 6364136223846793005)) + 1442695040888963407) = s'
    have hs0 : 0 ≤ s' := by rw [← hs', IntKind.wrap_u64]; omega
    have hs1 : s' ≤ 18446744073709551615 := by rw [← hs', IntKind.wrap_u64]; omega
    clear hs'
    have HS0 := hid hs0
    have HS1 := hid hs1
    clear hs0 hs1
    go_quiet (fail)
    go_wp2_with fail
    go_ret
    obtain ⟨r1, r2⟩ := cur_after HC.out HS0.out HS1.out
    obtain ⟨b0, b1⟩ := and255 (x := s' / 1099511627776) (by have := HS0.out; omega) (by have := HS1.out; omega)
    exact ⟨_, rfl, b0, b1, r1, r2⟩

set_option maxHeartbeats 800000 in
theorem pick_cur (g t : Nat) (n : Int) (w : World) (h : Cur w g t) (ht : t ≤ 100000) (hn : n ≤ 65000) :
    Calls Try.prog 81 #[.pointer (some ⟨g, 0, none⟩), .int .i64 n] w fun e w' => ∃ v : Int, e = .returned (.int .i64 v) ∧ 0 ≤ v ∧ (v < n ∨ n ≤ 1 ∧ v = 0) ∧ (∃ t', t ≤ t' ∧ t' ≤ t + 2 ∧ Cur w' g t') ∧ w.grownBy w' (some g) := by
  by_cases h1 : n ≤ 1
  · go_enter Try.func81, Try.ntmps81
    go_wp2_with fail
    go_ret
    exact ⟨0, rfl, Int.le_refl _, .inr ⟨h1, rfl⟩, ⟨t, Nat.le_refl _, by omega, h⟩, World.grownBy.refl _ _⟩
  · have h2 : 1 < n := by omega
    by_cases h3 : 200 < n
    · go_enter Try.func81, Try.ntmps81
      go_wp2_with fail
      refine (next_cur g t _ h (by omega)).mono ?_
      rintro e w1 ⟨v, rfl, v0, v1, hc1, hg1⟩
      go_wp2_with fail
      refine (next_cur g (t + 1) _ hc1 (by omega)).mono ?_
      rintro e w2 ⟨u, rfl, u0, u1, hc2, hg2⟩
      have hm0 : 0 ≤ (v * 256 + u) % n := Int.emod_nonneg _ (by omega)
      have hm1 : (v * 256 + u) % n < n := Int.emod_lt_of_pos _ (by omega)
      go_wp2_with fail
      go_ret
      exact ⟨_, rfl, hm0, .inl hm1, ⟨t + 2, by omega, by omega, hc2⟩, ⟨hg2.os.trans hg1.os, hg2.tape.trans hg1.tape, hg2.output.trans hg1.output, Nat.le_trans hg1.size hg2.size, fun j hj hne => (hg2.block j (Nat.lt_of_lt_of_le hj hg1.size) hne).trans (hg1.block j hj hne)⟩⟩
    · go_enter Try.func81, Try.ntmps81
      go_wp2_with fail
      refine (next_cur g t _ h (by omega)).mono ?_
      rintro e w1 ⟨v, rfl, v0, v1, hc1, hg1⟩
      have hm0 : 0 ≤ v % n := Int.emod_nonneg _ (by omega)
      have hm1 : v % n < n := Int.emod_lt_of_pos _ (by omega)
      go_wp2_with fail
      go_ret
      exact ⟨_, rfl, hm0, .inl hm1, ⟨t + 1, by omega, by omega, hc1⟩, hg1⟩

set_option maxHeartbeats 800000 in
theorem one_cur (g t : Nat) (n : Int) (w : World) (h : Cur w g t) (ht : t ≤ 100000) (hn : n ≤ 65000) :
    Calls Try.prog 83 #[.pointer (some ⟨g, 0, none⟩), .int .i64 n] w fun e w' => ∃ b : Bool, e = .returned (.bool b) ∧ (∃ t', t ≤ t' ∧ t' ≤ t + 2 ∧ Cur w' g t') ∧ w.grownBy w' (some g) := by
  go_enter Try.func83, Try.ntmps83
  go_wp2_with fail
  refine (pick_cur g t n _ h ht hn).mono ?_
  rintro e w1 ⟨v, rfl, v0, v1, hc1, hg1⟩
  go_wp2_with fail
  go_ret
  exact ⟨_, rfl, hc1, hg1⟩

set_option maxHeartbeats 800000 in
theorem among_cur (g t : Nat) (a : Option Addr) (n cap : Nat) (xs : List Int) (w : World) (h : Cur w g t) (ht : t ≤ 100000) (hh : Has w a n cap xs) (hn : 0 < n) (hn2 : n ≤ 60000) (hne : ∀ p, a = some p → p.block ≠ g) :
    Calls Try.prog 74 #[.pointer (some ⟨g, 0, none⟩), .slice a n cap] w fun e w' => ∃ v : Int, e = .returned (.int .i64 v) ∧ v ∈ xs ∧ (∃ t', t ≤ t' ∧ t' ≤ t + 2 ∧ Cur w' g t') ∧ w.grownBy w' (some g) := by
  have HL := hid hh.len
  obtain ⟨b, off, rfl, hbb, hc⟩ := hh.2.2.2.2 hn
  have hbg := hne _ rfl
  clear hne
  go_enter Try.func74, Try.ntmps74
  go_wp2_with fail
  refine (pick_cur g t n _ h ht (by omega)).mono ?_
  rintro e w1 ⟨v, rfl, v0, v1, hc1, hg1⟩
  obtain ⟨k, rfl⟩ : ∃ k : Nat, v = (k : Int) := ⟨_, (Int.toNat_of_nonneg v0).symm⟩
  have hk : k < n := by omega
  have hck : w1.cell? ⟨b, off + k, none⟩ = some (.int .i64 (nth xs k)) := hg1.cell (hc k hk) (by simpa using hbg)
  clear hc v1
  go_wp2_with fail
  go_ret
  exact ⟨_, rfl, nth_mem (by rw [HL.out]; exact hk), hc1, hg1⟩
end Go.Proofs.Ytehdccfkkfkciaa

namespace Go.Proofs.Ytehdccfkkfkciaa
open Go.RowKit

theorem HasB.below {w w' : World} {a : Option Addr} {n K : Nat} (h : HasB w a n K) (hb : Below K w w') : HasB w' a n K := by
  refine ⟨h.1, fun hx => ?_⟩
  obtain ⟨b, off, ha, hbk, hc⟩ := h.2 hx
  refine ⟨b, off, ha, hbk, fun i hi => ?_⟩
  obtain ⟨u, u0, u1, hu⟩ := hc i hi
  exact ⟨u, u0, u1, by rw [hb.cell (p := ⟨b, off + i, none⟩) hbk]; exact hu⟩

/-- An argument's slice of bytes. -/
theorem hasB_of_row {w : World} {a : Option Addr} {len cap : Nat} {zs : List Int}
    (h : (a = none ∧ len = 0 ∧ cap = 0 ∧ zs = []) ∨ ∃ x, a = some x ∧ len ≤ cap ∧ cap ≤ maxLen ∧ zs.length = cap ∧ (∀ i, i < zs.length → w.cell? (x.add i) = some (.int .u8 (zs.getD i 0))) ∧ ∀ n ∈ zs, (Lit.int .u8 n).wf = true) :
    len ≤ maxLen ∧ (len ≤ 1048576 → HasB w a len w.heap.size) := by
  rcases h with ⟨rfl, rfl, rfl, rfl⟩ | ⟨x, rfl, h1, h2, h3, h4, h5⟩
  · exact ⟨by unfold maxLen; omega, fun _ => ⟨by omega, by omega⟩⟩
  · refine ⟨by omega, fun hl => ⟨by omega, fun hx => ?_⟩⟩
    obtain ⟨b, off, spot⟩ := x
    have hc := h4 0 (by omega)
    have hspot : spot = none := by simpa [Addr.add] using World.cell?_spot hc
    subst hspot
    refine ⟨b, off, rfl, by have := World.block_lt_of_cell? w _ hc; simpa [Addr.add] using this, fun i hi => ?_⟩
    have := h4 i (by omega)
    have e : (⟨b, off, none⟩ : Addr).add i = ⟨b, off + i, none⟩ := by unfold Addr.add; split <;> simp_all
    rw [e] at this
    have hm : zs.getD i 0 ∈ zs := by simp [show i < zs.length by omega]
    have hw := h5 _ hm
    generalize zs.getD i 0 = u at *
    have hw' : (0 : Int) ≤ u ∧ u ≤ 255 := by simpa [Lit.wf, IntKind.min, IntKind.max, IntKind.signed, IntKind.bits] using hw
    exact ⟨u, hw'.1, hw'.2, this⟩

/-- The law's answer. -/
def Holds (w : World) (e : Ending) (w' : World) : Prop := e = .returned (.bool true) ∧ Below w.heap.size w w'
end Go.Proofs.Ytehdccfkkfkciaa

namespace Go.Proofs.Ytehdccfkkfkciaa
open Go.RowKit

/-- The cursor stands, and below its block all is as it was. -/
structure At (w0 w : World) (g t : Nat) : Prop where
  cur : Cur w g t
  below : Below g w0 w

theorem At.pick {w0 w w' : World} {g t t' : Nat} (h : At w0 w g t) (hc : Cur w' g t') (hg : w.grownBy w' (some g)) : At w0 w' g t' :=
  ⟨hc, h.below.trans (below_grown hg (Nat.le_of_lt h.cur.lt) (by intro k hk; cases hk; exact Nat.le_refl _))⟩
theorem At.later {w0 w w' : World} {g t K : Nat} (h : At w0 w g t) (hb : Below K w w') (hK : g < K) : At w0 w' g t :=
  ⟨h.cur.below hb hK, h.below.trans (hb.mono (Nat.le_of_lt hK))⟩
theorem At.size {w0 w : World} {g t : Nat} (h : At w0 w g t) : w0.heap.size ≤ w.heap.size := h.below.size

theorem has_lit (w : World) (xs : List Int) (hx : xs.length ≤ 100) : Has (w.alloc (.cells (xs.map (Value.int .i64)).toArray 3)) (some ⟨w.heap.size, 0, none⟩) xs.length xs.length xs := by
  have := World.ownsRow_lit (base := w.heap.size) (e := 3) (size := 1) w (xs.map (Value.int .i64)).toArray xs.length (Nat.le_refl _) (by unfold maxLen; omega) (by simp)
  exact Own.has (B := w.heap.size) ⟨by simpa using this, rfl, by omega⟩
theorem has_lit3 (w : World) (a b c : Int) : Has (w.alloc (.cells #[.int .i64 a, .int .i64 b, .int .i64 c] 3)) (some ⟨w.heap.size, 0, none⟩) 3 3 [a, b, c] := has_lit w [a, b, c] (by simp)
theorem has_lit4 (w : World) (a b c d : Int) : Has (w.alloc (.cells #[.int .i64 a, .int .i64 b, .int .i64 c, .int .i64 d] 3)) (some ⟨w.heap.size, 0, none⟩) 4 4 [a, b, c, d] := has_lit w [a, b, c, d] (by simp)
theorem has_lit6 (w : World) (a b c d e f : Int) : Has (w.alloc (.cells #[.int .i64 a, .int .i64 b, .int .i64 c, .int .i64 d, .int .i64 e, .int .i64 f] 3)) (some ⟨w.heap.size, 0, none⟩) 6 6 [a, b, c, d, e, f] := has_lit w [a, b, c, d, e, f] (by simp)
theorem alloc_below (w : World) (o : Obj) : Below w.heap.size w (w.alloc o) := (Below.refl _ _).alloc (Nat.le_refl _) _
theorem lit_ne {w : World} {g t : Nat} (h : Cur w g t) : ∀ p, (some ⟨w.heap.size, 0, none⟩ : Option Addr) = some p → p.block ≠ g := by
  intro p hp
  cases hp
  have := h.lt
  simp
  omega

/-- Favourites and a number of places, whatever they are. -/
def DrewFav (w : World) (g : Nat) (e : Ending) (w' : World) : Prop :=
  ∃ a n cap xs p, e = .returned (.tuple #[.slice a n cap, .int .i64 p]) ∧ Own w' w.heap.size a n cap xs ∧ n ≤ 10 ∧ -1 ≤ p ∧ p ≤ 13 ∧ Below g w w'

/-- The same, and the cursor stands. -/
def DrewFavC (w : World) (g : Nat) (e : Ending) (w' : World) : Prop :=
  ∃ a n cap xs p, e = .returned (.tuple #[.slice a n cap, .int .i64 p]) ∧ Own w' w.heap.size a n cap xs ∧ n ≤ 10 ∧ -1 ≤ p ∧ p ≤ 13 ∧ ∃ t', At w w' g t' ∧ t' ≤ 4000

/-- A slice of bytes that came in. -/
theorem cur_new {w : World} {a : Option Addr} {n cap : Nat} (h : HasB w a n w.heap.size) : Cur (w.alloc (.cells #[.slice a n cap, .int .i64 0, .int .u64 0] 70)) w.heap.size 0 := by
  refine ⟨⟨a, n, cap, ?_, h.1, fun hp => ?_⟩, ?_, ⟨0, by omega, by omega, ?_⟩, fun i => ?_, by simp⟩
  · rw [World.cell?_alloc_at _ _ _ _ rfl]; rfl
  · obtain ⟨b, off, ha, hb, hc⟩ := h.2 hp
    refine ⟨b, off, ha, hb, fun i hi => ?_⟩
    obtain ⟨u, u0, u1, hu⟩ := hc i hi
    exact ⟨u, u0, u1, by rw [World.cell?_alloc_past _ _ _ hb]; exact hu⟩
  · rw [World.cell?_alloc_at _ _ _ _ rfl]; rfl
  · rw [World.cell?_alloc_at _ _ _ _ rfl]; rfl
  · rw [World.frozen?_alloc_at _ _ _ _ rfl]

/-- What a draw of favourites leaves to its caller. -/
def DrewFav' (w : World) (e : Ending) (w' : World) : Prop :=
  ∃ a n cap xs p, e = .returned (.tuple #[.slice a n cap, .int .i64 p]) ∧ Own w' w.heap.size a n cap xs ∧ n ≤ 10 ∧ -1 ≤ p ∧ p ≤ 13 ∧ Below w.heap.size w w'

end Go.Proofs.Ytehdccfkkfkciaa

namespace Go.Proofs.Ytehdccfkkfkciaa
open Go.RowKit

theorem HasB.grow {w w' : World} {a : Option Addr} {n K : Nat} (h : HasB w a n K) (hb : Below K w w') (hK : K ≤ w.heap.size) : HasB w' a n w'.heap.size := by
  refine ⟨h.1, fun hx => ?_⟩
  obtain ⟨b, off, ha, hbk, hc⟩ := h.2 hx
  refine ⟨b, off, ha, Nat.lt_of_lt_of_le hbk (Nat.le_trans hK hb.size), fun i hi => ?_⟩
  obtain ⟨u, u0, u1, hu⟩ := hc i hi
  exact ⟨u, u0, u1, by rw [hb.cell (p := ⟨b, off + i, none⟩) hbk]; exact hu⟩

/-- A number put into a list. -/
def putIn (xs : List Int) (j : Nat) (x : Int) : List Int := xs.take j ++ [x] ++ xs.drop j
theorem mem_putIn {xs : List Int} {j : Nat} {x y : Int} : y ∈ putIn xs j x ↔ y = x ∨ y ∈ xs := by
  unfold putIn
  have : y ∈ xs ↔ y ∈ xs.take j ∨ y ∈ xs.drop j := by rw [← List.mem_append, List.take_append_drop]
  simp only [List.mem_append, List.mem_singleton, this]
  constructor
  · rintro ((h | h) | h)
    · exact .inr (.inl h)
    · exact .inl h
    · exact .inr (.inr h)
  · rintro (h | h | h)
    · exact .inl (.inr h)
    · exact .inl (.inl h)
    · exact .inr h
def Within (xs : List Int) (lo hi : Int) : Prop := ∀ x ∈ xs, lo ≤ x ∧ x ≤ hi
theorem Within.put {xs : List Int} {lo hi x : Int} {j : Nat} (h : Within xs lo hi) (hx : lo ≤ x ∧ x ≤ hi) : Within (putIn xs j x) lo hi := by
  intro y hy
  rcases mem_putIn.1 hy with rfl | hy
  · exact hx
  · exact h y hy
theorem Within.snoc {xs : List Int} {lo hi x : Int} (h : Within xs lo hi) (hx : lo ≤ x ∧ x ≤ hi) : Within (xs ++ [x]) lo hi := by
  intro y hy
  rcases List.mem_append.1 hy with hy | hy
  · exact h y hy
  · rw [List.mem_singleton] at hy; subst hy; exact hx
theorem Within.set {xs : List Int} {lo hi x : Int} {i : Nat} (h : Within xs lo hi) (hx : lo ≤ x ∧ x ≤ hi) : Within (xs.set i x) lo hi := by
  intro y hy
  rcases List.mem_or_eq_of_mem_set hy with hy | rfl
  · exact h y hy
  · exact hx
theorem Within.wide {xs : List Int} {lo hi lo' hi' : Int} (h : Within xs lo hi) (h1 : lo' ≤ lo) (h2 : hi ≤ hi') : Within xs lo' hi' := fun y hy => by have := h y hy; omega

/-- The cursor stands; its block alone was written among those that were there. -/
structure AtG (w0 w : World) (g t : Nat) : Prop where
  cur : Cur w g t
  grew : w0.grownBy w (some g)
  lt : g < w0.heap.size
theorem AtG.new {w : World} {g t : Nat} (h : Cur w g t) : AtG w w g t := ⟨h, World.grownBy.refl _ _, h.lt⟩
theorem AtG.size {w0 w : World} {g t : Nat} (h : AtG w0 w g t) : w0.heap.size ≤ w.heap.size := h.grew.size
theorem grown_then {w w1 w2 : World} {r : Option Nat} (h : w.grownBy w1 r) (h' : w1.grownBy w2 r) : w.grownBy w2 r :=
  ⟨h'.os.trans h.os, h'.tape.trans h.tape, h'.output.trans h.output, Nat.le_trans h.size h'.size, fun j hj hne => (h'.block j (Nat.lt_of_lt_of_le hj h.size) hne).trans (h.block j hj hne)⟩
theorem AtG.pick {w0 w w' : World} {g t t' : Nat} (h : AtG w0 w g t) (hc : Cur w' g t') (hg : w.grownBy w' (some g)) : AtG w0 w' g t' := ⟨hc, grown_then h.grew hg, h.lt⟩
theorem AtG.later {w0 w w' : World} {g t K : Nat} (h : AtG w0 w g t) (hb : Below K w w') (hK : w0.heap.size ≤ K) : AtG w0 w' g t :=
  ⟨h.cur.below hb (Nat.lt_of_lt_of_le h.lt hK), ⟨hb.os.trans h.grew.os, hb.tape.trans h.grew.tape, hb.output.trans h.grew.output, Nat.le_trans h.grew.size hb.size, fun j hj hne => (hb.block j (Nat.lt_of_lt_of_le hj hK)).trans (h.grew.block j hj hne)⟩, h.lt⟩
theorem AtG.below {w0 w : World} {g t : Nat} (h : AtG w0 w g t) : Below g w0 w := below_grown h.grew (Nat.le_of_lt h.lt) fun k hk => by cases hk; exact Nat.le_refl _
theorem AtG.trans {w0 w w' : World} {g t t' : Nat} (h : AtG w0 w g t) (h' : AtG w w' g t') : AtG w0 w' g t' := ⟨h'.cur, grown_then h.grew h'.grew, h.lt⟩

/-- A list that was drawn. -/
def DrewList (w : World) (g t : Nat) (e : Ending) (w' : World) : Prop :=
  ∃ a n cap xs t', e = .returned (.slice a n cap) ∧ Own w' w.heap.size a n cap xs ∧ n ≤ 10 ∧ Within xs (-1) 100 ∧ AtG w w' g t' ∧ t' ≤ t + 100

set_option maxHeartbeats 8000000 in
theorem park_cur (g t : Nat) (most : Int) (w : World) (h : Cur w g t) (ht : t ≤ 1000) (hm0 : 0 ≤ most) (hm : most ≤ 8) :
    Calls Try.prog 72 #[.pointer (some ⟨g, 0, none⟩), .int .i64 most] w (DrewList w g t) := by
  have hgl := h.lt
  have A0 := AtG.new h
  go_enter Try.func72, Try.ntmps72
  go_wp2_with fail
  refine (pick_cur g t (most + 1) _ A0.cur (by omega) (by omega)).mono ?_
  rintro e w1 ⟨v, rfl, v0, v1, ⟨t1, ta, tb, hc1⟩, hg1⟩
  obtain ⟨nn, rfl⟩ : ∃ nn : Nat, v = (nn : Int) := ⟨_, (Int.toNat_of_nonneg v0).symm⟩
  have hnn : nn ≤ 8 := by omega
  have A1 := A0.pick hc1 hg1
  clear hc1 hg1 v0 v1 A0
  go_wp2_with fail
  go_loopw [5, 6] (fun o n wr => ∃ (k j : Nat) (a' : Option Addr) (cap' : Nat) (xs : List Int) (t' : Nat), k + j ≤ 8 ∧ n = .int .i64 (k : Int) ∧ o = .slice a' j cap' ∧ Own wr w.heap.size a' j cap' xs ∧ Within xs 0 8 ∧ AtG w wr g t' ∧ t' ≤ t + 2 + 4 * j) (fun _ n _ => (intOf n).toNat)
  case atStart => exact ⟨nn, 0, none, 0, [], t1, by omega, rfl, rfl, Own.nil _ _, (fun x hx => by simp at hx), A1, by omega⟩
  case round =>
    obtain ⟨k, j, a', cap', xs, t', hkj, rfl, rfl, hown, hin, A, ht'⟩ := hrel
    have HI := hid hin
    clear A1 hin
    by_cases hk : 0 < k
    · skip
      go_wp2_with fail
      refine (pick_cur g t' ((j : Int) + 1) _ A.cur (by omega) (by omega)).mono ?_
      rintro e w5 ⟨qx, rfl, q0, q1, ⟨t2, x1, x2, hcc⟩, hgg⟩
      obtain ⟨x, rfl⟩ : ∃ x : Nat, qx = (x : Int) := ⟨_, (Int.toNat_of_nonneg q0).symm⟩
      have hx : x ≤ j := by omega
      replace hown := hown.kept hgg (.inl hgl)
      replace A := A.pick hcc hgg
      clear hcc hgg q0 q1
      go_wp2_with fail
      refine (pick_cur g t2 ((j : Int) + 1) _ A.cur (by omega) (by omega)).mono ?_
      rintro e w6 ⟨qy, rfl, q0, q1, ⟨t3, x1, x2, hcc⟩, hgg⟩
      obtain ⟨y, rfl⟩ : ∃ y : Nat, qy = (y : Int) := ⟨_, (Int.toNat_of_nonneg q0).symm⟩
      have hy : y ≤ j := by omega
      replace hown := hown.kept hgg (.inl hgl)
      replace A := A.pick hcc hgg
      clear hcc hgg q0 q1
      cases a' with
      | none =>
        obtain ⟨hk1, hcap1, hnil⟩ := hown.noneOf
        have hk0 : j ≤ 0 := by omega
        have hcap0 : cap' ≤ 0 := by omega
        have hat0 : y ≤ 0 := by omega
        subst hnil
        obtain rfl : y = 0 := by omega
        clear hk1 hcap1
        go_wp2_with fail
        refine (l1Own_any _ _ _ _ _ (Has.empty none (Nat.le_refl _) (Nat.le_refl _))).mono ?_
        rintro e w2 ⟨a2, cap2, rfl, hown2, hb2⟩
        go_wp2_with (first | (at_builtin; refine wpList_append_int _ rfl _ _ rfl w6.heap.size _ _ _ _ _ rfl rfl hown2 (by omega) hb2.size ?_; intro a3 cap3 w3 hown3 hb3) | (at_builtin; refine wpList_append_ints _ rfl _ _ rfl w6.heap.size _ none _ _ _ _ _ [] rfl rfl hown3 (Has.empty none (by omega) (by omega)) (by omega) (Nat.le_trans hb2.size hb3.size) ?_; intro a4 n4 cap4 w4 hn4 hown4 hb4))
        have hbb := (hb2.trans hb3).trans hb4
        have A4 := A.later hbb (A.size)
        have hown5 : Own w4 w.heap.size a4 (j + 1) cap4 (putIn [] 0 (x : Int)) := (hown4.mono A.size).relen (by omega) (by simp [putIn])
        have hn5 : n4 = j + 1 := by omega
        clear hown4 hown3 hown2 hb2 hb3 hb4 hbb hn4
        go_roundw
        case rel => exact ⟨k - 1, j + 1, a4, cap4, _, t3, by omega, by go_num, slice_len (by omega), hown5, HI.out.put ⟨by omega, by omega⟩, A4, by omega⟩
        case measure => simp [intOf]; omega
      | some pp =>
        obtain ⟨gg, rfl, hg1, hg2, hg3, hg4, hkc⟩ := hown.someOf
        have HA := hown.has
        have HLO := hid hown.len
        clear hg3 hg4
        by_cases hjk : y < j
        · skip
          have hcj : ¬ cap' = y := by omega
          go_wp2_with fail
          refine (l1Own_any _ _ _ _ _ (HA.take (k := y) (by omega))).mono ?_
          rintro e w2 ⟨a2, cap2, rfl, hown2, hb2⟩
          have hd2 := (HA.drop (k := y) (by omega)).below hb2 (Nat.le_refl _)
          rw [Nat.zero_add] at hd2
          have hblk : ∀ p, (some ⟨gg, y, none⟩ : Option Addr) = some p → p.block < w6.heap.size := fun p hp => by cases hp; exact hg2
          have HBK := hid hblk
          clear hblk
          go_wp2_with (first | (at_builtin; refine wpList_append_int _ rfl _ _ rfl w6.heap.size _ _ _ _ _ rfl rfl hown2 (by omega) hb2.size ?_; intro a3 cap3 w3 hown3 hb3) | (at_builtin; refine wpList_append_ints _ rfl _ _ rfl w6.heap.size _ _ _ _ _ _ _ _ rfl rfl hown3 (hd2.belowB hb3 HBK.out) (by omega) (Nat.le_trans hb2.size hb3.size) ?_; intro a4 n4 cap4 w4 hn4 hown4 hb4))
          clear hd2 HBK
          have hbb := (hb2.trans hb3).trans hb4
          have A4 := A.later hbb (A.size)
          have hown5 : Own w4 w.heap.size a4 (j + 1) cap4 (putIn xs y (x : Int)) := (hown4.mono A.size).relen (by omega) (by unfold putIn; rfl)
          have hn5 : n4 = j + 1 := by omega
          clear hown4 hown3 hown2 hb2 hb3 hb4 hbb hn4
          go_roundw
          case rel => exact ⟨k - 1, j + 1, a4, cap4, _, t3, by omega, by go_num, slice_len (by omega), hown5, HI.out.put ⟨by omega, by omega⟩, A4, by omega⟩
          case measure => simp [intOf]; omega
        · skip
          obtain rfl : j = y := by omega
          clear hjk
          by_cases hcj : cap' = j
          · skip
            obtain rfl : j = cap' := hcj.symm
            clear hcj
            have hmax : 0 ≤ maxLen := by unfold maxLen; omega
            have HMX := hid hmax
            clear hmax
            go_wp2_with fail
            refine (l1Own_any _ _ _ _ _ (HA.take (k := j) (by omega))).mono ?_
            rintro e w2 ⟨a2, cap2, rfl, hown2, hb2⟩
            go_wp2_with (first | (at_builtin; refine wpList_append_int _ rfl _ _ rfl w6.heap.size _ _ _ _ _ rfl rfl hown2 (by omega) hb2.size ?_; intro a3 cap3 w3 hown3 hb3) | (at_builtin; refine wpList_append_ints _ rfl _ _ rfl w6.heap.size _ _ _ _ _ _ _ [] rfl rfl hown3 (Has.nilAt _ (by unfold maxLen; omega)) (by omega) (Nat.le_trans hb2.size hb3.size) ?_; intro a4 n4 cap4 w4 hn4 hown4 hb4))
            have hbb := (hb2.trans hb3).trans hb4
            have A4 := A.later hbb (A.size)
            have hown5 : Own w4 w.heap.size a4 (j + 1) cap4 (putIn xs j (x : Int)) := (hown4.mono A.size).relen (by omega) (by unfold putIn; rw [List.drop_eq_nil_of_le (by rw [HLO.out]; exact Nat.le_refl _)])
            have hn5 : n4 = j + 1 := by omega
            clear hown4 hown3 hown2 hb2 hb3 hb4 hbb hn4
            go_roundw
            case rel => exact ⟨k - 1, j + 1, a4, cap4, _, t3, by omega, by go_num, slice_len (by omega), hown5, HI.out.put ⟨by omega, by omega⟩, A4, by omega⟩
            case measure => simp [intOf]; omega
          · skip
            have hmax : cap' - j ≤ maxLen := by have := HA.2.2.1; omega
            have HMX := hid hmax
            clear hmax
            go_wp2_with fail
            refine (l1Own_any _ _ _ _ _ (HA.take (k := j) (by omega))).mono ?_
            rintro e w2 ⟨a2, cap2, rfl, hown2, hb2⟩
            go_wp2_with (first | (at_builtin; refine wpList_append_int _ rfl _ _ rfl w6.heap.size _ _ _ _ _ rfl rfl hown2 (by omega) hb2.size ?_; intro a3 cap3 w3 hown3 hb3) | (at_builtin; refine wpList_append_ints _ rfl _ _ rfl w6.heap.size _ _ _ _ _ _ _ [] rfl rfl hown3 (Has.nilAt _ HMX.out) (by omega) (Nat.le_trans hb2.size hb3.size) ?_; intro a4 n4 cap4 w4 hn4 hown4 hb4))
            have hbb := (hb2.trans hb3).trans hb4
            have A4 := A.later hbb (A.size)
            have hown5 : Own w4 w.heap.size a4 (j + 1) cap4 (putIn xs j (x : Int)) := (hown4.mono A.size).relen (by omega) (by unfold putIn; rw [List.drop_eq_nil_of_le (by rw [HLO.out]; exact Nat.le_refl _)])
            have hn5 : n4 = j + 1 := by omega
            clear hown4 hown3 hown2 hb2 hb3 hb4 hbb hn4
            go_roundw
            case rel => exact ⟨k - 1, j + 1, a4, cap4, _, t3, by omega, by go_num, slice_len (by omega), hown5, HI.out.put ⟨by omega, by omega⟩, A4, by omega⟩
            case measure => simp [intOf]; omega
    · skip
      obtain rfl : k = 0 := by omega
      go_wp2_with fail
      refine (pick_cur g t' 20 _ A.cur (by omega) (by omega)).mono ?_
      rintro e w5 ⟨z, rfl, z0, z1, ⟨t5, x1, x2, hc5⟩, hg5⟩
      have o5 := hown.kept hg5 (.inl hgl)
      have A5 := A.pick hc5 hg5
      clear hc5 hg5 hown A
      by_cases h0 : (z == 0) = true
      · skip
        go_wp2_with fail
        refine (among_cur g t5 _ 6 6 [-1, 0, (j : Int), (j : Int) + 1, 99, 100] _ (A5.later (alloc_below _ _) (A5.size)).cur (by omega) (has_lit6 w5 (-1) 0 (j : Int) ((j : Int) + 1) 99 100) (by omega) (by omega) (lit_ne A5.cur)).mono ?_
        rintro e w6 ⟨v6, rfl, hv6, ⟨t6, x3, x4, hc6⟩, hg6⟩
        have hv6b : -1 ≤ v6 ∧ v6 ≤ 100 := by simp at hv6; omega
        have A5' := A5.later (alloc_below w5 (.cells #[.int .i64 (-1), .int .i64 0, .int .i64 (j : Int), .int .i64 ((j : Int) + 1), .int .i64 99, .int .i64 100] 3)) (A5.size)
        have A6 := A5'.pick hc6 hg6
        have o6 := (o5.below (alloc_below w5 (.cells #[.int .i64 (-1), .int .i64 0, .int .i64 (j : Int), .int .i64 ((j : Int) + 1), .int .i64 99, .int .i64 100] 3)) (Nat.le_refl _)).kept hg6 (.inl hgl)
        have hs6 := A6.size
        clear hc6 hg6 o5 A5 A5' hv6
        go_wp2_with (at_builtin; refine wpList_append_int _ rfl _ _ rfl w.heap.size _ _ _ _ _ rfl rfl o6 (by omega) hs6 ?_; intro a7 cap7 w7 o7 hb7)
        have A7 := A6.later hb7 (Nat.le_refl _)
        go_ret
        exact ⟨_, _, _, _, t6, rfl, o7, by omega, (HI.out.wide (by omega) (by omega)).snoc hv6b, A7, by omega⟩
      · skip
        have h0' := Bool.eq_false_iff.2 h0
        clear h0
        by_cases h1 : (z == 1) = true
        · skip
          by_cases hj0 : 0 < j
          · skip
            go_wp2_with fail
            refine (pick_cur g t5 (j : Int) _ A5.cur (by omega) (by omega)).mono ?_
            rintro e w6 ⟨qx, rfl, q0, q1, ⟨t6, x3, x4, hc6⟩, hg6⟩
            obtain ⟨x, rfl⟩ : ∃ x : Nat, qx = (x : Int) := ⟨_, (Int.toNat_of_nonneg q0).symm⟩
            have hx : x < j := by omega
            have o6 := o5.kept hg6 (.inl hgl)
            have A6 := A5.pick hc6 hg6
            clear hc6 hg6 o5 A5 q0 q1
            go_wp2_with fail
            refine (pick_cur g t6 (j : Int) _ A6.cur (by omega) (by omega)).mono ?_
            rintro e w7 ⟨qy, rfl, q0, q1, ⟨t7, x5, x6, hc7⟩, hg7⟩
            obtain ⟨y, rfl⟩ : ∃ y : Nat, qy = (y : Int) := ⟨_, (Int.toNat_of_nonneg q0).symm⟩
            have hy : y < j := by omega
            have o7 := o6.kept hg7 (.inl hgl)
            have A7 := A6.pick hc7 hg7
            clear hc7 hg7 o6 A6 q0 q1
            obtain ⟨gg, rfl, hgB, hg2, hg3, hg4⟩ := o7.opened hj0
            have hgk := hg3 x hx
            have hgf := hg4 x
            have hxi : (x : Int) < (j : Int) := by omega
            clear hg3 hg4
            go_wp2_with fail
            go_ret
            obtain ⟨s1, s2⟩ := o7.set x (y : Int)
            exact ⟨_, _, _, _, t7, rfl, s1, by omega, (HI.out.wide (by omega) (by omega)).set ⟨by omega, by omega⟩, A7.later ((Below.refl w.heap.size w7).setCell hgB _) (Nat.le_refl _), by omega⟩
          · skip
            go_wp2_with fail
            go_ret
            exact ⟨_, _, _, _, t5, rfl, o5, by omega, HI.out.wide (by omega) (by omega), A5, by omega⟩
        · skip
          have h1' := Bool.eq_false_iff.2 h1
          clear h1
          by_cases h2 : (z == 2) = true
          · skip
            go_wp2_with fail
            go_loopg [5] (10 - j) (fun q2 o wr => ∃ (m : Nat) (a' : Option Addr) (cap' : Nat) (xs : List Int), m + q2 = 10 ∧ 0 < q2 ∧ o = .slice a' m cap' ∧ Own wr w.heap.size a' m cap' xs ∧ Within xs (-1) 100 ∧ AtG w wr g t5)
            case atStart => exact ⟨j, a', cap', xs, by omega, by omega, rfl, o5, HI.out.wide (by omega) (by omega), A5⟩
            case round =>
              obtain ⟨m, a', cap', xs, hmq, hq0, rfl, hown, hin, A⟩ := hrel
              have HI2 := hid hin
              have hs := A.size
              clear A5 o5 hin
              by_cases hm9 : m < 9
              · skip
                go_wp2_with (at_builtin; refine wpList_append_int _ rfl _ _ rfl w.heap.size _ _ _ _ _ rfl rfl hown (by omega) hs ?_; intro a8 cap8 w8 o8 hb8)
                have A8 := A.later hb8 (Nat.le_refl _)
                go_roundg (gk - 1)
                case rel => exact ⟨m + 1, a8, cap8, _, by omega, by omega, rfl, o8, HI2.out.snoc ⟨by omega, by omega⟩, A8⟩
                case measure => omega
              · skip
                go_wp2_with fail
                go_ret
                exact ⟨_, _, _, _, t5, rfl, hown, by omega, HI2.out, A, by omega⟩
          · skip
            have h2' := Bool.eq_false_iff.2 h2
            clear h2
            go_wp2_with fail
            go_ret
            exact ⟨_, _, _, _, t5, rfl, o5, by omega, HI.out.wide (by omega) (by omega), A5, by omega⟩
end Go.Proofs.Ytehdccfkkfkciaa

namespace Go.Proofs.Ytehdccfkkfkciaa
open Go.RowKit

/-- A number that was drawn, for the caller of a draw. -/
def DrewNum (lo hi : Int) (w : World) (e : Ending) (w' : World) : Prop := ∃ v, e = .returned (.int .i64 v) ∧ lo ≤ v ∧ v ≤ hi ∧ Below w.heap.size w w'
/-- Two numbers. -/
def DrewNums (lo hi : Int) (w : World) (e : Ending) (w' : World) : Prop := ∃ v u, e = .returned (.tuple #[.int .i64 v, .int .i64 u]) ∧ lo ≤ v ∧ v ≤ hi ∧ lo ≤ u ∧ u ≤ hi ∧ Below w.heap.size w w'
/-- A list with any numbers. -/
def DrewAny (w : World) (e : Ending) (w' : World) : Prop := ∃ a n cap xs, e = .returned (.slice a n cap) ∧ Own w' w.heap.size a n cap xs ∧ n ≤ 20 ∧ Below w.heap.size w w'

theorem has_lit7 (w : World) (a b c d e f g : Int) : Has (w.alloc (.cells #[.int .i64 a, .int .i64 b, .int .i64 c, .int .i64 d, .int .i64 e, .int .i64 f, .int .i64 g] 3)) (some ⟨w.heap.size, 0, none⟩) 7 7 [a, b, c, d, e, f, g] := has_lit w [a, b, c, d, e, f, g] (by simp)
theorem has_lit8 (w : World) (a b c d e f g h : Int) : Has (w.alloc (.cells #[.int .i64 a, .int .i64 b, .int .i64 c, .int .i64 d, .int .i64 e, .int .i64 f, .int .i64 g, .int .i64 h] 3)) (some ⟨w.heap.size, 0, none⟩) 8 8 [a, b, c, d, e, f, g, h] := has_lit w [a, b, c, d, e, f, g, h] (by simp)
theorem has_lit9 (w : World) (a b c d e f g h i : Int) : Has (w.alloc (.cells #[.int .i64 a, .int .i64 b, .int .i64 c, .int .i64 d, .int .i64 e, .int .i64 f, .int .i64 g, .int .i64 h, .int .i64 i] 3)) (some ⟨w.heap.size, 0, none⟩) 9 9 [a, b, c, d, e, f, g, h, i] := has_lit w [a, b, c, d, e, f, g, h, i] (by simp)

set_option maxHeartbeats 800000 in
theorem number2_cur (g t : Nat) (w : World) (h : Cur w g t) (ht : t ≤ 1000) :
    Calls Try.prog 75 #[.pointer (some ⟨g, 0, none⟩)] w fun e w' => ∃ v : Int, e = .returned (.int .i64 v) ∧ -1 ≤ v ∧ v ≤ 9 ∧ ∃ t', t' ≤ t + 10 ∧ At w w' g t' := by
  have A0 : At w w g t := ⟨h, Below.refl _ _⟩
  go_enter Try.func75, Try.ntmps75
  go_wp2_with fail
  refine (one_cur g t 10 _ h (by omega) (by omega)).mono ?_
  rintro e w1 ⟨b, rfl, ⟨t1, ta, tb, hc1⟩, hg1⟩
  have A1 := A0.pick hc1 hg1
  clear hc1 hg1 A0
  cases b with
  | true =>
    have A2 := A1.later (alloc_below w1 (.cells #[.int .i64 (-1), .int .i64 0, .int .i64 8, .int .i64 9] 3)) A1.cur.lt
    go_wp2_with fail
    refine (among_cur g t1 _ 4 4 [-1, 0, 8, 9] _ A2.cur (by omega) (has_lit4 w1 (-1) 0 8 9) (by omega) (by omega) (lit_ne A1.cur)).mono ?_
    rintro e w2 ⟨v, rfl, hv, ⟨t2, tc, td, hc2⟩, hg2⟩
    have hv1 : -1 ≤ v ∧ v ≤ 9 := by simp at hv; omega
    have A3 := A2.pick hc2 hg2
    clear hv hc2 hg2 A1 A2
    go_wp2_with fail
    go_ret
    exact ⟨_, rfl, hv1.1, hv1.2, t2, by omega, A3⟩
  | false =>
    go_wp2_with fail
    refine (pick_cur g t1 7 _ A1.cur (by omega) (by omega)).mono ?_
    rintro e w2 ⟨v, rfl, v0, v1, ⟨t2, tc, td, hc2⟩, hg2⟩
    have A2 := A1.pick hc2 hg2
    have hv1 : -1 ≤ v ∧ v ≤ 9 := by omega
    clear hc2 hg2 A1 v1
    go_wp2_with fail
    go_ret
    exact ⟨_, rfl, hv1.1, hv1.2, t2, by omega, A2⟩

theorem fresh_below (w : World) (a : Option Addr) (n cap : Nat) : Below w.heap.size w (w.alloc (.cells #[.slice a n cap, .int .i64 0, .int .u64 0] 70)) := alloc_below _ _

set_option maxHeartbeats 800000 in
theorem drawCountParking_any (a : Option Addr) (n cap : Nat) (w : World) (h : HasB w a n w.heap.size) :
    Calls Try.prog 57 #[.slice a n cap] w (DrewNum (-1) 9 w) := by
  have C0 := cur_new (cap := cap) h
  go_enter Try.func57, Try.ntmps57
  go_wp2_with fail
  refine (number2_cur _ 0 _ C0 (by omega)).mono ?_
  rintro e w1 ⟨v, rfl, v0, v1, t1, ht1, A1⟩
  have hb := (fresh_below w a n cap).trans A1.below
  go_wp2_with fail
  go_ret
  exact ⟨_, rfl, v0, v1, hb⟩
end Go.Proofs.Ytehdccfkkfkciaa

namespace Go.Proofs.Ytehdccfkkfkciaa
open Go.RowKit

set_option maxRecDepth 100000 in
set_option maxHeartbeats 800000 in
theorem drawAllParking_any (a : Option Addr) (n cap : Nat) (w : World) (h : HasB w a n w.heap.size) :
    Calls Try.prog 56 #[.slice a n cap] w (DrewNum (-1) 9 w) := by
  have C0 := cur_new (cap := cap) h
  have hb0 := fresh_below w a n cap
  obtain ⟨w1, hw1⟩ : ∃ w1, w.alloc (.cells #[.slice a n cap, .int .i64 0, .int .u64 0] 70) = w1 := ⟨_, rfl⟩
  have hs1 : w1.heap.size = w.heap.size + 1 := by rw [← hw1]; simp
  rw [hw1] at C0 hb0
  have HW := hid hw1
  clear hw1
  go_enter Try.func56, Try.ntmps56
  go_wp2_with fail
  rw [HW.out]
  have A0 : At w1 w1 w.heap.size 0 := ⟨C0, Below.refl _ _⟩
  have A1 := A0.later (alloc_below w1 (.cells #[.int .i64 0, .int .i64 1, .int .i64 2, .int .i64 3, .int .i64 4, .int .i64 4, .int .i64 5, .int .i64 6, .int .i64 (-1)] 3)) C0.lt
  have hl := has_lit9 w1 0 1 2 3 4 4 5 6 (-1)
  have hn := lit_ne C0
  rw [hs1] at hl hn
  refine (among_cur w.heap.size 0 _ 9 9 [0, 1, 2, 3, 4, 4, 5, 6, -1] _ A1.cur (by omega) hl (by omega) (by omega) hn).mono ?_
  rintro e w2 ⟨v, rfl, hv, ⟨t2, tc, td, hc2⟩, hg2⟩
  have hv1 : -1 ≤ v ∧ v ≤ 9 := by simp at hv; omega
  have A2 := A1.pick hc2 hg2
  have hb := hb0.trans A2.below
  clear hv hc2 hg2 A1 A0
  go_wp2_with fail
  go_ret
  exact ⟨_, rfl, hv1.1, hv1.2, hb⟩

end Go.Proofs.Ytehdccfkkfkciaa

namespace Go.Proofs.Ytehdccfkkfkciaa
open Go.RowKit

/-- A list that was drawn, for the caller of a draw. -/
def DrewListP (w : World) (e : Ending) (w' : World) : Prop :=
  ∃ a n cap xs, e = .returned (.slice a n cap) ∧ Own w' w.heap.size a n cap xs ∧ n ≤ 10 ∧ Within xs (-1) 100 ∧ Below w.heap.size w w'
set_option maxHeartbeats 800000 in
theorem drawIsPrime_any (a : Option Addr) (n cap : Nat) (w : World) (h : HasB w a n w.heap.size) :
    Calls Try.prog 52 #[.slice a n cap] w (DrewListP w) := by
  have C0 := cur_new (cap := cap) h
  go_enter Try.func52, Try.ntmps52
  go_wp2_with fail
  refine (park_cur _ 0 8 _ C0 (by omega) (by omega) (by omega)).mono ?_
  rintro e w1 ⟨a1, n1, cap1, xs1, t1, rfl, o1, hn1, hw1, A1, ht1⟩
  have o1' := o1.mono (B' := w.heap.size) (by simp)
  have hb := (alloc_below w (.cells #[.slice a n cap, .int .i64 0, .int .u64 0] 70)).trans A1.below
  go_wp2_with fail
  go_ret
  exact ⟨_, _, _, _, rfl, o1', hn1, hw1, hb⟩
set_option maxHeartbeats 400000 in
theorem drawPrimeParts_any (a : Option Addr) (n cap : Nat) (w : World) (h : HasB w a n w.heap.size) :
    Calls Try.prog 26 #[.slice a n cap] w (DrewListP w) := by
  go_enter Try.func26, Try.ntmps26
  go_wp2_with fail
  refine (drawIsPrime_any _ _ _ _ h).mono ?_
  rintro e w1 ⟨a1, n1, c1, xs1, rfl, o1, hn1, hw1, hb⟩
  go_wp2_with fail
  go_ret
  exact ⟨_, _, _, _, rfl, o1, hn1, hw1, hb⟩
set_option maxHeartbeats 400000 in
theorem drawAllPrime_any (a : Option Addr) (n cap : Nat) (w : World) (h : HasB w a n w.heap.size) :
    Calls Try.prog 32 #[.slice a n cap] w (DrewNum (-1) 9 w) := by
  go_enter Try.func32, Try.ntmps32
  go_wp2_with fail
  refine (drawAllParking_any _ _ _ _ h).mono ?_
  rintro e w1 ⟨v, rfl, v0, v1, hb⟩
  go_wp2_with fail
  go_ret
  exact ⟨_, rfl, v0, v1, hb⟩
set_option maxHeartbeats 400000 in
theorem drawCountPrime_any (a : Option Addr) (n cap : Nat) (w : World) (h : HasB w a n w.heap.size) :
    Calls Try.prog 33 #[.slice a n cap] w (DrewNum (-1) 9 w) := by
  go_enter Try.func33, Try.ntmps33
  go_wp2_with fail
  refine (drawCountParking_any _ _ _ _ h).mono ?_
  rintro e w1 ⟨v, rfl, v0, v1, hb⟩
  go_wp2_with fail
  go_ret
  exact ⟨_, rfl, v0, v1, hb⟩
end Go.Proofs.Ytehdccfkkfkciaa

namespace Go.Proofs.Ytehdccfkkfkciaa
open Go.RowKit

/-! ### Joined parking functions -/
def joinL (xs ys : List Int) : List Int := xs ++ ys.map (· + (xs.length : Int))
theorem below_all {xs : List Int} {b : Int} (h : ∀ x ∈ xs, x < b) : below xs b = xs.length := by
  unfold below
  rw [List.countP_eq_length]
  exact fun x hx => by simpa using h x hx
theorem below_nil {xs : List Int} {b : Int} (h : ∀ x ∈ xs, b ≤ x) : below xs b = 0 := by
  unfold below
  rw [List.countP_eq_zero]
  exact fun x hx => by have := h x hx; simp; omega
theorem below_join (xs ys : List Int) (b : Int) : below (joinL xs ys) b = below xs b + below ys (b - xs.length) := by
  unfold below joinL
  rw [List.countP_append, List.countP_map]
  congr 1
  refine List.countP_congr fun x _ => ?_
  simp
  omega
theorem join_park {xs ys : List Int} (hx : isPark xs = true) (hy : isPark ys = true) (h : xs.length + ys.length ≤ 8) : isPark (joinL xs ys) = true := by
  obtain ⟨_, x2, _⟩ := isPark_iff.1 hx
  obtain ⟨_, y2, _⟩ := isPark_iff.1 hy
  have zx := (isPark_zpark (by omega) (fun x h => (x2 x h).1)).1 hx
  have zy := (isPark_zpark (by omega) (fun x h => (y2 x h).1)).1 hy
  have hl : (joinL xs ys).length = xs.length + ys.length := by simp [joinL]
  refine (isPark_zpark (by omega) fun z hz => ?_).2 fun i hi => ?_
  · rcases List.mem_append.1 hz with h1 | h1
    · exact (x2 z h1).1
    · obtain ⟨y, h2, rfl⟩ := List.mem_map.1 h1
      have := (y2 y h2).1
      omega
  · rw [hl] at hi
    rw [below_join]
    by_cases e : i < xs.length
    · have := zx i e
      omega
    · have e1 := below_all (xs := xs) (b := (i : Int) + 1) fun x h => by have := x2 x h; omega
      have e2 := zy (i - xs.length) (by omega)
      rw [show (((i - xs.length : Nat) : Int) + 1) = (i : Int) + 1 - xs.length by omega] at e2
      omega
theorem idxs_add (f : Nat → Bool) (n : Nat) : ∀ m, idxs f (n + m) = idxs f n ++ (idxs (fun k => f (n + k)) m).map (· + (n : Int))
  | 0 => by simp [idxs]
  | m + 1 => by
    rw [← Nat.add_assoc, idxs_succ, idxs_add f n m, idxs_succ, List.map_append, List.append_assoc]
    congr 2
    by_cases h : f (n + m) = true
    · simp [h]; omega
    · simp [h]
theorem idxs_congr {f g : Nat → Bool} : ∀ {n : Nat}, (∀ k, k < n → f k = g k) → idxs f n = idxs g n
  | 0, _ => rfl
  | n + 1, h => by rw [idxs_succ, idxs_succ, idxs_congr (fun k hk => h k (by omega)), h n (by omega)]
theorem idxs_zero {f g : Nat → Bool} (hg : g 0 = false) : ∀ {m : Nat}, (∀ k, 1 ≤ k → k < m → f k = g k) → idxs f m = (if 0 < m ∧ f 0 = true then [0] else []) ++ idxs g m
  | 0, _ => by simp [idxs]
  | 1, _ => by
    by_cases h : f 0 = true <;> simp [idxs, hg, h]
  | m + 2, h => by
    rw [idxs_succ, idxs_zero hg (m := m + 1) (fun k h1 h2 => h k h1 (by omega)), idxs_succ g (m + 1), h (m + 1) (by omega) (by omega)]
    simp
/-- The cuts of both, and one where they meet. -/
theorem join_cuts {xs ys : List Int} (hx : isPark xs = true) (hy : isPark ys = true) :
    idxs (isCut (joinL xs ys)) (joinL xs ys).length = idxs (isCut xs) xs.length ++ (if 0 < xs.length ∧ 0 < ys.length then [(xs.length : Int)] else []) ++ (idxs (isCut ys) ys.length).map (· + (xs.length : Int)) := by
  obtain ⟨_, x2, _⟩ := isPark_iff.1 hx
  obtain ⟨_, y2, _⟩ := isPark_iff.1 hy
  have hl : (joinL xs ys).length = xs.length + ys.length := by simp [joinL]
  rw [hl, idxs_add]
  have h1 : idxs (isCut (joinL xs ys)) xs.length = idxs (isCut xs) xs.length := idxs_congr fun k hk => by
    unfold isCut
    rw [below_join, below_nil (xs := ys) (b := (k : Int) - xs.length) (fun y h => by have := y2 y h; omega), Nat.add_zero]
  have h2 : ∀ k, isCut (joinL xs ys) (xs.length + k) = (decide (1 ≤ xs.length + k) && decide ((below ys k : Int) = k)) := by
    intro k
    unfold isCut
    rw [below_join, below_all (xs := xs) (b := ((xs.length + k : Nat) : Int)) (fun x h => by have := x2 x h; omega), show ((xs.length + k : Nat) : Int) - xs.length = (k : Int) by omega]
    congr 1
    rw [decide_eq_decide]
    omega
  have h0 : below ys 0 = 0 := below_nil fun y h => (y2 y h).1
  rw [h1, idxs_zero (f := fun k => isCut (joinL xs ys) (xs.length + k)) (g := isCut ys) (m := ys.length) (by simp [isCut]) (fun k k1 k2 => by simp only [h2]; unfold isCut; congr 1; rw [decide_eq_decide]; omega), List.map_append, List.append_assoc]
  congr 2
  have h3 := h2 0
  have h4 : ((below ys ((0 : Nat) : Int) : Nat) : Int) = ((0 : Nat) : Int) := by simpa using h0
  rw [decide_eq_true h4, Bool.and_true] at h3
  have h5 : isCut (joinL xs ys) (xs.length + 0) = true ↔ 0 < xs.length := by
    rw [h3, decide_eq_true_eq]
    omega
  by_cases a : 0 < xs.length
  · by_cases b : 0 < ys.length
    · rw [if_pos ⟨b, h5.2 a⟩, if_pos ⟨a, b⟩]
      simp
    · rw [if_neg (fun h => b h.1), if_neg (fun h => b h.2)]
      rfl
  · rw [if_neg (fun h => a (h5.1 h.2)), if_neg (fun h => a h.1)]
    rfl
end Go.Proofs.Ytehdccfkkfkciaa

namespace Go.Proofs.Ytehdccfkkfkciaa
open Go.RowKit

theorem filter_parts {p q r : Int → Bool} : ∀ {l : List Int}, (∀ x ∈ l, p x = (q x || r x) ∧ (q x && r x) = false) → (l.filter p).Perm (l.filter q ++ l.filter r)
  | [], _ => List.Perm.refl _
  | x :: l, h => by
    have ih := filter_parts (l := l) (fun y hy => h y (List.mem_cons_of_mem _ hy))
    obtain ⟨h1, h2⟩ := h x List.mem_cons_self
    cases hq : q x with
    | true =>
      have hr : r x = false := by simpa [hq] using h2
      have hp : p x = true := by rw [h1, hq]; rfl
      simp only [List.filter_cons, hp, hq, hr, if_true, Bool.false_eq_true, if_false, List.cons_append]
      exact ih.cons x
    | false =>
      cases hr : r x with
      | true =>
        have hp : p x = true := by rw [h1, hq, hr]; rfl
        simp only [List.filter_cons, hp, hq, hr, if_true, Bool.false_eq_true, if_false]
        exact (ih.cons x).trans List.perm_middle.symm
      | false =>
        have hp : p x = false := by rw [h1, hq, hr]; rfl
        simp only [List.filter_cons, hp, hq, hr, Bool.false_eq_true, if_false]
        exact ih
theorem below_len (xs : List Int) (b : Int) : below xs b = (xs.filter fun x => decide (x < b)).length := by
  unfold below
  rw [List.countP_eq_length_filter]

/-- Where part k begins. -/
def bE (xs : List Int) (k : Nat) : Nat := nthN (ends xs) k
def inP (xs : List Int) (k : Nat) : List Int := xs.filter fun x => decide (begF xs x.toNat = bE xs k)
def partK (xs : List Int) (k : Nat) : List Int := (inP xs k).map (· - (bE xs k : Int))
def jTo (xs : List Int) : Nat → List Int
  | 0 => []
  | k + 1 => joinL (jTo xs k) (partK xs k)
/-- How many parts. -/
def nP (xs : List Int) : Nat := (starts xs).length
theorem ends_len (xs : List Int) : (ends xs).length = nP xs + 1 := by simp [ends, nP]
theorem part_at {xs : List Int} (h : isPark xs = true) (hn : 0 < xs.length) : primeParts xs = (List.range (nP xs)).map (partK xs) := by
  rw [primeParts_rows h hn]
  apply List.ext_getElem
  · simp [nP]
  · intro i h1 h2
    have hi : i < (starts xs).length := by simpa using h1
    simp only [List.getElem_map, List.getElem_range]
    unfold partK inP bE
    rw [ends_left hi]
theorem bE_zero {xs : List Int} (h : isPark xs = true) (hn : 0 < xs.length) : bE xs 0 = 0 ∧ 0 < nP xs := by
  have e := idxs_starts h hn
  cases hs : starts xs with
  | nil => rw [hs] at e; simp at e
  | cons a l =>
    rw [hs] at e
    simp at e
    refine ⟨?_, by simp [nP, hs]⟩
    unfold bE ends nthN
    rw [hs]
    simp [e.1]
theorem bE_last (xs : List Int) : bE xs (nP xs) = xs.length := by
  unfold bE ends nthN nP
  simp
theorem bE_lt {xs : List Int} {k : Nat} (hk : k < nP xs) : bE xs k < bE xs (k + 1) := nthN_lt (ends_lt xs) (Nat.lt_succ_self k) (by rw [ends_len]; omega)
theorem bE_le {xs : List Int} : ∀ {k : Nat}, k ≤ nP xs → bE xs k ≤ xs.length := by
  intro k hk
  by_cases e : k = nP xs
  · rw [e, bE_last]; exact Nat.le_refl _
  · have h1 : k < (starts xs).length := by unfold nP at hk e; omega
    have hm : bE xs k ∈ starts xs := by unfold bE; rw [ends_left h1]; exact List.getElem_mem h1
    exact Nat.le_of_lt (mem_starts.1 hm).1
theorem bE_below {xs : List Int} (h : isPark xs = true) {k : Nat} (hk : k ≤ nP xs) : below xs ((bE xs k : Nat) : Int) = bE xs k := by
  by_cases e : k = nP xs
  · rw [e, bE_last]
    exact below_full (fun x hx => by have := (isPark_bounds h).2 x hx; omega)
  · have h1 : k < (starts xs).length := by unfold nP at hk e; omega
    have hm : bE xs k ∈ starts xs := by unfold bE; rw [ends_left h1]; exact List.getElem_mem h1
    have := (mem_starts.1 hm).2
    simp only [st, decide_eq_true_eq] at this
    omega
theorem in_iff {xs : List Int} (h : isPark xs = true) {k : Nat} (hk : k < nP xs) {x : Int} (hx : x ∈ xs) : begF xs x.toNat = bE xs k ↔ (bE xs k : Int) ≤ x ∧ x < (bE xs (k + 1) : Int) := by
  have hb := (isPark_bounds h).2 x hx
  have := part_iff h (k := k) hk (x := x.toNat) (by omega)
  unfold bE
  rw [← this]
  omega
theorem below_part {xs : List Int} (h : isPark xs = true) {k : Nat} (hk : k < nP xs) {v : Nat} (hv : bE xs k + v ≤ bE xs (k + 1)) : below (partK xs k) (v : Int) + bE xs k = below xs ((bE xs k + v : Nat) : Int) := by
  have e1 : below (partK xs k) (v : Int) = ((xs.filter fun x => decide (begF xs x.toNat = bE xs k)).filter fun x => decide (x - (bE xs k : Int) < (v : Int))).length := by
    unfold below partK inP
    rw [List.countP_map, List.countP_eq_length_filter]
    rfl
  rw [e1, List.filter_filter]
  have e2 := bE_below h (k := k) (by omega)
  rw [below_len] at e2
  have e3 := (filter_parts (p := fun x => decide (x < ((bE xs k + v : Nat) : Int))) (q := fun x => decide (x < (bE xs k : Int))) (r := fun x => decide (x - (bE xs k : Int) < (v : Int)) && decide (begF xs x.toNat = bE xs k)) (l := xs) (fun x hx => by
    have hi := in_iff h hk hx
    have hb := (isPark_bounds h).2 x hx
    by_cases c1 : x < (bE xs k : Int)
    · have c2 : ¬ begF xs x.toNat = bE xs k := fun e => by have := hi.1 e; omega
      have c3 : x < ((bE xs k + v : Nat) : Int) := by omega
      rw [decide_eq_true c1, decide_eq_true c3, decide_eq_false c2]
      simp
    · by_cases c2 : x < ((bE xs k + v : Nat) : Int)
      · have c3 : begF xs x.toNat = bE xs k := hi.2 (by omega)
        have c4 : x - (bE xs k : Int) < (v : Int) := by omega
        rw [decide_eq_false c1, decide_eq_true c2, decide_eq_true c3, decide_eq_true c4]
        simp
      · have c4 : ¬ x - (bE xs k : Int) < (v : Int) := by omega
        rw [decide_eq_false c1, decide_eq_false c2, decide_eq_false c4]
        simp)).length_eq
  rw [List.length_append] at e3
  rw [below_len xs ((bE xs k + v : Nat) : Int)]
  omega
theorem len_in {xs : List Int} (h : isPark xs = true) {k : Nat} (hk : k < nP xs) : ((xs.filter fun x => decide (x < (bE xs (k + 1) : Int))).Perm ((xs.filter fun x => decide (x < (bE xs k : Int))) ++ inP xs k)) := by
  refine filter_parts fun x hx => ?_
  have hi := in_iff h hk hx
  have hlt := bE_lt hk
  by_cases c1 : x < (bE xs k : Int)
  · have c2 : ¬ begF xs x.toNat = bE xs k := fun e => by have := hi.1 e; omega
    have c3 : x < (bE xs (k + 1) : Int) := by omega
    rw [decide_eq_true c1, decide_eq_true c3, decide_eq_false c2]
    simp
  · by_cases c2 : x < (bE xs (k + 1) : Int)
    · have c3 : begF xs x.toNat = bE xs k := hi.2 (by omega)
      rw [decide_eq_false c1, decide_eq_true c2, decide_eq_true c3]
      simp
    · have c3 : ¬ begF xs x.toNat = bE xs k := fun e => by have := hi.1 e; omega
      rw [decide_eq_false c1, decide_eq_false c2, decide_eq_false c3]
      simp
theorem len_part {xs : List Int} (h : isPark xs = true) {k : Nat} (hk : k < nP xs) : bE xs k + (partK xs k).length = bE xs (k + 1) := by
  have e1 := (len_in h hk).length_eq
  rw [List.length_append, ← below_len, ← below_len, bE_below h (by omega), bE_below h (by omega)] at e1
  simp only [partK, List.length_map]
  omega
theorem part_park {xs : List Int} (h : isPark xs = true) {k : Nat} (hk : k < nP xs) : isPark (partK xs k) = true := by
  have hl := len_part h hk
  have hle := bE_le (xs := xs) (k := k + 1) (by omega)
  have h8 := (isPark_bounds h).1
  refine (isPark_zpark (by omega) fun z hz => ?_).2 fun i hi => ?_
  · obtain ⟨x, hx, rfl⟩ := List.mem_map.1 hz
    obtain ⟨hx1, hx2⟩ := List.mem_filter.1 hx
    have := (in_iff h hk hx1).1 (by simpa using hx2)
    omega
  · have h1 := below_part h hk (v := i + 1) (by omega)
    have h2 := below_ge h (b := bE xs k + (i + 1)) (by omega)
    rw [show (((i + 1 : Nat)) : Int) = (i : Int) + 1 by omega] at h1
    omega
theorem part_prime {xs : List Int} (h : isPark xs = true) {k : Nat} (hk : k < nP xs) : primeB (partK xs k) = true := by
  have hl := len_part h hk
  have hlt := bE_lt hk
  have hle := bE_le (xs := xs) (k := k + 1) (by omega)
  unfold primeB
  rw [Bool.and_eq_true, decide_eq_true_eq, decide_eq_true_eq]
  refine ⟨by omega, ?_⟩
  have hz : idxs (isCut (partK xs k)) (partK xs k).length = idxs (fun _ => false) (partK xs k).length := idxs_congr fun j hj => by
    unfold isCut
    by_cases j0 : 1 ≤ j
    · have h1 := below_part h hk (v := j) (by omega)
      have hb := (part_iff h (k := k) hk (x := bE xs k + j) (by omega)).1 ⟨by unfold bE; omega, by show bE xs k + j < bE xs (k + 1); omega⟩
      have h2 : ¬ below xs ((bE xs k + j : Nat) : Int) = bE xs k + j := fun e => by
        have := begF_stop (xs := xs) (b := bE xs k + j) (by omega)
        rw [this] at hb
        change bE xs k + j = bE xs k at hb
        omega
      simp [j0]
      omega
    · simp [show ¬ 1 ≤ j by omega]
  rw [hz]
  unfold idxs
  simp
theorem jTo_len {xs : List Int} (h : isPark xs = true) (hn : 0 < xs.length) : ∀ k, k ≤ nP xs → (jTo xs k).length = bE xs k
  | 0, _ => by rw [(bE_zero h hn).1]; rfl
  | k + 1, hk => by
    have := len_part h (k := k) (by omega)
    simp only [jTo, joinL, List.length_append, List.length_map]
    rw [jTo_len h hn k (by omega)]
    omega
theorem jTo_park {xs : List Int} (h : isPark xs = true) (hn : 0 < xs.length) : ∀ k, k ≤ nP xs → isPark (jTo xs k) = true
  | 0, _ => by show isPark [] = true; decide
  | k + 1, hk => by
    have h1 := len_part h (k := k) (by omega)
    have h2 := bE_le (xs := xs) (k := k + 1) hk
    have h8 := (isPark_bounds h).1
    exact join_park (jTo_park h hn k (by omega)) (part_park h (by omega)) (by rw [jTo_len h hn k (by omega)]; omega)
theorem jTo_join {xs : List Int} (h : isPark xs = true) (hn : 0 < xs.length) {k : Nat} (hk : k < nP xs) : joinOf (jTo xs k) (partK xs k) = (jTo xs (k + 1), true) := by
  have h1 := len_part h hk
  have h2 := bE_le (xs := xs) (k := k + 1) hk
  have h8 := (isPark_bounds h).1
  have h3 := jTo_len h hn k (by omega)
  unfold joinOf
  rw [jTo_park h hn k (by omega), part_park h hk, decide_eq_true (by omega)]
  rfl
theorem map_back (l : List Int) (b : Int) : (l.map (· - b)).map (· + b) = l := by
  rw [List.map_map]
  conv => rhs; rw [← List.map_id l]
  refine List.map_congr_left fun x _ => ?_
  simp
theorem jTo_perm {xs : List Int} (h : isPark xs = true) (hn : 0 < xs.length) : ∀ k, k ≤ nP xs → (jTo xs k).Perm (xs.filter fun x => decide (x < (bE xs k : Int)))
  | 0, _ => by
    rw [(bE_zero h hn).1]
    have : (xs.filter fun x => decide (x < ((0 : Nat) : Int))) = [] := List.filter_eq_nil_iff.2 fun x hx => by have := (isPark_bounds h).2 x hx; simp; omega
    rw [this]
    exact List.Perm.refl _
  | k + 1, hk => by
    refine List.Perm.trans ?_ (len_in h (k := k) (by omega)).symm
    unfold jTo joinL
    rw [jTo_len h hn k (by omega)]
    unfold partK
    rw [map_back]
    exact (jTo_perm h hn k (by omega)).append_right _
theorem jTo_all {xs : List Int} (h : isPark xs = true) (hn : 0 < xs.length) : (jTo xs (nP xs)).Perm xs := by
  have h1 := jTo_perm h hn (nP xs) (Nat.le_refl _)
  rw [bE_last] at h1
  have : (xs.filter fun x => decide (x < (xs.length : Int))) = xs := List.filter_eq_self.2 fun x hx => by have := (isPark_bounds h).2 x hx; simp; omega
  rwa [this] at h1
theorem fold_order9 {p : Int} {xs ys : List Int} (h : xs.Perm ys) : ∀ out : List Int, (∀ x ∈ xs, 0 ≤ x ∧ x ≤ p) →
    (xs.foldl (fun out x => out ++ [place p out x]) out).Perm (ys.foldl (fun out x => out ++ [place p out x]) out) := by
  induction h with
  | nil => exact fun _ _ => List.Perm.refl _
  | cons x _ ih => exact fun out hb => ih _ fun z hz => hb z (List.mem_cons_of_mem _ hz)
  | swap x y l =>
    intro out hb
    simp only [List.foldl_cons]
    exact fold_perm2 l _ _ (fun z hz => (hb z (by simp [hz])).2) (two_perm (hb y (by simp)) (hb x (by simp)))
  | trans h1 _ ih1 ih2 => exact fun out hb => (ih1 out hb).trans (ih2 out fun z hz => hb z (h1.symm.subset hz))
theorem total_order9 {p : Int} {xs ys : List Int} (h : xs.Perm ys) (hb : ∀ x ∈ xs, 0 ≤ x ∧ x ≤ p) : totalOf xs p = totalOf ys p := by
  have hd : (drive p xs).Perm (drive p ys) := fold_order9 h [] hb
  unfold totalOf
  rw [good_perm h, allPark_perm hd, total_dists, total_dists, total_perm h, total_perm hd]
/-- Lists and their number. -/
theorem allPrime_len : ∀ n, n < 6 → 0 < n → ((listL n n []).filter primeB).length = (n - 1) ^ (n - 1) := by decide +kernel
theorem prime_count {n : Int} (h : inB n 1 5 = true) : ∃ ls : List (List Int), allPrimeOf n = (ls, true) ∧ cntPrimeOf n = ((ls.length : Int), true) ∧ ls.length ≤ 256 := by
  have h1 := inB_iff.1 h
  have h2 : inB n 1 8 = true := inB_iff.2 ⟨h1.1, by omega⟩
  have h3 := allPrime_len n.toNat (by omega) (by omega)
  have h4 : ∀ m, m < 5 → m ^ m ≤ 256 := by decide
  have h5 := h4 (n.toNat - 1) (by omega)
  exact ⟨_, by simp [allPrimeOf, h]; rfl, by simp only [cntPrimeOf, if_pos h2, h3], by omega⟩
theorem prime_none {n : Int} (h : ¬ inB n 1 5 = true) : allPrimeOf n = ([], false) := by simp [allPrimeOf, h]
/-- What the law asks of a parking function's parts. -/
theorem parts_facts {xs : List Int} {n : Nat} (h : isPark xs = true) (hl : xs.length = n) (hn : 0 < n) : ∃ (q : Nat) (t : Int) (cs : List Int), cutsOf xs = (cs, true) ∧ q = cs.length + 1 ∧ primeOf xs = (decide (cs = []), true) ∧ q ≤ n ∧ n ≤ 8 ∧
    primePartsOf xs = ((List.range q).map (partK xs), true) ∧
    (∀ k, k < q → primeOf (partK xs k) = (true, true) ∧ joinOf (jTo xs k) (partK xs k) = (jTo xs (k + 1), true)) ∧ (jTo xs q).length = n ∧
    totalOf xs n = (t, true) ∧ totalOf (jTo xs q) n = (t, true) ∧ total (jTo xs q) = total xs ∧ Small xs ∧ Small (jTo xs q) := by
  subst hl
  have hb := isPark_bounds h
  have hq := idxs_starts h hn
  have hql : nP xs = (idxs (isCut xs) xs.length).length + 1 := by
    have := congrArg List.length hq
    simpa [nP] using this
  have hp := jTo_all h hn
  have hle : nP xs ≤ xs.length := by
    unfold nP starts
    refine Nat.le_trans (List.length_filter_le _ _) (by simp)
  have ht : totalOf xs (xs.length : Int) = (total (dists xs.length xs), true) := by
    have g1 : good xs (xs.length : Int) = true := good_iff.2 ⟨by omega, hb.1, fun x hx => by have := hb.2 x hx; omega⟩
    unfold totalOf
    rw [g1, (isPark_iff.1 h).2.2]
    rfl
  have hs : ∀ ys : List Int, (∀ y ∈ ys, y ∈ xs) → Small ys := fun ys hy i hi => by have := hb.2 _ (hy _ (nth_mem hi)); omega
  refine ⟨nP xs, total (dists xs.length xs), _, by unfold cutsOf; rw [if_pos h], hql, ?_, hle, hb.1, ?_, fun k hk => ⟨?_, jTo_join h hn hk⟩, ?_, ?_, ?_, total_perm hp, ?_, ?_⟩
  · unfold primeOf primeB
    rw [if_pos h, decide_eq_true hn, Bool.true_and]
  · unfold primePartsOf
    rw [if_pos h, if_neg (fun e => by rw [e] at hn; simp at hn), part_at h hn]
  · unfold primeOf
    rw [if_pos (part_park h hk), part_prime h hk]
  · rw [jTo_len h hn _ (Nat.le_refl _), bE_last]
  · exact ht
  · rw [← total_order9 hp.symm fun x hx => by have := hb.2 x hx; omega]
    exact ht
  · exact hs _ fun y hy => hy
  · exact hs _ fun y hy => hp.subset hy
end Go.Proofs.Ytehdccfkkfkciaa

namespace Go.Proofs.Ytehdccfkkfkciaa
open Go.RowKit

theorem cut_from {xs : List Int} {n j : Nat} (hn : xs.length = n) (h1 : 1 ≤ j) : isCut xs j = ((n : Int) - (from' xs j : Int) == (j : Int)) := by
  have := from_below xs j
  unfold isCut
  rw [Bool.eq_iff_iff]
  simp
  omega

theorem idxs_one {f : Nat → Bool} (h : f 0 = false) : idxs f 1 = [] := by simp [idxs, List.range_succ, h]

set_option maxHeartbeats 800000 in
theorem paCuts_any (a : Option Addr) (n cap : Nat) (xs : List Int) (w : World) (h : Has w a n cap xs) :
    Calls Try.prog 36 #[.slice a n cap] w fun e w' => ∃ a' m cap', e = .returned (.slice a' m cap') ∧ Own w' w.heap.size a' m cap' (idxs (isCut xs) n) ∧ Below w.heap.size w w' := by
  have hlen := h.len
  have hle := h.le
  go_enter Try.func36, Try.ntmps36
  go_wp2_with fail
  go_loopw [3, 4] (fun o j wr => ∃ (k m : Nat) (a' : Option Addr) (cap' : Nat), 1 ≤ k ∧ (k ≤ n ∨ k = 1) ∧ m ≤ k ∧ j = .int .i64 k ∧ o = .slice a' m cap' ∧ Own wr w.heap.size a' m cap' (idxs (isCut xs) k) ∧ Below w.heap.size w wr) (fun _ j _ => n - (intOf j).toNat)
  case atStart => exact ⟨1, 0, none, 0, by omega, .inr rfl, by omega, rfl, rfl, by rw [idxs_one rfl]; exact Own.nil _ _, Below.refl _ _⟩
  case round =>
    obtain ⟨k, m, a', cap', hk1, hk, hm, rfl, rfl, hown, hb⟩ := hrel
    by_cases hlt : k < n
    · have HS := hid (idxs_succ (isCut xs) k)
      have HC := hid (cut_from (n := n) hlen hk1)
      have hfl := from_le xs k
      rw [hlen] at hfl
      by_cases ht : ((n : Int) - (from' xs k : Int) == (k : Int)) = true
      · rw [HC.out, if_pos ht] at HS
        go_wp2_with (first | (go_at_call 60; refine (paFrom_any _ _ _ _ _ _ (h.below hb (Nat.le_refl _))).mono ?_; rintro e w' ⟨rfl, rfl⟩) | (at_builtin; refine wpList_append_int _ rfl _ _ rfl w.heap.size _ _ _ _ _ rfl rfl hown (by omega) hb.size ?_; intro a2 cap2 w2 hown2 hb2))
        go_roundw
        case rel => exact ⟨k + 1, m + 1, a2, cap2, by omega, by omega, by omega, by go_num, rfl, by rw [HS.out]; exact hown2, hb.trans hb2⟩
        case measure => simp [intOf]; omega
      · have ht' : ((n : Int) - (from' xs k : Int) == (k : Int)) = false := Bool.eq_false_iff.2 ht
        rw [HC.out, if_neg ht, List.append_nil] at HS
        clear ht
        go_wp2_with (go_at_call 60; refine (paFrom_any _ _ _ _ _ _ (h.below hb (Nat.le_refl _))).mono ?_; rintro e w' ⟨rfl, rfl⟩)
        go_roundw
        case rel => exact ⟨k + 1, m, _, _, by omega, by omega, by omega, by go_num, rfl, by rw [HS.out]; exact hown, hb⟩
        case measure => simp [intOf]; omega
    · have he : idxs (isCut xs) k = idxs (isCut xs) n := by
        rcases hk with hk | rfl
        · rw [show k = n by omega]
        · rcases (show n = 0 ∨ n = 1 by omega) with rfl | rfl
          · rw [idxs_one rfl]; rfl
          · rfl
      rw [he] at hown
      clear he
      go_wp2_with fail
      go_ret
      exact ⟨_, _, _, rfl, hown, hb⟩

/-- What b's numbers become. -/
def shifted (ys : List Int) (d : Int) : List Int := ys.map (· + d)
theorem shifted_succ {ys : List Int} {d : Int} {k : Nat} (h : k < ys.length) : (shifted ys d).take (k + 1) = (shifted ys d).take k ++ [nth ys k + d] := by
  rw [take_succ_nth (by simpa [shifted] using h)]
  simp [shifted, nth, h]
theorem length_shifted (ys : List Int) (d : Int) : (shifted ys d).length = ys.length := by simp [shifted]
theorem join_yes {xs ys : List Int} {n m : Nat} (hn : xs.length = n) (hm : ys.length = m) (hx : isPark xs = true) (hy : isPark ys = true) (h : n + m ≤ 8) : joinOf xs ys = (xs ++ shifted ys n, true) := by
  simp [joinOf, hx, hy, hn, hm, h, shifted]
theorem park_bounds {ys : List Int} {m : Nat} (hm : ys.length = m) (h : isPark ys = true) : ∀ i, i < m → 0 ≤ nth ys i ∧ nth ys i ≤ (m : Int) - 1 := by
  intro i hi
  have := (isPark_iff.1 h).2.1 _ (nth_mem (xs := ys) (i := i) (by omega))
  omega

end Go.Proofs.Ytehdccfkkfkciaa

namespace Go.Proofs.Ytehdccfkkfkciaa
open Go.RowKit

/-- A number put into a list, unless it is there. -/
def putL : List Int → Int → List Int
  | [], x => [x]
  | y :: l, x => if y < x then y :: putL l x else if y = x then y :: l else x :: y :: l
theorem putL_at {x : Int} : ∀ (j : Nat) (l : List Int), j ≤ l.length → (∀ t, t < j → nth l t < x) → (j = l.length ∨ x ≤ nth l j) → putL l x = if j < l.length ∧ nth l j = x then l else l.take j ++ [x] ++ l.drop j
  | 0, [], _, _, _ => by simp [putL]
  | 0, y :: l, _, _, h => by
    rcases h with h | h
    · simp at h
    · simp only [nth, List.getD_cons_zero] at h ⊢
      have h1 : ¬ y < x := by omega
      by_cases e : y = x
      · simp [putL, e]
      · simp [putL, h1, e]
  | j + 1, [], h, _, _ => by simp at h
  | j + 1, y :: l, h1, h2, h3 => by
    have h0 := h2 0 (by omega)
    simp only [nth, List.getD_cons_zero] at h0
    have ih := putL_at (x := x) j l (by simpa using h1) (fun t ht => by simpa [nth] using h2 (t + 1) (by omega)) (by simpa [nth] using h3)
    simp only [putL, if_pos h0, ih]
    have e1 : (j + 1 < (y :: l).length ∧ nth (y :: l) (j + 1) = x) ↔ (j < l.length ∧ nth l j = x) := by simp [nth]
    by_cases e : j < l.length ∧ nth l j = x
    · rw [if_pos e, if_pos (e1.2 e)]
    · rw [if_neg e, if_neg (fun hh => e (e1.1 hh))]
      simp
theorem putL_perm {x : Int} : ∀ {l : List Int}, x ∉ l → (putL l x).Perm (x :: l)
  | [], _ => by simp [putL]
  | y :: l, h => by
    simp only [List.mem_cons, not_or] at h
    have hyx : ¬ y = x := fun e => h.1 e.symm
    by_cases e : y < x
    · simp only [putL, if_pos e]
      exact ((putL_perm h.2).cons y).trans (List.Perm.swap x y l)
    · simp only [putL, if_neg e, if_neg hyx]
      exact List.Perm.refl _
theorem length_putL (l : List Int) (x : Int) : (putL l x).length ≤ l.length + 1 := by
  induction l with
  | nil => simp [putL]
  | cons y l ih =>
    simp only [putL]
    split
    · simpa using ih
    · split <;> simp
end Go.Proofs.Ytehdccfkkfkciaa

namespace Go.Proofs.Ytehdccfkkfkciaa
open Go.RowKit

theorem own_lit1 (w : World) (B : Nat) (x : Int) (hB : B ≤ w.heap.size) : Own (w.alloc (.cells #[.int .i64 x] 3)) B (some ⟨w.heap.size, 0, none⟩) 1 1 [x] :=
  ⟨World.ownsRow_lit w #[.int .i64 x] 1 hB (by unfold maxLen; omega) (by simp), by simp⟩

end Go.Proofs.Ytehdccfkkfkciaa

namespace Go.Proofs.Ytehdccfkkfkciaa
open Go.RowKit

theorem partAt_yes {xs : List Int} {k : Nat} {A B : Int} (h : k < xs.length) (h1 : A ≤ nth xs k) (h2 : nth xs k < B) : partAt (xs.take (k + 1)) A B = partAt (xs.take k) A B ++ [nth xs k - A] := by
  unfold partAt
  rw [take_succ_nth h, List.filter_append, List.map_append]
  simp [h1, h2]
theorem partAt_no {xs : List Int} {k : Nat} {A B : Int} (h : k < xs.length) (h1 : ¬ (A ≤ nth xs k ∧ nth xs k < B)) : partAt (xs.take (k + 1)) A B = partAt (xs.take k) A B := by
  unfold partAt
  rw [take_succ_nth h, List.filter_append, List.map_append]
  have : ([nth xs k].filter fun x => decide (A ≤ x) && decide (x < B)) = [] := by
    rw [List.filter_eq_nil_iff]
    intro x hx
    rw [List.mem_singleton] at hx
    subst hx
    simpa using h1
  rw [this]
  simp
theorem primeParts_succ {xs : List Int} {k q : Nat} (hq : (cutList xs).length = q + 1) (h : k < q) : (primeParts xs).take (k + 1) = (primeParts xs).take k ++ [partAt xs (nth (cutList xs) k) (nth (cutList xs) (k + 1))] := by
  have hl : k < (primeParts xs).length := by simp [primeParts, hq, h]
  rw [List.take_succ_eq_append_getElem hl]
  simp [primeParts]
theorem cutList_bounds {xs : List Int} (h8 : xs.length ≤ 8) (k : Nat) : 0 ≤ nth (cutList xs) k ∧ nth (cutList xs) k ≤ 8 := by
  by_cases hk : k < (cutList xs).length
  · have hm := nth_mem hk
    generalize nth (cutList xs) k = v at *
    unfold cutList at hm
    simp only [List.mem_cons, List.mem_append, List.not_mem_nil, or_false] at hm
    rcases hm with rfl | hm | rfl
    · omega
    · unfold idxs at hm
      obtain ⟨i, hi, rfl⟩ := List.mem_map.1 hm
      have := List.mem_range.1 (List.mem_filter.1 hi).1
      omega
    · omega
  · have : nth (cutList xs) k = 0 := by simp [nth, Nat.not_lt.1 hk]
    omega
theorem parts_empty {xs : List Int} (h : isPark xs = true) (hn : xs.length = 0) : primePartsOf xs = ([], true) := by
  obtain rfl := List.eq_nil_of_length_eq_zero hn
  simp [primePartsOf, h]
theorem parts_some {xs : List Int} (h : isPark xs = true) (hn : 0 < xs.length) : primePartsOf xs = (primeParts xs, true) := by
  have : xs ≠ [] := List.length_pos_iff.1 hn
  simp [primePartsOf, h, this]

set_option maxHeartbeats 4000000 in
theorem specPrimeParts_any (a : Option Addr) (n cap : Nat) (xs : List Int) (w : World) (h : Has w a n cap xs) :
    Calls Try.prog 13 #[.slice a n cap] w (PostRows w (primePartsOf xs)) := by
  have HL := hid h.len
  by_cases hg : isPark xs = true
  · have HG := hid hg
    by_cases hn : n = 0
    · have HR := hid (parts_empty hg (by rw [h.len]; exact hn))
      clear hg
      subst hn
      go_enter Try.func13, Try.ntmps13
      go_wp2_with (go_at_call 34; refine (paParking_any _ _ _ _ _ h).mono ?_; rintro e w1 ⟨rfl, hb1⟩; rw [HG.out])
      go_ret2
      exact postRows (rs := []) HR.out (OwnR.nil _ _) rfl hb1
    · have HR := hid (parts_some hg (by rw [h.len]; omega))
      have h8 : n ≤ 8 := by have := (isPark_iff.1 hg).1; rw [← h.len]; exact this
      have HX : Hid (∀ i, i < n → 0 ≤ nth xs i ∧ nth xs i ≤ 8) := hid (fun i hi => by have := (isPark_iff.1 hg).2.1 _ (nth_mem (xs := xs) (i := i) (by rw [h.len]; exact hi)); have := h.len; omega)
      have HCB := hid (cutList_bounds (xs := xs) (by rw [h.len]; exact h8))
      have hbe : ((n : Int) == 0) = false := by simp; omega
      clear hg
      go_enter Try.func13, Try.ntmps13
      go_wp2_with (go_at_call 34; refine (paParking_any _ _ _ _ _ h).mono ?_; rintro e w1 ⟨rfl, hb1⟩; rw [HG.out])
      have hl1 := own_lit1 w1 w1.heap.size 0 (Nat.le_refl _)
      have hba := (Below.refl w1.heap.size w1).alloc (Nat.le_refl _) (.cells #[.int .i64 0] 3)
      refine (paCuts_any _ _ _ _ _ ((h.below hb1 (Nat.le_refl _)).below hba (Nat.le_refl _))).mono ?_
      rintro e w2 ⟨a2, m2, c2, rfl, hown2, hb2⟩
      have hl2 := hl1.below hb2 (Nat.le_refl _)
      have hle2 := hown2.le
      have hm2 : m2 ≤ 8 := by have h5 := length_idxs (isCut xs) n; have h6 := hown2.len; omega
      have hba2 : w1.heap.size ≤ w2.heap.size := Nat.le_trans hba.size hb2.size
      have hb12 := hb1.trans ((hba.trans (hb2.mono hba.size)).mono hb1.size)
      go_wp2_with (first | (at_builtin; refine wpList_append_ints _ rfl _ _ rfl w1.heap.size _ _ _ _ _ _ _ _ rfl rfl hl2 hown2.has (by omega) hba2 ?_; intro a3 q3 c3 w3 hq3 hown3 hb3; have HQ3 := hid hq3; have hq9 : q3 ≤ 100 := (by omega); clear hq3) | (at_builtin; refine wpList_append_int _ rfl _ _ rfl w1.heap.size _ _ _ _ _ rfl rfl hown3 (by omega) (Nat.le_trans hba2 hb3.size) ?_; intro a4 c4 w4 hown4 hb4))
      have hcl : Hid (([0] ++ idxs (isCut xs) n) ++ [(n : Int)] = cutList xs) := hid (by unfold cutList; rw [HL.out]; rfl)
      rw [hcl.out] at hown4
      have hsz4 : w.heap.size ≤ w4.heap.size := Nat.le_trans (Nat.le_trans hb12.size hb3.size) hb4.size
      have hb14 := hb12.trans ((hb3.trans hb4).mono hb1.size)
      have HC4 := hown4.has
      have hcl4 := hown4.len
      have HSU := hid (fun k (hk : k < q3) => primeParts_succ (k := k) hcl4 hk)
      have HFU : Hid ((primeParts xs).take q3 = primeParts xs) := hid (List.take_of_length_le (by simp [primeParts, hcl4]))
      have HX4 := h.below hb14 (Nat.le_refl _)
      clear hl1 hba hl2 hown2 hb2 hb12 hown3 hb3 hb4 hown4 hcl4 hcl hb1
      generalize cutList xs = cl at *
      go_loopw [5, 6] (fun o kk wr => ∃ (k : Nat) (a' : Option Addr) (cap' : Nat) (rs : List Rw), k ≤ q3 ∧ kk = .int .i64 ((k : Int) + 1) ∧ o = .slice a' k cap' ∧ OwnR wr w4.heap.size a' k cap' rs ∧ Hid (numsOf rs = (primeParts xs).take k) ∧ Below w4.heap.size w4 wr) (fun _ kk _ => q3 + 1 - (intOf kk).toNat)
      case atStart => exact ⟨0, none, 0, [], Nat.zero_le _, rfl, rfl, OwnR.nil _ _, hid rfl, Below.refl _ _⟩
      case round =>
        obtain ⟨wo, rfl⟩ : ∃ wo : World, wo = wr := ⟨_, rfl⟩
        obtain ⟨k, a', cap', rs, hk, rfl, rfl, hown, HN, hb⟩ := hrel
        by_cases hlt : k < q3
        · obtain ⟨A0, A1⟩ := HCB.out k
          obtain ⟨B0, B1⟩ := HCB.out (k + 1)
          have HS := hid (HSU.out k hlt)
          obtain ⟨b2, off2, rfl, hbb2, hc2⟩ := HC4.2.2.2.2 (by omega)
          have hck1 : ∀ (wr : World), Below w4.heap.size w4 wr → wr.cell? ⟨b2, off2 + k, none⟩ = some (.int .i64 (nth cl k)) := fun wr hb => by rw [hb.cell (p := ⟨b2, off2 + k, none⟩) hbb2]; exact hc2 k (by omega)
          have hck2 : ∀ (wr : World), Below w4.heap.size w4 wr → wr.cell? ⟨b2, off2 + (k + 1), none⟩ = some (.int .i64 (nth cl (k + 1))) := fun wr hb => by rw [hb.cell (p := ⟨b2, off2 + (k + 1), none⟩) hbb2]; exact hc2 (k + 1) (by omega)
          have HK1 := hid hck1
          have HK2 := hid hck2
          have hszo := hb.size
          have z1 : ((k : Int) + 1) < ((q3 : Int) + 1) := by omega
          clear hc2 hck1 hck2
          generalize nth cl k = A at *
          generalize nth cl (k + 1) = Bv at *
          go_wp2_with fail
          go_loopw [7, 32] (fun p i wr => ∃ (j mp : Nat) (ap : Option Addr) (cp : Nat), j ≤ n ∧ mp ≤ j ∧ i = .int .i64 (j : Int) ∧ p = .slice ap mp cp ∧ Own wr wo.heap.size ap mp cp (partAt (xs.take j) A Bv) ∧ Below wo.heap.size wo wr) (fun _ i _ => n - (intOf i).toNat)
          case atStart => exact ⟨0, 0, none, 0, Nat.zero_le _, Nat.le_refl _, rfl, rfl, Own.nil _ _, Below.refl _ _⟩
          case round =>
            obtain ⟨j, mp, ap, cp, hj, hmp, rfl, rfl, hpart, hbi⟩ := hrel
            have hb2i := hb.trans (hbi.mono hszo)
            by_cases hlj : j < n
            · obtain ⟨x0, x8⟩ := HX.out j hlj
              obtain ⟨b1, off1, rfl, hbb1, hx1⟩ := HX4.2.2.2.2 (by omega)
              have hcx : wr.cell? ⟨b1, off1 + j, none⟩ = some (.int .i64 (nth xs j)) := by rw [hb2i.cell (p := ⟨b1, off1 + j, none⟩) hbb1]; exact hx1 j hlj
              have hcA := HK1.out wr hb2i
              have hcB := HK2.out wr hb2i
              have PY := hid (fun h1 h2 => partAt_yes (A := A) (B := Bv) (show j < xs.length by rw [HL.out]; exact hlj) h1 h2)
              have PN := hid (fun h1 => partAt_no (A := A) (B := Bv) (show j < xs.length by rw [HL.out]; exact hlj) h1)
              have w1' : IntKind.i64.wrap ((k : Int) + 1 - 1) = (k : Int) := by rw [IntKind.wrap_i64]; omega
              have w2' : (k : Int) + 1 - 1 = (k : Int) := by omega
              have zk : (k : Int) < (q3 : Int) + 1 := by omega
              have zk1 : ((k + 1 : Nat) : Int) < ((q3 + 1 : Nat) : Int) := by omega
              clear hx1
              generalize nth xs j = x at *
              have w3' : IntKind.i64.wrap (x - A) = x - A := by rw [IntKind.wrap_i64]; omega
              by_cases h1 : A ≤ x
              · by_cases h2 : x < Bv
                · have PE := hid (PY.out h1 h2)
                  go_wp2_with (at_builtin; refine wpList_append_int _ rfl _ _ rfl wo.heap.size _ _ _ _ _ rfl rfl hpart (by omega) hbi.size ?_; intro a5 c5 w5 hown5 hb5)
                  go_roundw
                  case rel => exact ⟨j + 1, mp + 1, a5, c5, by omega, by omega, by go_num, rfl, by rw [PE.out]; exact hown5, hbi.trans hb5⟩
                  case measure => simp [intOf]; omega
                · have PE := hid (PN.out (fun h => h2 h.2))
                  go_wp2_with fail
                  go_roundw
                  case rel => exact ⟨j + 1, mp, ap, cp, by omega, by omega, by go_num, rfl, by rw [PE.out]; exact hpart, hbi⟩
                  case measure => simp [intOf]; omega
              · have PE := hid (PN.out (fun h => h1 h.1))
                go_wp2_with fail
                go_roundw
                case rel => exact ⟨j + 1, mp, ap, cp, by omega, by omega, by go_num, rfl, by rw [PE.out]; exact hpart, hbi⟩
                case measure => simp [intOf]; omega
            · obtain rfl : n = j := by omega
              rw [List.take_of_length_le (by rw [HL.out]; exact Nat.le_refl _)] at hpart
              go_wp2_with (at_builtin; refine wpList_append_row wo wr rfl _ _ rfl w4.heap.size _ _ _ _ _ _ _ _ rfl rfl hown hbi hpart (by omega) hszo ?_; intro a6 c6 w6 hrows6 hb6)
              go_roundw
              case rel => exact ⟨k + 1, a6, c6, _, by omega, by go_num, rfl, hrows6, hid (by rw [numsOf_app, HN.out, HS.out]; rfl), hb2i.trans hb6⟩
              case measure => simp [intOf]; omega
        · obtain rfl : k = q3 := by omega
          have z1 : ¬ ((k : Int) + 1) < ((k : Int) + 1) := by omega
          go_wp2_with fail
          go_ret2
          exact postRows (by rw [HR.out]) (hown.mono hsz4) (HN.out.trans HFU.out) (hb14.trans (hb.mono hsz4))
  · have HR : Hid (primePartsOf xs = ([], false)) := hid (by simp [primePartsOf, hg])
    have HG := hid hg
    clear hg
    go_enter Try.func13, Try.ntmps13
    go_wp2_with (go_at_call 34; refine (paParking_any _ _ _ _ _ h).mono ?_; rintro e w1 ⟨rfl, hb1⟩; rw [Bool.eq_false_iff.2 HG.out])
    go_ret2
    exact postRows_no HR.out hb1
end Go.Proofs.Ytehdccfkkfkciaa

namespace Go.Proofs.Ytehdccfkkfkciaa
open Go.RowKit

set_option maxHeartbeats 400000 in
theorem sort_any (B : Nat) (a : Option Addr) (n cap : Nat) (xs : List Int) (w : World) (h : Own w B a n cap xs) :
    Calls Try.prog 85 #[.slice a n cap] w fun e w' => e = .returned (.tuple #[]) ∧ Own w' B a n cap (insSort xs) ∧ Marked w w' a := by
  have hlen := h.len
  by_cases h0 : n = 0
  · subst h0
    refine (Try.slices_Sort_int_none a cap w).mono fun e w' ⟨he, hw⟩ => ⟨he, ?_, ?_⟩
    · subst hw
      obtain rfl : xs = [] := List.eq_nil_of_length_eq_zero hlen
      exact h
    · subst hw
      exact ⟨none, World.grownBy.refl _ _, by simp⟩
  · obtain ⟨g, rfl, hg1, hg2, hg3, hg4⟩ := h.opened (by omega)
    have hH : Go.Sort.Holds (Value.int .i64) w g 0 xs.toArray := by
      intro j hj
      have hj' : j < xs.length := by simpa using hj
      refine ⟨?_, hg4 _⟩
      rw [Nat.zero_add, hg3 j (by omega)]
      simp [nth, hj']
    subst hlen
    have hle := h.le
    refine (Try.slices_Sort_int g 0 cap xs w hH hg2 (by omega)).mono fun e w' ⟨he, k, os, hw⟩ => ⟨he, ?_, ?_⟩
    · rw [mergeSort_insSort] at hw
      subst hw
      rcases h.1.2 with ⟨h1, _⟩ | ⟨g', cap', cur, hv, hbase, hb, h1, h2, h3, h4⟩
      · simp at h1
      · simp at hv
        obtain ⟨rfl, rfl⟩ := hv
        exact ⟨Go.ownsRow_sortedI (length_insSort xs) hbase hb h1 h2 h3, length_insSort xs, hle⟩
    · subst hw
      exact ⟨some g, Go.grownBy_sortedI _, fun g' hg' => ⟨_, rfl, by simpa using hg'⟩⟩

set_option maxHeartbeats 400000 in
theorem clone_any (a : Option Addr) (n cap : Nat) (xs : List Int) (w : World) (h : Has w a n cap xs) :
    Calls Try.prog 84 #[.slice a n cap] w fun e w' => ∃ a' cap', e = .returned (.slice a' n cap') ∧ Own w' w.heap.size a' n cap' xs ∧ Below w.heap.size w w' := by
  obtain ⟨h0, h1, h2, h3, h4⟩ := h
  by_cases hn : n = 0
  · subst hn
    obtain rfl : xs = [] := List.eq_nil_of_length_eq_zero h0
    cases a with
    | none => exact (Try.slices_Clone_int_nil 0 cap w).mono fun e w' ⟨he, hw⟩ => by subst hw; exact ⟨none, 0, he, Own.nil _ _, Below.refl _ _⟩
    | some p =>
      refine (Try.slices_Clone_int_zero p cap w).mono fun e w' ⟨v', he, ho, _, hb⟩ => ?_
      obtain ⟨a', cap', rfl, ho'⟩ := own_of_row (xs := []) ho rfl rfl (by simp)
      exact ⟨a', cap', he, ho', hb⟩
  · obtain ⟨b, off, rfl, _, hc⟩ := h4 (by omega)
    refine (Try.slices_Clone_int b off n cap xs w (by omega) (by omega) (fun j hj => hc j (by omega))).mono fun e w' ⟨v', he, ho, _, hb⟩ => ?_
    obtain ⟨a', cap', rfl, ho'⟩ := own_of_row (xs := xs) ho h0.symm (by rw [List.take_of_length_le (by omega)]) (by omega)
    exact ⟨a', cap', he, ho', hb⟩

end Go.Proofs.Ytehdccfkkfkciaa

namespace Go.Proofs.Ytehdccfkkfkciaa
open Go.RowKit

set_option maxHeartbeats 800000 in
theorem isUnder_any (a b : Option Addr) (n cap m capb : Nat) (xs bs : List Int) (w : World) (h : Has w a n cap xs) (h' : Has w b m capb bs) (hnm : n ≤ m) :
    Calls Try.prog 80 #[.slice a n cap, .slice b m capb] w fun e w' => e = .returned (.bool (undTo (insSort xs) bs n)) ∧ Below w.heap.size w w' := by
  go_enter Try.func80, Try.ntmps80
  go_wp2_with fail
  refine (clone_any _ _ _ _ _ h).mono ?_
  rintro e w1 ⟨a1, cap1, rfl, hown1, hb1⟩
  go_wp2_with fail
  refine (sort_any _ _ _ _ _ _ hown1).mono ?_
  rintro e w2 ⟨rfl, hown2, hm2⟩
  have hb2 := hb1.trans (hm2.below hown1.ge hb1.size)
  have h2 := h'.below hb2 (Nat.le_refl _)
  obtain ⟨k0, k1, k2, k3, k4⟩ := hown2.has
  obtain ⟨-, j1, j2, -, j4⟩ := h2
  clear k0 hm2 hown1 hown2 hb1
  go_wp2_with fail
  go_loop [14] (fun i => ∃ k : Nat, k ≤ n ∧ i = .int .i64 k ∧ Hid (undTo (insSort xs) bs k = true)) (fun i => n - (intOf i).toNat)
  case atStart => exact ⟨0, Nat.zero_le _, rfl, hid rfl⟩
  case round =>
    obtain ⟨k, hk, rfl, HF⟩ := hrel
    by_cases hlt : k < n
    · obtain ⟨b1, off1, rfl, hbb1, hc1⟩ := k4 (by omega)
      obtain ⟨b2, off2, rfl, hbb2, hc2⟩ := j4 (by omega)
      have hck1 := hc1 k hlt
      have hck2 := hc2 k (by omega)
      have hkm : (k : Int) < (m : Int) := by omega
      have hkz : (0 : Int) ≤ (k : Int) := by omega
      clear hc1 hc2 k4 j4
      by_cases hz : nth (insSort xs) k < 0
      · have HU2 : Hid (undTo (insSort xs) bs n = false) := hid (undTo_no hlt fun hh => by omega)
        go_wp2_with fail
        go_ret
        exact ⟨ret_bool HU2.out.symm, hb2⟩
      · by_cases ht : nth (insSort xs) k ≤ nth bs k
        · have HU2 : Hid (undTo (insSort xs) bs (k + 1) = true) := hid (by rw [undTo_succ, HF.out]; simp [ht]; omega)
          go_wp2_with fail
          go_round
          case rel => exact ⟨k + 1, by omega, by go_num, HU2⟩
          case measure => simp [intOf]; omega
        · have HU2 : Hid (undTo (insSort xs) bs n = false) := hid (undTo_no hlt fun hh => ht hh.2)
          go_wp2_with fail
          go_ret
          exact ⟨ret_bool HU2.out.symm, hb2⟩
    · obtain rfl : k = n := by omega
      go_wp2_with fail
      go_ret
      exact ⟨ret_bool HF.out.symm, hb2⟩

end Go.Proofs.Ytehdccfkkfkciaa

namespace Go.Proofs.Ytehdccfkkfkciaa
open Go.RowKit

/-- Numbers laid over the first ones. -/
def over0 (xs ys : List Int) : List Int := ys.take xs.length ++ xs.drop ys.length
theorem length_over0 (xs ys : List Int) : (over0 xs ys).length = xs.length := by simp [over0]; omega
theorem over0_all {xs ys : List Int} (h : ys.length = xs.length) : over0 xs ys = ys := by
  simp [over0, h, List.take_of_length_le (Nat.le_of_eq h)]
theorem over0_nth {xs ys : List Int} (h : ys.length ≤ xs.length) (i : Nat) : nth (over0 xs ys) i = if i < ys.length then nth ys i else nth xs i := by
  unfold over0
  rw [List.take_of_length_le h]
  split
  · rw [nth_append_left (by assumption)]
  · simp only [nth, List.getD_eq_getElem?_getD, List.getElem?_append, List.getElem?_drop]
    rw [if_neg (by assumption), show ys.length + (i - ys.length) = i by omega]

theorem wpList_copy_intsT (T S : TypeId) (hT : Try.prog.underlying T = some (.slice 3)) {ops : Array Oper} {rest : List Oper} {o : Oper} {a : Act} {Q : Exit → Act → World → Prop} (w : World) (hgd : o.guard = none) (d s : Operand)
    (ho : o.op = .call { callee := .builtin .copy, args := #[d, s], argTypes := #[T, S] })
    (B : Nat) (a0 a1 : Option Addr) (n m cap cap1 : Nat) (xs ys : List Int) (hd : a.eval d = .slice a0 n cap) (hs : a.eval s = .slice a1 m cap1)
    (hown : Own w B a0 n cap xs) (hhas : Has w a1 m cap1 ys) (hmn : m ≤ n)
    (h : ∀ w', Own w' B a0 n cap (over0 xs ys) → Below B w w' → wpList Try.prog ops Q rest (a.put o.dst (.int .i64 (m : Int))) w') :
    wpList Try.prog ops Q (o :: rest) a w := by
  have hlx := hown.len
  have hly := hhas.len
  obtain ⟨⟨h1, h2⟩, h3⟩ := hown
  obtain ⟨i0, hi, hz0, hz1, hz2⟩ := info_parts Try.infoInt
  have hsz : (Try.prog.info? 3).map (·.size) = some 1 := by rw [hi]; simp [hz1]
  rcases h2 with ⟨hv, hn⟩ | ⟨g, cap', cur, hv, hg, hh, hnc, hcm, hcs, htake⟩
  · simp at hv
    obtain ⟨rfl, _, rfl⟩ := hv
    obtain rfl : m = 0 := by omega
    refine wpList_copy_nothing hgd d s T S ho 3 hT hsz none a1 n 0 0 cap1 hd hs (by simp) ?_
    have hx : xs = [] := List.eq_nil_of_length_eq_zero (by omega)
    have hy : ys = [] := List.eq_nil_of_length_eq_zero (by omega)
    subst hx hy
    exact h w ⟨⟨h1, .inl ⟨by simp; omega, hn⟩⟩, h3⟩ (Below.refl _ _)
  · simp at hv
    obtain ⟨rfl, rfl⟩ := hv
    refine wpList_copy_splice hgd d s T S ho 3 hT hsz (some ⟨g, 0, none⟩) a1 n cap m cap1 hd hs g 0 cur.toList 3 (by simpa using hh) (ys.map (Value.int .i64)) (by rw [List.length_map, hly]; exact (Nat.min_eq_left hmn).symm) (fun hp => ⟨rfl, ?_⟩) (by simp; omega) (by intro v hv; obtain ⟨y, _, rfl⟩ := List.mem_map.1 hv; rfl) B w (Below.refl _ _) hg ?_
    · obtain ⟨b, off, rfl, _, _⟩ := hhas.2.2.2.2 (by simp at hp; omega)
      exact ⟨_, rfl, has_cells hhas⟩
    · intro w' hw' hb
      have e : (a.put o.dst (goInt (ys.map (Value.int .i64)).length)) = a.put o.dst (.int .i64 (m : Int)) := by simp [goInt, hly]
      rw [e]
      refine h w' ⟨⟨by rw [List.length_map, length_over0]; simpa using h1, .inr ⟨g, cap, _, rfl, hg, hw'.out, hnc, hcm, ?_, ?_⟩⟩, by rw [length_over0]; exact h3.1, h3.2⟩ hb
      · simp only [splice, Nat.zero_add, List.length_map]
        simp
        omega
      · have ht : cur.toList.take n = xs.map (Value.int .i64) := by simpa using htake
        simp only [splice, List.take_zero, List.nil_append, Nat.zero_add, List.length_map, Nat.mul_one, over0, List.map_append, List.map_take, List.map_drop]
        rw [List.take_append, List.take_of_length_le (by simp; omega), List.length_map, ← ht, List.take_of_length_le (l := ys.map (Value.int .i64)) (by simp; omega), List.drop_take]
theorem wpList_copy_ints {ops : Array Oper} {rest : List Oper} {o : Oper} {a : Act} {Q : Exit → Act → World → Prop} (w : World) (hgd : o.guard = none) (d s : Operand)
    (ho : o.op = .call { callee := .builtin .copy, args := #[d, s], argTypes := #[22, 22] })
    (B : Nat) (a0 a1 : Option Addr) (n m cap cap1 : Nat) (xs ys : List Int) (hd : a.eval d = .slice a0 n cap) (hs : a.eval s = .slice a1 m cap1)
    (hown : Own w B a0 n cap xs) (hhas : Has w a1 m cap1 ys) (hmn : m ≤ n)
    (h : ∀ w', Own w' B a0 n cap (over0 xs ys) → Below B w w' → wpList Try.prog ops Q rest (a.put o.dst (.int .i64 (m : Int))) w') :
    wpList Try.prog ops Q (o :: rest) a w := wpList_copy_intsT 22 22 Try.underlying22 w hgd d s ho B a0 a1 n m cap cap1 xs ys hd hs hown hhas hmn h

/-- 'make(T, n)' of integers. -/
theorem wpList_make_intsT (T : TypeId) (hT : Try.prog.underlying T = some (.slice 3)) {ops : Array Oper} {rest : List Oper} {o : Oper} {a : Act} {Q : Exit → Act → World → Prop} (w : World) (hgd : o.guard = none) (l c : Operand) (ho : o.op = Op.makeSlice T l c)
    (n : Nat) (hl : a.eval l = .int .i64 (n : Int)) (hc : a.eval c = .int .i64 (n : Int)) (hn : n ≤ 2097152)
    (h : ∀ a' cap' w', Own w' w.heap.size a' n cap' (List.replicate n 0) → Below w.heap.size w w' → wpList Try.prog ops Q rest (a.put o.dst (.slice a' n cap')) w') :
    wpList Try.prog ops Q (o :: rest) a w := by
  obtain ⟨i0, hi, hz0, hz1, hz2⟩ := info_parts Try.infoInt
  refine wpList_make_full (P := Try.prog) w hgd l c T ho w.heap.size 3 i0 (.int .i64 0) 1 hT hi hz0 hz1 .i64 .i64 n n n hl hc rfl rfl (by rw [hz2]; omega) (by unfold maxLen; omega) (Nat.le_refl _) ?_
  intro w' hown hgrow
  obtain ⟨a', cap', hv, ho'⟩ := own_of_row (xs := List.replicate n 0) hown (by simp) (by rw [show (Value.int IntKind.i64 0).cells = #[.int .i64 0] from rfl, toList_madeCells_one]; simp) (by simpa using hn)
  rw [hv]
  exact h _ _ _ ho' (below_grown hgrow (Nat.le_refl _) (by simp))
end Go.Proofs.Ytehdccfkkfkciaa

namespace Go.Proofs.Ytehdccfkkfkciaa
open Go.RowKit

theorem over0_candU {xs : List Int} {n c : Nat} (hn : xs.length = n) (hc : c < n) : (over0 (List.replicate n 0) (xs.take (c + 1))).set c (nth xs c + 1) = cand xs c := by
  refine ext_nth (by rw [List.length_set, length_over0, length_cand (by omega)]; simp [hn]) fun i hi => ?_
  rw [List.length_set, length_over0, List.length_replicate] at hi
  rw [nth_set (by rw [length_over0, List.length_replicate]; omega), over0_nth (by simp; omega)]
  have hl : (xs.take c).length = c := by simp; omega
  unfold cand
  by_cases e : c = i
  · subst e
    rw [if_pos rfl]
    simp only [nth, List.getD_eq_getElem?_getD]
    rw [List.getElem?_append_right (by omega)]
    simp [hl]
  · rw [if_neg e]
    by_cases h : i < c
    · rw [if_pos (by simp; omega), nth_take (by omega), nth_append_left (by omega), nth_take h]
    · rw [if_neg (by simp; omega)]
      simp only [nth, List.getD_eq_getElem?_getD]
      rw [List.getElem?_append_right (by omega), hl]
      obtain ⟨d, hd⟩ : ∃ d, i - c = d + 1 := ⟨i - c - 1, by omega⟩
      rw [hd]
      simp only [List.getElem?_cons_succ, List.getElem?_replicate]
      split <;> split <;> rfl

set_option maxRecDepth 100000 in
set_option maxHeartbeats 2000000 in
theorem nextU_any (a b : Option Addr) (n cap capb : Nat) (xs bs : List Int) (w : World) (h : Has w a n cap xs) (h' : Has w b n capb bs) (h8 : n ≤ 8) (hx : ∀ i, i < n → 0 ≤ nth xs i ∧ nth xs i ≤ 13) :
    Calls Try.prog 67 #[.slice a n cap, .slice b n capb] w (PostInts w (nextU bs xs n)) := by
  have HLEN := hid h.len
  have HX := hid hx
  have hcap := h.2.1
  have hmx : cap ≤ maxLen := h.2.2.1
  have hcapb := h'.2.1
  clear hx
  go_enter Try.func67, Try.ntmps67
  go_wp2_with fail
  go_loopw [6] (fun i wr => ∃ c : Nat, c ≤ n ∧ i = .int .i64 ((c : Int) - 1) ∧ Hid (nextU bs xs n = nextU bs xs c) ∧ Below w.heap.size w wr) (fun i _ => (intOf i + 1).toNat)
  case atStart => exact ⟨n, Nat.le_refl _, rfl, hid rfl, Below.refl _ _⟩
  case round =>
    obtain ⟨c, hc, rfl, HN, hb⟩ := hrel
    match c, hc, HN with
    | 0, hc, HN =>
      go_wp2_with fail
      go_ret2
      exact postInts_no (by rw [HN.out]; rfl) hb
    | c + 1, hc, HN =>
      have e : ((c + 1 : Nat) : Int) - 1 = (c : Int) := by omega
      rw [e]
      have hsz := hb.size
      have ht := (h.take (k := c + 1) (by omega)).below hb (Nat.le_refl _)
      have ht' := h'.below hb (Nat.le_refl _)
      obtain ⟨bk, off, rfl, hbb, hcc⟩ := h.2.2.2.2 (by omega)
      obtain ⟨x0, x1⟩ := HX.out c (by omega)
      have HC := hid (over0_candU HLEN.out (show c < n by omega))
      have HS : Hid (nextU bs xs (c + 1) = if und bs (cand xs c) then (cand xs c, true) else nextU bs xs c) := hid rfl
      have HUN : Hid (undTo (insSort (cand xs c)) bs n = und bs (cand xs c)) := hid (by unfold und; rw [length_cand (by rw [HLEN.out]; omega), HLEN.out])
      have hcn : (c : Int) < (n : Int) := by omega
      have hnth : nth (over0 (List.replicate n 0) (xs.take (c + 1))) c = nth xs c := by
        rw [over0_nth (by simp; omega), if_pos (by simp [HLEN.out]; omega), nth_take (by omega)]
      have HNTH := hid hnth
      clear e hcc hnth
      go_wp2_with (first
        | (at_make; refine wpList_make_ints _ rfl _ _ rfl n rfl rfl (by omega) ?_; intro a1 cap1 w1 hown1 hb1)
        | (with_reducible refine wpList_copy_ints _ rfl _ _ rfl wr.heap.size _ _ _ _ _ _ _ _ rfl rfl hown1 (ht.below hb1 (Nat.le_refl _)) (by omega) ?_; intro w2 hown2 hb2; obtain ⟨g1, rfl, hg1, hg2, hg3, hg4⟩ := hown2.opened (by omega); have hgk := hg3 c (by omega); rw [HNTH.out] at hgk; have hgf := hg4 c; clear hg3 hg4))
      obtain ⟨s1, s2⟩ := hown2.set c (nth xs c + 1)
      rw [HC.out] at s1
      have hb3 := (hb1.trans hb2).setCell (p := ⟨g1, c, none⟩) hg1 (.int .i64 (nth xs c + 1))
      clear hown1 hown2 hb1 hb2 s2 hgk hgf
      refine (isUnder_any _ _ _ _ _ _ _ _ _ s1.has (ht'.below hb3 (Nat.le_refl _)) (Nat.le_refl _)).mono ?_
      rw [HUN.out]
      rintro e w4 ⟨rfl, hb4⟩
      have s4 := s1.below hb4 (Nat.le_refl _)
      have hb5 := hb3.trans (hb4.mono hb3.size)
      have hbw := hb.trans (hb5.mono hsz)
      by_cases hp : und bs (cand xs c) = true
      · have HR : Hid (nextU bs xs n = (cand xs c, true)) := hid (by rw [HN.out, HS.out, if_pos hp])
        rw [hp]
        clear hp
        go_wp2_with fail
        go_ret2
        exact postInts HR.out (s4.mono hsz) hbw
      · have HR : Hid (nextU bs xs n = nextU bs xs c) := hid (by rw [HN.out, HS.out, if_neg hp])
        rw [Bool.eq_false_iff.2 hp]
        clear hp
        go_wp2_with fail
        go_roundw
        case rel => exact ⟨c, by omega, by go_num, HR, hbw⟩
        case measure => simp [intOf]

/-- The list behind, as far as laid out: from c on, those before i are new. -/
def SPartU (xs : List Int) (c i : Nat) (zs : List Int) : Prop := ∀ j, j < xs.length → nth zs j = if c ≤ j ∧ j < i then nth xs c + 1 else nth xs j
theorem spartU_step {xs zs : List Int} {c i : Nat} (h : SPartU xs c i zs) (hl : zs.length = xs.length) (hi : i < xs.length) (hc : c ≤ i) : SPartU xs c (i + 1) (zs.set i (nth xs c + 1)) := fun j hj => by
  rw [nth_set (by omega)]
  by_cases e : i = j
  · subst e; rw [if_pos rfl, if_pos ⟨hc, by omega⟩]
  · rw [if_neg e, h j hj]
    have : (c ≤ j ∧ j < i) = (c ≤ j ∧ j < i + 1) := by apply propext; omega
    simp only [this]
theorem spartU_done {xs zs : List Int} {c : Nat} (h : SPartU xs c xs.length zs) (hl : zs.length = xs.length) (hc : c < xs.length) : xs.take c ++ List.replicate (xs.length - c) (nth xs c + 1) = zs := by
  have hlt : (xs.take c).length = c := by simp; omega
  refine ext_nth (by simp; omega) fun j hj => ?_
  simp at hj
  rw [h j (by omega)]
  by_cases e : j < c
  · rw [nth_append_left (by omega), nth_take e, if_neg (by omega)]
  · rw [if_pos ⟨by omega, by omega⟩]
    simp only [nth, List.getD_eq_getElem?_getD]
    rw [List.getElem?_append_right (by omega), hlt, List.getElem?_replicate, if_pos (by omega)]
    rfl

end Go.Proofs.Ytehdccfkkfkciaa

namespace Go.Proofs.Ytehdccfkkfkciaa
open Go.RowKit

end Go.Proofs.Ytehdccfkkfkciaa

namespace Go.Proofs.Ytehdccfkkfkciaa
open Go.RowKit

theorem cut_below {xs : List Int} {j : Nat} (h1 : 1 ≤ j) : isCut xs j = ((below xs j : Int) == (j : Int)) := by
  unfold isCut
  rw [Bool.eq_iff_iff]
  simp
  omega

set_option maxHeartbeats 800000 in
theorem cutsOf_any (a : Option Addr) (n cap : Nat) (xs : List Int) (w : World) (h : Has w a n cap xs) :
    Calls Try.prog 28 #[.slice a n cap] w (PostInts w (cutsOf xs)) := by
  have HL := hid h.len
  have hle := h.le
  by_cases hg : isPark xs = true
  · have HR : Hid (cutsOf xs = (idxs (isCut xs) n, true)) := hid (by simp [cutsOf, hg, HL.out])
    have HG := hid hg
    clear hg
    go_enter Try.func28, Try.ntmps28
    go_wp2_with (go_at_call 37; refine (isParkingFunction_any _ _ _ _ _ h).mono ?_; rintro e w1 ⟨rfl, hb1⟩; rw [HG.out])
    have hh := h.below hb1 (Nat.le_refl _)
    go_loopw [4, 5] (fun o j wr => ∃ (k m : Nat) (a' : Option Addr) (cap' : Nat), 1 ≤ k ∧ (k ≤ n ∨ k = 1) ∧ m ≤ k ∧ j = .int .i64 k ∧ o = .slice a' m cap' ∧ Own wr w1.heap.size a' m cap' (idxs (isCut xs) k) ∧ Below w1.heap.size w1 wr) (fun _ j _ => n - (intOf j).toNat)
    case atStart => exact ⟨1, 0, none, 0, by omega, .inr rfl, by omega, rfl, rfl, by rw [idxs_one rfl]; exact Own.nil _ _, Below.refl _ _⟩
    case round =>
      obtain ⟨k, m, a', cap', hk1, hk, hm, rfl, rfl, hown, hb⟩ := hrel
      by_cases hlt : k < n
      · have HS := hid (idxs_succ (isCut xs) k)
        have HC := hid (cut_below (xs := xs) hk1)
        have hfl := below_le xs k
        rw [HL.out] at hfl
        by_cases ht : ((below xs k : Int) == (k : Int)) = true
        · rw [HC.out, if_pos ht] at HS
          go_wp2_with (first | (go_at_call 54; refine (countBelow_any _ _ _ _ _ _ (hh.below hb (Nat.le_refl _))).mono ?_; rintro e w' ⟨rfl, rfl⟩) | (at_builtin; refine wpList_append_int _ rfl _ _ rfl w1.heap.size _ _ _ _ _ rfl rfl hown (by omega) hb.size ?_; intro a2 cap2 w2 hown2 hb2))
          go_roundw
          case rel => exact ⟨k + 1, m + 1, a2, cap2, by omega, by omega, by omega, by go_num, rfl, by rw [HS.out]; exact hown2, hb.trans hb2⟩
          case measure => simp [intOf]; omega
        · have ht' : ((below xs k : Int) == (k : Int)) = false := Bool.eq_false_iff.2 ht
          rw [HC.out, if_neg ht, List.append_nil] at HS
          clear ht
          go_wp2_with (go_at_call 54; refine (countBelow_any _ _ _ _ _ _ (hh.below hb (Nat.le_refl _))).mono ?_; rintro e w' ⟨rfl, rfl⟩)
          go_roundw
          case rel => exact ⟨k + 1, m, _, _, by omega, by omega, by omega, by go_num, rfl, by rw [HS.out]; exact hown, hb⟩
          case measure => simp [intOf]; omega
      · have he : idxs (isCut xs) k = idxs (isCut xs) n := by
          rcases hk with hk | rfl
          · rw [show k = n by omega]
          · rcases (show n = 0 ∨ n = 1 by omega) with rfl | rfl
            · rw [idxs_one rfl]; rfl
            · rfl
        rw [he] at hown
        clear he
        go_wp2_with fail
        go_ret2
        exact postInts HR.out (hown.mono hb1.size) (hb1.trans (hb.mono hb1.size))
  · have HR : Hid (cutsOf xs = ([], false)) := hid (by simp [cutsOf, hg])
    have HG := hid hg
    clear hg
    go_enter Try.func28, Try.ntmps28
    go_wp2_with (go_at_call 37; refine (isParkingFunction_any _ _ _ _ _ h).mono ?_; rintro e w1 ⟨rfl, hb1⟩; rw [Bool.eq_false_iff.2 HG.out])
    go_ret2
    exact postInts_no HR.out hb1

set_option maxHeartbeats 1600000 in
theorem join_any (a b : Option Addr) (n m cap cap' : Nat) (xs ys : List Int) (w : World) (h : Has w a n cap xs) (h' : Has w b m cap' ys) :
    Calls Try.prog 29 #[.slice a n cap, .slice b m cap'] w (PostInts w (joinOf xs ys)) := by
  have hlx := h.len
  have hly := h'.len
  have hlex := h.le
  have hley := h'.le
  by_cases hx : isPark xs = true
  · have HX := hid hx
    by_cases hy : isPark ys = true
    · have HY := hid hy
      by_cases hnm : n + m ≤ 8
      · have HR := hid (join_yes hlx hly hx hy hnm)
        have hbd := park_bounds hly hy
        clear hx hy
        go_enter Try.func29, Try.ntmps29
        go_wp2_with fail
        refine (isParkingFunction_any _ _ _ _ _ h).mono ?_
        rintro e w1 ⟨rfl, hb1⟩
        rw [HX.out]
        go_wp2_with fail
        refine (isParkingFunction_any _ _ _ _ _ (h'.below hb1 (Nat.le_refl _))).mono ?_
        rintro e w2 ⟨rfl, hb2⟩
        rw [HY.out]
        have hbb := hb1.trans (hb2.mono hb1.size)
        have hx2 := h.below hbb (Nat.le_refl _)
        have hsz := hbb.size
        go_wp2_with (first | (at_make; refine wpList_make_room _ rfl _ _ rfl (n + m) rfl (congrArg (Value.int .i64) (Int.natCast_add n m).symm) (by omega) ?_; intro a3 cap3 w3 hown3 hb3) | (at_builtin; refine wpList_append_ints _ rfl _ _ rfl w2.heap.size _ _ _ _ _ _ [] xs rfl rfl hown3 (hx2.below hb3 (Nat.le_refl _)) (by omega) hb3.size ?_; intro a4 n4 cap4 w4 hn4 hown4 hb4))
        obtain rfl : n4 = n := by omega
        have hbd4 := hb3.trans (hb4.mono (Nat.le_refl _))
        have hbc := hbb.trans (hbd4.mono hsz)
        obtain ⟨k0, k1, k2, k3, k4⟩ := h'.below hbc (Nat.le_refl _)
        have HLY := hid k0
        have hsz4 := hbd4.size
        clear k0 hly hlx hb1 hb2
        go_wp2_with fail
        go_loopw [6, 36] (fun o i wr => ∃ (k : Nat) (a' : Option Addr) (cap' : Nat), k ≤ m ∧ i = .int .i64 k ∧ o = .slice a' (n4 + k) cap' ∧ Own wr w2.heap.size a' (n4 + k) cap' (xs ++ (shifted ys n4).take k) ∧ Below w2.heap.size w4 wr) (fun _ i _ => m - (intOf i).toNat)
        case atStart => exact ⟨0, _, _, Nat.zero_le _, rfl, rfl, by simpa using hown4, Below.refl _ _⟩
        case round =>
          obtain ⟨k, a', cap', hk, rfl, rfl, hown, hb⟩ := hrel
          by_cases hlt : k < m
          · obtain ⟨b2, off2, rfl, hbb2, hc2⟩ := k4 (by omega)
            have hblk : b2 < w.heap.size := by
              obtain ⟨_, _, _, _, q4⟩ := h'
              obtain ⟨b5, off5, e5, hlt5, _⟩ := q4 (by omega)
              have e6 : b2 = b5 := by cases e5; rfl
              omega
            have hdk : wr.cell? ⟨b2, off2 + k, none⟩ = some (.int .i64 (nth ys k)) := by rw [hb.cell (p := ⟨b2, off2 + k, none⟩) (by simp; omega)]; exact hc2 k hlt
            obtain ⟨hv0, hv1⟩ := hbd k hlt
            have HS := hid (shifted_succ (ys := ys) (d := n4) (k := k) (by rw [HLY.out]; omega))
            have hszr := hb.size
            clear hc2 k4 hbd
            clear hn4 hb3 hb4 hown3 hown4 hbd4 hbc
            go_wp2_with (at_builtin; refine wpList_append_int _ rfl _ _ rfl w2.heap.size _ _ _ _ _ rfl rfl hown (by omega) (by omega) ?_; intro a5 cap5 w5 hown5 hb5)
            go_roundw
            case rel => exact ⟨k + 1, a5, cap5, by omega, by go_num, rfl, by rw [HS.out, ← List.append_assoc]; exact hown5, hb.trans hb5⟩
            case measure => simp [intOf]; omega
          · obtain rfl : k = m := by omega
            rw [List.take_of_length_le (by rw [length_shifted, HLY.out]; omega)] at hown
            go_wp2_with fail
            go_ret2
            exact postInts HR.out (hown.mono hsz) (hbc.trans (hb.mono hsz))
      · have HR : Hid (joinOf xs ys = ([], false)) := hid (by simp [joinOf, hlx, hly, hnm])
        clear hx hy
        go_enter Try.func29, Try.ntmps29
        go_wp2_with fail
        refine (isParkingFunction_any _ _ _ _ _ h).mono ?_
        rintro e w1 ⟨rfl, hb1⟩
        rw [HX.out]
        go_wp2_with fail
        refine (isParkingFunction_any _ _ _ _ _ (h'.below hb1 (Nat.le_refl _))).mono ?_
        rintro e w2 ⟨rfl, hb2⟩
        rw [HY.out]
        go_wp2_with fail
        go_ret2
        exact postInts_no HR.out (hb1.trans (hb2.mono hb1.size))
    · have HR : Hid (joinOf xs ys = ([], false)) := hid (by simp [joinOf, hy])
      have HY := hid hy
      clear hy hx
      go_enter Try.func29, Try.ntmps29
      go_wp2_with fail
      refine (isParkingFunction_any _ _ _ _ _ h).mono ?_
      rintro e w1 ⟨rfl, hb1⟩
      rw [HX.out]
      go_wp2_with fail
      refine (isParkingFunction_any _ _ _ _ _ (h'.below hb1 (Nat.le_refl _))).mono ?_
      rintro e w2 ⟨rfl, hb2⟩
      rw [Bool.eq_false_iff.2 HY.out]
      go_wp2_with fail
      go_ret2
      exact postInts_no HR.out (hb1.trans (hb2.mono hb1.size))
  · have HR : Hid (joinOf xs ys = ([], false)) := hid (by simp [joinOf, hx])
    have HX := hid hx
    clear hx
    go_enter Try.func29, Try.ntmps29
    go_wp2_with fail
    refine (isParkingFunction_any _ _ _ _ _ h).mono ?_
    rintro e w1 ⟨rfl, hb1⟩
    rw [Bool.eq_false_iff.2 HX.out]
    go_wp2_with fail
    go_ret2
    exact postInts_no HR.out hb1
end Go.Proofs.Ytehdccfkkfkciaa

namespace Go.Proofs.Ytehdccfkkfkciaa
open Go.RowKit

theorem prime_yes {xs : List Int} {n : Nat} (hl : xs.length = n) (hn : 0 < n) {m : Nat} (hm : (idxs (isCut xs) n).length = m) : primeB xs = ((m : Int) == 0) := by
  subst hl
  unfold primeB
  rw [Bool.eq_iff_iff]
  simp only [Bool.and_eq_true, decide_eq_true_eq, beq_iff_eq]
  constructor
  · rintro ⟨_, h⟩; rw [h] at hm; simp at hm; omega
  · intro h; exact ⟨hn, List.eq_nil_of_length_eq_zero (by omega)⟩
theorem prime_no {xs : List Int} (h : xs.length = 0) : primeB xs = false := by simp [primeB, h]

set_option maxHeartbeats 400000 in
theorem vaPrime_any (a : Option Addr) (n cap : Nat) (xs : List Int) (w : World) (h : Has w a n cap xs) :
    Calls Try.prog 35 #[.slice a n cap] w (PostBool w (primeB xs)) := by
  have HL := hid h.len
  by_cases hn : 0 < n
  · have hn' : (0 : Int) < (n : Int) := by omega
    go_enter Try.func35, Try.ntmps35
    go_wp2_with fail
    refine (paCuts_any _ _ _ _ _ h).mono ?_
    rintro e w1 ⟨a1, m, cap1, rfl, hown, hb⟩
    have HR := hid (prime_yes HL.out hn hown.len)
    go_wp2_with fail
    go_ret
    exact postBool HR.out.symm hb
  · have hn' : ¬ (0 : Int) < (n : Int) := by omega
    have HR := hid (prime_no (xs := xs) (by rw [HL.out]; omega))
    go_enter Try.func35, Try.ntmps35
    go_wp2_with fail
    go_ret
    exact postBool HR.out.symm (Below.refl _ _)

set_option maxHeartbeats 400000 in
theorem specPrime_any (a : Option Addr) (n cap : Nat) (xs : List Int) (w : World) (h : Has w a n cap xs) :
    Calls Try.prog 9 #[.slice a n cap] w (PostBools w (primeOf xs)) := by
  by_cases hg : isPark xs = true
  · have HR : Hid (primeOf xs = (primeB xs, true)) := hid (by simp [primeOf, hg])
    have HG := hid hg
    clear hg
    go_enter Try.func9, Try.ntmps9
    go_wp2_with (go_at_call 34; refine (paParking_any _ _ _ _ _ h).mono ?_; rintro e w1 ⟨rfl, hb1⟩; rw [HG.out])
    refine (vaPrime_any _ _ _ _ _ (h.below hb1 (Nat.le_refl _))).mono ?_
    rintro e w2 ⟨rfl, hb2⟩
    go_wp2_with fail
    go_ret2
    exact postBools HR.out (hb1.trans (hb2.mono hb1.size))
  · have HR : Hid (primeOf xs = (false, false)) := hid (by simp [primeOf, hg])
    have HG := hid hg
    clear hg
    go_enter Try.func9, Try.ntmps9
    go_wp2_with (go_at_call 34; refine (paParking_any _ _ _ _ _ h).mono ?_; rintro e w1 ⟨rfl, hb1⟩; rw [Bool.eq_false_iff.2 HG.out])
    go_ret2
    exact postBools HR.out hb1

theorem cuts_yes {xs : List Int} {n : Nat} (h : isPark xs = true) (hl : xs.length = n) : cutsOf xs = (idxs (isCut xs) n, true) := by subst hl; simp [cutsOf, h]
theorem cuts_no {xs : List Int} (h : ¬ isPark xs = true) : cutsOf xs = ([], false) := by simp [cutsOf, h]
set_option maxHeartbeats 400000 in
theorem implPrime_any (a : Option Addr) (n cap : Nat) (xs : List Int) (w : World) (h : Has w a n cap xs) :
    Calls Try.prog 11 #[.slice a n cap] w (PostBools w (primeOf xs)) := by
  have HL := hid h.len
  by_cases hg : isPark xs = true
  · have HR : Hid (primeOf xs = (primeB xs, true)) := hid (by simp [primeOf, hg])
    have HC := hid (cuts_yes hg h.len)
    clear hg
    by_cases hn : 0 < n
    · have hn' : (0 : Int) < (n : Int) := by omega
      go_enter Try.func11, Try.ntmps11
      go_wp2_with fail
      refine (cutsOf_any _ _ _ _ _ h).mono ?_
      rw [HC.out]
      rintro e w1 ⟨a1, m, cap1, rfl, hown, hb⟩
      have HP := hid (prime_yes HL.out hn hown.len)
      go_wp2_with fail
      go_ret2
      exact postBools (by rw [HR.out, HP.out]) hb
    · have hn' : ¬ (0 : Int) < (n : Int) := by omega
      have HP := hid (prime_no (xs := xs) (by rw [HL.out]; omega))
      go_enter Try.func11, Try.ntmps11
      go_wp2_with fail
      refine (cutsOf_any _ _ _ _ _ h).mono ?_
      rw [HC.out]
      rintro e w1 ⟨a1, m, cap1, rfl, hown, hb⟩
      go_wp2_with fail
      go_ret2
      exact postBools (by rw [HR.out, HP.out]) hb
  · have HR : Hid (primeOf xs = (false, false)) := hid (by simp [primeOf, hg])
    have HC := hid (cuts_no hg)
    clear hg
    go_enter Try.func11, Try.ntmps11
    go_wp2_with fail
    refine (cutsOf_any _ _ _ _ _ h).mono ?_
    rw [HC.out]
    rintro e w1 ⟨a1, m, cap1, rfl, hown, hb⟩
    go_wp2_with fail
    go_ret2
    exact postBools HR.out hb

end Go.Proofs.Ytehdccfkkfkciaa

namespace Go.Proofs.Ytehdccfkkfkciaa
open Go.RowKit

set_option maxHeartbeats 800000 in
theorem primeBounds_any (n : Nat) (w : World) (hn : n ≤ 8) :
    Calls Try.prog 68 #[.int .i64 (n : Int)] w fun e w' => ∃ a' cap', e = .returned (.slice a' n cap') ∧ Own w' w.heap.size a' n cap' (pbs n) ∧ Below w.heap.size w w' := by
  have HN := hid (fun k (hk : k < n) => nth_pbs hk)
  have HLL := hid (length_pbs n)
  go_enter Try.func68, Try.ntmps68
  go_wp2_with (at_make; refine wpList_make_ints _ rfl _ _ rfl n rfl rfl (by omega) ?_; intro a1 cap1 w1 hown1 hb1)
  go_loopw [9] (fun i wr => ∃ (k : Nat) (zs : List Int), k ≤ n ∧ i = .int .i64 (k : Int) ∧ Own wr w.heap.size a1 n cap1 zs ∧ Hid (FromTo (pbs n) zs k) ∧ Below w.heap.size w wr) (fun i _ => n - (intOf i).toNat)
  case atStart => exact ⟨0, _, Nat.zero_le _, rfl, hown1, hid (fun i hi => by omega), hb1⟩
  case round =>
    clear hown1 hb1
    obtain ⟨k, zs, hk, rfl, hz, HF, hb⟩ := hrel
    by_cases hlt : k < n
    · obtain ⟨g1, rfl, hg1, hg2, hg3, hg4⟩ := hz.opened (by omega)
      have hgk := hg3 k hlt
      have hgf := hg4 k
      obtain ⟨s1, s2⟩ := hz.set k ((k - 1 : Nat) : Int)
      have HF2 : Hid (FromTo (pbs n) (zs.set k ((k - 1 : Nat) : Int)) (k + 1)) := hid (by
        intro i hi
        rw [nth_set (by rw [hz.len]; exact hlt)]
        by_cases e : k = i
        · subst e; rw [if_pos rfl, HN.out _ hlt]
        · rw [if_neg e]; exact HF.out i (by omega))
      have hb2 := hb.setCell (p := ⟨g1, k, none⟩) hg1 (.int .i64 ((k - 1 : Nat) : Int))
      have hw1 : IntKind.i64.wrap ((k : Int) - 1) = (k : Int) - 1 := by rw [IntKind.wrap_i64]; omega
      clear hg3 hg4
      have he1 : ((k - 1 : Nat) : Int) = max ((k : Int) - 1) 0 := by omega
      rw [he1] at s1 HF2 hb2
      go_wp2_with fail
      go_roundw
      case rel => exact ⟨k + 1, _, by omega, by go_num, s1, HF2, hb2⟩
      case measure => simp [intOf]; omega
    · obtain rfl : k = n := by omega
      have HE : Hid (pbs k = zs) := hid (ext_nth (by rw [HLL.out, hz.len]) fun i hi => (HF.out i (by rw [HLL.out] at hi; exact hi)).symm)
      go_wp2_with fail
      go_ret
      exact ⟨_, _, rfl, by rw [HE.out]; exact hz, hb⟩
theorem nextPrime_any (a : Option Addr) (n cap : Nat) (xs : List Int) (w : World) (h : Has w a n cap xs) (h8 : n ≤ 8) (hx : ∀ i, i < n → 0 ≤ nth xs i ∧ nth xs i ≤ 8) :
    Calls Try.prog 47 #[.slice a n cap] w (PostInts w (nextU (pbs n) xs n)) := by
  have HX := hid hx
  clear hx
  go_enter Try.func47, Try.ntmps47
  go_wp2_with fail
  refine (primeBounds_any n _ h8).mono ?_
  rintro e w1 ⟨a1, cap1, rfl, hown1, hb1⟩
  go_wp2_with fail
  refine (nextU_any _ _ _ _ _ _ _ _ (h.below hb1 (Nat.le_refl _)) hown1.has h8 (fun i hi => by have := HX.out i hi; omega)).mono ?_
  obtain ⟨⟨ys, ok⟩, hr⟩ : ∃ r, nextU (pbs n) xs n = r := ⟨_, rfl⟩
  rw [hr]
  have HR := hid hr
  clear hr
  rintro e w2 ⟨a2, m2, cap2, rfl, hown2, hb2⟩
  go_wp2_with fail
  go_ret2
  exact postInts HR.out (hown2.mono hb1.size) (hb1.trans (hb2.mono hb1.size))

set_option maxHeartbeats 4000000 in
theorem allPrimes_any (n : Nat) (L : List (List Int)) (hch : Chain (fun xs => nextU (pbs n) xs xs.length) L) (h8 : n ≤ 8) (hq : L.length ≤ 100000) (hv : ∀ k, k < L.length → (L.getD k []).length = n ∧ ∀ i, i < n → 0 ≤ nth (L.getD k []) i ∧ nth (L.getD k []) i ≤ 8)
    (w0 w : World) (a : Option Addr) (m cap : Nat) (xs : List Int) (hb0 : Below w0.heap.size w0 w) (hfirst : Own w w0.heap.size a m cap xs) (hx : L.getD 0 [] = xs) :
    Calls Try.prog 46 #[.slice a m cap, .func (.func 47) #[] #[]] w (PostRowsOnly w0 L) := by
  obtain ⟨hL0, hL1, hL2⟩ := hch
  have H1 := hid hL1
  have H2 := hid hL2
  have HV := hid hv
  have HX := hid hx
  clear hL1 hL2 hv hx
  go_enter Try.func46, Try.ntmps46
  go_wp2_with fail
  go_loopw [5, 6, 7] (fun o s b wr => ∃ (k : Nat) (wk : World) (a' : Option Addr) (cap' : Nat) (rs : List Rw) (a1 : Option Addr) (m1 c1 : Nat) (ys : List Int) (ok : Bool), k ≤ L.length ∧ o = .slice a' k cap' ∧ s = .slice a1 m1 c1 ∧ b = .bool ok ∧ Hid (ok = decide (k < L.length)) ∧
    OwnR wk w0.heap.size a' k cap' rs ∧ Hid (numsOf rs = L.take k) ∧ Below wk.heap.size wk wr ∧ w0.heap.size ≤ wk.heap.size ∧ Own wr wk.heap.size a1 m1 c1 ys ∧ Hid (k < L.length → L.getD k [] = ys) ∧ Below w0.heap.size w0 wr) (fun o _ _ _ => L.length + 1 - (match o with | .slice _ k _ => k | _ => 0))
  case atStart => exact ⟨0, w0, none, 0, [], a, m, cap, xs, true, Nat.zero_le _, rfl, rfl, rfl, hid (by simp [hL0]), OwnR.nil _ _, hid rfl, hb0, Nat.le_refl _, hfirst, hid (fun _ => HX.out), hb0⟩
  case round =>
    clear hb0 hfirst
    obtain ⟨k, wk, a', cap', rs, a1, m1, c1, ys, ok, hk, rfl, rfl, rfl, HOK, hrows, HR, hbk, hwk, hys, HY, hb⟩ := hrel
    by_cases hlt : k < L.length
    · obtain rfl : ok = true := by rw [HOK.out]; simp [hlt]
      obtain ⟨v1, v2⟩ := HV.out k hlt
      have hyl := HY.out hlt
      rw [hyl] at v1 v2
      obtain rfl : n = m1 := by rw [← v1]; exact hys.len
      have V2 := hid v2
      have V1 := hid v1
      have HYL := hid hyl
      have HT := hid (take_getD hlt)
      have HR' : Hid (numsOf rs ++ [ys] = L.take (k + 1)) := hid (by rw [HT.out, HR.out, HYL.out])
      have hlen := hrows.len
      have HLEN := hid hlen
      clear v1 v2 hyl hlen
      go_wp2_with (at_builtin; refine wpList_append_row wk wr rfl _ _ rfl w0.heap.size _ _ _ _ _ _ _ _ rfl rfl hrows hbk hys (by omega) hwk ?_; intro a2 cap2 w2 hrows2 hb2)
      have hrow : Has w2 a1 n c1 ys := by
        have := hrows2.has.2.2.2.2.2 k (by omega)
        rw [nthR_append_right (by rw [HLEN.out]; exact Nat.le_refl _), HLEN.out, Nat.sub_self, nthR_one] at this
        simpa [V1.out] using this
      refine (nextPrime_any _ _ _ _ _ hrow h8 V2.out).mono ?_
      have hw2 : w0.heap.size ≤ w2.heap.size := Nat.le_trans (Nat.le_trans hwk hbk.size) hb2.size
      have hbw := hb.trans hb2
      by_cases hk1 : k + 1 < L.length
      · have HF := H1.out k hk1
        rw [HYL.out] at HF
        simp only [V1.out] at HF
        rw [HF]
        rintro e w3 ⟨a3, m3, cap3, rfl, hown3, hb3⟩
        clear HF
        go_wp2_with fail
        go_roundw
        case rel => exact ⟨k + 1, w2, a2, cap2, _, a3, m3, cap3, _, true, by omega, rfl, rfl, rfl, hid (by simp [hk1]), hrows2, hid (by rw [← HR'.out]; simp [numsOf]), hb3, hw2, hown3, hid (fun _ => rfl), hbw.trans (hb3.mono hw2)⟩
        case measure => simp; omega
      · have HF := H2.out
        rw [show L.length - 1 = k by omega, HYL.out] at HF
        simp only [V1.out] at HF
        rw [HF]
        rintro e w3 ⟨a3, m3, cap3, rfl, hown3, hb3⟩
        clear HF
        go_wp2_with fail
        go_roundw
        case rel => exact ⟨k + 1, w2, a2, cap2, _, a3, m3, cap3, _, false, by omega, rfl, rfl, rfl, hid (by simp [hk1]), hrows2, hid (by rw [← HR'.out]; simp [numsOf]), hb3, hw2, hown3, hid (fun h => absurd h hk1), hbw.trans (hb3.mono hw2)⟩
        case measure => simp; omega
    · obtain rfl : ok = false := by rw [HOK.out]; simp [hlt]
      have HE : Hid (numsOf rs = L) := hid (by rw [HR.out, List.take_of_length_le (by omega)])
      go_wp2_with fail
      go_ret
      exact ⟨a', k, cap', rs, rfl, hrows.below hbk (Nat.le_refl _), HE.out, hb⟩


theorem primes_facts {n : Nat} (h0 : 0 < n) (h5 : n ≤ 5) : Chain (fun xs => nextU (pbs n) xs xs.length) ((listL n n []).filter primeB) ∧ ((listL n n []).filter primeB).length ≤ 100000 ∧ ((listL n n []).filter primeB).getD 0 [] = List.replicate n 0 ∧
    ∀ k, k < ((listL n n []).filter primeB).length → (((listL n n []).filter primeB).getD k []).length = n ∧ ∀ i, i < n → 0 ≤ nth (((listL n n []).filter primeB).getD k []) i ∧ nth (((listL n n []).filter primeB).getD k []) i ≤ 8 := by
  obtain ⟨c1, c2, c3, c4⟩ := allB_chain (pbs_bnd n)
  rw [prime_list n (by omega) h0] at c1 c2 c3 c4
  rw [length_pbs] at c2
  have hc : cntB (pbs n) ≤ 100000 := by
    rw [cnt_prime n (by omega) h0]
    rcases (by omega : n = 1 ∨ n = 2 ∨ n = 3 ∨ n = 4 ∨ n = 5) with rfl | rfl | rfl | rfl | rfl <;> decide
  refine ⟨c1, by omega, c2, fun k hk => ?_⟩
  obtain ⟨_, _, d3, d4⟩ := c4 k hk
  rw [length_pbs] at d4
  refine ⟨d4, fun i hi => ?_⟩
  have h1 := und_len (pbs_bnd n) (by rw [length_pbs]; exact d4) d3 _ (nth_mem (xs := ((listL n n []).filter primeB).getD k []) (i := i) (by omega))
  have h2 : numB (pbs n) ≤ 8 := by rcases (by omega : n = 1 ∨ n = 2 ∨ n = 3 ∨ n = 4 ∨ n = 5) with rfl | rfl | rfl | rfl | rfl <;> decide
  omega
theorem allPrime_yes {n : Nat} (h : inB (n : Int) 1 5 = true) : allPrimeOf n = ((listL n n []).filter primeB, true) := by simp [allPrimeOf, h]
theorem allPrime_no {n : Int} (h : ¬ inB n 1 5 = true) : allPrimeOf n = ([], false) := by simp [allPrimeOf, h]
set_option maxHeartbeats 800000 in
theorem implAllPrime_any (n : Int) (w : World) : Calls Try.prog 22 #[.int .i64 n] w (PostRows w (allPrimeOf n)) := by
  by_cases hg : inB n 1 5 = true
  · obtain ⟨m, rfl⟩ : ∃ m : Nat, n = (m : Int) := ⟨n.toNat, by have := inB_iff.1 hg; omega⟩
    obtain ⟨h1, h5⟩ := inB_iff.1 hg
    have HA := hid (allPrime_yes hg)
    obtain ⟨f1, f2, f3, f4⟩ := primes_facts (n := m) (by omega) (by omega)
    have F1 := hid f1
    have F2 := hid f2
    have F3 := hid f3
    have F4 := hid f4
    have h1' : ¬ (m : Int) < 1 := by omega
    have h5' : ¬ (5 : Int) < (m : Int) := by omega
    clear hg f1 f2 f3 f4
    generalize (listL m m []).filter primeB = L at *
    go_enter Try.func22, Try.ntmps22
    go_wp2_with (at_make; refine wpList_make_ints _ rfl _ _ rfl m rfl rfl (by omega) ?_; intro a1 cap1 w1 hown1 hb1)
    refine (allPrimes_any m L F1.out (by omega) F2.out F4.out w w1 _ _ _ _ hb1 hown1 F3.out).mono ?_
    rintro e w6 ⟨a6, q6, cap6, rs6, rfl, hown6, hn6, hb6⟩
    go_wp2_with fail
    go_ret2
    exact postRows HA.out hown6 hn6 hb6
  · have HA := hid (allPrime_no hg)
    have hc := inB_not.1 (Bool.eq_false_iff.2 hg)
    clear hg
    by_cases h1 : n < 1
    · go_enter Try.func22, Try.ntmps22
      go_wp2_with fail
      go_ret2
      exact postRows_no HA.out (Below.refl _ _)
    · have h2 : (5 : Int) < n := by omega
      go_enter Try.func22, Try.ntmps22
      go_wp2_with fail
      go_ret2
      exact postRows_no HA.out (Below.refl _ _)
theorem filter_take_yes {L : List (List Int)} {p : List Int → Bool} {k : Nat} (h : k < L.length) (hp : p (L.getD k []) = true) : (L.take (k + 1)).filter p = (L.take k).filter p ++ [L.getD k []] := by
  rw [take_getD h, List.filter_append, List.filter_cons, if_pos hp]
  rfl
theorem filter_take_no {L : List (List Int)} {p : List Int → Bool} {k : Nat} (h : k < L.length) (hp : p (L.getD k []) = false) : (L.take (k + 1)).filter p = (L.take k).filter p := by
  rw [take_getD h, List.filter_append, List.filter_cons, if_neg (by rw [hp]; simp)]
  exact List.append_nil _
/-- The rows that are kept: some of those before k. -/
def Among9 (rs ss : List Rw) (k : Nat) : Prop := ∀ i, i < ss.length → ∃ j, j < k ∧ nthR ss i = nthR rs j
theorem among_aside {w : World} {B : Nat} {a : Option Addr} {n cap : Nat} {rs ss : List Rw} {k : Nat} (h : OwnR w B a n cap rs) (ha : Among9 rs ss k) (hk : k < n) : Aside ss (nthR rs k).a := fun i hi p q hp hq => by
  obtain ⟨j, hj, e⟩ := ha i hi
  rw [e] at hp
  exact h.2.2.2.2 j k p q hj hk hp hq
theorem among_snoc {rs ss : List Rw} {k : Nat} (ha : Among9 rs ss k) : Among9 rs (ss ++ [nthR rs k]) (k + 1) := fun i hi => by
  by_cases e : i < ss.length
  · rw [nthR_append_left e]
    obtain ⟨j, hj, e2⟩ := ha i e
    exact ⟨j, by omega, e2⟩
  · rw [nthR_append_right (by omega)]
    have : i - ss.length = 0 := by simp at hi; omega
    rw [this, nthR_one]
    exact ⟨k, by omega, rfl⟩
set_option maxHeartbeats 4000000 in
theorem specAllPrime_any (n : Int) (w : World) : Calls Try.prog 21 #[.int .i64 n] w (PostRows w (allPrimeOf n)) := by
  by_cases hg : inB n 1 5 = true
  · obtain ⟨m, rfl⟩ : ∃ m : Nat, n = (m : Int) := ⟨n.toNat, by have := inB_iff.1 hg; omega⟩
    have hm : m ≤ 5 := by have := inB_iff.1 hg; omega
    have HA := hid (allPrime_yes hg)
    have HG := hid hg
    clear hg
    go_enter Try.func21, Try.ntmps21
    go_wp2_with (go_at_call 42; refine (l1In_any _ _ _ _).mono ?_; rintro e w' ⟨rfl, rfl⟩; rw [HG.out])
    refine (cnAll_any m hm m 0 none 0 [] _ (by omega) (Has.nilAt none (by unfold maxLen; omega)) (hid (fun i hi => by omega))).mono ?_
    rintro e w2 ⟨a2, q2, cap2, rs2, rfl, hown2, hn2, hb2⟩
    have hlen := hown2.len
    have hle2 := hown2.le
    have HN2 := hid hn2
    have HLQ : Hid (q2 = (listL m m []).length) := hid (by rw [← hn2]; simp [numsOf, hlen])
    have HLEN := hid hlen
    have HO := hid hown2
    have hlt2 := hown2.lt
    have HLT := hid hlt2
    have hsz2 := hb2.size
    have HC := hown2.has
    clear hn2 hlen hlt2 hown2
    generalize listL m m [] = L at *
    go_wp2_with fail
    go_loopw [4, 13] (fun o i wr => ∃ (k q : Nat) (a' : Option Addr) (cap' : Nat) (ss : List Rw), k ≤ q2 ∧ q ≤ k ∧ i = .int .i64 (k : Int) ∧ o = .slice a' q cap' ∧ OwnR wr w.heap.size a' q cap' ss ∧ BlkGe a' w2.heap.size ∧ Hid (numsOf ss = (L.take k).filter primeB) ∧ Hid (Among9 rs2 ss k) ∧ Below w2.heap.size w2 wr) (fun _ i _ => q2 - (intOf i).toNat)
    case atStart => exact ⟨0, 0, none, 0, [], Nat.zero_le _, Nat.le_refl _, rfl, rfl, OwnR.nil _ _, (fun p hp => by cases hp), hid rfl, hid (fun i hi => by simp at hi), Below.refl _ _⟩
    case round =>
      obtain ⟨k, q, a', cap', ss, hk, hqk, rfl, rfl, hown, hge, HNU, HAM, hb⟩ := hrel
      by_cases hlt : k < q2
      · have hkL : k < L.length := by rw [← HLQ.out]; exact hlt
        have hrow := HO.out.row hlt
        have hrowr := hrow.has.below hb (Nat.le_refl _)
        have hrowo := hrow.below hb (Nat.le_refl _)
        have HXS : Hid ((nthR rs2 k).xs = L.getD k []) := hid (by rw [← HN2.out, numsOf_nth (by rw [HLEN.out]; exact hlt)])
        have FY := hid (fun h => filter_take_yes (p := primeB) hkL h)
        have FN := hid (fun h => filter_take_no (p := primeB) hkL h)
        have AS := hid (among_aside HO.out HAM.out hlt)
        have AS2 := hid (among_snoc HAM.out)
        obtain ⟨b2, off2, rfl, hbb2, hc2⟩ := HC.2.2.2.2.1 (by omega)
        have hck : wr.cell? ⟨b2, off2 + k, none⟩ = some (.slice (nthR rs2 k).a (nthR rs2 k).xs.length (nthR rs2 k).c) := by rw [hb.cell (p := ⟨b2, off2 + k, none⟩) hbb2]; exact hc2 k hlt
        have hbs := hb.size
        obtain ⟨a5, n5, c5, hrk⟩ : ∃ a5 n5 c5, (nthR rs2 k).a = a5 ∧ (nthR rs2 k).xs.length = n5 ∧ (nthR rs2 k).c = c5 := ⟨_, _, _, rfl, rfl, rfl⟩
        obtain ⟨e1, e2, e3⟩ := hrk
        have HRK : Hid (nthR rs2 k = ⟨a5, c5, (nthR rs2 k).xs⟩) := hid (by rw [← e1, ← e3])
        rw [e1, e2, e3] at hck hrowr hrowo
        rw [e1] at AS
        rw [HRK.out] at AS2
        rw [HXS.out] at hrowr hrowo AS2
        clear hc2 hrow e1 e2 e3
        generalize L.getD k [] = ys at *
        by_cases hp : primeB ys = true
        · have HP := hid hp
          have HF := hid (FY.out hp)
          clear hp FY FN
          go_wp2_with fail
          refine (vaPrime_any _ _ _ _ _ hrowr).mono ?_
          rintro e w5 ⟨rfl, hb5⟩
          rw [HP.out]
          go_wp2_with (at_builtin; refine wpList_append_rowA _ rfl _ _ rfl w.heap.size w2.heap.size _ _ _ _ _ _ _ _ rfl rfl (hown.below hb5 (Nat.le_refl _)) (hrowo.below hb5 (Nat.le_refl _) |>.mono (Nat.le_refl _)) AS.out (by omega) hge hsz2 (Nat.le_trans hbs hb5.size) ?_; intro a6 cap6 w6 hown6 hge6 hb6)
          go_roundw
          case rel => exact ⟨k + 1, q + 1, a6, cap6, _, by omega, by omega, by go_num, rfl, hown6, hge6, hid (by rw [numsOf_app, HNU.out, HF.out]; rfl), AS2, (hb.trans (hb5.mono hbs)).trans hb6⟩
          case measure => simp [intOf]; omega
        · have HP := hid hp
          have HF := hid (FN.out (Bool.eq_false_iff.2 hp))
          clear hp FY FN
          go_wp2_with fail
          refine (vaPrime_any _ _ _ _ _ hrowr).mono ?_
          rintro e w5 ⟨rfl, hb5⟩
          rw [Bool.eq_false_iff.2 HP.out]
          go_wp2_with fail
          go_roundw
          case rel => exact ⟨k + 1, q, a', cap', ss, by omega, by omega, by go_num, rfl, hown.below hb5 (Nat.le_refl _), hge, hid (by rw [HNU.out, HF.out]), hid (fun i hi => by obtain ⟨j, hj, e⟩ := HAM.out i hi; exact ⟨j, by omega, e⟩), hb.trans (hb5.mono hbs)⟩
          case measure => simp [intOf]; omega
      · obtain rfl : k = q2 := by omega
        have HF : Hid (numsOf ss = L.filter primeB) := hid (by rw [HNU.out, List.take_of_length_le (by rw [← HLQ.out]; exact Nat.le_refl _)])
        go_wp2_with fail
        go_ret2
        exact postRows HA.out hown HF.out (hb2.trans (hb.mono hsz2))
  · have HA := hid (allPrime_no hg)
    have HG := hid hg
    clear hg
    go_enter Try.func21, Try.ntmps21
    go_wp2_with (go_at_call 42; refine (l1In_any _ _ _ _).mono ?_; rintro e w' ⟨rfl, rfl⟩; rw [Bool.eq_false_iff.2 HG.out])
    go_ret2
    exact postRows_no HA.out (Below.refl _ _)
end Go.Proofs.Ytehdccfkkfkciaa

namespace Go.Proofs.Ytehdccfkkfkciaa
open Go.RowKit

theorem gcd_tableB : ∀ m, m < 7 → ∀ q, q < 14 → 1 ≤ m → (List.range (m + 1)).all (fun t => !(decide (2 ≤ t) && decide (m % t = 0) && decide (q % t = 0))) = decide (Nat.gcd m q = 1) := by decide +kernel
theorem gcd_table {m q : Nat} (hm : m < 7) (hq : q < 14) (h1 : 1 ≤ m) : (∀ t, t < m + 1 → 2 ≤ t → ¬ (m % t = 0 ∧ q % t = 0)) ↔ Nat.gcd m q = 1 := by
  have h := gcd_tableB m hm q hq h1
  rw [← decide_eq_true_eq (p := Nat.gcd m q = 1), ← h, List.all_eq_true]
  constructor
  · intro hh t ht
    have := hh t (List.mem_range.1 ht)
    simp only [Bool.not_eq_true', Bool.and_eq_false_iff, decide_eq_false_iff_not]
    omega
  · intro hh t ht h2
    have := hh t (List.mem_range.2 ht)
    simp only [Bool.not_eq_true', Bool.and_eq_false_iff, decide_eq_false_iff_not] at this
    omega
theorem slB_out1 {n a : Int} (h : ¬ inB n 1 6 = true) : slB n a = false := by simp [slB, h]
theorem slB_out2 {n a : Int} (h : ¬ inB a 1 13 = true) : slB n a = false := by simp [slB, h]

theorem bnds_prod {n a k : Nat} (hn : n ≤ 6) (ha : a ≤ 13) (hk : k < n) : k * a ≤ 78 ∧ k * a / n ≤ 78 := by
  have h := Nat.mul_le_mul (show k ≤ 6 by omega) ha
  exact ⟨h, Nat.le_trans (Nat.div_le_self _ _) h⟩

theorem goodSl_no1 {xs : List Int} {a : Int} (h : ¬ slB xs.length a = true) : goodSl xs a = false := by simp [goodSl, h]
theorem goodSl_no2 {xs : List Int} {a : Int} (h : ¬ allB xs 0 (a - 1) = true) : goodSl xs a = false := by
  rw [Bool.eq_false_iff]
  intro hg
  simp only [goodSl, Bool.and_eq_true] at hg
  obtain ⟨m, q, h1, rfl, h3⟩ := slB_iff.1 hg.1
  have hm : xs.length = m := by omega
  obtain ⟨_, ⟨a1, _⟩, _⟩ := slN_iff.1 h3
  refine h (allB_iff.2 fun x hx => ?_)
  have := und_len (bnds_bnd _ _) (by rw [length_bnds]) hg.2 x hx
  have := numB_slope (n := xs.length) (a := q) a1
  rw [Int.toNat_natCast] at *
  omega
theorem goodSl_yes {xs : List Int} {n q : Nat} (hl : xs.length = n) (h : slB (n : Int) (q : Int) = true) : goodSl xs q = undTo (insSort xs) (bnds n q) n := by
  subst hl
  simp [goodSl, h, und]
theorem sort_nonneg {xs : List Int} {hi : Int} {n : Nat} (h : allB xs 0 hi = true) (hl : xs.length = n) : ∀ i, i < n → 0 ≤ nth (insSort xs) i := fun i hi => by
  have := length_insSort xs
  exact (allB_iff.1 h _ ((insSort_perm xs).mem_iff.1 (nth_mem (by omega)))).1
theorem slB_parts {n : Nat} {a : Int} (h : slB (n : Int) a = true) : ∃ q : Nat, a = (q : Int) ∧ slN n q = true ∧ (1 ≤ n ∧ n ≤ 6) ∧ 1 ≤ q ∧ q ≤ 13 := by
  obtain ⟨m, q, h1, rfl, h3⟩ := slB_iff.1 h
  have : n = m := by omega
  subst this
  obtain ⟨a1, a2, _⟩ := slN_iff.1 h3
  exact ⟨q, rfl, h3, a1, a2⟩

theorem most_bound {m q : Nat} (hm : m ≤ 6) (hq : q ≤ 13) (h1 : 1 ≤ m) (h2 : 1 ≤ q) : 0 ≤ ((m : Int) - 1) * ((q : Int) - 1) ∧ ((m : Int) - 1) * ((q : Int) - 1) ≤ 60 := by
  have h := Nat.mul_le_mul (show m - 1 ≤ 5 by omega) (show q - 1 ≤ 12 by omega)
  rw [show (m : Int) - 1 = ((m - 1 : Nat) : Int) by omega, show (q : Int) - 1 = ((q - 1 : Nat) : Int) by omega, ← Int.natCast_mul]
  omega

theorem chs_next18 : ∀ n, n < 19 → ∀ i, i < n → chs n i * (n - i) = chs n (i + 1) * (i + 1) := by decide +kernel
theorem chs_times18 : ∀ n, n < 19 → ∀ i, i < n → chs n i * (n - i) ≤ 1000000 := by decide +kernel
theorem chs_small18 : ∀ n, n < 19 → ∀ i, i < 19 → chs n i ≤ 48620 := by decide +kernel
/-- The next choice by the formula that goes up: n - k + i over i. -/
theorem chs_up : ∀ n, n < 19 → ∀ k, k < 7 → k ≤ n → ∀ i, i < k → chs (n - k + i) i * (n - k + i + 1) = chs (n - k + (i + 1)) (i + 1) * (i + 1) := by decide +kernel
theorem chs_upB : ∀ n, n < 19 → ∀ k, k < 7 → k ≤ n → ∀ i, i < k + 1 → chs (n - k + i) i ≤ 48620 := by decide +kernel

theorem chs_slope {m q : Nat} (hm : 1 ≤ m ∧ m ≤ 6) (hq : 1 ≤ q ∧ q ≤ 13) : chs (m + q - 1) (m - 1) ≤ 48620 := chs_small18 _ (by omega) _ (by omega)

end Go.Proofs.Ytehdccfkkfkciaa

namespace Go.Proofs.Ytehdccfkkfkciaa
open Go.RowKit

set_option maxHeartbeats 400000 in
theorem pow_any (b k : Nat) (B K : Int) (w : World) (hB : B = (b : Int)) (hK : K = (k : Int)) (hb : b ≤ 13) (hk : k ≤ 8) :
    Calls Try.prog 44 #[.int .i64 B, .int .i64 K] w fun e w' => e = .returned (.int .i64 ((b ^ k : Nat) : Int)) ∧ w = w' := by
  subst hB hK
  go_enter Try.func44, Try.ntmps44
  go_wp2_with fail
  go_loop [5, 7] (fun o i => ∃ j : Nat, j ≤ k ∧ i = .int .i64 (j : Int) ∧ o = .int .i64 ((b ^ j : Nat) : Int)) (fun _ i => k - (intOf i).toNat)
  case atStart => exact ⟨0, Nat.zero_le _, rfl, by simp⟩
  case round =>
    obtain ⟨j, hj, rfl, rfl⟩ := hrel
    have hp := pow_small b (by omega) j (by omega)
    by_cases hlt : j < k
    · have hq := pow_small b (by omega) (j + 1) (by omega)
      have HP : Hid (((b ^ (j + 1) : Nat) : Int) = ((b ^ j : Nat) : Int) * (b : Int)) := hid (by rw [Nat.pow_succ, Int.natCast_mul])
      obtain ⟨q, hqe⟩ : ∃ q, b ^ (j + 1) = q := ⟨_, rfl⟩
      have HQ := hid hqe
      rw [hqe] at hq HP
      clear hqe
      have hq1 : ((b ^ j : Nat) : Int) * (b : Int) ≤ 815730721 := by rw [← HP.out]; exact Int.ofNat_le.2 hq
      have hq0 : 0 ≤ ((b ^ j : Nat) : Int) * (b : Int) := by rw [← HP.out]; exact Int.natCast_nonneg _
      clear hq
      generalize b ^ j = p at *
      go_wp2_with fail
      go_round
      case rel => exact ⟨j + 1, by omega, by go_num, by rw [HQ.out, HP.out]⟩
      case measure => simp [intOf]; omega
    · obtain rfl : j = k := by omega
      go_wp2_with fail
      go_ret
      exact ⟨rfl, rfl⟩

end Go.Proofs.Ytehdccfkkfkciaa

namespace Go.Proofs.Ytehdccfkkfkciaa
open Go.RowKit

theorem cntPrime_yes {n : Int} (h : inB n 1 8 = true) : cntPrimeOf n = ((((n.toNat - 1) ^ (n.toNat - 1) : Nat) : Int), true) := by simp [cntPrimeOf, h]
theorem cntPrime_no {n : Int} (h : ¬ inB n 1 8 = true) : cntPrimeOf n = (0, false) := by simp [cntPrimeOf, h]
set_option maxHeartbeats 400000 in
theorem specCntPrime_any (n : Int) (w : World) : Calls Try.prog 19 #[.int .i64 n] w (PostInt w (cntPrimeOf n)) := by
  by_cases hg : inB n 1 8 = true
  · obtain ⟨m, rfl⟩ : ∃ m : Nat, n = (m : Int) + 1 := ⟨(n - 1).toNat, by have := inB_iff.1 hg; omega⟩
    have hm : m ≤ 7 := by have := inB_iff.1 hg; omega
    have HA : Hid (cntPrimeOf ((m : Int) + 1) = (((m ^ m : Nat) : Int), true)) := hid (by rw [cntPrime_yes hg, show ((m : Int) + 1).toNat - 1 = m by omega])
    have hwr : IntKind.i64.wrap ((m : Int) + 1 - 1) = (m : Int) := by rw [IntKind.wrap_i64]; omega
    have he : (m : Int) + 1 - 1 = (m : Int) := by omega
    have HG := hid hg
    clear hg
    go_enter Try.func19, Try.ntmps19
    go_wp2_with (first | (go_at_call 42; refine (l1In_any _ _ _ _).mono ?_; rintro e w' ⟨rfl, rfl⟩; rw [HG.out]) | (go_at_call 43; refine (cnPower_any m m _ (by omega) (by omega)).mono ?_; rintro e w' ⟨rfl, rfl⟩))
    go_ret2
    exact postInt HA.out (Below.refl _ _)
  · have HA := hid (cntPrime_no hg)
    have HG := hid hg
    clear hg
    go_enter Try.func19, Try.ntmps19
    go_wp2_with (go_at_call 42; refine (l1In_any _ _ _ _).mono ?_; rintro e w' ⟨rfl, rfl⟩; rw [Bool.eq_false_iff.2 HG.out])
    go_ret2
    exact postInt HA.out (Below.refl _ _)

set_option maxHeartbeats 400000 in
theorem implCntPrime_any (n : Int) (w : World) : Calls Try.prog 20 #[.int .i64 n] w (PostInt w (cntPrimeOf n)) := by
  by_cases hg : inB n 1 8 = true
  · obtain ⟨m, rfl⟩ : ∃ m : Nat, n = (m : Int) + 1 := ⟨(n - 1).toNat, by have := inB_iff.1 hg; omega⟩
    have hm : m ≤ 7 := by have := inB_iff.1 hg; omega
    have HA : Hid (cntPrimeOf ((m : Int) + 1) = (((m ^ m : Nat) : Int), true)) := hid (by rw [cntPrime_yes hg, show ((m : Int) + 1).toNat - 1 = m by omega])
    have hwr : IntKind.i64.wrap ((m : Int) + 1 - 1) = (m : Int) := by rw [IntKind.wrap_i64]; omega
    have he : (m : Int) + 1 - 1 = (m : Int) := by omega
    have h1 : ¬ (m : Int) + 1 < 1 := by omega
    have h2 : ¬ (8 : Int) < (m : Int) + 1 := by omega
    clear hg
    go_enter Try.func20, Try.ntmps20
    go_wp2_with (go_at_call 44; refine (pow_any m m _ _ _ rfl rfl (by omega) (by omega)).mono ?_; rintro e w' ⟨rfl, rfl⟩)
    go_ret2
    exact postInt HA.out (Below.refl _ _)
  · have HA := hid (cntPrime_no hg)
    have hc := inB_not.1 (Bool.eq_false_iff.2 hg)
    clear hg
    by_cases h1 : n < 1
    · go_enter Try.func20, Try.ntmps20
      go_wp2_with fail
      go_ret2
      exact postInt HA.out (Below.refl _ _)
    · have h2 : (8 : Int) < n := by omega
      go_enter Try.func20, Try.ntmps20
      go_wp2_with fail
      go_ret2
      exact postInt HA.out (Below.refl _ _)

end Go.Proofs.Ytehdccfkkfkciaa

namespace Go.Proofs.Ytehdccfkkfkciaa
open Go.RowKit

/-- Whether the bytes are too many. -/
def Big (n m : Nat) (w : World) (e : Ending) (w' : World) : Prop := ∃ r : Bool, e = .returned (.bool r) ∧ (r = false → n + m ≤ 1048576) ∧ w = w'

theorem big_any (a b : Option Addr) (n m cap cap' : Nat) (w : World) (hn : n ≤ 9223372036854775807) :
    Calls Try.prog 25 #[.slice a n cap, .slice b m cap'] w (Big n m w) := by
  by_cases h1 : (1048576 : Int) < (n : Int)
  · go_enter Try.func25, Try.ntmps25
    go_wp2_with fail
    go_ret
    exact ⟨true, ret_bool (by simp), by simp, rfl⟩
  · by_cases h2 : (1048576 : Int) - n < (m : Int)
    · go_enter Try.func25, Try.ntmps25
      go_wp2_with fail
      go_ret
      exact ⟨true, ret_bool (by simp), by simp, rfl⟩
    · go_enter Try.func25, Try.ntmps25
      go_wp2_with fail
      go_ret
      exact ⟨false, ret_bool (by simp), fun _ => by omega, rfl⟩

set_option maxHeartbeats 400000 in
theorem jSum_any (a : Option Addr) (n cap : Nat) (ys : List Int) (w : World) (h : Has w a n cap ys) (hs : Small ys) :
    Calls Try.prog 31 #[.slice a n cap] w fun e w' => e = .returned (.int .i64 (total ys)) ∧ w = w' := by
  obtain ⟨h0, h1, h2, h3, h4⟩ := h
  go_enter Try.func31, Try.ntmps31
  go_wp2_with fail
  go_loop [3, 8] (fun c i => ∃ k : Nat, k ≤ n ∧ i = .int .i64 k ∧ c = .int .i64 (total (ys.take k))) (fun _ i => n - (intOf i).toNat)
  case atStart => exact ⟨0, Nat.zero_le _, rfl, rfl⟩
  case round =>
    obtain ⟨k, hk, rfl, rfl⟩ := hrel
    by_cases hlt : k < n
    · obtain ⟨b, off, rfl, hb, hc⟩ := h4 (by omega)
      have hck := hc k hlt
      have ht := total_bounds hs k (by omega)
      obtain ⟨hv0, hv1⟩ := hs k (by omega)
      have HS := hid (total_succ (xs := ys) (k := k) (by omega))
      clear hc h4 hs
      go_wp2_with fail
      go_round
      case rel => exact ⟨k + 1, by omega, by go_num, by rw [HS.out]⟩
      case measure => simp [intOf]; omega
    · obtain rfl : k = n := by omega
      go_wp2_with fail
      go_ret
      exact ⟨ret_int (by rw [List.take_of_length_le (by omega)]), rfl⟩

set_option maxHeartbeats 400000 in
theorem jSame_any (a b : Option Addr) (n m cap cap' : Nat) (xs ys : List Int) (w : World) (h : Has w a n cap xs) (h' : Has w b m cap' ys) :
    Calls Try.prog 53 #[.slice a n cap, .slice b m cap'] w fun e w' => e = .returned (.bool (same xs ys)) ∧ Quiet w w' := by
  obtain ⟨h0, h1, h2, h3, h4⟩ := h
  obtain ⟨k0, k1, k2, k3, k4⟩ := h'
  by_cases hnm : n = m
  · have hb : ((n : Int) != (m : Int)) = false := by simp [hnm]
    subst hnm
    go_enter Try.func53, Try.ntmps53
    go_wp2_with fail
    go_loopw [13] (fun i wr => ∃ k : Nat, k ≤ n ∧ i = .int .i64 k ∧ FromTo xs ys k ∧ Quiet w wr) (fun i _ => n - (intOf i).toNat)
    case atStart => exact ⟨0, Nat.zero_le _, rfl, fun i hi => by omega, ⟨0, rfl⟩⟩
    case round =>
      obtain ⟨k, hk, rfl, hft, q, hq⟩ := hrel
      subst hq
      by_cases hlt : k < n
      · obtain ⟨b1, off1, rfl, hb1, hc1⟩ := h4 (by omega)
        obtain ⟨b2, off2, rfl, hb2, hc2⟩ := k4 (by omega)
        have hck := hc1 k hlt
        have hdk := hc2 k hlt
        have hkk : (k : Int) < (n : Int) := by omega
        have hkz : (0 : Int) ≤ (k : Int) := by omega
        clear hc1 hc2 h4 k4
        by_cases he : nth xs k = nth ys k
        · have hbe : (nth xs k != nth ys k) = false := by simp [he]
          have HE := hid he
          clear he
          go_wp2_with fail
          go_quiet (fail)
          go_wp2_with fail
          go_roundw
          case rel => exact ⟨k + 1, by omega, by go_num, fun i hi => by rcases Nat.lt_succ_iff_lt_or_eq.1 hi with h | rfl; exact hft i h; exact HE.out.symm, ⟨_, rfl⟩⟩
          case measure => simp [intOf]; omega
        · have hbe : (nth xs k != nth ys k) = true := by simp [he]
          have HE := hid he
          clear he
          go_wp2_with fail
          go_quiet (fail)
          go_wp2_with fail
          go_ret
          exact ⟨ret_bool (same_no HE.out).symm, (Quiet.more ⟨_, rfl⟩ _)⟩
      · obtain rfl : k = n := by omega
        go_wp2_with fail
        go_ret
        exact ⟨ret_bool (same_yes (by omega) (by rw [h0]; exact hft)).symm, ⟨_, rfl⟩⟩
  · have hb : ((n : Int) != (m : Int)) = true := by simp; omega
    go_enter Try.func53, Try.ntmps53
    go_wp2_with fail
    go_ret
    exact ⟨ret_bool (show false = same xs ys from by unfold same; symm; rw [decide_eq_false_iff_not]; rintro rfl; omega), ⟨0, rfl⟩⟩

end Go.Proofs.Ytehdccfkkfkciaa

namespace Go.Proofs.Ytehdccfkkfkciaa
open Go.RowKit

set_option maxHeartbeats 800000 in
theorem jRows_any (a b : Option Addr) (n m cap cap' : Nat) (rs ss : List Rw) (w : World) (h : HasR w a n cap rs) (h' : HasR w b m cap' ss) :
    Calls Try.prog 27 #[.slice a n cap, .slice b m cap'] w fun e w' => e = .returned (.bool (sameR rs ss)) ∧ Quiet w w' := by
  obtain ⟨h0, h1, h2, h3, h4, h5⟩ := h
  obtain ⟨k0, k1, k2, k3, k4, k5⟩ := h'
  by_cases hnm : n = m
  · have hb : ((n : Int) != (m : Int)) = false := by simp [hnm]
    subst hnm
    have HL := hid h0
    have HL' := hid k0
    have H5 := hid h5
    have K5 := hid k5
    clear h0 k0 h5 k5
    go_enter Try.func27, Try.ntmps27
    go_wp2_with fail
    go_loopw [13] (fun i wr => ∃ k : Nat, k ≤ n ∧ i = .int .i64 k ∧ Hid (∀ j, j < k → same (nthR rs j).xs (nthR ss j).xs = true) ∧ Quiet w wr) (fun i _ => n - (intOf i).toNat)
    case atStart => exact ⟨0, Nat.zero_le _, rfl, hid (fun i hi => by omega), ⟨0, rfl⟩⟩
    case round =>
      obtain ⟨k, hk, rfl, HF, HQ⟩ := hrel
      by_cases hlt : k < n
      · obtain ⟨b1, off1, rfl, hb1, hc1⟩ := h4 (by omega)
        obtain ⟨b2, off2, rfl, hb2, hc2⟩ := k4 (by omega)
        have hck : wr.cell? ⟨b1, off1 + k, none⟩ = some (nthR rs k).v := by obtain ⟨q, hq⟩ := HQ; rw [hq]; exact hc1 k hlt
        have hdk : wr.cell? ⟨b2, off2 + k, none⟩ = some (nthR ss k).v := by obtain ⟨q, hq⟩ := HQ; rw [hq]; exact hc2 k hlt
        have hkk : (k : Int) < (n : Int) := by omega
        have hkz : (0 : Int) ≤ (k : Int) := by omega
        have cq : ∀ j, Calls Try.prog 53 #[(nthR rs k).v, (nthR ss k).v] (wr.drewN j) fun e w' => e = .returned (.bool (same (nthR rs k).xs (nthR ss k).xs)) ∧ ∃ m, w' = (wr.drewN j).drewN m := fun j =>
          jSame_any _ _ _ _ _ _ _ _ _ (by obtain ⟨q, hq⟩ := HQ; rw [hq]; exact H5.out k hlt) (by obtain ⟨q, hq⟩ := HQ; rw [hq]; exact K5.out k hlt)
        clear hc1 hc2 h4 k4
        have HN := hid (sameR_no (rs := rs) (ss := ss) (k := k) (by rw [HL.out]; omega) (by rw [HL'.out]; omega))
        have HF2 := hid (fun (hh : same (nthR rs k).xs (nthR ss k).xs = true) (j : Nat) (hj : j < k + 1) => (show same (nthR rs j).xs (nthR ss j).xs = true from by rcases Nat.lt_succ_iff_lt_or_eq.1 hj with h1 | rfl; exact HF.out j h1; exact hh))
        generalize nthR rs k = rk at *
        generalize nthR ss k = sk at *
        by_cases he : same rk.xs sk.xs = true
        · have HE := hid he
          rw [he] at cq
          have CQ := hid cq
          clear he cq
          go_wp2_with fail
          go_quiet ((go_at_call 53; exact Calls.quiet_of (CQ.out _)))
          go_wp2_with fail
          go_roundw
          case rel => exact ⟨k + 1, by omega, by go_num, hid (HF2.out HE.out), Quiet.more HQ _⟩
          case measure => simp [intOf]; omega
        · have he' := Bool.eq_false_iff.2 he
          have HE := hid he'
          rw [he'] at cq
          have CQ := hid cq
          clear he he' cq
          go_wp2_with fail
          go_quiet ((go_at_call 53; exact Calls.quiet_of (CQ.out _)))
          go_wp2_with fail
          go_ret
          exact ⟨ret_bool (HN.out HE.out).symm, Quiet.more HQ _⟩
      · obtain rfl : k = n := by omega
        go_wp2_with fail
        go_ret
        exact ⟨ret_bool (sameR_yes (by rw [HL.out, HL'.out]) (by rw [HL.out]; exact HF.out)).symm, HQ⟩
  · have hb : ((n : Int) != (m : Int)) = true := by simp; omega
    have HR : Hid (sameR rs ss = false) := hid (by
      unfold sameR; rw [decide_eq_false_iff_not]
      intro e
      have : (numsOf rs).length = (numsOf ss).length := by rw [e]
      simp [numsOf] at this
      omega)
    go_enter Try.func27, Try.ntmps27
    go_wp2_with fail
    go_ret
    exact ⟨ret_bool HR.out.symm, ⟨0, rfl⟩⟩


/-- A slice of bytes below block K, with its bytes. -/
def Bytes (w : World) (a : Option Addr) (n K : Nat) (bs : List Int) : Prop :=
  bs.length = n ∧ n ≤ 1099511627776 ∧ (0 < n → ∃ b off, a = some ⟨b, off, none⟩ ∧ b < K ∧ ∀ i, i < n → 0 ≤ nth bs i ∧ nth bs i ≤ 255 ∧ w.cell? ⟨b, off + i, none⟩ = some (.int .u8 (nth bs i)))
theorem bytes_of {w : World} {a : Option Addr} {n K : Nat} (h : HasB w a n K) : ∃ bs, Bytes w a n K bs := by
  obtain ⟨hn, h⟩ := h
  by_cases hx : 0 < n
  · obtain ⟨b, off, ha, hb, hc⟩ := h hx
    have key : ∀ m, m ≤ n → ∃ bs : List Int, bs.length = m ∧ ∀ i, i < m → 0 ≤ nth bs i ∧ nth bs i ≤ 255 ∧ w.cell? ⟨b, off + i, none⟩ = some (.int .u8 (nth bs i)) := by
      intro m
      induction m with
      | zero => intro _; exact ⟨[], rfl, fun i hi => by omega⟩
      | succ m ih =>
        intro hm
        obtain ⟨bs, hl, hbs⟩ := ih (by omega)
        obtain ⟨u, u0, u1, hu⟩ := hc m (by omega)
        refine ⟨bs ++ [u], by simp [hl], fun i hi => ?_⟩
        by_cases e : i = m
        · subst e
          have : nth (bs ++ [u]) i = u := by rw [← hl]; exact nth_append_at
          rw [this]
          exact ⟨u0, u1, hu⟩
        · rw [nth_append_left (by omega)]
          exact hbs i (by omega)
    obtain ⟨bs, hl, hbs⟩ := key n (Nat.le_refl _)
    exact ⟨bs, hl, hn, fun _ => ⟨b, off, ha, hb, hbs⟩⟩
  · exact ⟨List.replicate n 0, by simp, hn, fun h => absurd h hx⟩
theorem Bytes.below {w w' : World} {a : Option Addr} {n K : Nat} {bs : List Int} (h : Bytes w a n K bs) (hb : Below K w w') : Bytes w' a n K bs := by
  obtain ⟨h1, h2, h3⟩ := h
  refine ⟨h1, h2, fun hx => ?_⟩
  obtain ⟨b, off, ha, hbk, hc⟩ := h3 hx
  exact ⟨b, off, ha, hbk, fun i hi => by rw [hb.cell (p := ⟨b, off + i, none⟩) hbk]; exact hc i hi⟩
/-- The number of some bytes. -/
def numOf (bs : List Int) : Int := bs.foldl (fun v u => (31 * v + u) % 1000003) 0
theorem numOf_succ {bs : List Int} {k : Nat} (h : k < bs.length) : numOf (bs.take (k + 1)) = (31 * numOf (bs.take k) + nth bs k) % 1000003 := by
  rw [take_succ_nth h]
  simp [numOf]
theorem numOf_bounds (bs : List Int) : 0 ≤ numOf bs ∧ numOf bs ≤ 1000002 := by
  unfold numOf
  have : ∀ (bs : List Int) (v : Int), 0 ≤ v ∧ v ≤ 1000002 → 0 ≤ bs.foldl (fun v u => (31 * v + u) % 1000003) v ∧ bs.foldl (fun v u => (31 * v + u) % 1000003) v ≤ 1000002 := by
    intro bs
    induction bs with
    | nil => intro v h; exact h
    | cons b bs ih => intro v h; exact ih _ (by show 0 ≤ (31 * v + b) % 1000003 ∧ (31 * v + b) % 1000003 ≤ 1000002; omega)
  exact this bs 0 (by omega)

end Go.Proofs.Ytehdccfkkfkciaa

namespace Go.Proofs.Ytehdccfkkfkciaa
open Go.RowKit

theorem pj_row {w : World} {b off q cap : Nat} {rs : List Rw} {f : Nat → List Int} (R : HasR w (some ⟨b, off, none⟩) q cap rs) (hn : numsOf rs = (List.range q).map f) {k : Nat} (hk : k < q) :
    ∃ ak nk ck, w.cell? ⟨b, off + k, none⟩ = some (.slice ak nk ck) ∧ Has w ak nk ck (f k) := by
  obtain ⟨r0, r1, r2, r3, r4, r5⟩ := R
  obtain ⟨b', off', e, _, hc⟩ := r4 (by omega)
  simp at e
  obtain ⟨rfl, rfl⟩ := e
  have h3 := hc k hk
  have h4 := r5 k hk
  unfold Rw.v at h3
  have h1 : (numsOf rs)[k]? = some (nthR rs k).xs := map_nthR Rw.xs (by omega)
  rw [hn, List.getElem?_map, List.getElem?_range hk] at h1
  simp at h1
  rw [← h1] at h3 h4
  exact ⟨_, _, _, h3, h4⟩
theorem pj_len {w : World} {B : Nat} {a : Option Addr} {n cap : Nat} {rs : List Rw} {ls : List (List Int)} (R : OwnR w B a n cap rs) (h : numsOf rs = ls) : ls.length = n := by
  have := R.len
  rw [← h]
  simpa [numsOf] using this

theorem hce_of {cs : List Int} {n : Nat} {pb : Bool} (h : cs.length = n) (hb : decide (cs = []) = pb) : ((n : Int) == 0) = pb := by
  subst h
  rw [← hb]
  cases cs with
  | nil => rfl
  | cons x l => simp; omega

set_option maxRecDepth 100000 in
set_option maxHeartbeats 16000000 in
theorem pparts_walk (a b : Option Addr) (n m cap cap' : Nat) (w : World) (hn : n ≤ maxLen) (h : n ≤ 1048576 → HasB w a n w.heap.size) (h' : m ≤ 1048576 → HasB w b m w.heap.size) :
    Calls Try.prog 8 #[.slice a n cap, .slice b m cap'] w (Holds w) := by
  have H1 := hid h
  have H2 := hid h'
  have HN := hid hn
  clear h h' hn
  have hB : Below w.heap.size w w := Below.refl _ _
  go_enter Try.func8, Try.ntmps8
  go_wp2_with fail
  refine (big_any _ _ _ _ _ _ _ (by have := HN.out; unfold maxLen at this; omega)).mono ?_
  rintro e _ ⟨r, rfl, hr, rfl⟩
  have HR := hid hr
  clear hr
  cases r with
  | true =>
    go_wp2_with fail
    go_ret
    exact ⟨rfl, hB⟩
  | false =>
    have hnm := HR.out rfl
    clear HR
    have HA := hid (H1.out (by omega))
    have HM := hid (H2.out (by omega))
    clear H1 H2 HN
    go_wp2_with fail
    refine (drawPrimeParts_any _ _ _ _ HA.out).mono ?_
    rintro e v1 ⟨a_l, n_l, c_l, xs, rfl, o_l, hnl, _, st⟩
    replace hB := hB.trans (st.mono hB.size)
    clear st
    by_cases hP : isPark xs = true
    · skip
      by_cases h0 : 0 < n_l
      · skip
        obtain ⟨q, t, cs, f1, f2, f3, f4, f5, f6, f7, f8, f9, f10, f11, f12, f13⟩ := parts_facts hP o_l.len h0
        have HCU := hid f1
        have HPP := hid f6
        have HK := hid f7
        have HJL := hid f8
        have HT1 := hid f9
        have HT2 := hid f10
        have HJS := hid f11
        have HS1 := hid f12
        have HS2 := hid f13
        obtain ⟨pb, hpb⟩ : ∃ pb, decide (cs = []) = pb := ⟨_, rfl⟩
        rw [hpb] at f3
        have HPR := hid f3
        have HPB := hid hpb
        have hpp : (pb != pb) = false := by cases pb <;> rfl
        have g1 : decide ((0 : Int) < (n_l : Int)) = true := by simp; omega
        have hn1 := neq_self_int (n_l : Int)
        have ht1 := neq_self_int t
        have hx1 := neq_self_int (total xs)
        have HQ := hid f2
        clear f1 f2 f3 f6 f7 f8 f9 f10 f11 f12 f13 hpb hP
        go_wp2_with fail
        refine (implPrimeParts_any _ _ _ _ _ o_l.has).mono ?_
        rw [HPP.out]
        rintro e v2 ⟨a_g, n_g, c_g, rs_g, rfl, R_g, hng, st⟩
        replace o_l := o_l.below st (Nat.le_refl _)
        replace hB := hB.trans (st.mono hB.size)
        clear st
        go_wp2_with fail
        refine (specPrimeParts_any _ _ _ _ _ o_l.has).mono ?_
        rw [HPP.out]
        rintro e v3 ⟨a_s, n_s, c_s, rs_s, rfl, R_s, hns, st⟩
        replace o_l := o_l.below st (Nat.le_refl _)
        replace R_g := R_g.below st (Nat.le_refl _)
        replace hB := hB.trans (st.mono hB.size)
        clear st
        have HRS : Hid (sameR rs_g rs_s = true) := hid (sameR_self' (hng.trans hns.symm))
        have HNG := hid hng
        clear hng hns
        go_wp2_with fail
        refine (implPrime_any _ _ _ _ _ o_l.has).mono ?_
        rw [HPR.out]
        rintro e v4 ⟨rfl, st⟩
        replace o_l := o_l.below st (Nat.le_refl _)
        replace R_g := R_g.below st (Nat.le_refl _)
        replace R_s := R_s.below st (Nat.le_refl _)
        replace hB := hB.trans (st.mono hB.size)
        clear st
        go_wp2_with fail
        refine (specPrime_any _ _ _ _ _ o_l.has).mono ?_
        rw [HPR.out]
        rintro e v5 ⟨rfl, st⟩
        replace o_l := o_l.below st (Nat.le_refl _)
        replace R_g := R_g.below st (Nat.le_refl _)
        replace R_s := R_s.below st (Nat.le_refl _)
        replace hB := hB.trans (st.mono hB.size)
        clear st
        have hgl : q = n_g := by have := pj_len R_g HNG.out; simpa using this
        subst hgl
        go_wp2_with fail
        refine (jRows_any _ _ _ _ _ _ _ _ _ R_g.has R_s.has).mono ?_
        rintro e v6 ⟨rfl, q⟩
        have st : Below v5.heap.size v5 v6 := q.below _
        replace o_l := o_l.below st (Nat.le_refl _)
        replace R_g := R_g.below st (Nat.le_refl _)
        replace R_s := R_s.below st (Nat.le_refl _)
        replace hB := hB.trans (st.mono hB.size)
        clear st
        clear q
        rw [HRS.out]
        clear HRS R_s
        go_wp2_with fail
        refine (cutsOf_any _ _ _ _ _ o_l.has).mono ?_
        rw [HCU.out]
        rintro e v7 ⟨a_c, n_c, c_c, rfl, o_c, st⟩
        replace o_l := o_l.below st (Nat.le_refl _)
        replace R_g := R_g.below st (Nat.le_refl _)
        replace hB := hB.trans (st.mono hB.size)
        clear st
        have hcl := o_c.len
        have hq := HQ.out
        rw [hcl] at hq
        subst hq
        have hce : ((n_c : Int) == 0) = pb := by exact hce_of hcl HPB.out
        have hnc := neq_self_int ((n_c : Int) + 1)
        clear hcl HQ HPB
        clear o_c
        obtain ⟨bg, offg, rfl, hbg, -⟩ := R_g.has.2.2.2.2.1 (by omega)
        go_wp2_with fail
        go_loopw [16, 123] (fun s i wr => ∃ (j mj : Nat) (aj : Option Addr) (cj : Nat), j ≤ n_c + 1 ∧ i = .int .i64 j ∧ s = .slice aj mj cj ∧ Own wr v7.heap.size aj mj cj (jTo xs j) ∧ Below v7.heap.size v7 wr) (fun _ i _ => n_c + 1 - (intOf i).toNat)
        case atStart => exact ⟨0, 0, none, 0, by omega, rfl, rfl, Own.nil _ _, Below.refl _ _⟩
        case round =>
          obtain ⟨wo, rfl⟩ : ∃ wo : World, wo = wr := ⟨_, rfl⟩
          obtain ⟨j, mj, aj, cj, hj, rfl, rfl, o_j, st⟩ := hrel
          have hV := st
          replace o_l := o_l.below st (Nat.le_refl _)
          replace R_g := R_g.below st (Nat.le_refl _)
          replace hB := hB.trans (st.mono hB.size)
          clear st
          by_cases hlt : j < n_c + 1
          · skip
            obtain ⟨ak, nk, ck, hck, H_k⟩ := pj_row R_g.has HNG.out (k := j) (by omega)
            have HK1 := hid (HK.out j (by omega)).1
            have HK2 := hid (HK.out j (by omega)).2
            go_wp2_with fail
            refine (implPrime_any _ _ _ _ _ H_k).mono ?_
            rw [HK1.out]
            rintro e v8 ⟨rfl, st⟩
            replace o_l := o_l.below st (Nat.le_refl _)
            replace o_j := o_j.below st (Nat.le_refl _)
            replace R_g := R_g.below st (Nat.le_refl _)
            replace H_k := H_k.below st (Nat.le_refl _)
            replace hB := hB.trans (st.mono hB.size)
            replace hV := hV.trans (st.mono hV.size)
            clear st
            clear hck
            have hVs := hV.size
            go_wp2_with fail
            refine (join_any _ _ _ _ _ _ _ _ _ o_j.has H_k).mono ?_
            rw [HK2.out]
            rintro e v9 ⟨a_t, n_t, c_t, rfl, o_t, st⟩
            replace o_l := o_l.below st (Nat.le_refl _)
            replace o_j := o_j.below st (Nat.le_refl _)
            replace R_g := R_g.below st (Nat.le_refl _)
            replace H_k := H_k.below st (Nat.le_refl _)
            replace hB := hB.trans (st.mono hB.size)
            replace hV := hV.trans (st.mono hV.size)
            clear st
            go_wp2_with fail
            go_roundw
            case rel => exact ⟨j + 1, n_t, a_t, c_t, by omega, by go_num, rfl, o_t.mono hVs, hV⟩
            case measure => simp [intOf] <;> omega
          · skip
            obtain rfl : j = n_c + 1 := by omega
            obtain rfl : n_l = mj := by rw [← o_j.len, HJL.out]
            clear hV
            go_wp2_with fail
            refine (totalDistance_any _ _ _ _ (n_l : Int) _ o_l.has).mono ?_
            rw [HT1.out]
            rintro e v8 ⟨rfl, st⟩
            replace o_l := o_l.below st (Nat.le_refl _)
            replace o_j := o_j.below st (Nat.le_refl _)
            replace R_g := R_g.below st (Nat.le_refl _)
            replace hB := hB.trans (st.mono hB.size)
            clear st
            go_wp2_with fail
            refine (totalDistance_any _ _ _ _ (n_l : Int) _ o_j.has).mono ?_
            rw [HT2.out]
            rintro e v9 ⟨rfl, st⟩
            replace o_l := o_l.below st (Nat.le_refl _)
            replace o_j := o_j.below st (Nat.le_refl _)
            replace R_g := R_g.below st (Nat.le_refl _)
            replace hB := hB.trans (st.mono hB.size)
            clear st
            go_wp2_with fail
            refine (jSum_any _ _ _ _ _ o_l.has HS1.out).mono ?_
            rintro e _ ⟨rfl, rfl⟩
            go_wp2_with fail
            refine (jSum_any _ _ _ _ _ o_j.has HS2.out).mono ?_
            rintro e _ ⟨rfl, rfl⟩
            rw [HJS.out]
            clear R_g
            clear o_j o_l
            go_wp2_with fail
            refine (drawAllPrime_any b m cap' _ (HM.out.grow hB (Nat.le_refl _))).mono ?_
            rintro e v10 ⟨mm, rfl, m0, m1, st⟩
            replace hB := hB.trans (st.mono hB.size)
            clear st
            by_cases hM : inB mm 1 5 = true
            · skip
              obtain ⟨ls, f1, f2, f3⟩ := prime_count hM
              have HAL := hid f1
              have HCL := hid f2
              clear f1 f2 hM m0 m1
              go_wp2_with fail
              refine (implAllPrime_any _ _).mono ?_
              rw [HAL.out]
              rintro e v11 ⟨a_h, n_h, c_h, rs_h, rfl, R_h, hnh, st⟩
              replace hB := hB.trans (st.mono hB.size)
              clear st
              go_wp2_with fail
              refine (specAllPrime_any _ _).mono ?_
              rw [HAL.out]
              rintro e v12 ⟨a_k, n_k, c_k, rs_k, rfl, R_k, hnk, st⟩
              replace R_h := R_h.below st (Nat.le_refl _)
              replace hB := hB.trans (st.mono hB.size)
              clear st
              have HRS : Hid (sameR rs_h rs_k = true) := hid (sameR_self' (hnh.trans hnk.symm))
              have HNG := hid hnh
              clear hnh hnk
              have hlh := pj_len R_h HNG.out
              have HCH := hid (by have h0 := HCL.out; rw [hlh] at h0; exact h0 : cntPrimeOf mm = ((n_h : Int), true))
              have hnh := neq_self_int (n_h : Int)
              clear HCL
              go_wp2_with fail
              refine (jRows_any _ _ _ _ _ _ _ _ _ R_h.has R_k.has).mono ?_
              rintro e v13 ⟨rfl, q⟩
              have st : Below v12.heap.size v12 v13 := q.below _
              replace R_h := R_h.below st (Nat.le_refl _)
              replace R_k := R_k.below st (Nat.le_refl _)
              replace hB := hB.trans (st.mono hB.size)
              clear st
              clear q
              rw [HRS.out]
              clear HRS R_k
              go_wp2_with fail
              refine (implCntPrime_any _ _).mono ?_
              rw [HCH.out]
              rintro e v14 ⟨rfl, st⟩
              replace R_h := R_h.below st (Nat.le_refl _)
              replace hB := hB.trans (st.mono hB.size)
              clear st
              clear R_h
              go_wp2_with fail
              refine (drawCountPrime_any b m cap' _ (HM.out.grow hB (Nat.le_refl _))).mono ?_
              rintro e v15 ⟨uu, rfl, u0, u1, st⟩
              replace hB := hB.trans (st.mono hB.size)
              clear st
              obtain ⟨⟨v, vb⟩, hv⟩ : ∃ r, cntPrimeOf uu = r := ⟨_, rfl⟩
              have HV := hid hv
              clear hv
              have hvb : (vb == vb) = true := by simp
              have hvv : (v == v) = true := by simp
              go_wp2_with fail
              refine (implCntPrime_any _ _).mono ?_
              rw [HV.out]
              rintro e v16 ⟨rfl, st⟩
              replace hB := hB.trans (st.mono hB.size)
              clear st
              go_wp2_with fail
              refine (specCntPrime_any _ _).mono ?_
              rw [HV.out]
              rintro e v17 ⟨rfl, st⟩
              replace hB := hB.trans (st.mono hB.size)
              clear st
              go_wp2_with fail
              go_ret
              exact ⟨rfl, hB⟩
            · skip
              have HAL := hid (prime_none hM)
              clear hM m0 m1
              go_wp2_with fail
              refine (implAllPrime_any _ _).mono ?_
              rw [HAL.out]
              rintro e v11 ⟨a_h, n_h, c_h, rs_h, rfl, R_h, hnh, st⟩
              replace hB := hB.trans (st.mono hB.size)
              clear st
              go_wp2_with fail
              refine (specAllPrime_any _ _).mono ?_
              rw [HAL.out]
              rintro e v12 ⟨a_k, n_k, c_k, rs_k, rfl, R_k, hnk, st⟩
              replace R_h := R_h.below st (Nat.le_refl _)
              replace hB := hB.trans (st.mono hB.size)
              clear st
              have HRS : Hid (sameR rs_h rs_k = true) := hid (sameR_self' (hnh.trans hnk.symm))
              have HNG := hid hnh
              clear hnh hnk
              go_wp2_with fail
              refine (jRows_any _ _ _ _ _ _ _ _ _ R_h.has R_k.has).mono ?_
              rintro e v13 ⟨rfl, q⟩
              have st : Below v12.heap.size v12 v13 := q.below _
              replace R_h := R_h.below st (Nat.le_refl _)
              replace R_k := R_k.below st (Nat.le_refl _)
              replace hB := hB.trans (st.mono hB.size)
              clear st
              clear q
              rw [HRS.out]
              clear HRS R_k
              clear R_h
              go_wp2_with fail
              refine (drawCountPrime_any b m cap' _ (HM.out.grow hB (Nat.le_refl _))).mono ?_
              rintro e v14 ⟨uu, rfl, u0, u1, st⟩
              replace hB := hB.trans (st.mono hB.size)
              clear st
              obtain ⟨⟨v, vb⟩, hv⟩ : ∃ r, cntPrimeOf uu = r := ⟨_, rfl⟩
              have HV := hid hv
              clear hv
              have hvb : (vb == vb) = true := by simp
              have hvv : (v == v) = true := by simp
              go_wp2_with fail
              refine (implCntPrime_any _ _).mono ?_
              rw [HV.out]
              rintro e v15 ⟨rfl, st⟩
              replace hB := hB.trans (st.mono hB.size)
              clear st
              go_wp2_with fail
              refine (specCntPrime_any _ _).mono ?_
              rw [HV.out]
              rintro e v16 ⟨rfl, st⟩
              replace hB := hB.trans (st.mono hB.size)
              clear st
              go_wp2_with fail
              go_ret
              exact ⟨rfl, hB⟩
      · skip
        obtain rfl : xs = [] := List.eq_nil_of_length_eq_zero (by rw [o_l.len]; omega)
        obtain rfl : 0 = n_l := o_l.len
        have HPP : Hid (primePartsOf [] = ([], true)) := hid (by decide)
        have HPR : Hid (primeOf [] = (false, true)) := hid (by decide)
        have HCU : Hid (cutsOf [] = ([], true)) := hid (by decide)
        go_wp2_with fail
        refine (implPrimeParts_any _ _ _ _ _ o_l.has).mono ?_
        rw [HPP.out]
        rintro e v2 ⟨a_g, n_g, c_g, rs_g, rfl, R_g, hng, st⟩
        replace o_l := o_l.below st (Nat.le_refl _)
        replace hB := hB.trans (st.mono hB.size)
        clear st
        go_wp2_with fail
        refine (specPrimeParts_any _ _ _ _ _ o_l.has).mono ?_
        rw [HPP.out]
        rintro e v3 ⟨a_s, n_s, c_s, rs_s, rfl, R_s, hns, st⟩
        replace o_l := o_l.below st (Nat.le_refl _)
        replace R_g := R_g.below st (Nat.le_refl _)
        replace hB := hB.trans (st.mono hB.size)
        clear st
        have HRS : Hid (sameR rs_g rs_s = true) := hid (sameR_self' (hng.trans hns.symm))
        have HNG := hid hng
        clear hng hns
        go_wp2_with fail
        refine (implPrime_any _ _ _ _ _ o_l.has).mono ?_
        rw [HPR.out]
        rintro e v4 ⟨rfl, st⟩
        replace o_l := o_l.below st (Nat.le_refl _)
        replace R_g := R_g.below st (Nat.le_refl _)
        replace R_s := R_s.below st (Nat.le_refl _)
        replace hB := hB.trans (st.mono hB.size)
        clear st
        go_wp2_with fail
        refine (specPrime_any _ _ _ _ _ o_l.has).mono ?_
        rw [HPR.out]
        rintro e v5 ⟨rfl, st⟩
        replace o_l := o_l.below st (Nat.le_refl _)
        replace R_g := R_g.below st (Nat.le_refl _)
        replace R_s := R_s.below st (Nat.le_refl _)
        replace hB := hB.trans (st.mono hB.size)
        clear st
        obtain rfl : 0 = n_g := pj_len R_g HNG.out
        go_wp2_with fail
        refine (jRows_any _ _ _ _ _ _ _ _ _ R_g.has R_s.has).mono ?_
        rintro e v6 ⟨rfl, q⟩
        have st : Below v5.heap.size v5 v6 := q.below _
        replace o_l := o_l.below st (Nat.le_refl _)
        replace R_g := R_g.below st (Nat.le_refl _)
        replace R_s := R_s.below st (Nat.le_refl _)
        replace hB := hB.trans (st.mono hB.size)
        clear st
        clear q
        rw [HRS.out]
        clear HRS R_s
        go_wp2_with fail
        refine (cutsOf_any _ _ _ _ _ o_l.has).mono ?_
        rw [HCU.out]
        rintro e v7 ⟨a_c, n_c, c_c, rfl, o_c, st⟩
        replace o_l := o_l.below st (Nat.le_refl _)
        replace R_g := R_g.below st (Nat.le_refl _)
        replace hB := hB.trans (st.mono hB.size)
        clear st
        obtain rfl : 0 = n_c := o_c.len
        go_wp2_with fail
        go_loopw [16, 123] (fun s i wr => s = .slice none 0 0 ∧ i = .int .i64 0 ∧ wr = v7) (fun _ _ _ => 0)
        case atStart => exact ⟨rfl, rfl, rfl⟩
        case round =>
          obtain ⟨rfl, rfl, rfl⟩ := hrel
          clear R_g
          clear o_c o_l
          go_wp2_with fail
          refine (drawAllPrime_any b m cap' _ (HM.out.grow hB (Nat.le_refl _))).mono ?_
          rintro e v8 ⟨mm, rfl, m0, m1, st⟩
          replace hB := hB.trans (st.mono hB.size)
          clear st
          by_cases hM : inB mm 1 5 = true
          · skip
            obtain ⟨ls, f1, f2, f3⟩ := prime_count hM
            have HAL := hid f1
            have HCL := hid f2
            clear f1 f2 hM m0 m1
            go_wp2_with fail
            refine (implAllPrime_any _ _).mono ?_
            rw [HAL.out]
            rintro e v9 ⟨a_h, n_h, c_h, rs_h, rfl, R_h, hnh, st⟩
            replace hB := hB.trans (st.mono hB.size)
            clear st
            go_wp2_with fail
            refine (specAllPrime_any _ _).mono ?_
            rw [HAL.out]
            rintro e v10 ⟨a_k, n_k, c_k, rs_k, rfl, R_k, hnk, st⟩
            replace R_h := R_h.below st (Nat.le_refl _)
            replace hB := hB.trans (st.mono hB.size)
            clear st
            have HRS : Hid (sameR rs_h rs_k = true) := hid (sameR_self' (hnh.trans hnk.symm))
            have HNG := hid hnh
            clear hnh hnk
            have hlh := pj_len R_h HNG.out
            have HCH := hid (by have h0 := HCL.out; rw [hlh] at h0; exact h0 : cntPrimeOf mm = ((n_h : Int), true))
            have hnh := neq_self_int (n_h : Int)
            clear HCL
            go_wp2_with fail
            refine (jRows_any _ _ _ _ _ _ _ _ _ R_h.has R_k.has).mono ?_
            rintro e v11 ⟨rfl, q⟩
            have st : Below v10.heap.size v10 v11 := q.below _
            replace R_h := R_h.below st (Nat.le_refl _)
            replace R_k := R_k.below st (Nat.le_refl _)
            replace hB := hB.trans (st.mono hB.size)
            clear st
            clear q
            rw [HRS.out]
            clear HRS R_k
            go_wp2_with fail
            refine (implCntPrime_any _ _).mono ?_
            rw [HCH.out]
            rintro e v12 ⟨rfl, st⟩
            replace R_h := R_h.below st (Nat.le_refl _)
            replace hB := hB.trans (st.mono hB.size)
            clear st
            clear R_h
            go_wp2_with fail
            refine (drawCountPrime_any b m cap' _ (HM.out.grow hB (Nat.le_refl _))).mono ?_
            rintro e v13 ⟨uu, rfl, u0, u1, st⟩
            replace hB := hB.trans (st.mono hB.size)
            clear st
            obtain ⟨⟨v, vb⟩, hv⟩ : ∃ r, cntPrimeOf uu = r := ⟨_, rfl⟩
            have HV := hid hv
            clear hv
            have hvb : (vb == vb) = true := by simp
            have hvv : (v == v) = true := by simp
            go_wp2_with fail
            refine (implCntPrime_any _ _).mono ?_
            rw [HV.out]
            rintro e v14 ⟨rfl, st⟩
            replace hB := hB.trans (st.mono hB.size)
            clear st
            go_wp2_with fail
            refine (specCntPrime_any _ _).mono ?_
            rw [HV.out]
            rintro e v15 ⟨rfl, st⟩
            replace hB := hB.trans (st.mono hB.size)
            clear st
            go_wp2_with fail
            go_ret
            exact ⟨rfl, hB⟩
          · skip
            have HAL := hid (prime_none hM)
            clear hM m0 m1
            go_wp2_with fail
            refine (implAllPrime_any _ _).mono ?_
            rw [HAL.out]
            rintro e v9 ⟨a_h, n_h, c_h, rs_h, rfl, R_h, hnh, st⟩
            replace hB := hB.trans (st.mono hB.size)
            clear st
            go_wp2_with fail
            refine (specAllPrime_any _ _).mono ?_
            rw [HAL.out]
            rintro e v10 ⟨a_k, n_k, c_k, rs_k, rfl, R_k, hnk, st⟩
            replace R_h := R_h.below st (Nat.le_refl _)
            replace hB := hB.trans (st.mono hB.size)
            clear st
            have HRS : Hid (sameR rs_h rs_k = true) := hid (sameR_self' (hnh.trans hnk.symm))
            have HNG := hid hnh
            clear hnh hnk
            go_wp2_with fail
            refine (jRows_any _ _ _ _ _ _ _ _ _ R_h.has R_k.has).mono ?_
            rintro e v11 ⟨rfl, q⟩
            have st : Below v10.heap.size v10 v11 := q.below _
            replace R_h := R_h.below st (Nat.le_refl _)
            replace R_k := R_k.below st (Nat.le_refl _)
            replace hB := hB.trans (st.mono hB.size)
            clear st
            clear q
            rw [HRS.out]
            clear HRS R_k
            clear R_h
            go_wp2_with fail
            refine (drawCountPrime_any b m cap' _ (HM.out.grow hB (Nat.le_refl _))).mono ?_
            rintro e v12 ⟨uu, rfl, u0, u1, st⟩
            replace hB := hB.trans (st.mono hB.size)
            clear st
            obtain ⟨⟨v, vb⟩, hv⟩ : ∃ r, cntPrimeOf uu = r := ⟨_, rfl⟩
            have HV := hid hv
            clear hv
            have hvb : (vb == vb) = true := by simp
            have hvv : (v == v) = true := by simp
            go_wp2_with fail
            refine (implCntPrime_any _ _).mono ?_
            rw [HV.out]
            rintro e v13 ⟨rfl, st⟩
            replace hB := hB.trans (st.mono hB.size)
            clear st
            go_wp2_with fail
            refine (specCntPrime_any _ _).mono ?_
            rw [HV.out]
            rintro e v14 ⟨rfl, st⟩
            replace hB := hB.trans (st.mono hB.size)
            clear st
            go_wp2_with fail
            go_ret
            exact ⟨rfl, hB⟩
    · skip
      have HPP : Hid (primePartsOf xs = ([], false)) := hid (by simp [primePartsOf, hP])
      have HPR : Hid (primeOf xs = (false, false)) := hid (by simp [primeOf, hP])
      clear hP
      go_wp2_with fail
      refine (implPrimeParts_any _ _ _ _ _ o_l.has).mono ?_
      rw [HPP.out]
      rintro e v2 ⟨a_g, n_g, c_g, rs_g, rfl, R_g, hng, st⟩
      replace o_l := o_l.below st (Nat.le_refl _)
      replace hB := hB.trans (st.mono hB.size)
      clear st
      go_wp2_with fail
      refine (specPrimeParts_any _ _ _ _ _ o_l.has).mono ?_
      rw [HPP.out]
      rintro e v3 ⟨a_s, n_s, c_s, rs_s, rfl, R_s, hns, st⟩
      replace o_l := o_l.below st (Nat.le_refl _)
      replace R_g := R_g.below st (Nat.le_refl _)
      replace hB := hB.trans (st.mono hB.size)
      clear st
      have HRS : Hid (sameR rs_g rs_s = true) := hid (sameR_self' (hng.trans hns.symm))
      have HNG := hid hng
      clear hng hns
      go_wp2_with fail
      refine (implPrime_any _ _ _ _ _ o_l.has).mono ?_
      rw [HPR.out]
      rintro e v4 ⟨rfl, st⟩
      replace o_l := o_l.below st (Nat.le_refl _)
      replace R_g := R_g.below st (Nat.le_refl _)
      replace R_s := R_s.below st (Nat.le_refl _)
      replace hB := hB.trans (st.mono hB.size)
      clear st
      go_wp2_with fail
      refine (specPrime_any _ _ _ _ _ o_l.has).mono ?_
      rw [HPR.out]
      rintro e v5 ⟨rfl, st⟩
      replace o_l := o_l.below st (Nat.le_refl _)
      replace R_g := R_g.below st (Nat.le_refl _)
      replace R_s := R_s.below st (Nat.le_refl _)
      replace hB := hB.trans (st.mono hB.size)
      clear st
      go_wp2_with fail
      refine (jRows_any _ _ _ _ _ _ _ _ _ R_g.has R_s.has).mono ?_
      rintro e v6 ⟨rfl, q⟩
      have st : Below v5.heap.size v5 v6 := q.below _
      replace o_l := o_l.below st (Nat.le_refl _)
      replace R_g := R_g.below st (Nat.le_refl _)
      replace R_s := R_s.below st (Nat.le_refl _)
      replace hB := hB.trans (st.mono hB.size)
      clear st
      clear q
      rw [HRS.out]
      clear HRS R_s
      clear R_g
      clear o_l
      go_wp2_with fail
      refine (drawAllPrime_any b m cap' _ (HM.out.grow hB (Nat.le_refl _))).mono ?_
      rintro e v7 ⟨mm, rfl, m0, m1, st⟩
      replace hB := hB.trans (st.mono hB.size)
      clear st
      by_cases hM : inB mm 1 5 = true
      · skip
        obtain ⟨ls, f1, f2, f3⟩ := prime_count hM
        have HAL := hid f1
        have HCL := hid f2
        clear f1 f2 hM m0 m1
        go_wp2_with fail
        refine (implAllPrime_any _ _).mono ?_
        rw [HAL.out]
        rintro e v8 ⟨a_h, n_h, c_h, rs_h, rfl, R_h, hnh, st⟩
        replace hB := hB.trans (st.mono hB.size)
        clear st
        go_wp2_with fail
        refine (specAllPrime_any _ _).mono ?_
        rw [HAL.out]
        rintro e v9 ⟨a_k, n_k, c_k, rs_k, rfl, R_k, hnk, st⟩
        replace R_h := R_h.below st (Nat.le_refl _)
        replace hB := hB.trans (st.mono hB.size)
        clear st
        have HRS : Hid (sameR rs_h rs_k = true) := hid (sameR_self' (hnh.trans hnk.symm))
        have HNG := hid hnh
        clear hnh hnk
        have hlh := pj_len R_h HNG.out
        have HCH := hid (by have h0 := HCL.out; rw [hlh] at h0; exact h0 : cntPrimeOf mm = ((n_h : Int), true))
        have hnh := neq_self_int (n_h : Int)
        clear HCL
        go_wp2_with fail
        refine (jRows_any _ _ _ _ _ _ _ _ _ R_h.has R_k.has).mono ?_
        rintro e v10 ⟨rfl, q⟩
        have st : Below v9.heap.size v9 v10 := q.below _
        replace R_h := R_h.below st (Nat.le_refl _)
        replace R_k := R_k.below st (Nat.le_refl _)
        replace hB := hB.trans (st.mono hB.size)
        clear st
        clear q
        rw [HRS.out]
        clear HRS R_k
        go_wp2_with fail
        refine (implCntPrime_any _ _).mono ?_
        rw [HCH.out]
        rintro e v11 ⟨rfl, st⟩
        replace R_h := R_h.below st (Nat.le_refl _)
        replace hB := hB.trans (st.mono hB.size)
        clear st
        clear R_h
        go_wp2_with fail
        refine (drawCountPrime_any b m cap' _ (HM.out.grow hB (Nat.le_refl _))).mono ?_
        rintro e v12 ⟨uu, rfl, u0, u1, st⟩
        replace hB := hB.trans (st.mono hB.size)
        clear st
        obtain ⟨⟨v, vb⟩, hv⟩ : ∃ r, cntPrimeOf uu = r := ⟨_, rfl⟩
        have HV := hid hv
        clear hv
        have hvb : (vb == vb) = true := by simp
        have hvv : (v == v) = true := by simp
        go_wp2_with fail
        refine (implCntPrime_any _ _).mono ?_
        rw [HV.out]
        rintro e v13 ⟨rfl, st⟩
        replace hB := hB.trans (st.mono hB.size)
        clear st
        go_wp2_with fail
        refine (specCntPrime_any _ _).mono ?_
        rw [HV.out]
        rintro e v14 ⟨rfl, st⟩
        replace hB := hB.trans (st.mono hB.size)
        clear st
        go_wp2_with fail
        go_ret
        exact ⟨rfl, hB⟩
      · skip
        have HAL := hid (prime_none hM)
        clear hM m0 m1
        go_wp2_with fail
        refine (implAllPrime_any _ _).mono ?_
        rw [HAL.out]
        rintro e v8 ⟨a_h, n_h, c_h, rs_h, rfl, R_h, hnh, st⟩
        replace hB := hB.trans (st.mono hB.size)
        clear st
        go_wp2_with fail
        refine (specAllPrime_any _ _).mono ?_
        rw [HAL.out]
        rintro e v9 ⟨a_k, n_k, c_k, rs_k, rfl, R_k, hnk, st⟩
        replace R_h := R_h.below st (Nat.le_refl _)
        replace hB := hB.trans (st.mono hB.size)
        clear st
        have HRS : Hid (sameR rs_h rs_k = true) := hid (sameR_self' (hnh.trans hnk.symm))
        have HNG := hid hnh
        clear hnh hnk
        go_wp2_with fail
        refine (jRows_any _ _ _ _ _ _ _ _ _ R_h.has R_k.has).mono ?_
        rintro e v10 ⟨rfl, q⟩
        have st : Below v9.heap.size v9 v10 := q.below _
        replace R_h := R_h.below st (Nat.le_refl _)
        replace R_k := R_k.below st (Nat.le_refl _)
        replace hB := hB.trans (st.mono hB.size)
        clear st
        clear q
        rw [HRS.out]
        clear HRS R_k
        clear R_h
        go_wp2_with fail
        refine (drawCountPrime_any b m cap' _ (HM.out.grow hB (Nat.le_refl _))).mono ?_
        rintro e v11 ⟨uu, rfl, u0, u1, st⟩
        replace hB := hB.trans (st.mono hB.size)
        clear st
        obtain ⟨⟨v, vb⟩, hv⟩ : ∃ r, cntPrimeOf uu = r := ⟨_, rfl⟩
        have HV := hid hv
        clear hv
        have hvb : (vb == vb) = true := by simp
        have hvv : (v == v) = true := by simp
        go_wp2_with fail
        refine (implCntPrime_any _ _).mono ?_
        rw [HV.out]
        rintro e v12 ⟨rfl, st⟩
        replace hB := hB.trans (st.mono hB.size)
        clear st
        go_wp2_with fail
        refine (specCntPrime_any _ _).mono ?_
        rw [HV.out]
        rintro e v13 ⟨rfl, st⟩
        replace hB := hB.trans (st.mono hB.size)
        clear st
        go_wp2_with fail
        go_ret
        exact ⟨rfl, hB⟩
end Go.Proofs.Ytehdccfkkfkciaa

