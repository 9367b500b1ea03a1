/- The model's cursor over bytes: numbers drawn from it. -/
import Derived.Test.YtakadjhbomggbabLawKit
namespace Go.Proofs.Ytakadjhbomggbab
open Go.RowKit

/-- A slice of bytes below block K. -/
def HasB (w : World) (a : Option Addr) (n : Nat) (K : Nat) : Prop :=
  n ≤ 1099511627776 ∧ (0 < n → ∃ b off, a = some ⟨b, off, none⟩ ∧ b < K ∧ ∀ i, i < n → ∃ u : Int, 0 ≤ u ∧ u ≤ 255 ∧ w.cell? ⟨b, off + i, none⟩ = some (.int .u8 u))

/-- The cursor in block g, that has drawn t numbers. -/
structure Cur (w : World) (g t : Nat) : Prop where
  code : ∃ a n cap, w.cell? ⟨g, 0, none⟩ = some (.slice a n cap) ∧ HasB w a n g
  pos : w.cell? ⟨g, 1, none⟩ = some (.int .i64 t)
  seed : ∃ s : Int, 0 ≤ s ∧ s ≤ 18446744073709551615 ∧ w.cell? ⟨g, 2, none⟩ = some (.int .u64 s)
  free : ∀ i, w.frozen? ⟨g, i, none⟩ = false
  lt : g < w.heap.size

theorem Cur.below {w w' : World} {g t K : Nat} (h : Cur w g t) (hb : Below K w w') (hK : g < K) : Cur w' g t := by
  obtain ⟨⟨a, n, cap, h1, h2, h3⟩, h4, ⟨s, h5, h6, h7⟩, h8, h9⟩ := h
  refine ⟨⟨a, n, cap, by rw [hb.cell (p := ⟨g, 0, none⟩) hK]; exact h1, h2, fun hn => ?_⟩, by rw [hb.cell (p := ⟨g, 1, none⟩) hK]; exact h4, ⟨s, h5, h6, by rw [hb.cell (p := ⟨g, 2, none⟩) hK]; exact h7⟩, fun i => by rw [hb.frozen (p := ⟨g, i, none⟩) hK]; exact h8 i, Nat.lt_of_lt_of_le h9 hb.size⟩
  obtain ⟨b, off, ha, hbk, hc⟩ := h3 hn
  refine ⟨b, off, ha, hbk, fun i hi => ?_⟩
  obtain ⟨u, u0, u1, hu⟩ := hc i hi
  exact ⟨u, u0, u1, by rw [hb.cell (p := ⟨b, off + i, none⟩) (by simp; omega)]; exact hu⟩

theorem cell_other' {w : World} {b c i j : Nat} {v : Value} (h : b ≠ c ∨ i ≠ j) : (w.setCell ⟨b, i, none⟩ v).cell? ⟨c, j, none⟩ = w.cell? ⟨c, j, none⟩ :=
  World.cell?_setCell_other _ _ _ _ (by
    intro hh
    injection hh with h1 h2 _
    rcases h with h | h
    · exact h h1
    · exact h h2)

theorem cur_after {w : World} {g t k1 k2 : Nat} {s' : Int} (h : Cur w g t) (h0 : 0 ≤ s') (h1 : s' ≤ 18446744073709551615) :
    Cur ((((w.drewN k1).setCell ⟨g, 1, none⟩ (.int .i64 ((t : Int) + 1))).setCell ⟨g, 2, none⟩ (.int .u64 s')).drewN k2) g (t + 1) ∧
      w.grownBy ((((w.drewN k1).setCell ⟨g, 1, none⟩ (.int .i64 ((t : Int) + 1))).setCell ⟨g, 2, none⟩ (.int .u64 s')).drewN k2) (some g) := by
  obtain ⟨⟨a, n, cap, c0, hn, hb⟩, c1, ⟨s, _, _, c2⟩, hf, hlt⟩ := h
  have e : ∀ p, ((((w.drewN k1).setCell ⟨g, 1, none⟩ (.int .i64 ((t : Int) + 1))).setCell ⟨g, 2, none⟩ (.int .u64 s')).drewN k2).cell? p = (((w.setCell ⟨g, 1, none⟩ (.int .i64 ((t : Int) + 1))).setCell ⟨g, 2, none⟩ (.int .u64 s'))).cell? p := fun _ => rfl
  refine ⟨⟨⟨a, n, cap, ?_, hn, fun hp => ?_⟩, ?_, ⟨s', h0, h1, ?_⟩, fun i => ?_, ?_⟩, ⟨rfl, rfl, rfl, by simp, fun k _ hk => ?_⟩⟩
  · rw [e, cell_other' (.inr (by omega)), cell_other' (.inr (by omega))]; exact c0
  · obtain ⟨b, off, ha, hbg, hc⟩ := hb hp
    refine ⟨b, off, ha, hbg, fun i hi => ?_⟩
    obtain ⟨u, u0, u1, hu⟩ := hc i hi
    exact ⟨u, u0, u1, by rw [e, cell_other' (.inl (by omega)), cell_other' (.inl (by omega))]; exact hu⟩
  · rw [e, cell_other' (.inr (by omega)), World.cell?_setCell_same _ _ _ c1]; rfl
  · rw [e, World.cell?_setCell_same (u := .int .u64 s)]
    rw [cell_other' (.inr (by omega))]; exact c2
  · show ((w.setCell ⟨g, 1, none⟩ (.int .i64 ((t : Int) + 1))).setCell ⟨g, 2, none⟩ (.int .u64 s')).frozen? ⟨g, i, none⟩ = false
    rw [World.frozen?_setCell, World.frozen?_setCell]; exact hf i
  · simpa using hlt
  · show ((w.setCell ⟨g, 1, none⟩ (.int .i64 ((t : Int) + 1))).setCell ⟨g, 2, none⟩ (.int .u64 s')).heap[k]? = _
    have hkg : k ≠ g := fun e => hk (by rw [e])
    rw [heap_setCell_other _ _ _ _ hkg, heap_setCell_other _ _ _ _ hkg]

theorem and255 {x : Int} (h0 : 0 ≤ x) (h1 : x < 18446744073709551616) : 0 ≤ wrap64 (bits .and .u64 x 255) ∧ wrap64 (bits .and .u64 x 255) ≤ 255 := by
  have e := u64_and x 255 h0 h1 (by omega) (by omega)
  have hle : (x.toNat &&& (255 : Int).toNat : Nat) ≤ 255 := Nat.and_le_right
  rw [e, IntWalk.wrap64_in _ ⟨by omega, by omega⟩]
  omega

/-- A number of the cursor, and the cursor behind it. -/
def Drew (w : World) (g t : Nat) (hi : Int) (e : Ending) (w' : World) : Prop := ∃ v : Int, e = .returned (.int .i64 v) ∧ 0 ≤ v ∧ v ≤ hi ∧ Cur w' g t ∧ w.grownBy w' (some g)

set_option maxHeartbeats 2000000 in
theorem next_cur (g t : Nat) (w : World) (h : Cur w g t) (ht : t ≤ 1000000) :
    Calls Try.prog 97 #[.pointer (some ⟨g, 0, none⟩)] w (Drew w g (t + 1) 255) := by
  have HC := hid h
  obtain ⟨⟨a, n, cap, h1, h2, h3⟩, h4, ⟨s, h5, h6, h7⟩, h8, h9⟩ := h
  have f1 := h8 1
  have f2 := h8 2
  by_cases hlt : t < n
  · obtain ⟨b, off, rfl, hbk, hc⟩ := h3 (by omega)
    obtain ⟨u, u0, u1, hu⟩ := hc t hlt
    have hti : (t : Int) < (n : Int) := by omega
    have htz : (0 : Int) ≤ (t : Int) := by omega
    have htd : decide ((t : Int) < (n : Int)) = true := by simpa using hti
    clear hc h3
    go_enter Try.func97, Try.ntmps97
    go_wp2_with fail
    go_quiet (fail)
    go_wp2_with fail
    go_quiet (fail)
    go_wp2_with fail
    have hle : (t : Int) + 1 ≤ (n : Int) := by omega
    have hld : decide ((t : Int) + 1 ≤ (n : Int)) = true := by simpa using hle
    generalize hs' : IntKind.u64.wrap (IntKind.u64.wrap (IntKind.u64.wrap (s * 6364136223846793005) + u) + 1442695040888963407) = s'
    have HS := hid hs'
    clear hs'
    go_quiet (fail)
    go_wp2_with fail
    go_ret
    have hs := HS.out
    have hs0 : 0 ≤ s' := by rw [← hs, IntKind.wrap_u64]; omega
    have hs1 : s' ≤ 18446744073709551615 := by rw [← hs, IntKind.wrap_u64]; omega
    obtain ⟨r1, r2⟩ := cur_after HC.out hs0 hs1
    exact ⟨u, rfl, u0, u1, r1, r2⟩
  · have hti : ¬ (t : Int) < (n : Int) := by omega
    have htd : decide ((t : Int) < (n : Int)) = false := by simp; omega
    have hle : ¬ (t : Int) + 1 ≤ (n : Int) := by omega
    have hld : decide ((t : Int) + 1 ≤ (n : Int)) = false := by simp; omega
    clear h3
    go_enter Try.func97, Try.ntmps97
    go_wp2_with fail
    go_quiet (fail)
    go_wp2_with fail
    generalize hs' : IntKind.u64.wrap (IntKind.u64.wrap (IntKind.u64.wrap (s * 6364136223846793005)) + 1442695040888963407) = s'
    have hs0 : 0 ≤ s' := by rw [← hs', IntKind.wrap_u64]; omega
    have hs1 : s' ≤ 18446744073709551615 := by rw [← hs', IntKind.wrap_u64]; omega
    clear hs'
    have HS0 := hid hs0
    have HS1 := hid hs1
    clear hs0 hs1
    go_quiet (fail)
    go_wp2_with fail
    go_ret
    obtain ⟨r1, r2⟩ := cur_after HC.out HS0.out HS1.out
    obtain ⟨b0, b1⟩ := and255 (x := s' / 1099511627776) (by have := HS0.out; omega) (by have := HS1.out; omega)
    exact ⟨_, rfl, b0, b1, r1, r2⟩

set_option maxHeartbeats 800000 in
theorem pick_cur (g t : Nat) (n : Int) (w : World) (h : Cur w g t) (ht : t ≤ 100000) (hn : n ≤ 65000) :
    Calls Try.prog 68 #[.pointer (some ⟨g, 0, none⟩), .int .i64 n] w fun e w' => ∃ v : Int, e = .returned (.int .i64 v) ∧ 0 ≤ v ∧ (v < n ∨ n ≤ 1 ∧ v = 0) ∧ (∃ t', t ≤ t' ∧ t' ≤ t + 2 ∧ Cur w' g t') ∧ w.grownBy w' (some g) := by
  by_cases h1 : n ≤ 1
  · go_enter Try.func68, Try.ntmps68
    go_wp2_with fail
    go_ret
    exact ⟨0, rfl, Int.le_refl _, .inr ⟨h1, rfl⟩, ⟨t, Nat.le_refl _, by omega, h⟩, World.grownBy.refl _ _⟩
  · have h2 : 1 < n := by omega
    by_cases h3 : 200 < n
    · go_enter Try.func68, Try.ntmps68
      go_wp2_with fail
      refine (next_cur g t _ h (by omega)).mono ?_
      rintro e w1 ⟨v, rfl, v0, v1, hc1, hg1⟩
      go_wp2_with fail
      refine (next_cur g (t + 1) _ hc1 (by omega)).mono ?_
      rintro e w2 ⟨u, rfl, u0, u1, hc2, hg2⟩
      have hm0 : 0 ≤ (v * 256 + u) % n := Int.emod_nonneg _ (by omega)
      have hm1 : (v * 256 + u) % n < n := Int.emod_lt_of_pos _ (by omega)
      go_wp2_with fail
      go_ret
      exact ⟨_, rfl, hm0, .inl hm1, ⟨t + 2, by omega, by omega, hc2⟩, ⟨hg2.os.trans hg1.os, hg2.tape.trans hg1.tape, hg2.output.trans hg1.output, Nat.le_trans hg1.size hg2.size, fun j hj hne => (hg2.block j (Nat.lt_of_lt_of_le hj hg1.size) hne).trans (hg1.block j hj hne)⟩⟩
    · go_enter Try.func68, Try.ntmps68
      go_wp2_with fail
      refine (next_cur g t _ h (by omega)).mono ?_
      rintro e w1 ⟨v, rfl, v0, v1, hc1, hg1⟩
      have hm0 : 0 ≤ v % n := Int.emod_nonneg _ (by omega)
      have hm1 : v % n < n := Int.emod_lt_of_pos _ (by omega)
      go_wp2_with fail
      go_ret
      exact ⟨_, rfl, hm0, .inl hm1, ⟨t + 1, by omega, by omega, hc1⟩, hg1⟩

set_option maxHeartbeats 800000 in
theorem one_cur (g t : Nat) (n : Int) (w : World) (h : Cur w g t) (ht : t ≤ 100000) (hn : n ≤ 65000) :
    Calls Try.prog 98 #[.pointer (some ⟨g, 0, none⟩), .int .i64 n] w fun e w' => ∃ b : Bool, e = .returned (.bool b) ∧ (∃ t', t ≤ t' ∧ t' ≤ t + 2 ∧ Cur w' g t') ∧ w.grownBy w' (some g) := by
  go_enter Try.func98, Try.ntmps98
  go_wp2_with fail
  refine (pick_cur g t n _ h ht hn).mono ?_
  rintro e w1 ⟨v, rfl, v0, v1, hc1, hg1⟩
  go_wp2_with fail
  go_ret
  exact ⟨_, rfl, hc1, hg1⟩

set_option maxHeartbeats 800000 in
theorem among_cur (g t : Nat) (a : Option Addr) (n cap : Nat) (xs : List Int) (w : World) (h : Cur w g t) (ht : t ≤ 100000) (hh : Has w a n cap xs) (hn : 0 < n) (hn2 : n ≤ 60000) (hne : ∀ p, a = some p → p.block ≠ g) :
    Calls Try.prog 91 #[.pointer (some ⟨g, 0, none⟩), .slice a n cap] w fun e w' => ∃ v : Int, e = .returned (.int .i64 v) ∧ v ∈ xs ∧ (∃ t', t ≤ t' ∧ t' ≤ t + 2 ∧ Cur w' g t') ∧ w.grownBy w' (some g) := by
  have HL := hid hh.len
  obtain ⟨b, off, rfl, hbb, hc⟩ := hh.2.2.2.2 hn
  have hbg := hne _ rfl
  clear hne
  go_enter Try.func91, Try.ntmps91
  go_wp2_with fail
  refine (pick_cur g t n _ h ht (by omega)).mono ?_
  rintro e w1 ⟨v, rfl, v0, v1, hc1, hg1⟩
  obtain ⟨k, rfl⟩ : ∃ k : Nat, v = (k : Int) := ⟨_, (Int.toNat_of_nonneg v0).symm⟩
  have hk : k < n := by omega
  have hck : w1.cell? ⟨b, off + k, none⟩ = some (.int .i64 (nth xs k)) := hg1.cell (hc k hk) (by simpa using hbg)
  clear hc v1
  go_wp2_with fail
  go_ret
  exact ⟨_, rfl, nth_mem (by rw [HL.out]; exact hk), hc1, hg1⟩
end Go.Proofs.Ytakadjhbomggbab
