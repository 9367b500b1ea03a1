/- ParseWalk's own region: two lists read, a structure of both. -/
import Derived.Test.YtakadjhbomggbabDoorAnyW
namespace Go.Proofs.YtakadjhbomggbabDoor
open Go.RowKit

def pwD : List Nat := [5, 12, 13, 14, 15, 16, 17, 18, 19, 20]
structure JPw (V : World) (b off cap : Nat) (sx sy : ByteArray) (hx hy : List Int) (L : Nat → Bool) (T : Nat → Value) (w : World) : Prop where
  bel : Below V.heap.size V w
  p0 : L 0 = true → T 12 = .slice (some ⟨b, off, none⟩) 2 cap
  p1 : L 1 = true → T 13 = .pointer (some ⟨b, off, none⟩)
  p2 : L 2 = true → T 14 = .string sx
  p4 : L 4 = true → T 16 = .slice (some ⟨b, off, none⟩) 2 cap
  p5 : L 5 = true → T 17 = .pointer (some ⟨b, off + 1, none⟩)
  p6 : L 6 = true → T 18 = .string sy
  A : L 3 = true → ∃ a n c, T 15 = .slice a n c ∧ Own w V.heap.size a n c hx
  B : L 7 = true → ∃ a n c, T 19 = .slice a n c ∧ Own w V.heap.size a n c hy
  AB : L 3 = true → L 7 = true → ∀ a n c a' n' c', T 15 = .slice a n c → T 19 = .slice a' n' c' → Apart2 a a'
  p8 : L 8 = true → L 3 = true ∧ L 7 = true ∧ T 20 = .agg #[T 15, T 19]
  C : L 9 = true → ∃ g, T 5 = .pointer (some ⟨g, 0, none⟩) ∧ V.heap.size ≤ g ∧ BoxAt w g (.slice none 0 0) (.slice none 0 0) ∧ (L 3 = true → ∀ a n c, T 15 = .slice a n c → ∀ p, a = some p → p.block ≠ g) ∧ (L 7 = true → ∀ a n c, T 19 = .slice a n c → ∀ p, a = some p → p.block ≠ g)
section
variable {V : World} {b off cap : Nat} {sx sy : ByteArray} {hx hy : List Int} {L : Nat → Bool} {T : Nat → Value} {w w' : World}
theorem JPw.start (h : Below V.heap.size V w) : JPw V b off cap sx sy hx hy (fun _ => false) T w := ⟨h, by simp, by simp, by simp, by simp, by simp, by simp, by simp, by simp, by simp, by simp, by simp⟩
theorem JPw.grow (J : JPw V b off cap sx sy hx hy L T w) (st : Below w.heap.size w w') : JPw V b off cap sx sy hx hy L T w' :=
  ⟨J.bel.trans (st.mono J.bel.size), J.p0, J.p1, J.p2, J.p4, J.p5, J.p6, fun h => let ⟨a, n, c, h1, h2⟩ := J.A h; ⟨a, n, c, h1, h2.below st (Nat.le_refl _)⟩, fun h => let ⟨a, n, c, h1, h2⟩ := J.B h; ⟨a, n, c, h1, h2.below st (Nat.le_refl _)⟩, J.AB, J.p8,
   fun h => let ⟨g, h1, h2, h3, h4⟩ := J.C h; ⟨g, h1, h2, h3.below st (boxAt_lt h3), h4⟩⟩
theorem JPw.s0 (J : JPw V b off cap sx sy hx hy L T w) : JPw V b off cap sx sy hx hy (setF L 0) (setT T 12 (.slice (some ⟨b, off, none⟩) 2 cap)) w where
  bel := J.bel
  p0 := by first | (simp [setF, setT]; done) | simpa [setF, setT] using J.p0
  p1 := by first | (simp [setF, setT]; done) | simpa [setF, setT] using J.p1
  p2 := by first | (simp [setF, setT]; done) | simpa [setF, setT] using J.p2
  p4 := by first | (simp [setF, setT]; done) | simpa [setF, setT] using J.p4
  p5 := by first | (simp [setF, setT]; done) | simpa [setF, setT] using J.p5
  p6 := by first | (simp [setF, setT]; done) | simpa [setF, setT] using J.p6
  A := by first | (simp [setF, setT]; done) | simpa [setF, setT] using J.A
  B := by first | (simp [setF, setT]; done) | simpa [setF, setT] using J.B
  AB := by first | (simp [setF, setT]; done) | simpa [setF, setT] using J.AB
  p8 := by first | (simp [setF, setT]; done) | simpa [setF, setT] using J.p8
  C := by first | (simp [setF, setT]; done) | simpa [setF, setT] using J.C
theorem JPw.s1 (J : JPw V b off cap sx sy hx hy L T w) : JPw V b off cap sx sy hx hy (setF L 1) (setT T 13 (.pointer (some ⟨b, off, none⟩))) w where
  bel := J.bel
  p0 := by first | (simp [setF, setT]; done) | simpa [setF, setT] using J.p0
  p1 := by first | (simp [setF, setT]; done) | simpa [setF, setT] using J.p1
  p2 := by first | (simp [setF, setT]; done) | simpa [setF, setT] using J.p2
  p4 := by first | (simp [setF, setT]; done) | simpa [setF, setT] using J.p4
  p5 := by first | (simp [setF, setT]; done) | simpa [setF, setT] using J.p5
  p6 := by first | (simp [setF, setT]; done) | simpa [setF, setT] using J.p6
  A := by first | (simp [setF, setT]; done) | simpa [setF, setT] using J.A
  B := by first | (simp [setF, setT]; done) | simpa [setF, setT] using J.B
  AB := by first | (simp [setF, setT]; done) | simpa [setF, setT] using J.AB
  p8 := by first | (simp [setF, setT]; done) | simpa [setF, setT] using J.p8
  C := by first | (simp [setF, setT]; done) | simpa [setF, setT] using J.C
theorem JPw.s2 (J : JPw V b off cap sx sy hx hy L T w) : JPw V b off cap sx sy hx hy (setF L 2) (setT T 14 (.string sx)) w where
  bel := J.bel
  p0 := by first | (simp [setF, setT]; done) | simpa [setF, setT] using J.p0
  p1 := by first | (simp [setF, setT]; done) | simpa [setF, setT] using J.p1
  p2 := by first | (simp [setF, setT]; done) | simpa [setF, setT] using J.p2
  p4 := by first | (simp [setF, setT]; done) | simpa [setF, setT] using J.p4
  p5 := by first | (simp [setF, setT]; done) | simpa [setF, setT] using J.p5
  p6 := by first | (simp [setF, setT]; done) | simpa [setF, setT] using J.p6
  A := by first | (simp [setF, setT]; done) | simpa [setF, setT] using J.A
  B := by first | (simp [setF, setT]; done) | simpa [setF, setT] using J.B
  AB := by first | (simp [setF, setT]; done) | simpa [setF, setT] using J.AB
  p8 := by first | (simp [setF, setT]; done) | simpa [setF, setT] using J.p8
  C := by first | (simp [setF, setT]; done) | simpa [setF, setT] using J.C
theorem JPw.s4 (J : JPw V b off cap sx sy hx hy L T w) : JPw V b off cap sx sy hx hy (setF L 4) (setT T 16 (.slice (some ⟨b, off, none⟩) 2 cap)) w where
  bel := J.bel
  p0 := by first | (simp [setF, setT]; done) | simpa [setF, setT] using J.p0
  p1 := by first | (simp [setF, setT]; done) | simpa [setF, setT] using J.p1
  p2 := by first | (simp [setF, setT]; done) | simpa [setF, setT] using J.p2
  p4 := by first | (simp [setF, setT]; done) | simpa [setF, setT] using J.p4
  p5 := by first | (simp [setF, setT]; done) | simpa [setF, setT] using J.p5
  p6 := by first | (simp [setF, setT]; done) | simpa [setF, setT] using J.p6
  A := by first | (simp [setF, setT]; done) | simpa [setF, setT] using J.A
  B := by first | (simp [setF, setT]; done) | simpa [setF, setT] using J.B
  AB := by first | (simp [setF, setT]; done) | simpa [setF, setT] using J.AB
  p8 := by first | (simp [setF, setT]; done) | simpa [setF, setT] using J.p8
  C := by first | (simp [setF, setT]; done) | simpa [setF, setT] using J.C
theorem JPw.s5 (J : JPw V b off cap sx sy hx hy L T w) : JPw V b off cap sx sy hx hy (setF L 5) (setT T 17 (.pointer (some ⟨b, off + 1, none⟩))) w where
  bel := J.bel
  p0 := by first | (simp [setF, setT]; done) | simpa [setF, setT] using J.p0
  p1 := by first | (simp [setF, setT]; done) | simpa [setF, setT] using J.p1
  p2 := by first | (simp [setF, setT]; done) | simpa [setF, setT] using J.p2
  p4 := by first | (simp [setF, setT]; done) | simpa [setF, setT] using J.p4
  p5 := by first | (simp [setF, setT]; done) | simpa [setF, setT] using J.p5
  p6 := by first | (simp [setF, setT]; done) | simpa [setF, setT] using J.p6
  A := by first | (simp [setF, setT]; done) | simpa [setF, setT] using J.A
  B := by first | (simp [setF, setT]; done) | simpa [setF, setT] using J.B
  AB := by first | (simp [setF, setT]; done) | simpa [setF, setT] using J.AB
  p8 := by first | (simp [setF, setT]; done) | simpa [setF, setT] using J.p8
  C := by first | (simp [setF, setT]; done) | simpa [setF, setT] using J.C
theorem JPw.s6 (J : JPw V b off cap sx sy hx hy L T w) : JPw V b off cap sx sy hx hy (setF L 6) (setT T 18 (.string sy)) w where
  bel := J.bel
  p0 := by first | (simp [setF, setT]; done) | simpa [setF, setT] using J.p0
  p1 := by first | (simp [setF, setT]; done) | simpa [setF, setT] using J.p1
  p2 := by first | (simp [setF, setT]; done) | simpa [setF, setT] using J.p2
  p4 := by first | (simp [setF, setT]; done) | simpa [setF, setT] using J.p4
  p5 := by first | (simp [setF, setT]; done) | simpa [setF, setT] using J.p5
  p6 := by first | (simp [setF, setT]; done) | simpa [setF, setT] using J.p6
  A := by first | (simp [setF, setT]; done) | simpa [setF, setT] using J.A
  B := by first | (simp [setF, setT]; done) | simpa [setF, setT] using J.B
  AB := by first | (simp [setF, setT]; done) | simpa [setF, setT] using J.AB
  p8 := by first | (simp [setF, setT]; done) | simpa [setF, setT] using J.p8
  C := by first | (simp [setF, setT]; done) | simpa [setF, setT] using J.C
theorem JPw.s8 (J : JPw V b off cap sx sy hx hy L T w) (h3 : L 3 = true) (h7 : L 7 = true) : JPw V b off cap sx sy hx hy (setF L 8) (setT T 20 (.agg #[T 15, T 19])) w where
  bel := J.bel
  p0 := by first | (simp [setF, setT]; done) | simpa [setF, setT] using J.p0
  p1 := by first | (simp [setF, setT]; done) | simpa [setF, setT] using J.p1
  p2 := by first | (simp [setF, setT]; done) | simpa [setF, setT] using J.p2
  p4 := by first | (simp [setF, setT]; done) | simpa [setF, setT] using J.p4
  p5 := by first | (simp [setF, setT]; done) | simpa [setF, setT] using J.p5
  p6 := by first | (simp [setF, setT]; done) | simpa [setF, setT] using J.p6
  A := by first | (simp [setF, setT]; done) | simpa [setF, setT] using J.A
  B := by first | (simp [setF, setT]; done) | simpa [setF, setT] using J.B
  AB := by first | (simp [setF, setT]; done) | simpa [setF, setT] using J.AB
  p8 := by simp [setF, setT, h3, h7]
  C := by first | (simp [setF, setT]; done) | simpa [setF, setT] using J.C
theorem JPw.s3 (J : JPw V b off cap sx sy hx hy L T w) (hm : L 3 = false) {a : Option Addr} {n c : Nat} (ho : Own w' w.heap.size a n c hx) (st : Below w.heap.size w w') : JPw V b off cap sx sy hx hy (setF L 3) (setT T 15 (.slice a n c)) w' where
  bel := (J.grow st).bel
  p0 := by first | (simp [setF, setT]; done) | simpa [setF, setT] using (J.grow st).p0
  p1 := by first | (simp [setF, setT]; done) | simpa [setF, setT] using (J.grow st).p1
  p2 := by first | (simp [setF, setT]; done) | simpa [setF, setT] using (J.grow st).p2
  p4 := by first | (simp [setF, setT]; done) | simpa [setF, setT] using (J.grow st).p4
  p5 := by first | (simp [setF, setT]; done) | simpa [setF, setT] using (J.grow st).p5
  p6 := by first | (simp [setF, setT]; done) | simpa [setF, setT] using (J.grow st).p6
  A := fun _ => ⟨a, n, c, by simp [setT], ho.mono J.bel.size⟩
  B := by first | (simp [setF, setT]; done) | simpa [setF, setT] using (J.grow st).B
  AB := by
    intro _ hz a1 n1 c1 a2 n2 c2 e1 e2
    have hz' : L 7 = true := by simpa [setF] using hz
    obtain ⟨a3, n3, c3, e3, h3⟩ := J.B hz'
    simp [setT] at e1 e2
    rw [e3] at e2
    cases e2
    obtain ⟨rfl, rfl, rfl⟩ := e1
    exact (apart_lt h3.lt ho.ge).symm
  p8 := fun h8 => by
    have h8 : L 8 = true := by simpa [setF] using h8
    have := (J.p8 h8).1
    rw [hm] at this
    cases this
  C := fun h9 => by
    have h9 : L 9 = true := by simpa [setF] using h9
    obtain ⟨g, e1, e2, e3, e4, e5⟩ := J.C h9
    have hg := boxAt_lt e3
    refine ⟨g, by simpa [setT] using e1, e2, e3.below st hg, ?_, ?_⟩
    · intro _ a1 n1 c1 h p hp
      simp [setT] at h
      obtain ⟨rfl, rfl, rfl⟩ := h
      have := ho.ge p hp
      omega
    · intro hz a1 n1 c1 h p hp
      exact e5 (by simpa [setF] using hz) a1 n1 c1 (by simpa [setT] using h) p hp
theorem JPw.s7 (J : JPw V b off cap sx sy hx hy L T w) (hm : L 7 = false) {a : Option Addr} {n c : Nat} (ho : Own w' w.heap.size a n c hy) (st : Below w.heap.size w w') : JPw V b off cap sx sy hx hy (setF L 7) (setT T 19 (.slice a n c)) w' where
  bel := (J.grow st).bel
  p0 := by first | (simp [setF, setT]; done) | simpa [setF, setT] using (J.grow st).p0
  p1 := by first | (simp [setF, setT]; done) | simpa [setF, setT] using (J.grow st).p1
  p2 := by first | (simp [setF, setT]; done) | simpa [setF, setT] using (J.grow st).p2
  p4 := by first | (simp [setF, setT]; done) | simpa [setF, setT] using (J.grow st).p4
  p5 := by first | (simp [setF, setT]; done) | simpa [setF, setT] using (J.grow st).p5
  p6 := by first | (simp [setF, setT]; done) | simpa [setF, setT] using (J.grow st).p6
  A := by first | (simp [setF, setT]; done) | simpa [setF, setT] using (J.grow st).A
  B := fun _ => ⟨a, n, c, by simp [setT], ho.mono J.bel.size⟩
  AB := by
    intro hz _ a1 n1 c1 a2 n2 c2 e1 e2
    have hz' : L 3 = true := by simpa [setF] using hz
    obtain ⟨a3, n3, c3, e3, h3⟩ := J.A hz'
    simp [setT] at e1 e2
    rw [e3] at e1
    cases e1
    obtain ⟨rfl, rfl, rfl⟩ := e2
    exact apart_lt h3.lt ho.ge
  p8 := fun h8 => by
    have h8 : L 8 = true := by simpa [setF] using h8
    have := (J.p8 h8).2.1
    rw [hm] at this
    cases this
  C := fun h9 => by
    have h9 : L 9 = true := by simpa [setF] using h9
    obtain ⟨g, e1, e2, e3, e4, e5⟩ := J.C h9
    have hg := boxAt_lt e3
    refine ⟨g, by simpa [setT] using e1, e2, e3.below st hg, ?_, ?_⟩
    · intro hz a1 n1 c1 h p hp
      exact e4 (by simpa [setF] using hz) a1 n1 c1 (by simpa [setT] using h) p hp
    · intro _ a1 n1 c1 h p hp
      simp [setT] at h
      obtain ⟨rfl, rfl, rfl⟩ := h
      have := ho.ge p hp
      omega
theorem JPw.s9 (J : JPw V b off cap sx sy hx hy L T w) (st : Below w.heap.size w w') (hb : BoxAt w' w.heap.size (.slice none 0 0) (.slice none 0 0)) : JPw V b off cap sx sy hx hy (setF L 9) (setT T 5 (.pointer (some ⟨w.heap.size, 0, none⟩))) w' where
  bel := (J.grow st).bel
  p0 := by first | (simp [setF, setT]; done) | simpa [setF, setT] using (J.grow st).p0
  p1 := by first | (simp [setF, setT]; done) | simpa [setF, setT] using (J.grow st).p1
  p2 := by first | (simp [setF, setT]; done) | simpa [setF, setT] using (J.grow st).p2
  p4 := by first | (simp [setF, setT]; done) | simpa [setF, setT] using (J.grow st).p4
  p5 := by first | (simp [setF, setT]; done) | simpa [setF, setT] using (J.grow st).p5
  p6 := by first | (simp [setF, setT]; done) | simpa [setF, setT] using (J.grow st).p6
  A := by first | (simp [setF, setT]; done) | simpa [setF, setT] using (J.grow st).A
  B := by first | (simp [setF, setT]; done) | simpa [setF, setT] using (J.grow st).B
  AB := by first | (simp [setF, setT]; done) | simpa [setF, setT] using (J.grow st).AB
  p8 := by first | (simp [setF, setT]; done) | simpa [setF, setT] using (J.grow st).p8
  C := fun _ => ⟨w.heap.size, by simp [setT], J.bel.size, hb, fun hz a n c h p hp => by
      obtain ⟨a3, n3, c3, e3, h3⟩ := J.A (by simpa [setF] using hz)
      have h' : T 15 = .slice a n c := by simpa [setT] using h
      rw [e3] at h'
      cases h'
      have := h3.lt p hp
      omega, fun hz a n c h p hp => by
      obtain ⟨a3, n3, c3, e3, h3⟩ := J.B (by simpa [setF] using hz)
      have h' : T 19 = .slice a n c := by simpa [setT] using h
      rw [e3] at h'
      cases h'
      have := h3.lt p hp
      omega⟩
/-- What the region leaves. -/
def FinPw (V : World) (hx hy : List Int) (T : Nat → Value) (w : World) : Prop := ∃ g a n c a' n' c', T 5 = .pointer (some ⟨g, 0, none⟩) ∧ V.heap.size ≤ g ∧ BoxAt w g (.slice a n c) (.slice a' n' c') ∧ Own w V.heap.size a n c hx ∧ Own w V.heap.size a' n' c' hy ∧ Apart2 a a' ∧ Below V.heap.size V w
theorem Own.setOff {w : World} {B g i n cap : Nat} {a : Option Addr} {xs : List Int} (h : Own w B a n cap xs) (hg : ∀ q, a = some q → q.block ≠ g) (u : Value) : Own (w.setCell ⟨g, i, none⟩ u) B a n cap xs :=
  h.ofBlock (fun q hq => Below.heap_setCell _ _ _ _ (hg q hq))
theorem JPw.last (J : JPw V b off cap sx sy hx hy L T w) (h8 : L 8 = true) (h9 : L 9 = true) : ∃ g a n c a' n' c', T 5 = .pointer (some ⟨g, 0, none⟩) ∧ T 20 = .agg #[.slice a n c, .slice a' n' c'] ∧ BoxAt w g (.slice none 0 0) (.slice none 0 0) ∧
    FinPw V hx hy T ((w.setCell ⟨g, 0, none⟩ (.slice a n c)).setCell ⟨g, 1, none⟩ (.slice a' n' c')) := by
  obtain ⟨h3, h7, e20⟩ := J.p8 h8
  obtain ⟨a, n, c, e15, oa⟩ := J.A h3
  obtain ⟨a', n', c', e19, ob⟩ := J.B h7
  obtain ⟨g, e5, hg, hb, n1, n2⟩ := J.C h9
  have ap := J.AB h3 h7 _ _ _ _ _ _ e15 e19
  refine ⟨g, a, n, c, a', n', c', e5, by rw [e20, e15, e19], hb, g, a, n, c, a', n', c', e5, hg, (hb.set0).set1, ((oa.setOff (n1 h3 _ _ _ e15) _).setOff (n1 h3 _ _ _ e15) _), ((ob.setOff (n2 h7 _ _ _ e19) _).setOff (n2 h7 _ _ _ e19) _), ap, (J.bel.setCell (p := ⟨g, 0, none⟩) hg _).setCell (p := ⟨g, 1, none⟩) hg _⟩
end
section
variable {ev : Operand → Value} {o : Oper} {w : World} {x y : Operand} {g i : Nat} {s1 s2 : Value}
theorem exW_move (ho : o.op = .move x) (hx : ev x = s1) : (execOp ev o).run Tryd.prog w = .ok (.value s1) w := by
  unfold execOp; simp only [ho]; rw [hx]; rfl
theorem exW_at {n cap : Nat} {k : Nat} (ho : o.op = .indexAddr 30 x y) (hx : ev x = .slice (some ⟨g, i, none⟩) n cap) (hy : ev y = .int .i64 (k : Int)) (hk : (k : Int) < (n : Int)) : (execOp ev o).run Tryd.prog w = .ok (.value (.pointer (some ⟨g, i + k, none⟩))) w := by
  have h0 : (0 : Int) ≤ (k : Int) := by omega
  unfold execOp; simp only [ho]; go_simp
theorem exW_load (ho : o.op = .load 9 x) (hx : ev x = .pointer (some ⟨g, i, none⟩)) (hc : w.cell? ⟨g, i, none⟩ = some s1) : (execOp ev o).run Tryd.prog w = .ok (.value s1) w := by
  unfold execOp; simp only [ho]; go_simp
theorem exW_build {a b : Option Addr} {n c m d : Nat} (ho : o.op = .build 24 #[(0, x), (1, y)]) (hx : ev x = .slice a n c) (hy : ev y = .slice b m d) : (execOp ev o).run Tryd.prog w = .ok (.value (.agg #[.slice a n c, .slice b m d])) w := by
  unfold execOp; simp only [ho]; go_simp
theorem exW_alloc (ho : o.op = .alloc 24) : (execOp ev o).run Tryd.prog w = .ok (.value (.pointer (some ⟨w.heap.size, 0, none⟩))) (w.alloc (.cells #[.slice none 0 0, .slice none 0 0] 24)) := by
  unfold execOp; simp only [ho]; go_simp
theorem exW_store {u v : Value} {a b : Option Addr} {n c m d : Nat} (ho : o.op = .store 24 x y) (hx : ev x = .pointer (some ⟨g, 0, none⟩)) (hy : ev y = .agg #[.slice a n c, .slice b m d]) (B : BoxAt w g u v) :
    (execOp ev o).run Tryd.prog w = .ok .skip ((w.setCell ⟨g, 0, none⟩ (.slice a n c)).setCell ⟨g, 1, none⟩ (.slice b m d)) := by
  obtain ⟨b1, b2, b3, b4⟩ := B
  unfold execOp; simp only [ho]; go_simp
theorem ent_waRead (args : Array Value) : (callFunc 10 args).run Tryd.prog w = .ok (.enter 10 args) w := by go_simp
end
end Go.Proofs.YtakadjhbomggbabDoor
