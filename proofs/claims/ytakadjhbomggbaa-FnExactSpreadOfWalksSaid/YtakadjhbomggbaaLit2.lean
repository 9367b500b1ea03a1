/- Rows of two numbers, appended. -/
import Derived.Test.YtakadjhbomggbaaHelp2
namespace Go.Proofs.Ytakadjhbomggbaa
open Go.RowKit

/-- Rows handed back. -/
def RowsRet (w : World) (ls : List (List Int)) (e : Ending) (w' : World) : Prop := ∃ a q cap rs, e = .returned (.slice a q cap) ∧ OwnR w' w.heap.size a q cap rs ∧ numsOf rs = ls ∧ Below w.heap.size w w'
theorem own_lit2 (w : World) (B : Nat) (x y : Int) (hB : B ≤ w.heap.size) : Own (w.alloc (.cells #[.int .i64 x, .int .i64 y] 3)) B (some ⟨w.heap.size, 0, none⟩) 2 2 [x, y] :=
  ⟨World.ownsRow_lit w #[.int .i64 x, .int .i64 y] 2 hB (by unfold maxLen; omega) (by simp), by simp⟩
/-- 'append(out, []int{x, y})'. -/
theorem wpList_append_lit2 {ops : Array Oper} {rest : List Oper} {o : Oper} {a : Act} {Q : Exit → Act → World → Prop} (w : World) (hgd : o.guard = none) (s x : Operand)
    (ho : o.op = .call { callee := .builtin .append, args := #[s, x], argTypes := #[42, 42] })
    (B : Nat) (a0 : Option Addr) (n cap : Nat) (rs : List Rw) (x1 y1 : Int) (hs : a.eval s = .slice a0 n cap) (hx : a.eval x = .slice (some ⟨w.heap.size + 1, 0, none⟩) 1 1)
    (hown : OwnR w B a0 n cap rs) (hl : n + 1 ≤ 2097152) (hB : B ≤ w.heap.size)
    (h : ∀ a' cap' w' rs', numsOf rs' = numsOf rs ++ [[x1, y1]] → OwnR w' B a' (n + 1) cap' rs' → Below B w w' → wpList Try.prog ops Q rest (a.put o.dst (.slice a' (n + 1) cap')) w') :
    wpList Try.prog ops Q (o :: rest) a ((w.alloc (.cells #[.int .i64 x1, .int .i64 y1] 3)).alloc (.cells #[.slice (some ⟨w.heap.size, 0, none⟩) 2 2] 24)) := by
  have hsz : (w.alloc (.cells #[.int .i64 x1, .int .i64 y1] 3)).heap.size = w.heap.size + 1 := by simp
  refine wpList_append_row w (w.alloc (.cells #[.int .i64 x1, .int .i64 y1] 3)) hgd s x ho B a0 n cap rs _ _ _ _ hs (by rw [hsz]; exact hx) hown ((Below.refl _ _).alloc (Nat.le_refl _) _) (own_lit2 _ _ _ _ (Nat.le_refl _)) hl hB ?_
  intro a' cap' w' hown' hb'
  exact h _ _ _ _ (by simp [numsOf]) hown' (((Below.refl _ _).alloc hB _).trans hb')

/-- 'append(out, row)', with what is kept: w0: the world in which the rows so far were complete; the new row is younger. -/
theorem wpList_append_row_k {ops : Array Oper} {rest : List Oper} {o : Oper} {a : Act} {Q : Exit → Act → World → Prop} (w0 w : World) (hgd : o.guard = none) (s x : Operand)
    (ho : o.op = .call { callee := .builtin .append, args := #[s, x], argTypes := #[42, 42] })
    (B : Nat) (a0 : Option Addr) (n cap : Nat) (rs : List Rw) (a1 : Option Addr) (m c1 : Nat) (ys : List Int) (hs : a.eval s = .slice a0 n cap) (hx : a.eval x = .slice (some ⟨w.heap.size, 0, none⟩) 1 1)
    (hown : OwnR w0 B a0 n cap rs) (hb : Below w0.heap.size w0 w) (hrow : Own w w0.heap.size a1 m c1 ys) (hl : n + 1 ≤ 2097152) (hB : B ≤ w0.heap.size)
    (h : ∀ a' cap' w', OwnR w' B a' (n + 1) cap' (rs ++ [⟨a1, c1, ys⟩]) → Below B w w' → (∀ {aa : Option Addr} {k c : Nat} {zs : List Int} {BB : Nat}, Own w BB aa k c zs → Own w' BB aa k c zs) → (w.alloc (.cells #[.slice a1 m c1] 24)).grownBy w' (Value.slice a0 n cap).ownBlock → wpList Try.prog ops Q rest (a.put o.dst (.slice a' (n + 1) cap')) w') :
    wpList Try.prog ops Q (o :: rest) a (w.alloc (.cells #[.slice a1 m c1] 24)) := by
  obtain ⟨i0, hi, hz0, hz1, hz2⟩ := info_parts Try.infoInts
  have hlen := hown.len
  have hm : ys.length = m := hrow.len
  have hsz := hb.size
  have hownw := hown.below hb (Nat.le_refl _)
  refine wpList_append_own (P := Try.prog) _ hgd s x 42 ho B 24 i0 (.slice none 0 0) 1 24 Try.underlying42 hi hz0 hz1 hz2 rfl (by decide) _ n (rs.map Rw.v) hs (hownw.1.alloc _) ⟨w.heap.size, 0, none⟩ 1 1 [.slice a1 m c1] hx rfl (one_cellV w _ _) (by intro u hu; simp at hu; subst hu; rfl) (by unfold maxLen; omega) (by omega) (by simp; omega) ?_
  intro v' w' hown' hgrow _
  have hbw : Below B w w' := ((Below.refl B w).alloc (by omega) _).grown hgrow (by simp; omega) (fun k hk => (hownw.1.lt k hk).1)
  obtain ⟨a', cap', rfl⟩ := slice_of_row hown'
  -- rows lie in blocks that the append has not written: they hold integers, the slice's own block slices
  have hkeep : ∀ {aa : Option Addr} {k c : Nat} {zs : List Int} {BB : Nat}, Own w BB aa k c zs → Own w' BB aa k c zs := by
    intro aa k c zs BB hz
    refine ⟨(hz.1.alloc _).kept hgrow ?_, hz.2⟩
    cases aa with
    | none => left; rfl
    | some p =>
      right
      rcases hz.1.2 with ⟨hv, _⟩ | ⟨g1, cap1, cur1, hv1, _, hh1, _⟩
      · simp at hv
      · simp at hv1
        rcases hownw.1.2 with ⟨hv2, _⟩ | ⟨g2, cap2, cur2, hv2, _, hh2, _⟩
        · simp at hv2
          rw [hv2.1]
          simp [Value.ownBlock]
        · simp at hv2
          rw [hv2.1, hv1.1]
          simp only [Value.ownBlock]
          intro e
          simp at e
          rw [e, hh2] at hh1
          simp at hh1
  have hfin : OwnR w' B a' (n + 1) cap' (rs ++ [⟨a1, c1, ys⟩]) := by
    have hge := hrow.ge
    refine ⟨by simpa [Rw.v, hm] using hown', by simp [hlen], hl, fun i hi => ?_, fun i j p q hij hj hp hq => ?_⟩
    · by_cases e : i < n
      · rw [nthR_append_left (by omega)]
        exact hkeep (hownw.2.2.2.1 i e)
      · obtain rfl : i = n := by omega
        rw [nthR_append_right (by omega), hlen, Nat.sub_self, nthR_one]
        have := (hkeep hrow).mono hB
        rw [← hm] at this
        exact this
    · rw [nthR_append_left (by omega)] at hp
      by_cases e : j < n
      · rw [nthR_append_left (by omega)] at hq
        exact hown.2.2.2.2 i j p q hij e hp hq
      · obtain rfl : j = n := by omega
        rw [nthR_append_right (by omega), hlen, Nat.sub_self, nthR_one] at hq
        have h1 := hown.lt.2 i (by omega) p hp
        have h2 := hge q hq
        omega
  exact h _ _ _ hfin hbw hkeep hgrow

/-- 'append(out, []int{x, y})', with what is kept. -/
theorem wpList_append_lit2k {ops : Array Oper} {rest : List Oper} {o : Oper} {a : Act} {Q : Exit → Act → World → Prop} (w : World) (hgd : o.guard = none) (s x : Operand)
    (ho : o.op = .call { callee := .builtin .append, args := #[s, x], argTypes := #[42, 42] })
    (B : Nat) (a0 : Option Addr) (n cap : Nat) (rs : List Rw) (x1 y1 : Int) (hs : a.eval s = .slice a0 n cap) (hx : a.eval x = .slice (some ⟨w.heap.size + 1, 0, none⟩) 1 1)
    (hown : OwnR w B a0 n cap rs) (hl : n + 1 ≤ 2097152) (hB : B ≤ w.heap.size)
    (h : ∀ a' cap' w' rs', numsOf rs' = numsOf rs ++ [[x1, y1]] → OwnR w' B a' (n + 1) cap' rs' → Below B w w' → (∀ {aa : Option Addr} {k c : Nat} {zs : List Int} {BB : Nat}, Own w BB aa k c zs → Own w' BB aa k c zs) → ((w.alloc (.cells #[.int .i64 x1, .int .i64 y1] 3)).alloc (.cells #[.slice (some ⟨w.heap.size, 0, none⟩) 2 2] 24)).grownBy w' (Value.slice a0 n cap).ownBlock → wpList Try.prog ops Q rest (a.put o.dst (.slice a' (n + 1) cap')) w') :
    wpList Try.prog ops Q (o :: rest) a ((w.alloc (.cells #[.int .i64 x1, .int .i64 y1] 3)).alloc (.cells #[.slice (some ⟨w.heap.size, 0, none⟩) 2 2] 24)) := by
  have hsz : (w.alloc (.cells #[.int .i64 x1, .int .i64 y1] 3)).heap.size = w.heap.size + 1 := by simp
  refine wpList_append_row_k w (w.alloc (.cells #[.int .i64 x1, .int .i64 y1] 3)) hgd s x ho B a0 n cap rs _ _ _ _ hs (by rw [hsz]; exact hx) hown ((Below.refl _ _).alloc (Nat.le_refl _) _) (own_lit2 _ _ _ _ (Nat.le_refl _)) hl hB ?_
  intro a' cap' w' hown' hb' hk hg
  exact h _ _ _ _ (by simp [numsOf]) hown' (((Below.refl _ _).alloc hB _).trans hb') (fun hz => hk (hz.below ((Below.refl w.heap.size w).alloc (Nat.le_refl _) _) (Nat.le_refl _))) hg
end Go.Proofs.Ytakadjhbomggbaa
