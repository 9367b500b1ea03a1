/- An append beside another slice of the call's own. -/
import Derived.Test.YtakadjhbomggbabLawKit
import Derived.Deep.AppendLies
namespace Go.Proofs.Ytakadjhbomggbab
open Go.RowKit

/-- Two slices lie in different blocks. -/
def Apart (a b : Option Addr) : Prop := ∀ p q : Addr, a = some p → b = some q → p.block ≠ q.block
theorem Apart.symm {a b : Option Addr} (h : Apart a b) : Apart b a := fun p q hp hq e => h q p hq hp e.symm
theorem Apart.noneL (b : Option Addr) : Apart none b := fun _ _ h => by cases h
theorem Apart.noneR (a : Option Addr) : Apart a none := fun _ _ _ h => by cases h

/-- 'append(out, y)' of one number to a slice of the call's own, beside another one. -/
theorem wpList_append_two {ops : Array Oper} {rest : List Oper} {o : Oper} {a : Act} {Q : Exit → Act → World → Prop} (w : World) (hgd : o.guard = none) (s x : Operand)
    (ho : o.op = .call { callee := .builtin .append, args := #[s, x], argTypes := #[22, 22] })
    (B : Nat) (a0 : Option Addr) (n cap : Nat) (xs : List Int) (y : Int) (hs : a.eval s = .slice a0 n cap) (hx : a.eval x = .slice (some ⟨w.heap.size, 0, none⟩) 1 1)
    (hown : Own w B a0 n cap xs) (hl : n + 1 ≤ 2097152) (hB : B ≤ w.heap.size) (B2 : Nat) (a2 : Option Addr) (n2 cap2 : Nat) (ys : List Int) (h2 : Own w B2 a2 n2 cap2 ys) (hap : Apart a0 a2)
    (h : ∀ a' cap' w', Own w' B a' (n + 1) cap' (xs ++ [y]) → Own w' B2 a2 n2 cap2 ys → Apart a' a2 → Below B w w' → wpList Try.prog ops Q rest (a.put o.dst (.slice a' (n + 1) cap')) w') :
    wpList Try.prog ops Q (o :: rest) a (w.alloc (.cells #[.int .i64 y] 3)) := by
  obtain ⟨i0, hi, hz0, hz1, hz2⟩ := info_parts Try.infoInt
  have hlen := hown.len
  have hba : Below w.heap.size w (w.alloc (.cells #[.int .i64 y] 3)) := (Below.refl _ _).alloc (Nat.le_refl _) _
  refine wpList_append_lies (P := Try.prog) _ hgd s x 22 ho B 3 i0 (.int .i64 0) 1 8 Try.underlying22 hi hz0 hz1 hz2 rfl (by decide) _ n (xs.map (Value.int .i64)) hs (hown.1.alloc _) ⟨w.heap.size, 0, none⟩ 1 1 [.int .i64 y] hx rfl (one_cell w y) (by intro u hu; simp at hu; subst hu; rfl) (by decide) (by unfold maxLen; omega) (by omega) (by simp; omega) _ rfl ?_
  intro g cap' w' hown' hgrow hg hlt
  have hb : Below B w w' := ((Below.refl B w).alloc hB _).grown hgrow (by simp; omega) (fun k hk => (hown.1.lt k hk).1)
  have h2a := h2.below hba (Nat.le_refl _)
  have hk2 : Own w' B2 a2 n2 cap2 ys := by
    cases a0 with
    | none =>
      exact ⟨h2a.1.kept hgrow ((Classical.em _).elim .inl fun h => .inr h), h2.2⟩
    | some p =>
      refine Own.kept (g := p.block) h2a (by simpa [Value.ownBlock] using hgrow) (.inr fun q hq e => hap p q rfl hq e.symm)
  obtain ⟨a', cap'', hv, ho'⟩ := own_of_row (xs := xs ++ [y]) hown' (by simp [hlen]) (by simp) (by simp; omega)
  cases hv
  refine h _ _ _ ho' hk2 (fun p q hp hq => ?_) hb
  cases hp
  rcases hg with hg | hg
  · cases a0 with
    | none => simp [Value.ownBlock] at hg
    | some p0 =>
      simp [Value.ownBlock] at hg
      have := hap p0 q rfl hq
      rw [hg] at this
      exact this
  · have hq2 : q.block < w.heap.size := by subst hq; exact (h2.1.lt q.block rfl).2
    simp at hg
    show g ≠ q.block
    omega
theorem apart_of {a b : Option Addr} {K : Nat} (h : BlkLt a K) (h' : BlkGe b K) : Apart a b := fun p q hp hq e => by
  have := h p hp
  have := h' q hq
  omega

end Go.Proofs.Ytakadjhbomggbab
