/- 'append(out, row)' of a row that lies apart from the others; rows set anew. -/
import Derived.Test.YtnddplldkgphnaaGreatRows2
import Derived.Test.YtnddplldkgphnaaGreatPro
namespace Go.Proofs.YtnddplldkgphnaaGreat
open Go.RowKit

theorem ownsRow_up {w : World} {B K : Nat} {e : TypeId} {a : Option Addr} {n cap : Nat} {us : List Value} (h : w.ownsRow B e 1 (.slice a n cap) n us) (hg : BlkGe a K) : w.ownsRow K e 1 (.slice a n cap) n us := by
  refine ⟨h.1, ?_⟩
  rcases h.2 with h2 | ⟨g, cap', cur, hv, hg', r⟩
  · exact .inl h2
  · refine .inr ⟨g, cap', cur, hv, ?_, r⟩
    simp at hv
    obtain ⟨rfl, _⟩ := hv
    exact hg _ rfl
theorem ownsRow_ge {w : World} {B : Nat} {e : TypeId} {a : Option Addr} {n cap : Nat} {us : List Value} (h : w.ownsRow B e 1 (.slice a n cap) n us) : BlkGe a B := by
  rintro p rfl
  rcases h.2 with ⟨hv, _⟩ | ⟨g, cap', cur, hv, hg', _⟩
  · simp at hv
  · simp at hv
    rw [hv.1]
    exact hg'
/-- A row lies apart from the rows so far. -/
def Aside (rs : List Rw) (a : Option Addr) : Prop := ∀ i, i < rs.length → ∀ p q, (nthR rs i).a = some p → a = some q → p.block ≠ q.block

/-- 'append(out, row)': the row lies apart from the others; what lies before K stays. -/
theorem wpList_append_rowA {ops : Array Oper} {rest : List Oper} {o : Oper} {a : Act} {Q : Exit → Act → World → Prop} (w : World) (hgd : o.guard = none) (s x : Operand)
    (ho : o.op = .call { callee := .builtin .append, args := #[s, x], argTypes := #[26, 26] })
    (B K : Nat) (a0 : Option Addr) (n cap : Nat) (rs : List Rw) (a1 : Option Addr) (m c1 : Nat) (ys : List Int) (hs : a.eval s = .slice a0 n cap) (hx : a.eval x = .slice (some ⟨w.heap.size, 0, none⟩) 1 1)
    (hown : OwnR w B a0 n cap rs) (hrow : Own w B a1 m c1 ys) (hap : Aside rs a1) (hl : n + 1 ≤ 2097152) (hge : BlkGe a0 K) (hBK : B ≤ K) (hK : K ≤ w.heap.size)
    (h : ∀ a' cap' w', OwnR w' B a' (n + 1) cap' (rs ++ [⟨a1, c1, ys⟩]) → BlkGe a' K → Below K w w' → wpList Tryz.prog ops Q rest (a.put o.dst (.slice a' (n + 1) cap')) w') :
    wpList Tryz.prog ops Q (o :: rest) a (w.alloc (.cells #[.slice a1 m c1] 24)) := by
  obtain ⟨i0, hi, hz0, hz1, hz2⟩ := info_parts Tryz.infoInts
  have hlen := hown.len
  have hm : ys.length = m := hrow.len
  refine wpList_append_own (P := Tryz.prog) _ hgd s x 26 ho K 24 i0 (.slice none 0 0) 1 24 Tryz.underlying26 hi hz0 hz1 hz2 rfl (by decide) _ n (rs.map Rw.v) hs ((ownsRow_up hown.1 hge).alloc _) ⟨w.heap.size, 0, none⟩ 1 1 [.slice a1 m c1] hx rfl (one_cellV w _ _) (by intro u hu; simp at hu; subst hu; rfl) (by unfold maxLen; omega) (by omega) (by simp; omega) ?_
  intro v' w' hown' hgrow _
  have hbw : Below K w w' := ((Below.refl K w).alloc hK _).grown hgrow (by simp; omega) (fun k hk => ((ownsRow_up hown.1 hge).lt k hk).1)
  obtain ⟨a', cap', rfl⟩ := slice_of_row hown'
  have hkeep : ∀ {aa : Option Addr} {k c : Nat} {zs : List Int} {BB : Nat}, Own w BB aa k c zs → Own w' BB aa k c zs := by
    intro aa k c zs BB hz
    refine ⟨(hz.1.alloc _).kept hgrow ?_, hz.2⟩
    cases aa with
    | none => left; rfl
    | some p =>
      right
      rcases hz.1.2 with ⟨hv, _⟩ | ⟨g1, cap1, cur1, hv1, _, hh1, _⟩
      · simp at hv
      · simp at hv1
        rcases hown.1.2 with ⟨hv2, _⟩ | ⟨g2, cap2, cur2, hv2, _, hh2, _⟩
        · simp at hv2
          rw [hv2.1]
          simp [Value.ownBlock]
        · simp at hv2
          rw [hv2.1, hv1.1]
          simp only [Value.ownBlock]
          intro e
          simp at e
          rw [e, hh2] at hh1
          simp at hh1
  have hfin : OwnR w' B a' (n + 1) cap' (rs ++ [⟨a1, c1, ys⟩]) := by
    refine ⟨by simpa [Rw.v, hm] using ownsRow_mono hown' hBK, by simp [hlen], hl, fun i hi => ?_, fun i j p q hij hj hp hq => ?_⟩
    · by_cases e : i < n
      · rw [nthR_append_left (by omega)]
        exact hkeep (hown.2.2.2.1 i e)
      · obtain rfl : i = n := by omega
        rw [nthR_append_right (by omega), hlen, Nat.sub_self, nthR_one]
        have := hkeep hrow
        rw [← hm] at this
        exact this
    · rw [nthR_append_left (by omega)] at hp
      by_cases e : j < n
      · rw [nthR_append_left (by omega)] at hq
        exact hown.2.2.2.2 i j p q hij e hp hq
      · obtain rfl : j = n := by omega
        rw [nthR_append_right (by omega), hlen, Nat.sub_self, nthR_one] at hq
        exact hap i (by omega) p q hp hq
  exact h _ _ _ hfin (ownsRow_ge hown') hbw

/-- The k-th row read. -/
theorem OwnR.row {w : World} {B : Nat} {a : Option Addr} {n cap : Nat} {rs : List Rw} (h : OwnR w B a n cap rs) {k : Nat} (hk : k < n) : Own w B (nthR rs k).a (nthR rs k).xs.length (nthR rs k).c (nthR rs k).xs := h.2.2.2.1 k hk
theorem OwnR.cellAt {w : World} {B : Nat} {a : Option Addr} {n cap : Nat} {rs : List Rw} (h : OwnR w B a n cap rs) (hn : 0 < n) : ∃ g, a = some ⟨g, 0, none⟩ ∧ B ≤ g ∧ g < w.heap.size ∧ (∀ k, k < n → w.cell? ⟨g, k, none⟩ = some (.slice (nthR rs k).a (nthR rs k).xs.length (nthR rs k).c)) ∧ ∀ k, w.frozen? ⟨g, k, none⟩ = false := by
  rcases h.1.2 with ⟨hv, h0⟩ | ⟨g, cap', cur, hv, hg, hh, hnc, hcm, hcs, htake⟩
  · omega
  · simp at hv
    obtain ⟨rfl, rfl⟩ := hv
    obtain ⟨b, off, ha, hlt, hc⟩ := h.has.2.2.2.2.1 hn
    cases ha
    exact ⟨g, rfl, hg, hlt, fun k hk => by simpa [Rw.v] using hc k hk, fun i => h.1.frozenAt i⟩
theorem numsOf_nth {rs : List Rw} {k : Nat} (h : k < rs.length) : (numsOf rs).getD k [] = (nthR rs k).xs := by simp [numsOf, nthR, h]
end Go.Proofs.YtnddplldkgphnaaGreat
