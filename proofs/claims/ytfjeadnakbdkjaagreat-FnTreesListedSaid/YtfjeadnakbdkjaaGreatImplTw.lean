/- The program's DepthsOf. -/
import Derived.Test.YtfjeadnakbdkjaaGreatImplTs
import Derived.Test.YtfjeadnakbdkjaaGreatSpecTw
namespace Go.Proofs.YtfjeadnakbdkjaaGreat
open Go.RowKit Go.Shelf

attribute [local go_sem] Oper.semAt_some

/-- 'make([]int, n)' within a fence. -/
theorem wpListIn_make_ints {F : Fence} {m : Nat} {ops : Array Oper} {rest : List Oper} {o : Oper} {a : Act} {Q : Exit → Act → World → Prop} (w : World) (hgd : o.guard = none) (l c : Operand) (ho : o.op = Op.makeSlice 31 l c)
    (n : Nat) (hl : a.eval l = .int .i64 (n : Int)) (hc : a.eval c = .int .i64 (n : Int)) (hn : n ≤ 2097152)
    (h : ∀ w', Own w' w.heap.size (some ⟨w.heap.size, 0, none⟩) n n (List.replicate n 0) → Below w.heap.size w w' → wpListIn F m Tryz.prog ops Q rest (a.put o.dst (.slice (some ⟨w.heap.size, 0, none⟩) n n)) w') :
    wpListIn F m Tryz.prog ops Q (o :: rest) a w := by
  obtain ⟨i0, hi, hz0, hz1, hz2⟩ := info_parts Tryz.infoInt
  refine wpListIn_plain hgd fun K hK => ?_
  obtain ⟨w', hrun, r1, r2⟩ := run_make_full (P := Tryz.prog) w w.heap.size 31 3 i0 (.int .i64 0) 1 Tryz.underlying31 hi hz0 hz1 .i64 .i64 n (by rw [hz2]; omega) (by unfold maxLen; omega) (Nat.le_refl _)
  have hown : Own w' w.heap.size (some ⟨w.heap.size, 0, none⟩) n n (List.replicate n 0) := by
    refine ⟨?_, by simp, hn⟩
    have : (madeCells (Value.int IntKind.i64 0).cells (n * 1)).toList = (List.replicate n (0 : Int)).map (Value.int .i64) := by
      rw [show (Value.int IntKind.i64 0).cells = #[.int .i64 0] from rfl, toList_madeCells_one]; simp
    rw [← this]
    exact r1
  unfold Oper.wpIn
  refine ⟨?_, ?_⟩
  · simp [Oper.about, ho]
  · rw [Oper.semAt_plain F _ _ (by rw [ho]; intro c hc'; cases hc')]
    simp [execOp, ho, hl, hc, hrun, Result.andThen]
    exact hK _ _ (h w' hown (below_grown r2 (Nat.le_refl _) (by simp)))

/-- Behind a turn of a block that is no cells. -/
theorem own_turn {A B : World} {K g n cap : Nat} {xs : List Int} {row : Option Nat} (h : Own A K (some ⟨g, 0, none⟩) n cap xs) (hg : A.grownBy B row) (hr : ∀ r, row = some r → ∃ o : Obj, A.heap[r]? = some o ∧ o.isCells = false) : Own B K (some ⟨g, 0, none⟩) n cap xs := by
  obtain ⟨⟨h1, h2⟩, h3⟩ := h
  refine ⟨⟨h1, ?_⟩, h3⟩
  rcases h2 with h2 | ⟨g', cap', cur, hv, hg', hh, r⟩
  · exact .inl h2
  · have hv' := hv
    simp at hv'
    obtain ⟨rfl, _⟩ := hv'
    refine .inr ⟨g, cap', cur, hv, hg', ?_, r⟩
    rw [hg.block g (Array.getElem?_eq_some_iff.1 hh).1 (fun e => by
      obtain ⟨o, ho, hc⟩ := hr g e.symm
      rw [hh] at ho
      cases ho
      cases hc)]
    exact hh

theorem own_blocks {A B : World} {K g n cap : Nat} {xs : List Int} (h : Own A K (some ⟨g, 0, none⟩) n cap xs) (hb : Blocks A B) : Own B K (some ⟨g, 0, none⟩) n cap xs := by
  obtain ⟨⟨h1, h2⟩, h3⟩ := h
  refine ⟨⟨h1, ?_⟩, h3⟩
  rcases h2 with h2 | ⟨g', cap', cur, hv, hg', hh, r⟩
  · exact .inl h2
  · have hv' := hv
    simp at hv'
    obtain ⟨rfl, _⟩ := hv'
    exact .inr ⟨g, cap', cur, hv, hg', hb _ _ _ hh, r⟩

/-- The depths, as far as they are found. -/
def DepAt (xs ys : List Int) (k : Nat) : Prop := ∀ i, i < xs.length → nth ys i = if i < k then nth (depL xs) i else 0
theorem depAt_all {xs ys : List Int} (h : DepAt xs ys xs.length) (hl : ys.length = xs.length) : ys = depL xs :=
  ext_nth (by rw [hl, length_depL]) fun i hi => by rw [h i (by omega), if_pos (by omega)]
theorem depAt_step {xs ys : List Int} {k : Nat} (h : DepAt xs ys k) (hk : k < xs.length) (hl : ys.length = xs.length) : DepAt xs (ys.set k (dep xs ((k : Int) + 1) : Int)) (k + 1) := fun i hi => by
  rw [nth_set (by omega)]
  by_cases e : k = i
  · subst e; rw [if_pos rfl, if_pos (by omega), nth_depL hk]
  · rw [if_neg e, h i hi]
    by_cases e2 : i < k
    · rw [if_pos e2, if_pos (by omega)]
    · rw [if_neg e2, if_neg (by omega)]

structure Deep (w wr : World) (B T : Nat) (n : Nat) (xs ys : List Int) (k : Nat) (Ds : List Nat) : Prop where
  below : Below w.heap.size w wr
  lo : w.heap.size ≤ B ∧ B < T ∧ T < wr.heap.size
  box : wr.cell? ⟨T, 0, none⟩ = some (.slice (some ⟨B, 0, none⟩) n n)
  own : Own wr B (some ⟨B, 0, none⟩) n n ys
  marks : Marks wr w.heap.size Ds
  found : DepAt xs ys k

end Go.Proofs.YtfjeadnakbdkjaaGreat
