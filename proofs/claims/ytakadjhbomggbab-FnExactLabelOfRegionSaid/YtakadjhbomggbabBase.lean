/- Slices of integers in memory: how they read, which are the call's own, and the laws on make, append and store in these words. -/
import Derived.Test.YtakadjhbomggbabRows
import Derived.WalkKit
import Derived.Laws.AppendOwnNone
import Derived.WalkSpells
import Derived.BigQuiet
import Derived.Deep.QuietTactic
import Derived.WalkSmall
namespace Go.Proofs.Ytakadjhbomggbab
open Go.RowKit

/-- A fact is put away from the walk. -/
theorem hid {p : Prop} (h : p) : Hid p := h

theorem ret_bool {b c : Bool} (h : b = c) : Ending.returned (.bool b) = .returned (.bool c) := by rw [h]
theorem ret_int {b c : Int} (h : b = c) : Ending.returned (.int .i64 b) = .returned (.int .i64 c) := by rw [h]
theorem ret_bools {b c b' c' : Bool} (h : b = c) (h' : b' = c') : Ending.returned (.tuple #[.bool b, .bool b']) = .returned (.tuple #[.bool c, .bool c']) := by rw [h, h']
theorem ret_int_bool {b c : Int} {b' c' : Bool} (h : b = c) (h' : b' = c') : Ending.returned (.tuple #[.int .i64 b, .bool b']) = .returned (.tuple #[.int .i64 c, .bool c']) := by rw [h, h']

/-- The i-th number of a list (0 behind its end): a name of its own, so that no simplification turns it. -/
def nth (xs : List Int) (i : Nat) : Int := xs.getD i 0

/-- The slice with the address a, the length n and the capacity cap reads as the numbers xs. -/
def Has (w : World) (a : Option Addr) (n cap : Nat) (xs : List Int) : Prop :=
  xs.length = n ∧ n ≤ cap ∧ cap ≤ maxLen ∧ n ≤ 2097152 ∧
  (0 < n → ∃ b off, a = some ⟨b, off, none⟩ ∧ b < w.heap.size ∧ ∀ i, i < n → w.cell? ⟨b, off + i, none⟩ = some (.int .i64 (nth xs i)))

/-- The slice is one of the call's own (its block is from B on), and owns the numbers xs. -/
def Own (w : World) (B : Nat) (a : Option Addr) (n cap : Nat) (xs : List Int) : Prop :=
  w.ownsRow B 3 1 (.slice a n cap) n (xs.map (Value.int .i64)) ∧ xs.length = n ∧ n ≤ 2097152

theorem Has.len {w : World} {a : Option Addr} {n cap : Nat} {xs : List Int} (h : Has w a n cap xs) : xs.length = n := h.1
theorem Has.le {w : World} {a : Option Addr} {n cap : Nat} {xs : List Int} (h : Has w a n cap xs) : n ≤ 2097152 := h.2.2.2.1
theorem Own.len {w : World} {B : Nat} {a : Option Addr} {n cap : Nat} {xs : List Int} (h : Own w B a n cap xs) : xs.length = n := h.2.1
theorem Own.le {w : World} {B : Nat} {a : Option Addr} {n cap : Nat} {xs : List Int} (h : Own w B a n cap xs) : n ≤ 2097152 := h.2.2

theorem Has.below {w w' : World} {a : Option Addr} {n cap : Nat} {xs : List Int} {B : Nat} (h : Has w a n cap xs) (hb : Below B w w') (hB : w.heap.size ≤ B) : Has w' a n cap xs := by
  obtain ⟨h0, h1, h2, h3, h4⟩ := h
  refine ⟨h0, h1, h2, h3, fun hx => ?_⟩
  obtain ⟨b, off, ha, hlt, hc⟩ := h4 hx
  exact ⟨b, off, ha, Nat.lt_of_lt_of_le hlt hb.size, fun i hi => by rw [hb.cell (p := ⟨b, off + i, none⟩) (by simp; omega)]; exact hc i hi⟩

theorem Has.drewN {w : World} {a : Option Addr} {n cap : Nat} {xs : List Int} (h : Has w a n cap xs) (k : Nat) : Has (w.drewN k) a n cap xs := h

theorem Own.has {w : World} {B : Nat} {a : Option Addr} {n cap : Nat} {xs : List Int} (h : Own w B a n cap xs) : Has w a n cap xs := by
  obtain ⟨⟨h1, h2⟩, h0, h3⟩ := h
  rcases h2 with ⟨hv, hn⟩ | ⟨g, cap', cur, hv, hg, hh, hnc, hcm, hcs, htake⟩
  · simp at hv
    obtain ⟨rfl, hl, rfl⟩ := hv
    exact ⟨h0, by omega, by unfold maxLen; omega, h3, by simp [hn]⟩
  · simp at hv
    obtain ⟨rfl, rfl⟩ := hv
    subst h0
    refine ⟨rfl, hnc, hcm, h3, fun _ => ⟨g, 0, rfl, (Array.getElem?_eq_some_iff.1 hh).1, fun i hi => ?_⟩⟩
    rw [Nat.zero_add, cell_of_row w g i cur 3 (0, 0) hh]
    have : (cur.toList.take (xs.length * 1))[i]? = (xs.map (Value.int .i64))[i]? := by rw [htake]
    rw [List.getElem?_take, if_pos (by omega)] at this
    simp at this
    rw [this, List.getElem?_eq_getElem hi]
    simp [nth, hi]

theorem Own.nil (w : World) (B : Nat) : Own w B none 0 0 [] := ⟨⟨by simp, .inl ⟨rfl, rfl⟩⟩, by simp⟩

theorem Own.below {w w' : World} {B K : Nat} {a : Option Addr} {n cap : Nat} {xs : List Int} (h : Own w B a n cap xs) (hb : Below K w w') (hB : w.heap.size ≤ K) : Own w' B a n cap xs := by
  obtain ⟨⟨h1, h2⟩, h3⟩ := h
  refine ⟨⟨h1, ?_⟩, h3⟩
  rcases h2 with h2 | ⟨g, cap', cur, hv, hg, hh, r⟩
  · exact .inl h2
  · exact .inr ⟨g, cap', cur, hv, hg, by rw [hb.block g (by have := (Array.getElem?_eq_some_iff.1 hh).1; omega)]; exact hh, r⟩

theorem Own.mono {w : World} {B B' : Nat} {a : Option Addr} {n cap : Nat} {xs : List Int} (h : Own w B a n cap xs) (hB : B' ≤ B) : Own w B' a n cap xs := by
  obtain ⟨⟨h1, h2⟩, h3⟩ := h
  refine ⟨⟨h1, ?_⟩, h3⟩
  rcases h2 with h2 | ⟨g, cap', cur, hv, hg, r⟩
  · exact .inl h2
  · exact .inr ⟨g, cap', cur, hv, by omega, r⟩

/-- Behind a write into a block that is not this slice's. -/
theorem Own.kept {w w' : World} {B : Nat} {a : Option Addr} {n cap : Nat} {xs : List Int} {g : Nat} (h : Own w B a n cap xs) (hg : w.grownBy w' (some g)) (hne : g < B ∨ ∀ p, a = some p → p.block ≠ g) : Own w' B a n cap xs := by
  refine ⟨h.1.kept hg ?_, h.2⟩
  cases a with
  | none => left; rfl
  | some p =>
    right
    rcases hne with hlt | hne
    · have := (h.1.lt p.block rfl).1
      simp [Value.ownBlock]
      omega
    · have := hne p rfl
      simpa [Value.ownBlock] using this

theorem Has.kept {w w' : World} {a : Option Addr} {n cap : Nat} {xs : List Int} {g : Nat} (h : Has w a n cap xs) (hg : w.grownBy w' (some g)) (hne : ∀ p, a = some p → p.block ≠ g) : Has w' a n cap xs := by
  obtain ⟨h0, h1, h2, h3, h4⟩ := h
  refine ⟨h0, h1, h2, h3, fun hx => ?_⟩
  obtain ⟨b, off, ha, hlt, hc⟩ := h4 hx
  refine ⟨b, off, ha, Nat.lt_of_lt_of_le hlt hg.size, fun i hi => ?_⟩
  have hb : b ≠ g := hne _ ha
  exact hg.cell (hc i hi) (by simpa using hb)

/-- What a law on append or make leaves, in these words. -/
theorem own_of_row {w : World} {B : Nat} {v : Value} {n : Nat} {us : List Value} {xs : List Int} (h : w.ownsRow B 3 1 v n us) (hn : n = xs.length) (hu : us = xs.map (Value.int .i64)) (hl : xs.length ≤ 2097152) :
    ∃ a cap, v = .slice a n cap ∧ Own w B a n cap xs := by
  subst hu
  have h' := h
  rcases h.2 with ⟨hv, h0⟩ | ⟨g, cap, cur, hv, _⟩
  · refine ⟨none, 0, by rw [hv, h0], ?_⟩
    rw [hv] at h
    exact ⟨by rw [h0] at h ⊢; exact h, hn.symm, by omega⟩
  · exact ⟨_, cap, hv, by rw [hv] at h'; exact h', hn.symm, by omega⟩

/-! ### Lists -/
theorem nth_append_left {xs ys : List Int} {i : Nat} (h : i < xs.length) : nth (xs ++ ys) i = nth xs i := by
  simp [nth, List.getElem?_append, h]
theorem nth_append_at {xs : List Int} {y : Int} : nth (xs ++ [y]) xs.length = y := by simp [nth]
theorem nth_take {xs : List Int} {i k : Nat} (h : i < k) : nth (xs.take k) i = nth xs i := by simp [nth, h]
theorem take_succ_nth {xs : List Int} {k : Nat} (h : k < xs.length) : xs.take (k + 1) = xs.take k ++ [nth xs k] := by
  rw [List.take_succ_eq_append_getElem h]; simp [nth, h]
theorem ext_nth {xs ys : List Int} (hl : xs.length = ys.length) (h : ∀ i, i < xs.length → nth xs i = nth ys i) : xs = ys := by
  apply List.ext_getElem hl
  intro i h1 h2
  have := h i h1
  simpa [nth, h1, h2] using this
theorem nth_mem {xs : List Int} {i : Nat} (h : i < xs.length) : nth xs i ∈ xs := by simp [nth, h]
theorem mem_nth {xs : List Int} {x : Int} (h : x ∈ xs) : ∃ i, i < xs.length ∧ nth xs i = x := by
  obtain ⟨i, hi, e⟩ := List.getElem_of_mem h
  exact ⟨i, hi, by simp [nth, hi, e]⟩
theorem nth_set {xs : List Int} {i j : Nat} {y : Int} (h : i < xs.length) : nth (xs.set i y) j = if i = j then y else nth xs j := by
  by_cases e : i = j
  · subst e
    simp [nth, h]
  · simp [nth, e]

/-! ### Slices of the call's own: opened, stored into, made, appended to -/
theorem Own.opened {w : World} {B : Nat} {a : Option Addr} {n cap : Nat} {xs : List Int} (h : Own w B a n cap xs) (hx : 0 < n) :
    ∃ g, a = some ⟨g, 0, none⟩ ∧ B ≤ g ∧ g < w.heap.size ∧ (∀ i, i < n → w.cell? ⟨g, i, none⟩ = some (.int .i64 (nth xs i))) ∧ ∀ i, w.frozen? ⟨g, i, none⟩ = false := by
  have h0 := h
  obtain ⟨⟨h1, h2⟩, h3⟩ := h
  rcases h2 with ⟨hv, hn⟩ | ⟨g, cap', cur, hv, hg, hh, hnc, hcm, hcs, htake⟩
  · omega
  · simp at hv
    obtain ⟨rfl, rfl⟩ := hv
    obtain ⟨_, _, _, _, h4⟩ := h0.has
    obtain ⟨b, off, ha, hlt, hc⟩ := h4 hx
    simp at ha
    obtain ⟨rfl, rfl⟩ := ha
    exact ⟨g, rfl, hg, hlt, fun i hi => by simpa using hc i hi, fun i => h0.1.frozenAt i⟩

theorem Own.set {w : World} {B g n cap : Nat} {xs : List Int} (h : Own w B (some ⟨g, 0, none⟩) n cap xs) (i : Nat) (y : Int) :
    Own (w.setCell ⟨g, i, none⟩ (.int .i64 y)) B (some ⟨g, 0, none⟩) n cap (xs.set i y) ∧ w.grownBy (w.setCell ⟨g, i, none⟩ (.int .i64 y)) (some g) := by
  obtain ⟨h1, h2⟩ := h.1.stored i (.int .i64 y)
  refine ⟨⟨?_, by simpa using h.2⟩, h2⟩
  rw [List.map_set]
  exact h1

theorem Try.infoInt : (Try.prog.info? 3).map (fun i => (i.zero, i.size, i.bytes)) = some (some (.int .i64 0), 1, 8) := by kernel_rfl

/-- What is written into one of the call's own blocks, or is new, leaves what was before it. -/
theorem below_grown {w w' : World} {B : Nat} {row : Option Nat} (hg : w.grownBy w' row) (hB : B ≤ w.heap.size) (hr : ∀ k, row = some k → B ≤ k) : Below B w w' := (Below.refl B w).grown hg hB hr

theorem one_cell (w : World) (y : Int) : ∀ j u, [Value.int .i64 y][j]? = some u → (w.alloc (.cells #[.int .i64 y] 3)).cell? ((⟨w.heap.size, 0, none⟩ : Addr).add j) = some u := by
  intro j u hj
  match j, hj with
  | 0, hj =>
    simp at hj
    subst hj
    simp [Addr.add]

/-- 'append(out, y)' of one number to a slice of the call's own. -/
theorem wpList_append_int {ops : Array Oper} {rest : List Oper} {o : Oper} {a : Act} {Q : Exit → Act → World → Prop} (w : World) (hgd : o.guard = none) (s x : Operand)
    (ho : o.op = .call { callee := .builtin .append, args := #[s, x], argTypes := #[22, 22] })
    (B : Nat) (a0 : Option Addr) (n cap : Nat) (xs : List Int) (y : Int) (hs : a.eval s = .slice a0 n cap) (hx : a.eval x = .slice (some ⟨w.heap.size, 0, none⟩) 1 1)
    (hown : Own w B a0 n cap xs) (hl : n + 1 ≤ 2097152) (hB : B ≤ w.heap.size)
    (h : ∀ a' cap' w', Own w' B a' (n + 1) cap' (xs ++ [y]) → Below B w w' → wpList Try.prog ops Q rest (a.put o.dst (.slice a' (n + 1) cap')) w') :
    wpList Try.prog ops Q (o :: rest) a (w.alloc (.cells #[.int .i64 y] 3)) := by
  obtain ⟨i0, hi, hz0, hz1, hz2⟩ := info_parts Try.infoInt
  have hlen := hown.len
  refine wpList_append_own (P := Try.prog) _ hgd s x 22 ho B 3 i0 (.int .i64 0) 1 8 Try.underlying22 hi hz0 hz1 hz2 rfl (by decide) _ n (xs.map (Value.int .i64)) hs (hown.1.alloc _) ⟨w.heap.size, 0, none⟩ 1 1 [.int .i64 y] hx rfl (one_cell w y) (by intro u hu; simp at hu; subst hu; rfl) (by unfold maxLen; omega) (by omega) (by simp; omega) ?_
  intro v' w' hown' hgrow _
  have hb : Below B w w' := ((Below.refl B w).alloc hB _).grown hgrow (by simp; omega) (fun k hk => (hown.1.lt k hk).1)
  obtain ⟨a', cap', rfl, ho'⟩ := own_of_row (xs := xs ++ [y]) hown' (by simp [hlen]) (by simp) (by simp; omega)
  exact h _ _ _ ho' hb

theorem has_cells {w : World} {b off n cap : Nat} {ys : List Int} (h : Has w (some ⟨b, off, none⟩) n cap ys) : ∀ j u, (ys.map (Value.int .i64))[j]? = some u → w.cell? ((⟨b, off, none⟩ : Addr).add j) = some u := by
  intro j u hj
  simp at hj
  obtain ⟨y, hy, rfl⟩ := hj
  obtain ⟨hlt, rfl⟩ := List.getElem?_eq_some_iff.1 hy
  obtain ⟨h0, _, _, _, h4⟩ := h
  obtain ⟨b', off', ha, _, hc⟩ := h4 (by omega)
  simp at ha
  obtain ⟨rfl, rfl⟩ := ha
  have := hc j (by omega)
  have e : (⟨b, off, none⟩ : Addr).add j = ⟨b, off + j, none⟩ := by unfold Addr.add; split <;> simp_all
  rw [e, this]
  simp [nth, hlt]

theorem run_append_empty (w : World) {B : Nat} (ty : TypeId) (a0 a1 : Option Addr) (n cap cap1 : Nat) (xs : List Int) (hown : w.ownsRow B 3 1 (.slice a0 n cap) n (xs.map (Value.int .i64))) :
    (Builtin.append_ #[22, 22] ty #[.slice a0 n cap, .slice a1 0 cap1]).run Try.prog w = .ok (.slice a0 n cap) w := by
  obtain ⟨i0, hi, hz0, hz1, hz2⟩ := info_parts Try.infoInt
  rcases hown.2 with ⟨hv, hn⟩ | ⟨g, cap', cur, hv, _, _, hnc, _⟩
  · simp at hv
    obtain ⟨rfl, rfl, rfl⟩ := hv
    cases a1 <;> simp [Builtin.append_, run_underlying Try.underlying22, sizeOf, typeInfo, hi, Builtin.lenOf, Builtin.firstCells, loadCells, loadCellsFrom]
  · simp at hv
    obtain ⟨rfl, rfl⟩ := hv
    cases a1 <;> simp [Builtin.append_, run_underlying Try.underlying22, sizeOf, typeInfo, hi, Builtin.lenOf, Builtin.firstCells, hnc, storeCells, loadCells, loadCellsFrom]

/-- 'append(out, ys...)' to a slice of the call's own. -/
theorem wpList_append_ints {ops : Array Oper} {rest : List Oper} {o : Oper} {a : Act} {Q : Exit → Act → World → Prop} (w : World) (hgd : o.guard = none) (s x : Operand)
    (ho : o.op = .call { callee := .builtin .append, args := #[s, x], argTypes := #[22, 22] })
    (B : Nat) (a0 a1 : Option Addr) (n m cap cap1 : Nat) (xs ys : List Int) (hs : a.eval s = .slice a0 n cap) (hx : a.eval x = .slice a1 m cap1)
    (hown : Own w B a0 n cap xs) (hhas : Has w a1 m cap1 ys) (hl : n + m ≤ 2097152) (hB : B ≤ w.heap.size)
    (h : ∀ a' k cap' w', k = n + m → Own w' B a' k cap' (xs ++ ys) → Below B w w' → wpList Try.prog ops Q rest (a.put o.dst (.slice a' k cap')) w') :
    wpList Try.prog ops Q (o :: rest) a w := by
  obtain ⟨i0, hi, hz0, hz1, hz2⟩ := info_parts Try.infoInt
  have hlx := hown.len
  have hly := hhas.len
  by_cases hy : m = 0
  · obtain rfl : ys = [] := List.eq_nil_of_length_eq_zero (by omega)
    subst hy
    refine wpList_plain hgd fun K hK => ?_
    have hrun := run_append_empty w o.type a0 a1 n cap cap1 xs hown.1
    have hx' : a.eval x = .slice a1 0 cap1 := hx
    unfold Oper.wp
    simp [execOp, ho, resolve, invoke, builtin, hs, hx', hrun, Result.andThen]
    exact hK _ _ (h a0 n cap w rfl (by simpa using hown) (Below.refl _ _))
  · obtain ⟨b, off, rfl, _, _⟩ := hhas.2.2.2.2 (by omega)
    refine wpList_append_own (P := Try.prog) _ hgd s x 22 ho B 3 i0 (.int .i64 0) 1 8 Try.underlying22 hi hz0 hz1 hz2 rfl (by decide) _ n (xs.map (Value.int .i64)) hs hown.1 ⟨b, off, none⟩ m cap1 (ys.map (Value.int .i64)) hx (by simp [hly]) (has_cells hhas) (ints_oneCell _ _) (by unfold maxLen; omega) (by omega) hB ?_
    intro v' w' hown' hgrow _
    obtain ⟨a', cap', rfl, ho'⟩ := own_of_row (xs := xs ++ ys) hown' (by simp; omega) (by simp) (by simp; omega)
    exact h _ _ _ _ rfl ho' (below_grown hgrow hB fun k hk => (hown.1.lt k hk).1)

/-- 'make([]int, n)'. -/
theorem wpList_make_ints {ops : Array Oper} {rest : List Oper} {o : Oper} {a : Act} {Q : Exit → Act → World → Prop} (w : World) (hgd : o.guard = none) (l c : Operand) (ho : o.op = Op.makeSlice 22 l c)
    (n : Nat) (hl : a.eval l = .int .i64 (n : Int)) (hc : a.eval c = .int .i64 (n : Int)) (hn : n ≤ 2097152)
    (h : ∀ a' cap' w', Own w' w.heap.size a' n cap' (List.replicate n 0) → Below w.heap.size w w' → wpList Try.prog ops Q rest (a.put o.dst (.slice a' n cap')) w') :
    wpList Try.prog ops Q (o :: rest) a w := by
  obtain ⟨i0, hi, hz0, hz1, hz2⟩ := info_parts Try.infoInt
  refine wpList_make_full (P := Try.prog) w hgd l c 22 ho w.heap.size 3 i0 (.int .i64 0) 1 Try.underlying22 hi hz0 hz1 .i64 .i64 n n n hl hc rfl rfl (by rw [hz2]; omega) (by unfold maxLen; omega) (Nat.le_refl _) ?_
  intro w' hown hgrow
  obtain ⟨a', cap', hv, ho'⟩ := own_of_row (xs := List.replicate n 0) hown (by simp) (by rw [show (Value.int IntKind.i64 0).cells = #[.int .i64 0] from rfl, toList_madeCells_one]; simp) (by simpa using hn)
  rw [hv]
  exact h _ _ _ ho' (below_grown hgrow (Nat.le_refl _) (by simp))

/-- 'make([]int, 0, n)'. -/
theorem wpList_make_room {ops : Array Oper} {rest : List Oper} {o : Oper} {a : Act} {Q : Exit → Act → World → Prop} (w : World) (hgd : o.guard = none) (l c : Operand) (ho : o.op = Op.makeSlice 22 l c)
    (n : Nat) (hl : a.eval l = .int .i64 0) (hc : a.eval c = .int .i64 (n : Int)) (hn : n ≤ 2097152)
    (h : ∀ a' cap' w', Own w' w.heap.size a' 0 cap' [] → Below w.heap.size w w' → wpList Try.prog ops Q rest (a.put o.dst (.slice a' 0 cap')) w') :
    wpList Try.prog ops Q (o :: rest) a w := by
  obtain ⟨i0, hi, hz0, hz1, hz2⟩ := info_parts Try.infoInt
  refine wpList_make_own (P := Try.prog) w hgd l c 22 ho w.heap.size 3 i0 (.int .i64 0) 1 Try.underlying22 hi hz0 hz1 .i64 .i64 n n hl hc rfl (by rw [hz2]; omega) (by unfold maxLen; omega) (Nat.le_refl _) ?_
  intro w' hown hgrow
  obtain ⟨a', cap', hv, ho'⟩ := own_of_row (xs := []) hown (by simp) (by simp) (by simp)
  rw [hv]
  exact h _ _ _ ho' (below_grown hgrow (Nat.le_refl _) (by simp))

end Go.Proofs.Ytakadjhbomggbab
