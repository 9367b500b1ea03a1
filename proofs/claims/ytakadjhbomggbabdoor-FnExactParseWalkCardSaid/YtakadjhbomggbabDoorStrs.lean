/- Slices of strings in memory, in the words of slices of integers. -/
import Derived.Test.YtakadjhbomggbabDoorBase
namespace Go.Proofs.YtakadjhbomggbabDoor
open Go.RowKit

/-- The i-th number of a list (0 behind its end): a name of its own, so that no simplification turns it. -/
def nthS (xs : List ByteArray) (i : Nat) : ByteArray := xs.getD i ⟨#[]⟩

/-- The slice with the address a, the length n and the capacity cap reads as the numbers xs. -/
def HasS (w : World) (a : Option Addr) (n cap : Nat) (xs : List ByteArray) : Prop :=
  xs.length = n ∧ n ≤ cap ∧ cap ≤ maxLen ∧ n ≤ 2097152 ∧
  (0 < n → ∃ b off, a = some ⟨b, off, none⟩ ∧ b < w.heap.size ∧ ∀ i, i < n → w.cell? ⟨b, off + i, none⟩ = some (.string (nthS xs i)))

/-- The slice is one of the call's own (its block is from B on), and owns the numbers xs. -/
def OwnS (w : World) (B : Nat) (a : Option Addr) (n cap : Nat) (xs : List ByteArray) : Prop :=
  w.ownsRow B 9 1 (.slice a n cap) n (xs.map (Value.string)) ∧ xs.length = n ∧ n ≤ 2097152

theorem HasS.len {w : World} {a : Option Addr} {n cap : Nat} {xs : List ByteArray} (h : HasS w a n cap xs) : xs.length = n := h.1
theorem HasS.le {w : World} {a : Option Addr} {n cap : Nat} {xs : List ByteArray} (h : HasS w a n cap xs) : n ≤ 2097152 := h.2.2.2.1
theorem OwnS.len {w : World} {B : Nat} {a : Option Addr} {n cap : Nat} {xs : List ByteArray} (h : OwnS w B a n cap xs) : xs.length = n := h.2.1
theorem OwnS.le {w : World} {B : Nat} {a : Option Addr} {n cap : Nat} {xs : List ByteArray} (h : OwnS w B a n cap xs) : n ≤ 2097152 := h.2.2

theorem HasS.below {w w' : World} {a : Option Addr} {n cap : Nat} {xs : List ByteArray} {B : Nat} (h : HasS w a n cap xs) (hb : Below B w w') (hB : w.heap.size ≤ B) : HasS w' a n cap xs := by
  obtain ⟨h0, h1, h2, h3, h4⟩ := h
  refine ⟨h0, h1, h2, h3, fun hx => ?_⟩
  obtain ⟨b, off, ha, hlt, hc⟩ := h4 hx
  exact ⟨b, off, ha, Nat.lt_of_lt_of_le hlt hb.size, fun i hi => by rw [hb.cell (p := ⟨b, off + i, none⟩) (by simp; omega)]; exact hc i hi⟩

theorem HasS.drewN {w : World} {a : Option Addr} {n cap : Nat} {xs : List ByteArray} (h : HasS w a n cap xs) (k : Nat) : HasS (w.drewN k) a n cap xs := h

theorem OwnS.has {w : World} {B : Nat} {a : Option Addr} {n cap : Nat} {xs : List ByteArray} (h : OwnS w B a n cap xs) : HasS w a n cap xs := by
  obtain ⟨⟨h1, h2⟩, h0, h3⟩ := h
  rcases h2 with ⟨hv, hn⟩ | ⟨g, cap', cur, hv, hg, hh, hnc, hcm, hcs, htake⟩
  · simp at hv
    obtain ⟨rfl, hl, rfl⟩ := hv
    exact ⟨h0, by omega, by unfold maxLen; omega, h3, by simp [hn]⟩
  · simp at hv
    obtain ⟨rfl, rfl⟩ := hv
    subst h0
    refine ⟨rfl, hnc, hcm, h3, fun _ => ⟨g, 0, rfl, (Array.getElem?_eq_some_iff.1 hh).1, fun i hi => ?_⟩⟩
    rw [Nat.zero_add, cell_of_row w g i cur 9 (0, 0) hh]
    have : (cur.toList.take (xs.length * 1))[i]? = (xs.map (Value.string))[i]? := by rw [htake]
    rw [List.getElem?_take, if_pos (by omega)] at this
    simp at this
    rw [this, List.getElem?_eq_getElem hi]
    simp [nthS, hi]

theorem OwnS.nil (w : World) (B : Nat) : OwnS w B none 0 0 [] := ⟨⟨by simp, .inl ⟨rfl, rfl⟩⟩, by simp⟩

theorem OwnS.below {w w' : World} {B K : Nat} {a : Option Addr} {n cap : Nat} {xs : List ByteArray} (h : OwnS w B a n cap xs) (hb : Below K w w') (hB : w.heap.size ≤ K) : OwnS w' B a n cap xs := by
  obtain ⟨⟨h1, h2⟩, h3⟩ := h
  refine ⟨⟨h1, ?_⟩, h3⟩
  rcases h2 with h2 | ⟨g, cap', cur, hv, hg, hh, r⟩
  · exact .inl h2
  · exact .inr ⟨g, cap', cur, hv, hg, by rw [hb.block g (by have := (Array.getElem?_eq_some_iff.1 hh).1; omega)]; exact hh, r⟩

theorem OwnS.mono {w : World} {B B' : Nat} {a : Option Addr} {n cap : Nat} {xs : List ByteArray} (h : OwnS w B a n cap xs) (hB : B' ≤ B) : OwnS w B' a n cap xs := by
  obtain ⟨⟨h1, h2⟩, h3⟩ := h
  refine ⟨⟨h1, ?_⟩, h3⟩
  rcases h2 with h2 | ⟨g, cap', cur, hv, hg, r⟩
  · exact .inl h2
  · exact .inr ⟨g, cap', cur, hv, by omega, r⟩

/-- Behind a write into a block that is not this slice's. -/
theorem OwnS.kept {w w' : World} {B : Nat} {a : Option Addr} {n cap : Nat} {xs : List ByteArray} {g : Nat} (h : OwnS w B a n cap xs) (hg : w.grownBy w' (some g)) (hne : g < B ∨ ∀ p, a = some p → p.block ≠ g) : OwnS w' B a n cap xs := by
  refine ⟨h.1.kept hg ?_, h.2⟩
  cases a with
  | none => left; rfl
  | some p =>
    right
    rcases hne with hlt | hne
    · have := (h.1.lt p.block rfl).1
      simp [Value.ownBlock]
      omega
    · have := hne p rfl
      simpa [Value.ownBlock] using this

theorem HasS.kept {w w' : World} {a : Option Addr} {n cap : Nat} {xs : List ByteArray} {g : Nat} (h : HasS w a n cap xs) (hg : w.grownBy w' (some g)) (hne : ∀ p, a = some p → p.block ≠ g) : HasS w' a n cap xs := by
  obtain ⟨h0, h1, h2, h3, h4⟩ := h
  refine ⟨h0, h1, h2, h3, fun hx => ?_⟩
  obtain ⟨b, off, ha, hlt, hc⟩ := h4 hx
  refine ⟨b, off, ha, Nat.lt_of_lt_of_le hlt hg.size, fun i hi => ?_⟩
  have hb : b ≠ g := hne _ ha
  exact hg.cell (hc i hi) (by simpa using hb)

/-- What a law on append or make leaves, in these words. -/
theorem own_of_rowS {w : World} {B : Nat} {v : Value} {n : Nat} {us : List Value} {xs : List ByteArray} (h : w.ownsRow B 9 1 v n us) (hn : n = xs.length) (hu : us = xs.map (Value.string)) (hl : xs.length ≤ 2097152) :
    ∃ a cap, v = .slice a n cap ∧ OwnS w B a n cap xs := by
  subst hu
  have h' := h
  rcases h.2 with ⟨hv, h0⟩ | ⟨g, cap, cur, hv, _⟩
  · refine ⟨none, 0, by rw [hv, h0], ?_⟩
    rw [hv] at h
    exact ⟨by rw [h0] at h ⊢; exact h, hn.symm, by omega⟩
  · exact ⟨_, cap, hv, by rw [hv] at h'; exact h', hn.symm, by omega⟩

/-! ### Lists -/
theorem nth_append_leftS {xs ys : List ByteArray} {i : Nat} (h : i < xs.length) : nthS (xs ++ ys) i = nthS xs i := by
  simp [nthS, List.getElem?_append, h]
theorem nth_append_atS {xs : List ByteArray} {y : ByteArray} : nthS (xs ++ [y]) xs.length = y := by simp [nthS]
theorem nth_takeS {xs : List ByteArray} {i k : Nat} (h : i < k) : nthS (xs.take k) i = nthS xs i := by simp [nthS, h]
theorem take_succ_nthS {xs : List ByteArray} {k : Nat} (h : k < xs.length) : xs.take (k + 1) = xs.take k ++ [nthS xs k] := by
  rw [List.take_succ_eq_append_getElem h]; simp [nthS, h]
theorem ext_nthS {xs ys : List ByteArray} (hl : xs.length = ys.length) (h : ∀ i, i < xs.length → nthS xs i = nthS ys i) : xs = ys := by
  apply List.ext_getElem hl
  intro i h1 h2
  have := h i h1
  simpa [nthS, h1, h2] using this
theorem nth_memS {xs : List ByteArray} {i : Nat} (h : i < xs.length) : nthS xs i ∈ xs := by simp [nthS, h]
theorem mem_nthS {xs : List ByteArray} {x : ByteArray} (h : x ∈ xs) : ∃ i, i < xs.length ∧ nthS xs i = x := by
  obtain ⟨i, hi, e⟩ := List.getElem_of_mem h
  exact ⟨i, hi, by simp [nthS, hi, e]⟩
theorem nth_setS {xs : List ByteArray} {i j : Nat} {y : ByteArray} (h : i < xs.length) : nthS (xs.set i y) j = if i = j then y else nthS xs j := by
  by_cases e : i = j
  · subst e
    simp [nthS, h]
  · simp [nthS, e]

/-! ### Slices of the call's own: opened, stored into, made, appended to -/
theorem OwnS.opened {w : World} {B : Nat} {a : Option Addr} {n cap : Nat} {xs : List ByteArray} (h : OwnS w B a n cap xs) (hx : 0 < n) :
    ∃ g, a = some ⟨g, 0, none⟩ ∧ B ≤ g ∧ g < w.heap.size ∧ (∀ i, i < n → w.cell? ⟨g, i, none⟩ = some (.string (nthS xs i))) ∧ ∀ i, w.frozen? ⟨g, i, none⟩ = false := by
  have h0 := h
  obtain ⟨⟨h1, h2⟩, h3⟩ := h
  rcases h2 with ⟨hv, hn⟩ | ⟨g, cap', cur, hv, hg, hh, hnc, hcm, hcs, htake⟩
  · omega
  · simp at hv
    obtain ⟨rfl, rfl⟩ := hv
    obtain ⟨_, _, _, _, h4⟩ := h0.has
    obtain ⟨b, off, ha, hlt, hc⟩ := h4 hx
    simp at ha
    obtain ⟨rfl, rfl⟩ := ha
    exact ⟨g, rfl, hg, hlt, fun i hi => by simpa using hc i hi, fun i => h0.1.frozenAt i⟩

theorem OwnS.set {w : World} {B g n cap : Nat} {xs : List ByteArray} (h : OwnS w B (some ⟨g, 0, none⟩) n cap xs) (i : Nat) (y : ByteArray) :
    OwnS (w.setCell ⟨g, i, none⟩ (.string y)) B (some ⟨g, 0, none⟩) n cap (xs.set i y) ∧ w.grownBy (w.setCell ⟨g, i, none⟩ (.string y)) (some g) := by
  obtain ⟨h1, h2⟩ := h.1.stored i (.string y)
  refine ⟨⟨?_, by simpa using h.2⟩, h2⟩
  rw [List.map_set]
  exact h1

theorem Tryd.infoStr : (Tryd.prog.info? 9).map (fun i => (i.zero, i.size, i.bytes)) = some (some (.string ⟨#[]⟩), 1, 16) := by kernel_rfl

theorem one_cellS (w : World) (y : ByteArray) : ∀ j u, [Value.string y][j]? = some u → (w.alloc (.cells #[.string y] 9)).cell? ((⟨w.heap.size, 0, none⟩ : Addr).add j) = some u := by
  intro j u hj
  match j, hj with
  | 0, hj =>
    simp at hj
    subst hj
    simp [Addr.add]

/-- 'append(out, y)' of one number to a slice of the call's own. -/
theorem wpList_append_intS {ops : Array Oper} {rest : List Oper} {o : Oper} {a : Act} {Q : Exit → Act → World → Prop} (w : World) (hgd : o.guard = none) (s x : Operand)
    (ho : o.op = .call { callee := .builtin .append, args := #[s, x], argTypes := #[30, 30] })
    (B : Nat) (a0 : Option Addr) (n cap : Nat) (xs : List ByteArray) (y : ByteArray) (hs : a.eval s = .slice a0 n cap) (hx : a.eval x = .slice (some ⟨w.heap.size, 0, none⟩) 1 1)
    (hown : OwnS w B a0 n cap xs) (hl : n + 1 ≤ 2097152) (hB : B ≤ w.heap.size)
    (h : ∀ a' cap' w', OwnS w' B a' (n + 1) cap' (xs ++ [y]) → Below B w w' → wpList Tryd.prog ops Q rest (a.put o.dst (.slice a' (n + 1) cap')) w') :
    wpList Tryd.prog ops Q (o :: rest) a (w.alloc (.cells #[.string y] 9)) := by
  obtain ⟨i0, hi, hz0, hz1, hz2⟩ := info_parts Tryd.infoStr
  have hlen := hown.len
  refine wpList_append_own (P := Tryd.prog) _ hgd s x 30 ho B 9 i0 (.string ⟨#[]⟩) 1 16 Tryd.underlying30 hi hz0 hz1 hz2 rfl (by decide) _ n (xs.map (Value.string)) hs (hown.1.alloc _) ⟨w.heap.size, 0, none⟩ 1 1 [.string y] hx rfl (one_cellS w y) (by intro u hu; simp at hu; subst hu; rfl) (by unfold maxLen; omega) (by omega) (by simp; omega) ?_
  intro v' w' hown' hgrow _
  have hb : Below B w w' := ((Below.refl B w).alloc hB _).grown hgrow (by simp; omega) (fun k hk => (hown.1.lt k hk).1)
  obtain ⟨a', cap', rfl, ho'⟩ := own_of_rowS (xs := xs ++ [y]) hown' (by simp [hlen]) (by simp) (by simp; omega)
  exact h _ _ _ ho' hb

theorem has_cellsS {w : World} {b off n cap : Nat} {ys : List ByteArray} (h : HasS w (some ⟨b, off, none⟩) n cap ys) : ∀ j u, (ys.map (Value.string))[j]? = some u → w.cell? ((⟨b, off, none⟩ : Addr).add j) = some u := by
  intro j u hj
  simp at hj
  obtain ⟨y, hy, rfl⟩ := hj
  obtain ⟨hlt, rfl⟩ := List.getElem?_eq_some_iff.1 hy
  obtain ⟨h0, _, _, _, h4⟩ := h
  obtain ⟨b', off', ha, _, hc⟩ := h4 (by omega)
  simp at ha
  obtain ⟨rfl, rfl⟩ := ha
  have := hc j (by omega)
  have e : (⟨b, off, none⟩ : Addr).add j = ⟨b, off + j, none⟩ := by unfold Addr.add; split <;> simp_all
  rw [e, this]
  simp [nthS, hlt]

theorem run_append_emptyS (w : World) {B : Nat} (ty : TypeId) (a0 a1 : Option Addr) (n cap cap1 : Nat) (xs : List ByteArray) (hown : w.ownsRow B 9 1 (.slice a0 n cap) n (xs.map (Value.string))) :
    (Builtin.append_ #[30, 30] ty #[.slice a0 n cap, .slice a1 0 cap1]).run Tryd.prog w = .ok (.slice a0 n cap) w := by
  obtain ⟨i0, hi, hz0, hz1, hz2⟩ := info_parts Tryd.infoStr
  rcases hown.2 with ⟨hv, hn⟩ | ⟨g, cap', cur, hv, _, _, hnc, _⟩
  · simp at hv
    obtain ⟨rfl, rfl, rfl⟩ := hv
    cases a1 <;> simp [Builtin.append_, run_underlying Tryd.underlying30, sizeOf, typeInfo, hi, Builtin.lenOf, Builtin.firstCells, loadCells, loadCellsFrom]
  · simp at hv
    obtain ⟨rfl, rfl⟩ := hv
    cases a1 <;> simp [Builtin.append_, run_underlying Tryd.underlying30, sizeOf, typeInfo, hi, Builtin.lenOf, Builtin.firstCells, hnc, storeCells, loadCells, loadCellsFrom]

/-- 'append(out, ys...)' to a slice of the call's own. -/
theorem wpList_append_intsS {ops : Array Oper} {rest : List Oper} {o : Oper} {a : Act} {Q : Exit → Act → World → Prop} (w : World) (hgd : o.guard = none) (s x : Operand)
    (ho : o.op = .call { callee := .builtin .append, args := #[s, x], argTypes := #[30, 30] })
    (B : Nat) (a0 a1 : Option Addr) (n m cap cap1 : Nat) (xs ys : List ByteArray) (hs : a.eval s = .slice a0 n cap) (hx : a.eval x = .slice a1 m cap1)
    (hown : OwnS w B a0 n cap xs) (hhas : HasS w a1 m cap1 ys) (hl : n + m ≤ 2097152) (hB : B ≤ w.heap.size)
    (h : ∀ a' k cap' w', k = n + m → OwnS w' B a' k cap' (xs ++ ys) → Below B w w' → wpList Tryd.prog ops Q rest (a.put o.dst (.slice a' k cap')) w') :
    wpList Tryd.prog ops Q (o :: rest) a w := by
  obtain ⟨i0, hi, hz0, hz1, hz2⟩ := info_parts Tryd.infoStr
  have hlx := hown.len
  have hly := hhas.len
  by_cases hy : m = 0
  · obtain rfl : ys = [] := List.eq_nil_of_length_eq_zero (by omega)
    subst hy
    refine wpList_plain hgd fun K hK => ?_
    have hrun := run_append_emptyS w o.type a0 a1 n cap cap1 xs hown.1
    have hx' : a.eval x = .slice a1 0 cap1 := hx
    unfold Oper.wp
    simp [execOp, ho, resolve, invoke, builtin, hs, hx', hrun, Result.andThen]
    exact hK _ _ (h a0 n cap w rfl (by simpa using hown) (Below.refl _ _))
  · obtain ⟨b, off, rfl, _, _⟩ := hhas.2.2.2.2 (by omega)
    refine wpList_append_own (P := Tryd.prog) _ hgd s x 30 ho B 9 i0 (.string ⟨#[]⟩) 1 16 Tryd.underlying30 hi hz0 hz1 hz2 rfl (by decide) _ n (xs.map (Value.string)) hs hown.1 ⟨b, off, none⟩ m cap1 (ys.map (Value.string)) hx (by simp [hly]) (has_cellsS hhas) (by intro u hu; simp at hu; obtain ⟨x, _, rfl⟩ := hu; rfl) (by unfold maxLen; omega) (by omega) hB ?_
    intro v' w' hown' hgrow _
    obtain ⟨a', cap', rfl, ho'⟩ := own_of_rowS (xs := xs ++ ys) hown' (by simp; omega) (by simp) (by simp; omega)
    exact h _ _ _ _ rfl ho' (below_grown hgrow hB fun k hk => (hown.1.lt k hk).1)

/-- 'make([]int, n)'. -/
theorem wpList_make_intsS {ops : Array Oper} {rest : List Oper} {o : Oper} {a : Act} {Q : Exit → Act → World → Prop} (w : World) (hgd : o.guard = none) (l c : Operand) (ho : o.op = Op.makeSlice 30 l c)
    (n : Nat) (hl : a.eval l = .int .i64 (n : Int)) (hc : a.eval c = .int .i64 (n : Int)) (hn : n ≤ 2097152)
    (h : ∀ a' cap' w', OwnS w' w.heap.size a' n cap' (List.replicate n (⟨#[]⟩ : ByteArray)) → Below w.heap.size w w' → wpList Tryd.prog ops Q rest (a.put o.dst (.slice a' n cap')) w') :
    wpList Tryd.prog ops Q (o :: rest) a w := by
  obtain ⟨i0, hi, hz0, hz1, hz2⟩ := info_parts Tryd.infoStr
  refine wpList_make_full (P := Tryd.prog) w hgd l c 30 ho w.heap.size 9 i0 (.string ⟨#[]⟩) 1 Tryd.underlying30 hi hz0 hz1 .i64 .i64 n n n hl hc rfl rfl (by rw [hz2]; omega) (by unfold maxLen; omega) (Nat.le_refl _) ?_
  intro w' hown hgrow
  obtain ⟨a', cap', hv, ho'⟩ := own_of_rowS (xs := List.replicate n (⟨#[]⟩ : ByteArray)) hown (by simp) (by rw [show (Value.string ⟨#[]⟩).cells = #[.string ⟨#[]⟩] from rfl, toList_madeCells_one]; simp) (by simpa using hn)
  rw [hv]
  exact h _ _ _ ho' (below_grown hgrow (Nat.le_refl _) (by simp))

/-- 'make([]int, 0, n)'. -/
theorem wpList_make_roomS {ops : Array Oper} {rest : List Oper} {o : Oper} {a : Act} {Q : Exit → Act → World → Prop} (w : World) (hgd : o.guard = none) (l c : Operand) (ho : o.op = Op.makeSlice 30 l c)
    (n : Nat) (hl : a.eval l = .int .i64 0) (hc : a.eval c = .int .i64 (n : Int)) (hn : n ≤ 2097152)
    (h : ∀ a' cap' w', OwnS w' w.heap.size a' 0 cap' [] → Below w.heap.size w w' → wpList Tryd.prog ops Q rest (a.put o.dst (.slice a' 0 cap')) w') :
    wpList Tryd.prog ops Q (o :: rest) a w := by
  obtain ⟨i0, hi, hz0, hz1, hz2⟩ := info_parts Tryd.infoStr
  refine wpList_make_own (P := Tryd.prog) w hgd l c 30 ho w.heap.size 9 i0 (.string ⟨#[]⟩) 1 Tryd.underlying30 hi hz0 hz1 .i64 .i64 n n hl hc rfl (by rw [hz2]; omega) (by unfold maxLen; omega) (Nat.le_refl _) ?_
  intro w' hown hgrow
  obtain ⟨a', cap', hv, ho'⟩ := own_of_rowS (xs := []) hown (by simp) (by simp) (by simp)
  rw [hv]
  exact h _ _ _ ho' (below_grown hgrow (Nat.le_refl _) (by simp))

end Go.Proofs.YtakadjhbomggbabDoor
