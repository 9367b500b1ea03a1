/- Rings and their cells, equal or not, as values. -/
import Derived.Test.YtadcmghjhgjeeabRing
import Derived.ChangeKeysEq
namespace Go.Proofs.Ytadcmghjhgjeeab
open Go.RowKit

theorem run_eqItems_ints {P : Program} (w : World) (d : Nat) {e : TypeId} (hu : P.underlying e = some (.int .i64)) (xs ys : List Int) : ∀ is : List Nat, (∀ i ∈ is, i < xs.length ∧ i < ys.length) →
    (Op.eqItems (d + 1) e 1 (ivals xs) (ivals ys) is).run P w = .ok (decide (∀ i ∈ is, nth xs i = nth ys i)) w
  | [], _ => by simp [Op.eqItems]
  | i :: is, h => by
    have hi := h i (by simp)
    have ih := run_eqItems_ints w d hu xs ys is (fun j hj => h j (by simp [hj]))
    have hp : P.plainKey e = true := by simp [Program.plainKey, hu]
    have p1 : (part e (ivals xs) (i * 1)).run P w = .ok (.int .i64 (nth xs i)) w := run_part_plain w hp (by rw [Nat.mul_one]; exact ivals_at hi.1)
    have p2 : (part e (ivals ys) (i * 1)).run P w = .ok (.int .i64 (nth ys i)) w := run_part_plain w hp (by rw [Nat.mul_one]; exact ivals_at hi.2)
    have p3 := run_equalIn_int w d e .i64 .i64 (nth xs i) (nth ys i) hu
    simp only [Op.eqItems, Sem.run_bind, p1, p2, p3, Result.andThen_ok]
    by_cases he : nth xs i = nth ys i
    · simp [he, ih]
    · simp [he]
theorem eq_of_all {n : Nat} {xs ys : List Int} (hx : xs.length = n) (hy : ys.length = n) : (∀ i ∈ List.range n, nth xs i = nth ys i) ↔ xs = ys :=
  ⟨fun h => ext_nth (by rw [hx, hy]) (fun i hi => h i (by simpa [hx] using hi)), fun h i _ => by rw [h]⟩
theorem equalIn_arr (w : World) (d : Nat) {xs ys : List Int} (hx : xs.length = 12) (hy : ys.length = 12) :
    (Op.equalIn (d + 2) 67 (.agg (ivals xs)) (.agg (ivals ys))).run Try.prog w = .ok (decide (xs = ys)) w := by
  have hi : (Try.prog.info? 3).isSome = true := by kernel_rfl
  obtain ⟨i, hi⟩ := Option.isSome_iff_exists.1 hi
  rw [show d + 2 = (d + 1) + 1 from rfl, run_equalIn_array w (d + 1) _ _ Try.underlying67 hi, show Try.prog.cellsOf 3 = 1 by kernel_rfl, run_eqItems_ints w d Try.underlying3 xs ys _ (fun i hi => by simp at hi; omega)]
  simp only [eq_of_all hx hy]
theorem part_size (w : World) {xs : List Int} (hx : xs.length = 13) : (part 3 (ivals xs) 0).run Try.prog w = .ok (.int .i64 (nth xs 0)) w :=
  run_part_plain w (by simp [Program.plainKey, Try.underlying3]) (ivals_at (by omega))
theorem part_cells (w : World) {xs : List Int} (hx : xs.length = 13) : (part 67 (ivals xs) 1).run Try.prog w = .ok (.agg (ivals xs.tail)) w := by
  have hex : (ivals xs).extract 1 13 = ivals xs.tail := by
    cases xs with
    | nil => simp at hx
    | cons a xs =>
      simp at hx
      simp only [ivals, List.map_cons, List.tail_cons]
      simp [List.take_of_length_le, hx]
  simp [part, isAgg, run_underlying Try.underlying67, hex]
theorem eq_parts {n : Nat} {xs ys : List Int} (hx : xs.length = n + 1) (hy : ys.length = n + 1) : xs = ys ↔ nth xs 0 = nth ys 0 ∧ xs.tail = ys.tail := by
  rcases xs with _ | ⟨a, xs⟩
  · cases hx
  · rcases ys with _ | ⟨b, ys⟩
    · cases hy
    · simp [nth]
theorem equalIn_ring (w : World) (d : Nat) {xs ys : List Int} (hx : xs.length = 13) (hy : ys.length = 13) :
    (Op.equalIn (d + 3) 69 (.agg (ivals xs)) (.agg (ivals ys))).run Try.prog w = .ok (decide (xs = ys)) w := by
  have ht : Try.prog.underlying 69 = some (.struct (Try.prog.fieldsOf 69)) := by
    unfold Program.fieldsOf
    rw [Try.underlying69]
  have hp := run_equalIn_struct (P := Try.prog) w (d + 2) 69 (ivals xs) (ivals ys) ht Try.stoodInHeld69
  refine hp.trans ?_
  have hf : (Try.prog.fieldsOf 69).toList.map (fun f => (f.type, f.offset, f.name != "_")) = [(3, 0, true), (67, 1, true)] := by kernel_rfl
  obtain ⟨fs, hfs⟩ : ∃ fs, (Try.prog.fieldsOf 69).toList = fs := ⟨_, rfl⟩
  rw [hfs] at hf ⊢
  clear hp ht hfs
  rcases fs with _ | ⟨f, _ | ⟨g, _ | ⟨k, fs⟩⟩⟩
  · simp at hf
  · simp at hf
  · simp only [List.map_cons, List.map_nil, List.cons.injEq, Prod.mk.injEq, and_true] at hf
    obtain ⟨⟨f1, f2, f3⟩, g1, g2, g3⟩ := hf
    have f3' : f.name ≠ "_" := by simpa using f3
    have g3' : g.name ≠ "_" := by simpa using g3
    have p3 := run_equalIn_int w (d + 1) 3 .i64 .i64 (nth xs 0) (nth ys 0) Try.underlying3
    have p6 := equalIn_arr w d (xs := xs.tail) (ys := ys.tail) (by simp [hx]) (by simp [hy])
    have key := eq_parts hx hy
    by_cases h0 : nth xs 0 = nth ys 0
    · have hb : (nth xs 0 == nth ys 0) = true := by simp [h0]
      rw [hb] at p3
      have hk : decide (xs = ys) = decide (xs.tail = ys.tail) := by rw [decide_eq_decide]; exact key.trans ⟨fun h => h.2, fun h => ⟨h0, h⟩⟩
      rw [hk]
      simp only [Op.eqFields, f3', g3', ne_eq, not_false_eq_true, if_true, f1, f2, g1, g2, Sem.run_bind, part_size w hx, part_size w hy, part_cells w hx, part_cells w hy, Result.andThen_ok, p3, p6, Bool.not_true, Bool.false_eq_true, if_false]
      by_cases ht : xs.tail = ys.tail <;> simp [ht]
    · have hb : (nth xs 0 == nth ys 0) = false := by simp [h0]
      rw [hb] at p3
      have hk : decide (xs = ys) = false := by simp only [decide_eq_false_iff_not]; exact fun h => h0 (key.1 h).1
      rw [hk]
      simp only [Op.eqFields, f3', ne_eq, not_false_eq_true, if_true, f1, f2, Sem.run_bind, part_size w hx, part_size w hy, Result.andThen_ok, p3, Bool.not_false, Sem.run_pure]
  · simp at hf
/-- Equal or not, in a walk. -/
theorem wpList_eql_arr {ops : Array Oper} {rest : List Oper} {o : Oper} {a : Act} {w : World} {Q : Exit → Act → World → Prop} (hgd : o.guard = none) (x y : Operand) (s : TypeId) (ho : o.op = .binOp .eql 67 x y s)
    {xs ys : List Int} (hx : a.eval x = .agg (ivals xs)) (hy : a.eval y = .agg (ivals ys)) (lx : xs.length = 12) (ly : ys.length = 12) (hk : wpList Try.prog ops Q rest (a.put o.dst (.bool (decide (xs = ys)))) w) : wpList Try.prog ops Q (o :: rest) a w :=
  wpList_plain hgd fun _ hK => by
    have := hK _ _ hk
    unfold Oper.wp execOp
    simp only [ho, hx, hy, Sem.run_bind, Result.andThen_ok, run_eqGuard_agg w .eql 67 x y _ _ Try.eqGuardType67, run_eql_struct, equalIn_arr w 9998 lx ly]
    exact this
theorem wpList_eql_ring {ops : Array Oper} {rest : List Oper} {o : Oper} {a : Act} {w : World} {Q : Exit → Act → World → Prop} (hgd : o.guard = none) (x y : Operand) (s : TypeId) (ho : o.op = .binOp .eql 69 x y s)
    {xs ys : List Int} (hx : a.eval x = .agg (ivals xs)) (hy : a.eval y = .agg (ivals ys)) (lx : xs.length = 13) (ly : ys.length = 13) (hk : wpList Try.prog ops Q rest (a.put o.dst (.bool (decide (xs = ys)))) w) : wpList Try.prog ops Q (o :: rest) a w :=
  wpList_plain hgd fun _ hK => by
    have := hK _ _ hk
    unfold Oper.wp execOp
    simp only [ho, hx, hy, Sem.run_bind, Result.andThen_ok, run_eqGuard_agg w .eql 69 x y _ _ Try.eqGuardType69, run_eql_struct, equalIn_ring w 9997 lx ly]
    exact this
theorem wpList_neq_ring {ops : Array Oper} {rest : List Oper} {o : Oper} {a : Act} {w : World} {Q : Exit → Act → World → Prop} (hgd : o.guard = none) (x y : Operand) (s : TypeId) (ho : o.op = .binOp .neq 69 x y s)
    {xs ys : List Int} (hx : a.eval x = .agg (ivals xs)) (hy : a.eval y = .agg (ivals ys)) (lx : xs.length = 13) (ly : ys.length = 13) (hk : wpList Try.prog ops Q rest (a.put o.dst (.bool (!decide (xs = ys)))) w) : wpList Try.prog ops Q (o :: rest) a w :=
  wpList_plain hgd fun _ hK => by
    have := hK _ _ hk
    unfold Oper.wp execOp
    simp only [ho, hx, hy, Sem.run_bind, Result.andThen_ok, run_eqGuard_agg w .neq 69 x y _ _ Try.eqGuardType69, run_neq_struct, equalIn_ring w 9997 lx ly]
    exact this
/-- The cells of a ring in a variable, loaded as one value. -/
theorem RingAt.loadCells {w : World} {g : Nat} {xs : List Int} (h : RingAt w g xs) : (loadVar 67 ⟨g, 1, none⟩).run Try.prog w = .ok (.agg (ivals xs.tail)) w := by
  have hl := run_loadCells_list (P := Try.prog) w ⟨g, 1, none⟩ (ivals xs.tail).toList (fun j v hv => by
    have hadd : (⟨g, 1, none⟩ : Addr).add j = ⟨g, 1 + j, none⟩ := by unfold Addr.add; split <;> simp_all
    rw [hadd, cell_of_row w g (1 + j) _ _ (0, 0) h.hp]
    simp [ivals] at hv ⊢
    rw [Nat.add_comm]
    exact hv)
  have hlen : (ivals xs.tail).toList.length = 12 := by simp [ivals, h.len]
  rw [hlen] at hl
  simp [loadVar, isAgg, run_underlying Try.underlying67, hl]
theorem wpList_load_cells {ops : Array Oper} {rest : List Oper} {o : Oper} {a : Act} {w : World} {Q : Exit → Act → World → Prop} (hgd : o.guard = none) (x : Operand) (ho : o.op = .load 67 x)
    (g : Nat) (xs : List Int) (hx : a.eval x = .pointer (some ⟨g, 1, none⟩)) (h : RingAt w g xs) (hk : wpList Try.prog ops Q rest (a.put o.dst (.agg (ivals xs.tail))) w) : wpList Try.prog ops Q (o :: rest) a w :=
  wpList_plain hgd fun _ hK => by
    have := hK _ _ hk
    unfold Oper.wp execOp
    simp only [ho, hx, Instr.loadAt, Instr.sureAddr, Sem.run_bind, Sem.run_pure, Result.andThen_ok, h.loadCells]
    exact this
end Go.Proofs.Ytadcmghjhgjeeab
