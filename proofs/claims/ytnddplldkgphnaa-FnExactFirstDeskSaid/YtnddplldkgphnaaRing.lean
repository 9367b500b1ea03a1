/- Rings: structures of a number and of an array of twelve numbers, as values and in memory. -/
import Derived.Test.YtnddplldkgphnaaHelp
import Derived.Test.YtnddplldkgphnaaLawKit
import Derived.Test.YtnddplldkgphnaaMathTc
import Derived.Deep.WholeRow
namespace Go.Proofs.Ytnddplldkgphnaa
open Go.RowKit

/-- Numbers as values, one behind the other. -/
def ivals (xs : List Int) : Array Value := (xs.map (Value.int .i64)).toArray
theorem size_ivals (xs : List Int) : (ivals xs).size = xs.length := by simp [ivals]
theorem ivals_at {xs : List Int} {i : Nat} (h : i < xs.length) : (ivals xs)[i]? = some (.int .i64 (nth xs i)) := by simp [ivals, nth, h]
theorem ivals_set {xs : List Int} {i : Nat} {x : Int} : (ivals xs).set! i (.int .i64 x) = ivals (xs.set i x) := by simp [ivals, Array.set!, List.map_set]
theorem ivals_one (xs : List Int) : (ivals xs).all (·.oneCell') = true := by
  rw [Array.all_eq_true_iff_forall_mem]
  intro v hv
  simp [ivals] at hv
  obtain ⟨a, _, rfl⟩ := hv
  rfl

/-- A block that holds a ring. -/
structure RingAt (w : World) (g : Nat) (xs : List Int) : Prop where
  hp : w.heap[g]? = some (.cells (ivals xs) 52 (0, 0))
  len : xs.length = 13
theorem RingAt.cell {w : World} {g : Nat} {xs : List Int} (h : RingAt w g xs) {i : Nat} (hi : i < 13) : w.cell? ⟨g, i, none⟩ = some (.int .i64 (nth xs i)) := by
  unfold World.cell?
  simp only [h.hp]
  simp [ivals_at (show i < xs.length by rw [h.len]; exact hi)]
theorem RingAt.frozen {w : World} {g : Nat} {xs : List Int} (h : RingAt w g xs) (i : Nat) : w.frozen? ⟨g, i, none⟩ = false := by
  unfold World.frozen?
  simp [h.hp]
theorem RingAt.lt {w : World} {g : Nat} {xs : List Int} (h : RingAt w g xs) : g < w.heap.size := (Array.getElem?_eq_some_iff.1 h.hp).1
theorem ringAt_new (w : World) {xs : List Int} (hl : xs.length = 13) : RingAt (w.alloc (.cells (ivals xs) 52)) w.heap.size xs := ⟨heap_alloc_last w _, hl⟩
theorem RingAt.below {w w' : World} {g K : Nat} {xs : List Int} (h : RingAt w g xs) (hb : Below K w w') (hg : g < K) : RingAt w' g xs := ⟨by rw [hb.block g hg]; exact h.hp, h.len⟩
theorem RingAt.alloc {w : World} {g : Nat} {xs : List Int} (h : RingAt w g xs) (o : Obj) : RingAt (w.alloc o) g xs :=
  h.below ((Below.refl (g + 1) w).alloc h.lt o) (Nat.lt_succ_self g)
/-- A ring out of its block. -/
theorem RingAt.load {w : World} {g : Nat} {xs : List Int} (h : RingAt w g xs) : (loadVar 52 ⟨g, 0, none⟩).run Try.prog w = .ok (.agg (ivals xs)) w :=
  run_loadVar_row w g _ _ (ivals xs) (0, 0) _ h.hp Try.underlying52 rfl (by rw [size_ivals, h.len]; kernel_rfl)
theorem RingAt.cells {w : World} {g : Nat} {xs : List Int} (h : RingAt w g xs) : (loadCellsFrom ⟨g, 0, none⟩ 0 13 #[]).run Try.prog w = .ok (ivals xs) w := by
  have := run_loadCells_list (P := Try.prog) w ⟨g, 0, none⟩ (ivals xs).toList (fun j v hv => by
    have hadd : (⟨g, 0, none⟩ : Addr).add j = ⟨g, j, none⟩ := by unfold Addr.add; split <;> simp_all
    rw [hadd, cell_of_row w g j _ _ (0, 0) h.hp]
    simpa using hv)
  simpa [loadCells, size_ivals, h.len] using this
/-- A ring into a block. -/
theorem RingAt.store {w : World} {g : Nat} {xs ys : List Int} (h : RingAt w g xs) (hy : ys.length = 13) : (storeCells ⟨g, 0, none⟩ (ivals ys).toList 0).run Try.prog w = .ok () (w.setRow g (ivals ys)) :=
  run_storeCells_from (P := Try.prog) g _ (ivals ys).toList 0 (ivals xs) w h.hp (by simp [size_ivals, h.len, hy]) (fun v hv => (Array.all_eq_true_iff_forall_mem.1 (ivals_one ys)) v (by simpa using hv))
theorem RingAt.other {w w' : World} {g : Nat} {xs : List Int} (h : RingAt w g xs) (he : w'.heap[g]? = w.heap[g]?) : RingAt w' g xs := ⟨by rw [he]; exact h.hp, h.len⟩
theorem RingAt.setOther {w : World} {g : Nat} {xs : List Int} (h : RingAt w g xs) {a : Addr} (ha : g ≠ a.block) (v : Value) : RingAt (w.setCell a v) g xs := h.other (heap_setCell_other w a g v ha)
theorem RingAt.rowOther {w : World} {g k : Nat} {xs : List Int} (h : RingAt w g xs) (ha : g ≠ k) (cs : Array Value) : RingAt (w.setRow k cs) g xs := h.other (setRow_other w k g cs ha)
theorem RingAt.row {w : World} {g : Nat} {xs ys : List Int} (h : RingAt w g xs) (hy : ys.length = 13) : RingAt (w.setRow g (ivals ys)) g ys := ⟨setRow_heap w g _ _ _ _ h.hp, hy⟩
theorem RingAt.set {w : World} {g i : Nat} {xs : List Int} (h : RingAt w g xs) (x : Int) : RingAt (w.setCell ⟨g, i, none⟩ (.int .i64 x)) g (xs.set i x) := by
  refine ⟨?_, by simp [h.len]⟩
  rw [heap_setCell_same w g i _ _ _ h.hp]
  congr 2
  exact ivals_set
/-- A ring loaded whole, and stored whole. -/
theorem wpList_load_ring {ops : Array Oper} {rest : List Oper} {o : Oper} {a : Act} {w : World} {Q : Exit → Act → World → Prop} (hgd : o.guard = none) (x : Operand) (ho : o.op = .load 52 x)
    (g : Nat) (xs : List Int) (hx : a.eval x = .pointer (some ⟨g, 0, none⟩)) (h : RingAt w g xs) (hk : wpList Try.prog ops Q rest (a.put o.dst (.agg (ivals xs))) w) : wpList Try.prog ops Q (o :: rest) a w :=
  wpList_load_row hgd _ x ho g hx _ (ivals xs) (0, 0) _ h.hp Try.underlying52 rfl (by rw [size_ivals, h.len]; kernel_rfl) hk
theorem wpList_store_ring {ops : Array Oper} {rest : List Oper} {o : Oper} {a : Act} {w : World} {Q : Exit → Act → World → Prop} (hgd : o.guard = none) (x y : Operand) (ho : o.op = .store 52 x y)
    (g : Nat) (xs ys : List Int) (hx : a.eval x = .pointer (some ⟨g, 0, none⟩)) (hy : a.eval y = .agg (ivals ys)) (h : RingAt w g xs) (hl : ys.length = 13) (hk : wpList Try.prog ops Q rest (a.put o.dst undef) (w.setRow g (ivals ys))) : wpList Try.prog ops Q (o :: rest) a w :=
  wpList_store_row hgd _ x y ho g (ivals ys) hx hy _ (ivals xs) h.hp (by rw [size_ivals, hl]; kernel_rfl) (by rw [size_ivals, size_ivals, h.len, hl]) (ivals_one ys) hk
theorem below_row {B g : Nat} {w0 w : World} (hb : Below B w0 w) (hg : B ≤ g) (cs : Array Value) : Below B w0 (w.setRow g cs) :=
  ⟨hb.os, hb.tape, hb.output, by simpa using hb.size, fun k hk => (setRow_other w g k cs (by omega)).trans (hb.block k hk)⟩
/-- A new ring of nothing but zeros. -/
def zeroR : List Int := List.replicate 13 0
theorem ringAt_zero (w : World) : RingAt (w.alloc (.cells #[.int .i64 0, .int .i64 0, .int .i64 0, .int .i64 0, .int .i64 0, .int .i64 0, .int .i64 0, .int .i64 0, .int .i64 0, .int .i64 0, .int .i64 0, .int .i64 0, .int .i64 0] 52)) w.heap.size zeroR := ringAt_new w (xs := zeroR) rfl
/-- Results of which the first is a ring in a variable. -/
theorem results_ring1 {fn : Func} {p : Tmp} (h : fn.results = #[.cell p 52]) (tmps : Array Value) (w : World) (g : Nat) (xs : List Int) (hp : tmps.getD p undef = .pointer (some ⟨g, 0, none⟩)) (R : RingAt w g xs) :
    (results fn tmps).run Try.prog w = .ok (.agg (ivals xs)) w := by
  have hp' : tmps[p]?.getD undef = .pointer (some ⟨g, 0, none⟩) := by simpa using hp
  simp [results, h, hp', asAddr, R.load]
theorem results_ring2 {fn : Func} {p q : Tmp} (h : fn.results = #[.cell p 52, .tmp q]) (tmps : Array Value) (w : World) (g : Nat) (xs : List Int) (v : Value) (hp : tmps.getD p undef = .pointer (some ⟨g, 0, none⟩)) (hq : tmps.getD q undef = v) (R : RingAt w g xs) :
    (results fn tmps).run Try.prog w = .ok (.tuple #[.agg (ivals xs), v]) w := by
  have hp' : tmps[p]?.getD undef = .pointer (some ⟨g, 0, none⟩) := by simpa using hp
  have hq' : tmps[q]?.getD undef = v := by simpa using hq
  simp [results, h, hp', hq', asAddr, R.load]
theorem results_ring3 {fn : Func} {p q r : Tmp} (h : fn.results = #[.cell p 52, .tmp q, .tmp r]) (tmps : Array Value) (w : World) (g : Nat) (xs : List Int) (v u : Value) (hp : tmps.getD p undef = .pointer (some ⟨g, 0, none⟩)) (hq : tmps.getD q undef = v) (hr : tmps.getD r undef = u) (R : RingAt w g xs) :
    (results fn tmps).run Try.prog w = .ok (.tuple #[.agg (ivals xs), v, u]) w := by
  have hp' : tmps[p]?.getD undef = .pointer (some ⟨g, 0, none⟩) := by simpa using hp
  have hq' : tmps[q]?.getD undef = v := by simpa using hq
  have hr' : tmps[r]?.getD undef = u := by simpa using hr
  simp [results, h, hp', hq', hr', asAddr, R.load]
end Go.Proofs.Ytnddplldkgphnaa
