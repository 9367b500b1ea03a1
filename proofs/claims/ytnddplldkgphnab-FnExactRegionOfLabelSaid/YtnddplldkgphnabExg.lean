/- Operations of reGoOn's region, each by its text. -/
import Derived.Test.YtnddplldkgphnabJgo
namespace Go.Proofs.Ytnddplldkgphnab
open Go.RowKit
section
variable {ev : Operand → Value} {o : Oper} {w : World} {x y : Operand} {g i : Nat} {s1 s2 : Value}
theorem ex_field0 (ho : o.op = .fieldAddr 24 x 0) (hx : ev x = .pointer (some ⟨g, 0, none⟩)) : (execOp ev o).run Try.prog w = .ok (.value (.pointer (some ⟨g, 0, none⟩))) w := by
  unfold execOp; simp only [ho]; go_simp
theorem ex_field1 (ho : o.op = .fieldAddr 24 x 1) (hx : ev x = .pointer (some ⟨g, 0, none⟩)) : (execOp ev o).run Try.prog w = .ok (.value (.pointer (some ⟨g, 1, none⟩))) w := by
  unfold execOp; simp only [ho]; go_simp
theorem ex_load (ho : o.op = .load 22 x) (hx : ev x = .pointer (some ⟨g, i, none⟩)) (hc : w.cell? ⟨g, i, none⟩ = some s1) : (execOp ev o).run Try.prog w = .ok (.value s1) w := by
  unfold execOp; simp only [ho]; go_simp
theorem ex_move (ho : o.op = .move x) (hx : ev x = s1) : (execOp ev o).run Try.prog w = .ok (.value s1) w := by
  unfold execOp; simp only [ho]; rw [hx]; rfl
theorem ex_slice {k : Int} (ho : o.op = .buildSlice 22 1 #[(0, x)]) (hx : ev x = .int .i64 k) : (execOp ev o).run Try.prog w = .ok (.value (.slice (some ⟨w.heap.size, 0, none⟩) 1 1)) (w.alloc (.cells #[.int .i64 k] 3)) := by
  unfold execOp; simp only [ho]; go_simp
theorem ex_build {a b : Option Addr} {n c m d : Nat} (ho : o.op = .build 24 #[(0, x), (1, y)]) (hx : ev x = .slice a n c) (hy : ev y = .slice b m d) : (execOp ev o).run Try.prog w = .ok (.value (.agg #[.slice a n c, .slice b m d])) w := by
  unfold execOp; simp only [ho]; go_simp
theorem ex_alloc (ho : o.op = .alloc 24) : (execOp ev o).run Try.prog w = .ok (.value (.pointer (some ⟨w.heap.size, 0, none⟩))) (w.alloc (.cells #[.slice none 0 0, .slice none 0 0] 24)) := by
  unfold execOp; simp only [ho]; go_simp
theorem ex_store {u v : Value} {a b : Option Addr} {n c m d : Nat} (ho : o.op = .store 24 x y) (hx : ev x = .pointer (some ⟨g, 0, none⟩)) (hy : ev y = .agg #[.slice a n c, .slice b m d]) (B : BoxAt w g u v) :
    (execOp ev o).run Try.prog w = .ok .skip ((w.setCell ⟨g, 0, none⟩ (.slice a n c)).setCell ⟨g, 1, none⟩ (.slice b m d)) := by
  obtain ⟨b1, b2, b3, b4⟩ := B
  unfold execOp; simp only [ho]; go_simp
theorem ent_own (args : Array Value) : (callFunc 58 args).run Try.prog w = .ok (.enter 58 args) w := by go_simp
end
end Go.Proofs.Ytnddplldkgphnab
