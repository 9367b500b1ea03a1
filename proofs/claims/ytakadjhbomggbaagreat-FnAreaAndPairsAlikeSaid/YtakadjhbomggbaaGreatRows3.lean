/- 'append(out, rows...)' of any number of rows. -/
import Derived.Test.YtakadjhbomggbaaGreatHelp2
namespace Go.Proofs.YtakadjhbomggbaaGreat
open Go.RowKit

theorem run_append_emptyR (w : World) {B : Nat} (ty : TypeId) (a0 a1 : Option Addr) (n cap cap1 : Nat) (us : List Value) (hown : w.ownsRow B 31 1 (.slice a0 n cap) n us) :
    (Builtin.append_ #[25, 25] ty #[.slice a0 n cap, .slice a1 0 cap1]).run Tryz.prog w = .ok (.slice a0 n cap) w := by
  obtain ⟨i0, hi, hz0, hz1, hz2⟩ := info_parts Tryz.infoInts
  rcases hown.2 with ⟨hv, hn⟩ | ⟨g, cap', cur, hv, _, _, hnc, _⟩
  · simp at hv
    obtain ⟨rfl, rfl, rfl⟩ := hv
    cases a1 <;> simp [Builtin.append_, run_underlying Tryz.underlying25, sizeOf, typeInfo, hi, Builtin.lenOf, Builtin.firstCells, loadCells, loadCellsFrom]
  · simp at hv
    obtain ⟨rfl, rfl⟩ := hv
    cases a1 <;> simp [Builtin.append_, run_underlying Tryz.underlying25, sizeOf, typeInfo, hi, Builtin.lenOf, Builtin.firstCells, hnc, storeCells, loadCells, loadCellsFrom]

theorem wpList_append_rowsAny {ops : Array Oper} {rest : List Oper} {o : Oper} {a : Act} {Q : Exit → Act → World → Prop} (w0 w : World) (hgd : o.guard = none) (s x : Operand)
    (ho : o.op = .call { callee := .builtin .append, args := #[s, x], argTypes := #[25, 25] })
    (B : Nat) (a0 a1 : Option Addr) (n m cap c1 : Nat) (rs ss : List Rw) (hs : a.eval s = .slice a0 n cap) (hx : a.eval x = .slice a1 m c1)
    (hown : OwnR w0 B a0 n cap rs) (hb : Below w0.heap.size w0 w) (hsrc : OwnR w w0.heap.size a1 m c1 ss) (hl : n + m ≤ 2097152) (hB : B ≤ w0.heap.size)
    (h : ∀ a' k cap' w', Hid (k = n + m) → OwnR w' B a' k cap' (rs ++ ss) → Below B w w' → wpList Tryz.prog ops Q rest (a.put o.dst (.slice a' k cap')) w') :
    wpList Tryz.prog ops Q (o :: rest) a w := by
  by_cases hm : 0 < m
  · exact wpList_append_rows w0 w hgd s x ho B a0 a1 n m cap c1 rs ss hs hx hown hb hsrc hm hl hB h
  · obtain rfl : m = 0 := by omega
    obtain rfl : ss = [] := List.eq_nil_of_length_eq_zero hsrc.len
    have hownw := hown.below hb (Nat.le_refl _)
    refine wpList_plain hgd fun K hK => ?_
    have hrun := run_append_emptyR w o.type a0 a1 n cap c1 _ hownw.1
    unfold Oper.wp
    simp [execOp, ho, resolve, invoke, builtin, hs, hx, hrun, Result.andThen]
    exact hK _ _ (h a0 n cap w (hid rfl) (by simpa using hownw) (Below.refl _ _))
end Go.Proofs.YtakadjhbomggbaaGreat
