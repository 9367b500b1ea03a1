/- 'copy' of integers into the call's own. -/
import Derived.Test.YtakadjhbomggbaaGreatBase
import Derived.Laws.CopyOwn
namespace Go.Proofs.YtakadjhbomggbaaGreat
open Go.RowKit

/-- Numbers laid over the first ones. -/
def over0 (xs ys : List Int) : List Int := ys.take xs.length ++ xs.drop ys.length
theorem length_over0 (xs ys : List Int) : (over0 xs ys).length = xs.length := by simp [over0]; omega
theorem over0_all {xs ys : List Int} (h : ys.length = xs.length) : over0 xs ys = ys := by
  simp [over0, h, List.take_of_length_le (Nat.le_of_eq h)]
theorem over0_nth {xs ys : List Int} (h : ys.length ≤ xs.length) (i : Nat) : nth (over0 xs ys) i = if i < ys.length then nth ys i else nth xs i := by
  unfold over0
  rw [List.take_of_length_le h]
  split
  · rw [nth_append_left (by assumption)]
  · simp only [nth, List.getD_eq_getElem?_getD, List.getElem?_append, List.getElem?_drop]
    rw [if_neg (by assumption), show ys.length + (i - ys.length) = i by omega]

theorem wpList_copy_intsT (T S : TypeId) (hT : Tryz.prog.underlying T = some (.slice 3)) {ops : Array Oper} {rest : List Oper} {o : Oper} {a : Act} {Q : Exit → Act → World → Prop} (w : World) (hgd : o.guard = none) (d s : Operand)
    (ho : o.op = .call { callee := .builtin .copy, args := #[d, s], argTypes := #[T, S] })
    (B : Nat) (a0 a1 : Option Addr) (n m cap cap1 : Nat) (xs ys : List Int) (hd : a.eval d = .slice a0 n cap) (hs : a.eval s = .slice a1 m cap1)
    (hown : Own w B a0 n cap xs) (hhas : Has w a1 m cap1 ys) (hmn : m ≤ n)
    (h : ∀ w', Own w' B a0 n cap (over0 xs ys) → Below B w w' → wpList Tryz.prog ops Q rest (a.put o.dst (.int .i64 (m : Int))) w') :
    wpList Tryz.prog ops Q (o :: rest) a w := by
  have hlx := hown.len
  have hly := hhas.len
  obtain ⟨⟨h1, h2⟩, h3⟩ := hown
  obtain ⟨i0, hi, hz0, hz1, hz2⟩ := info_parts Tryz.infoInt
  have hsz : (Tryz.prog.info? 3).map (·.size) = some 1 := by rw [hi]; simp [hz1]
  rcases h2 with ⟨hv, hn⟩ | ⟨g, cap', cur, hv, hg, hh, hnc, hcm, hcs, htake⟩
  · simp at hv
    obtain ⟨rfl, _, rfl⟩ := hv
    obtain rfl : m = 0 := by omega
    refine wpList_copy_nothing hgd d s T S ho 3 hT hsz none a1 n 0 0 cap1 hd hs (by simp) ?_
    have hx : xs = [] := List.eq_nil_of_length_eq_zero (by omega)
    have hy : ys = [] := List.eq_nil_of_length_eq_zero (by omega)
    subst hx hy
    exact h w ⟨⟨h1, .inl ⟨by simp; omega, hn⟩⟩, h3⟩ (Below.refl _ _)
  · simp at hv
    obtain ⟨rfl, rfl⟩ := hv
    refine wpList_copy_splice hgd d s T S ho 3 hT hsz (some ⟨g, 0, none⟩) a1 n cap m cap1 hd hs g 0 cur.toList 3 (by simpa using hh) (ys.map (Value.int .i64)) (by rw [List.length_map, hly]; exact (Nat.min_eq_left hmn).symm) (fun hp => ⟨rfl, ?_⟩) (by simp; omega) (by intro v hv; obtain ⟨y, _, rfl⟩ := List.mem_map.1 hv; rfl) B w (Below.refl _ _) hg ?_
    · obtain ⟨b, off, rfl, _, _⟩ := hhas.2.2.2.2 (by simp at hp; omega)
      exact ⟨_, rfl, has_cells hhas⟩
    · intro w' hw' hb
      have e : (a.put o.dst (goInt (ys.map (Value.int .i64)).length)) = a.put o.dst (.int .i64 (m : Int)) := by simp [goInt, hly]
      rw [e]
      refine h w' ⟨⟨by rw [List.length_map, length_over0]; simpa using h1, .inr ⟨g, cap, _, rfl, hg, hw'.out, hnc, hcm, ?_, ?_⟩⟩, by rw [length_over0]; exact h3.1, h3.2⟩ hb
      · simp only [splice, Nat.zero_add, List.length_map]
        simp
        omega
      · have ht : cur.toList.take n = xs.map (Value.int .i64) := by simpa using htake
        simp only [splice, List.take_zero, List.nil_append, Nat.zero_add, List.length_map, Nat.mul_one, over0, List.map_append, List.map_take, List.map_drop]
        rw [List.take_append, List.take_of_length_le (by simp; omega), List.length_map, ← ht, List.take_of_length_le (l := ys.map (Value.int .i64)) (by simp; omega), List.drop_take]
theorem wpList_copy_ints {ops : Array Oper} {rest : List Oper} {o : Oper} {a : Act} {Q : Exit → Act → World → Prop} (w : World) (hgd : o.guard = none) (d s : Operand)
    (ho : o.op = .call { callee := .builtin .copy, args := #[d, s], argTypes := #[31, 31] })
    (B : Nat) (a0 a1 : Option Addr) (n m cap cap1 : Nat) (xs ys : List Int) (hd : a.eval d = .slice a0 n cap) (hs : a.eval s = .slice a1 m cap1)
    (hown : Own w B a0 n cap xs) (hhas : Has w a1 m cap1 ys) (hmn : m ≤ n)
    (h : ∀ w', Own w' B a0 n cap (over0 xs ys) → Below B w w' → wpList Tryz.prog ops Q rest (a.put o.dst (.int .i64 (m : Int))) w') :
    wpList Tryz.prog ops Q (o :: rest) a w := wpList_copy_intsT 31 31 Tryz.underlying31 w hgd d s ho B a0 a1 n m cap cap1 xs ys hd hs hown hhas hmn h

/-- 'make(T, n)' of integers. -/
theorem wpList_make_intsT (T : TypeId) (hT : Tryz.prog.underlying T = some (.slice 3)) {ops : Array Oper} {rest : List Oper} {o : Oper} {a : Act} {Q : Exit → Act → World → Prop} (w : World) (hgd : o.guard = none) (l c : Operand) (ho : o.op = Op.makeSlice T l c)
    (n : Nat) (hl : a.eval l = .int .i64 (n : Int)) (hc : a.eval c = .int .i64 (n : Int)) (hn : n ≤ 2097152)
    (h : ∀ a' cap' w', Own w' w.heap.size a' n cap' (List.replicate n 0) → Below w.heap.size w w' → wpList Tryz.prog ops Q rest (a.put o.dst (.slice a' n cap')) w') :
    wpList Tryz.prog ops Q (o :: rest) a w := by
  obtain ⟨i0, hi, hz0, hz1, hz2⟩ := info_parts Tryz.infoInt
  refine wpList_make_full (P := Tryz.prog) w hgd l c T ho w.heap.size 3 i0 (.int .i64 0) 1 hT hi hz0 hz1 .i64 .i64 n n n hl hc rfl rfl (by rw [hz2]; omega) (by unfold maxLen; omega) (Nat.le_refl _) ?_
  intro w' hown hgrow
  obtain ⟨a', cap', hv, ho'⟩ := own_of_row (xs := List.replicate n 0) hown (by simp) (by rw [show (Value.int IntKind.i64 0).cells = #[.int .i64 0] from rfl, toList_madeCells_one]; simp) (by simpa using hn)
  rw [hv]
  exact h _ _ _ ho' (below_grown hgrow (Nat.le_refl _) (by simp))
end Go.Proofs.YtakadjhbomggbaaGreat
