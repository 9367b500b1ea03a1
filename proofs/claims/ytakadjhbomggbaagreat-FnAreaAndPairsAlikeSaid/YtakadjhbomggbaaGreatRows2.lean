/- Slices of slices of integers: how they read, which are the call's own, and the laws on make and append in these words. -/
import Derived.Test.YtakadjhbomggbaaGreatLawKit
namespace Go.Proofs.YtakadjhbomggbaaGreat
open Go.RowKit

/-- A row: where it lies, and its numbers. -/
structure Rw where
  a : Option Addr
  c : Nat
  xs : List Int

def Rw.v (r : Rw) : Value := .slice r.a r.xs.length r.c
def Rw.none' : Rw := ⟨none, 0, []⟩
/-- The i-th row. -/
def nthR (rs : List Rw) (i : Nat) : Rw := rs.getD i Rw.none'
theorem nthR_append_left {rs ss : List Rw} {i : Nat} (h : i < rs.length) : nthR (rs ++ ss) i = nthR rs i := by simp [nthR, List.getElem?_append, h]
theorem nthR_append_right {rs ss : List Rw} {i : Nat} (h : rs.length ≤ i) : nthR (rs ++ ss) i = nthR ss (i - rs.length) := by
  simp [nthR, List.getElem?_append, Nat.not_lt.2 h]
theorem nthR_one (r : Rw) : nthR [r] 0 = r := by simp [nthR]
theorem ext_nthR {rs ss : List Rw} (hl : rs.length = ss.length) (h : ∀ i, i < rs.length → nthR rs i = nthR ss i) : rs = ss := by
  apply List.ext_getElem hl
  intro i h1 h2
  have := h i h1
  simpa [nthR, h1, h2] using this
theorem map_nthR {β : Type} (f : Rw → β) {rs : List Rw} {i : Nat} (h : i < rs.length) : (rs.map f)[i]? = some (f (nthR rs i)) := by simp [nthR, h]

/-- The slice of slices reads as the rows. -/
def HasR (w : World) (a : Option Addr) (n cap : Nat) (rs : List Rw) : Prop :=
  rs.length = n ∧ n ≤ cap ∧ cap ≤ maxLen ∧ n ≤ 2097152 ∧
  (0 < n → ∃ b off, a = some ⟨b, off, none⟩ ∧ b < w.heap.size ∧ ∀ i, i < n → w.cell? ⟨b, off + i, none⟩ = some (nthR rs i).v) ∧
  ∀ i, i < n → Has w (nthR rs i).a (nthR rs i).xs.length (nthR rs i).c (nthR rs i).xs

/-- It and its rows are the call's own, the rows in blocks of their own, later rows in later blocks. -/
def OwnR (w : World) (B : Nat) (a : Option Addr) (n cap : Nat) (rs : List Rw) : Prop :=
  w.ownsRow B 31 1 (.slice a n cap) n (rs.map Rw.v) ∧ rs.length = n ∧ n ≤ 2097152 ∧
  (∀ i, i < n → Own w B (nthR rs i).a (nthR rs i).xs.length (nthR rs i).c (nthR rs i).xs) ∧
  ∀ i j p q, i < j → j < n → (nthR rs i).a = some p → (nthR rs j).a = some q → p.block ≠ q.block

theorem OwnR.len {w : World} {B : Nat} {a : Option Addr} {n cap : Nat} {rs : List Rw} (h : OwnR w B a n cap rs) : rs.length = n := h.2.1
theorem OwnR.le {w : World} {B : Nat} {a : Option Addr} {n cap : Nat} {rs : List Rw} (h : OwnR w B a n cap rs) : n ≤ 2097152 := h.2.2.1

theorem OwnR.has {w : World} {B : Nat} {a : Option Addr} {n cap : Nat} {rs : List Rw} (h : OwnR w B a n cap rs) : HasR w a n cap rs := by
  obtain ⟨h1, h2, h3, h4, h5⟩ := h
  have h6 := fun i hi => (h4 i hi).has
  rcases h1.2 with ⟨hv, hn⟩ | ⟨g, cap', cur, hv, hg, hh, hnc, hcm, hcs, htake⟩
  · simp at hv
    obtain ⟨rfl, hl, rfl⟩ := hv
    exact ⟨h2, by omega, by unfold maxLen; omega, h3, by omega, h6⟩
  · simp at hv
    obtain ⟨rfl, rfl⟩ := hv
    refine ⟨h2, hnc, hcm, h3, fun _ => ⟨g, 0, rfl, (Array.getElem?_eq_some_iff.1 hh).1, fun i hi => ?_⟩, h6⟩
    rw [Nat.zero_add, h1.cellAt i (by omega), map_nthR _ (by omega)]

theorem OwnR.nil (w : World) (B : Nat) : OwnR w B none 0 0 [] := ⟨⟨by simp, .inl ⟨rfl, rfl⟩⟩, rfl, by omega, by omega, by omega⟩

theorem HasR.below {w w' : World} {a : Option Addr} {n cap : Nat} {rs : List Rw} {B : Nat} (h : HasR w a n cap rs) (hb : Below B w w') (hB : w.heap.size ≤ B) : HasR w' a n cap rs := by
  obtain ⟨h0, h1, h2, h3, h4, h5⟩ := h
  refine ⟨h0, h1, h2, h3, fun hx => ?_, fun i hi => (h5 i hi).below hb hB⟩
  obtain ⟨b, off, ha, hlt, hc⟩ := h4 hx
  exact ⟨b, off, ha, Nat.lt_of_lt_of_le hlt hb.size, fun i hi => by rw [hb.cell (p := ⟨b, off + i, none⟩) (by simp; omega)]; exact hc i hi⟩

theorem ownsRow_below {w w' : World} {B K : Nat} {e : TypeId} {v : Value} {n : Nat} {us : List Value} (h : w.ownsRow B e 1 v n us) (hb : Below K w w') (hl : ∀ k, v.ownBlock = some k → k < K) : w'.ownsRow B e 1 v n us := by
  refine ⟨h.1, ?_⟩
  rcases h.2 with h2 | ⟨g, cap', cur, hv, hg, hh, r⟩
  · exact .inl h2
  · exact .inr ⟨g, cap', cur, hv, hg, by rw [hb.block g (hl g (by rw [hv]; rfl))]; exact hh, r⟩

theorem Own.belowB {w w' : World} {B K : Nat} {a : Option Addr} {n cap : Nat} {xs : List Int} (h : Own w B a n cap xs) (hb : Below K w w') (hl : BlkLt a K) : Own w' B a n cap xs :=
  ⟨ownsRow_below h.1 hb (fun k hk => by
    cases a with
    | none => simp [Value.ownBlock] at hk
    | some p => simp [Value.ownBlock] at hk; subst hk; exact hl p rfl), h.2⟩

/-- All its blocks are less than K. -/
def RLt (a : Option Addr) (rs : List Rw) (K : Nat) : Prop := BlkLt a K ∧ ∀ i, i < rs.length → BlkLt (nthR rs i).a K
theorem OwnR.lt {w : World} {B : Nat} {a : Option Addr} {n cap : Nat} {rs : List Rw} (h : OwnR w B a n cap rs) : RLt a rs w.heap.size :=
  ⟨by rintro p rfl; exact (h.1.lt p.block rfl).2, fun i hi => (h.2.2.2.1 i (by rw [← h.len]; exact hi)).lt⟩
theorem OwnR.belowB {w w' : World} {B K : Nat} {a : Option Addr} {n cap : Nat} {rs : List Rw} (h : OwnR w B a n cap rs) (hb : Below K w w') (hl : RLt a rs K) : OwnR w' B a n cap rs :=
  ⟨ownsRow_below h.1 hb (fun k hk => by
    cases a with
    | none => simp [Value.ownBlock] at hk
    | some p => simp [Value.ownBlock] at hk; subst hk; exact hl.1 p rfl), h.2.1, h.2.2.1, fun i hi => (h.2.2.2.1 i hi).belowB hb (hl.2 i (by rw [h.len]; exact hi)), h.2.2.2.2⟩
theorem OwnR.below {w w' : World} {B K : Nat} {a : Option Addr} {n cap : Nat} {rs : List Rw} (h : OwnR w B a n cap rs) (hb : Below K w w') (hB : w.heap.size ≤ K) : OwnR w' B a n cap rs :=
  h.belowB hb ⟨fun p hp => Nat.lt_of_lt_of_le (h.lt.1 p hp) hB, fun i hi p hp => Nat.lt_of_lt_of_le (h.lt.2 i hi p hp) hB⟩
theorem Own.mono' {w : World} {B B' : Nat} {a : Option Addr} {n cap : Nat} {xs : List Int} (h : Own w B a n cap xs) (hB : B' ≤ B) : Own w B' a n cap xs := h.mono hB
theorem ownsRow_mono {w : World} {B B' : Nat} {e : TypeId} {v : Value} {n : Nat} {us : List Value} (h : w.ownsRow B e 1 v n us) (hB : B' ≤ B) : w.ownsRow B' e 1 v n us := by
  refine ⟨h.1, ?_⟩
  rcases h.2 with h2 | ⟨g, cap', cur, hv, hg, r⟩
  · exact .inl h2
  · exact .inr ⟨g, cap', cur, hv, by omega, r⟩
theorem OwnR.mono {w : World} {B B' : Nat} {a : Option Addr} {n cap : Nat} {rs : List Rw} (h : OwnR w B a n cap rs) (hB : B' ≤ B) : OwnR w B' a n cap rs :=
  ⟨ownsRow_mono h.1 hB, h.2.1, h.2.2.1, fun i hi => (h.2.2.2.1 i hi).mono hB, h.2.2.2.2⟩

/-- Behind a mark in a block before its own. -/
theorem OwnR.marked_gt {w w' : World} {B : Nat} {a a' : Option Addr} {n cap : Nat} {rs : List Rw} (h : OwnR w B a n cap rs) (hm : Marked w w' a') (hl : BlkLt a' B) : OwnR w' B a n cap rs := by
  refine ⟨?_, h.2.1, h.2.2.1, fun i hi => (h.2.2.2.1 i hi).marked_gt hm hl, h.2.2.2.2⟩
  obtain ⟨row, hgr, hr⟩ := hm
  refine h.1.kept hgr ?_
  cases a with
  | none => left; rfl
  | some p =>
    right
    have := (h.1.lt p.block rfl).1
    cases row with
    | none => simp [Value.ownBlock]
    | some g =>
      obtain ⟨q, rfl, rfl⟩ := hr g rfl
      have := hl q rfl
      simp [Value.ownBlock]
      omega

theorem Tryz.infoInts : (Tryz.prog.info? 31).map (fun i => (i.zero, i.size, i.bytes)) = some (some (.slice none 0 0), 1, 24) := by kernel_rfl

/-- What a law on append or make leaves, in these words. -/
theorem slice_of_row {w : World} {B : Nat} {e : TypeId} {v : Value} {n : Nat} {us : List Value} (h : w.ownsRow B e 1 v n us) : ∃ a cap, v = .slice a n cap := by
  rcases h.2 with ⟨hv, h0⟩ | ⟨g, cap, cur, hv, _⟩
  · exact ⟨none, 0, by rw [hv, h0]⟩
  · exact ⟨_, cap, hv⟩

/-- A row behind the others. -/
theorem ownR_snoc {w0 w : World} {B : Nat} {a a' : Option Addr} {n cap cap' : Nat} {rs : List Rw} {r : Rw} {K : Nat} (h : OwnR w0 B a n cap rs) (hb : Below K w0 w) (hlt : RLt a rs K) (hr : Own w B r.a r.xs.length r.c r.xs) (hge : BlkGe r.a K)
    (ho : w.ownsRow B 31 1 (.slice a' (n + 1) cap') (n + 1) ((rs ++ [r]).map Rw.v)) (hn : n + 1 ≤ 2097152) : OwnR w B a' (n + 1) cap' (rs ++ [r]) := by
  have hl := h.len
  refine ⟨ho, by simp [hl], hn, fun i hi => ?_, fun i j p q hij hj hp hq => ?_⟩
  · by_cases e : i < n
    · rw [nthR_append_left (by omega)]
      exact (h.2.2.2.1 i e).belowB hb (hlt.2 i (by omega))
    · obtain rfl : i = n := by omega
      rw [nthR_append_right (by omega), hl, Nat.sub_self, nthR_one]
      exact hr
  · rw [nthR_append_left (by omega)] at hp
    by_cases e : j < n
    · rw [nthR_append_left (by omega)] at hq
      exact h.2.2.2.2 i j p q hij e hp hq
    · obtain rfl : j = n := by omega
      rw [nthR_append_right (by omega), hl, Nat.sub_self, nthR_one] at hq
      have h1 := hlt.2 i (by omega) p hp
      have h2 := hge q hq
      omega

theorem one_cellV (w : World) (v : Value) (t : TypeId) : ∀ j u, [v][j]? = some u → (w.alloc (.cells #[v] t)).cell? ((⟨w.heap.size, 0, none⟩ : Addr).add j) = some u := by
  intro j u hj
  match j, hj with
  | 0, hj =>
    simp at hj
    subst hj
    simp [Addr.add]

/-- 'append(out, row)': w0: the world in which the rows so far were complete; the new row is younger. -/
theorem wpList_append_row {ops : Array Oper} {rest : List Oper} {o : Oper} {a : Act} {Q : Exit → Act → World → Prop} (w0 w : World) (hgd : o.guard = none) (s x : Operand)
    (ho : o.op = .call { callee := .builtin .append, args := #[s, x], argTypes := #[25, 25] })
    (B : Nat) (a0 : Option Addr) (n cap : Nat) (rs : List Rw) (a1 : Option Addr) (m c1 : Nat) (ys : List Int) (hs : a.eval s = .slice a0 n cap) (hx : a.eval x = .slice (some ⟨w.heap.size, 0, none⟩) 1 1)
    (hown : OwnR w0 B a0 n cap rs) (hb : Below w0.heap.size w0 w) (hrow : Own w w0.heap.size a1 m c1 ys) (hl : n + 1 ≤ 2097152) (hB : B ≤ w0.heap.size)
    (h : ∀ a' cap' w', OwnR w' B a' (n + 1) cap' (rs ++ [⟨a1, c1, ys⟩]) → Below B w w' → wpList Tryz.prog ops Q rest (a.put o.dst (.slice a' (n + 1) cap')) w') :
    wpList Tryz.prog ops Q (o :: rest) a (w.alloc (.cells #[.slice a1 m c1] 31)) := by
  obtain ⟨i0, hi, hz0, hz1, hz2⟩ := info_parts Tryz.infoInts
  have hlen := hown.len
  have hm : ys.length = m := hrow.len
  have hsz := hb.size
  have hownw := hown.below hb (Nat.le_refl _)
  refine wpList_append_own (P := Tryz.prog) _ hgd s x 25 ho B 31 i0 (.slice none 0 0) 1 24 Tryz.underlying25 hi hz0 hz1 hz2 rfl (by decide) _ n (rs.map Rw.v) hs (hownw.1.alloc _) ⟨w.heap.size, 0, none⟩ 1 1 [.slice a1 m c1] hx rfl (one_cellV w _ _) (by intro u hu; simp at hu; subst hu; rfl) (by unfold maxLen; omega) (by omega) (by simp; omega) ?_
  intro v' w' hown' hgrow _
  have hbw : Below B w w' := ((Below.refl B w).alloc (by omega) _).grown hgrow (by simp; omega) (fun k hk => (hownw.1.lt k hk).1)
  obtain ⟨a', cap', rfl⟩ := slice_of_row hown'
  -- rows lie in blocks that the append has not written: they hold integers, the slice's own block slices
  have hkeep : ∀ {aa : Option Addr} {k c : Nat} {zs : List Int} {BB : Nat}, Own w BB aa k c zs → Own w' BB aa k c zs := by
    intro aa k c zs BB hz
    refine ⟨(hz.1.alloc _).kept hgrow ?_, hz.2⟩
    cases aa with
    | none => left; rfl
    | some p =>
      right
      rcases hz.1.2 with ⟨hv, _⟩ | ⟨g1, cap1, cur1, hv1, _, hh1, _⟩
      · simp at hv
      · simp at hv1
        rcases hownw.1.2 with ⟨hv2, _⟩ | ⟨g2, cap2, cur2, hv2, _, hh2, _⟩
        · simp at hv2
          rw [hv2.1]
          simp [Value.ownBlock]
        · simp at hv2
          rw [hv2.1, hv1.1]
          simp only [Value.ownBlock]
          intro e
          simp at e
          rw [e, hh2] at hh1
          simp at hh1
  have hfin : OwnR w' B a' (n + 1) cap' (rs ++ [⟨a1, c1, ys⟩]) := by
    have hge := hrow.ge
    refine ⟨by simpa [Rw.v, hm] using hown', by simp [hlen], hl, fun i hi => ?_, fun i j p q hij hj hp hq => ?_⟩
    · by_cases e : i < n
      · rw [nthR_append_left (by omega)]
        exact hkeep (hownw.2.2.2.1 i e)
      · obtain rfl : i = n := by omega
        rw [nthR_append_right (by omega), hlen, Nat.sub_self, nthR_one]
        have := (hkeep hrow).mono hB
        rw [← hm] at this
        exact this
    · rw [nthR_append_left (by omega)] at hp
      by_cases e : j < n
      · rw [nthR_append_left (by omega)] at hq
        exact hown.2.2.2.2 i j p q hij e hp hq
      · obtain rfl : j = n := by omega
        rw [nthR_append_right (by omega), hlen, Nat.sub_self, nthR_one] at hq
        have h1 := hown.lt.2 i (by omega) p hp
        have h2 := hge q hq
        omega
  exact h _ _ _ hfin hbw

/-- One row, written out. -/
theorem ownR_lit1 {w : World} {B : Nat} {a1 : Option Addr} {m c1 : Nat} {ys : List Int} (h : Own w B a1 m c1 ys) (hB : B ≤ w.heap.size) : OwnR (w.alloc (.cells #[.slice a1 m c1] 31)) B (some ⟨w.heap.size, 0, none⟩) 1 1 [⟨a1, c1, ys⟩] := by
  have hm : ys.length = m := h.len
  refine ⟨by
    have := World.ownsRow_lit (base := B) (e := 31) (size := 1) w #[.slice a1 m c1] 1 hB (by unfold maxLen; omega) (by simp)
    simpa [Rw.v, hm] using this, rfl, by omega, fun i hi => ?_, by omega⟩
  obtain rfl : i = 0 := by omega
  rw [nthR_one]
  have := h.below (K := w.heap.size) ((Below.refl _ _).alloc (Nat.le_refl _) (.cells #[.slice a1 m c1] 31)) (Nat.le_refl _)
  rw [← hm] at this
  rw [← hm]
  exact this

theorem hasR_cells {w : World} {b off n cap : Nat} {rs : List Rw} (h : HasR w (some ⟨b, off, none⟩) n cap rs) : ∀ j u, (rs.map Rw.v)[j]? = some u → w.cell? ((⟨b, off, none⟩ : Addr).add j) = some u := by
  intro j u hj
  obtain ⟨h0, _, _, _, h4, _⟩ := h
  have hlt : j < rs.length := by
    have := List.getElem?_eq_some_iff.1 hj
    obtain ⟨h1, _⟩ := this
    simpa using h1
  rw [map_nthR _ hlt] at hj
  cases hj
  obtain ⟨b', off', ha, _, hc⟩ := h4 (by omega)
  cases ha
  have e : (⟨b, off, none⟩ : Addr).add j = ⟨b, off + j, none⟩ := by unfold Addr.add; split <;> simp_all
  rw [e]
  exact hc j (by omega)
theorem rows_oneCell (rs : List Rw) : ∀ u ∈ rs.map Rw.v, u.oneCell' = true := by
  intro u hu
  obtain ⟨r, _, rfl⟩ := List.mem_map.1 hu
  rfl

/-- 'append(out, rows...)', of at least one row; the new rows are younger. -/
theorem wpList_append_rows {ops : Array Oper} {rest : List Oper} {o : Oper} {a : Act} {Q : Exit → Act → World → Prop} (w0 w : World) (hgd : o.guard = none) (s x : Operand)
    (ho : o.op = .call { callee := .builtin .append, args := #[s, x], argTypes := #[25, 25] })
    (B : Nat) (a0 a1 : Option Addr) (n m cap c1 : Nat) (rs ss : List Rw) (hs : a.eval s = .slice a0 n cap) (hx : a.eval x = .slice a1 m c1)
    (hown : OwnR w0 B a0 n cap rs) (hb : Below w0.heap.size w0 w) (hsrc : OwnR w w0.heap.size a1 m c1 ss) (hm : 0 < m) (hl : n + m ≤ 2097152) (hB : B ≤ w0.heap.size)
    (h : ∀ a' k cap' w', Hid (k = n + m) → OwnR w' B a' k cap' (rs ++ ss) → Below B w w' → wpList Tryz.prog ops Q rest (a.put o.dst (.slice a' k cap')) w') :
    wpList Tryz.prog ops Q (o :: rest) a w := by
  obtain ⟨i0, hi, hz0, hz1, hz2⟩ := info_parts Tryz.infoInts
  have hlen := hown.len
  have hlen2 := hsrc.len
  have hsz := hb.size
  have hownw := hown.below hb (Nat.le_refl _)
  have hhas := hsrc.has
  obtain ⟨b, off, rfl, _, _⟩ := hhas.2.2.2.2.1 hm
  refine wpList_append_own (P := Tryz.prog) _ hgd s x 25 ho B 31 i0 (.slice none 0 0) 1 24 Tryz.underlying25 hi hz0 hz1 hz2 rfl (by decide) _ n (rs.map Rw.v) hs hownw.1 ⟨b, off, none⟩ m c1 (ss.map Rw.v) hx (by simp [hlen2]) (hasR_cells hhas) (rows_oneCell _) (by unfold maxLen; omega) (by omega) (by omega) ?_
  intro v' w' hown' hgrow _
  have hbw : Below B w w' := below_grown hgrow (by omega) fun k hk => (hownw.1.lt k hk).1
  obtain ⟨a', cap', rfl⟩ := slice_of_row hown'
  have hkeep : ∀ {aa : Option Addr} {k c : Nat} {zs : List Int} {BB : Nat}, Own w BB aa k c zs → Own w' BB aa k c zs := by
    intro aa k c zs BB hz
    refine ⟨hz.1.kept hgrow ?_, hz.2⟩
    cases aa with
    | none => left; rfl
    | some p =>
      right
      rcases hz.1.2 with ⟨hv, _⟩ | ⟨g1, cap1, cur1, hv1, _, hh1, _⟩
      · simp at hv
      · simp at hv1
        rcases hownw.1.2 with ⟨hv2, _⟩ | ⟨g2, cap2, cur2, hv2, _, hh2, _⟩
        · simp at hv2
          rw [hv2.1]
          simp [Value.ownBlock]
        · simp at hv2
          rw [hv2.1, hv1.1]
          simp only [Value.ownBlock]
          intro e
          simp at e
          rw [e, hh2] at hh1
          simp at hh1
  refine h _ (n + m) _ _ rfl ⟨by simpa using hown', by simp [hlen, hlen2], hl, fun i hi => ?_, fun i j p q hij hj hp hq => ?_⟩ hbw
  · by_cases e : i < n
    · rw [nthR_append_left (by omega)]
      exact hkeep (hownw.2.2.2.1 i e)
    · rw [nthR_append_right (by omega), hlen]
      exact (hkeep (hsrc.2.2.2.1 (i - n) (by omega))).mono hB
  · by_cases e : i < n
    · rw [nthR_append_left (by omega)] at hp
      by_cases e2 : j < n
      · rw [nthR_append_left (by omega)] at hq
        exact hown.2.2.2.2 i j p q hij e2 hp hq
      · rw [nthR_append_right (by omega), hlen] at hq
        have h1 := hown.lt.2 i (by omega) p hp
        have h2 := (hsrc.2.2.2.1 (j - n) (by omega)).ge q hq
        omega
    · rw [nthR_append_right (by omega), hlen] at hp hq
      exact hsrc.2.2.2.2 (i - n) (j - n) p q (by omega) (by omega) hp hq

/-- 'make([][]int, 0, n)'. -/
theorem wpList_make_rows {ops : Array Oper} {rest : List Oper} {o : Oper} {a : Act} {Q : Exit → Act → World → Prop} (w : World) (hgd : o.guard = none) (l c : Operand) (ho : o.op = Op.makeSlice 25 l c)
    (n : Nat) (hl : a.eval l = .int .i64 0) (hc : a.eval c = .int .i64 (n : Int)) (hn : n ≤ 2097152)
    (h : ∀ a' cap' w', OwnR w' w.heap.size a' 0 cap' [] → Below w.heap.size w w' → wpList Tryz.prog ops Q rest (a.put o.dst (.slice a' 0 cap')) w') :
    wpList Tryz.prog ops Q (o :: rest) a w := by
  obtain ⟨i0, hi, hz0, hz1, hz2⟩ := info_parts Tryz.infoInts
  refine wpList_make_own (P := Tryz.prog) w hgd l c 25 ho w.heap.size 31 i0 (.slice none 0 0) 1 Tryz.underlying25 hi hz0 hz1 .i64 .i64 n n hl hc rfl (by rw [hz2]; omega) (by unfold maxLen; omega) (Nat.le_refl _) ?_
  intro w' hown hgrow
  exact h _ _ _ ⟨hown, rfl, by omega, by omega, by omega⟩ (below_grown hgrow (Nat.le_refl _) (by simp))
end Go.Proofs.YtakadjhbomggbaaGreat
