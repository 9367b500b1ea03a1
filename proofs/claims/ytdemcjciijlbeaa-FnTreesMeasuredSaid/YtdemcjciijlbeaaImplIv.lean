/- The program's inversions. -/
import Derived.Test.YtdemcjciijlbeaaImplTb
import Derived.Test.YtdemcjciijlbeaaPairSort
import Derived.Test.YtdemcjciijlbeaaLit2
import Derived.OwnWalkIn
import Derived.Maps.OwnIn
import Derived.Deep.AppendLies
import Derived.RangeFuncBox
namespace Go.Proofs.Ytdemcjciijlbeaa
open Go.RowKit Go.Shelf

attribute [local go_sem] Oper.semAt_some

/-- 'append(out, row)', with what is kept: w0: the world in which the rows so far were complete; the new row is younger. -/
theorem wpListIn_append_row_k {F : Fence} {d : Nat} {ops : Array Oper} {rest : List Oper} {o : Oper} {a : Act} {Q : Exit → Act → World → Prop} (w0 w : World) (hgd : o.guard = none) (s x : Operand)
    (ho : o.op = .call { callee := .builtin .append, args := #[s, x], argTypes := #[26, 26] })
    (B : Nat) (a0 : Option Addr) (n cap : Nat) (rs : List Rw) (a1 : Option Addr) (m c1 : Nat) (ys : List Int) (hs : a.eval s = .slice a0 n cap) (hx : a.eval x = .slice (some ⟨w.heap.size, 0, none⟩) 1 1)
    (hown : OwnR w0 B a0 n cap rs) (hb : Below w0.heap.size w0 w) (hrow : Own w w0.heap.size a1 m c1 ys) (hl : n + 1 ≤ 2097152) (hB : B ≤ w0.heap.size)
    (h : ∀ a' cap' w', OwnR w' B a' (n + 1) cap' (rs ++ [⟨a1, c1, ys⟩]) → Below B w w' → (∀ {aa : Option Addr} {k c : Nat} {zs : List Int} {BB : Nat}, Own w BB aa k c zs → Own w' BB aa k c zs) → (w.alloc (.cells #[.slice a1 m c1] 24)).grownBy w' (Value.slice a0 n cap).ownBlock → ((Value.slice a' (n + 1) cap').ownBlock = (Value.slice a0 n cap).ownBlock ∨ (Value.slice a' (n + 1) cap').ownBlock = some (w.heap.size + 1)) → wpListIn F d Try.prog ops Q rest (a.put o.dst (.slice a' (n + 1) cap')) w') :
    wpListIn F d Try.prog ops Q (o :: rest) a (w.alloc (.cells #[.slice a1 m c1] 24)) := by
  obtain ⟨i0, hi, hz0, hz1, hz2⟩ := info_parts Try.infoInts
  have hlen := hown.len
  have hm : ys.length = m := hrow.len
  have hsz := hb.size
  have hownw := hown.below hb (Nat.le_refl _)
  refine wpListIn_append_own_at (P := Try.prog) _ hgd s x 26 ho B 24 i0 (.slice none 0 0) 1 24 Try.underlying26 hi hz0 hz1 hz2 rfl (by decide) _ n (rs.map Rw.v) hs (hownw.1.alloc _) ⟨w.heap.size, 0, none⟩ 1 1 [.slice a1 m c1] hx rfl (one_cellV w _ _) (by intro u hu; simp at hu; subst hu; rfl) (by unfold maxLen; omega) (by omega) (by simp; omega) ?_
  intro v' w' hown' hgrow _ hat
  have hbw : Below B w w' := ((Below.refl B w).alloc (by omega) _).grown hgrow (by simp; omega) (fun k hk => (hownw.1.lt k hk).1)
  obtain ⟨a', cap', rfl⟩ := slice_of_row hown'
  -- rows lie in blocks that the append has not written: they hold integers, the slice's own block slices
  have hkeep : ∀ {aa : Option Addr} {k c : Nat} {zs : List Int} {BB : Nat}, Own w BB aa k c zs → Own w' BB aa k c zs := by
    intro aa k c zs BB hz
    refine ⟨(hz.1.alloc _).kept hgrow ?_, hz.2⟩
    cases aa with
    | none => left; rfl
    | some p =>
      right
      rcases hz.1.2 with ⟨hv, _⟩ | ⟨g1, cap1, cur1, hv1, _, hh1, _⟩
      · simp at hv
      · simp at hv1
        rcases hownw.1.2 with ⟨hv2, _⟩ | ⟨g2, cap2, cur2, hv2, _, hh2, _⟩
        · simp at hv2
          rw [hv2.1]
          simp [Value.ownBlock]
        · simp at hv2
          rw [hv2.1, hv1.1]
          simp only [Value.ownBlock]
          intro e
          simp at e
          rw [e, hh2] at hh1
          simp at hh1
  have hfin : OwnR w' B a' (n + 1) cap' (rs ++ [⟨a1, c1, ys⟩]) := by
    have hge := hrow.ge
    refine ⟨by simpa [Rw.v, hm] using hown', by simp [hlen], hl, fun i hi => ?_, fun i j p q hij hj hp hq => ?_⟩
    · by_cases e : i < n
      · rw [nthR_append_left (by omega)]
        exact hkeep (hownw.2.2.2.1 i e)
      · obtain rfl : i = n := by omega
        rw [nthR_append_right (by omega), hlen, Nat.sub_self, nthR_one]
        have := (hkeep hrow).mono hB
        rw [← hm] at this
        exact this
    · rw [nthR_append_left (by omega)] at hp
      by_cases e : j < n
      · rw [nthR_append_left (by omega)] at hq
        exact hown.2.2.2.2 i j p q hij e hp hq
      · obtain rfl : j = n := by omega
        rw [nthR_append_right (by omega), hlen, Nat.sub_self, nthR_one] at hq
        have h1 := hown.lt.2 i (by omega) p hp
        have h2 := hge q hq
        omega
  exact h _ _ _ hfin hbw hkeep hgrow (by simpa using hat)

/-- 'append(out, []int{x, y})', with what is kept. -/
theorem wpListIn_append_lit2k {F : Fence} {d : Nat} {ops : Array Oper} {rest : List Oper} {o : Oper} {a : Act} {Q : Exit → Act → World → Prop} (w : World) (hgd : o.guard = none) (s x : Operand)
    (ho : o.op = .call { callee := .builtin .append, args := #[s, x], argTypes := #[26, 26] })
    (B : Nat) (a0 : Option Addr) (n cap : Nat) (rs : List Rw) (x1 y1 : Int) (hs : a.eval s = .slice a0 n cap) (hx : a.eval x = .slice (some ⟨w.heap.size + 1, 0, none⟩) 1 1)
    (hown : OwnR w B a0 n cap rs) (hl : n + 1 ≤ 2097152) (hB : B ≤ w.heap.size)
    (h : ∀ a' cap' w' rs', numsOf rs' = numsOf rs ++ [[x1, y1]] → OwnR w' B a' (n + 1) cap' rs' → Below B w w' → (∀ {aa : Option Addr} {k c : Nat} {zs : List Int} {BB : Nat}, Own w BB aa k c zs → Own w' BB aa k c zs) → ((w.alloc (.cells #[.int .i64 x1, .int .i64 y1] 3)).alloc (.cells #[.slice (some ⟨w.heap.size, 0, none⟩) 2 2] 24)).grownBy w' (Value.slice a0 n cap).ownBlock → ((Value.slice a' (n + 1) cap').ownBlock = (Value.slice a0 n cap).ownBlock ∨ (Value.slice a' (n + 1) cap').ownBlock = some (w.heap.size + 2)) → wpListIn F d Try.prog ops Q rest (a.put o.dst (.slice a' (n + 1) cap')) w') :
    wpListIn F d Try.prog ops Q (o :: rest) a ((w.alloc (.cells #[.int .i64 x1, .int .i64 y1] 3)).alloc (.cells #[.slice (some ⟨w.heap.size, 0, none⟩) 2 2] 24)) := by
  have hsz : (w.alloc (.cells #[.int .i64 x1, .int .i64 y1] 3)).heap.size = w.heap.size + 1 := by simp
  refine wpListIn_append_row_k w (w.alloc (.cells #[.int .i64 x1, .int .i64 y1] 3)) hgd s x ho B a0 n cap rs _ _ _ _ hs (by rw [hsz]; exact hx) hown ((Below.refl _ _).alloc (Nat.le_refl _) _) (own_lit2 _ _ _ _ (Nat.le_refl _)) hl hB ?_
  intro a' cap' w' hown' hb' hk hg hat
  exact h _ _ _ _ (by simp [numsOf]) hown' (((Below.refl _ _).alloc hB _).trans hb') (fun hz => hk (hz.below ((Below.refl w.heap.size w).alloc (Nat.le_refl _) _) (Nat.le_refl _))) hg (by rw [hsz] at hat; exact hat)
/-- What a write elsewhere keeps. -/
theorem ownsRow_keptBy {w w' : World} {B n cap k : Nat} {e : TypeId} {a : Option Addr} {us : List Value} {row : Option Nat} (h : w.ownsRow B e 1 (.slice a n cap) k us) (hg : w.grownBy w' row)
    (hne : ∀ r, row = some r → r < B ∨ ∃ o : Obj, w.heap[r]? = some o ∧ o.isCells = false) : w'.ownsRow B e 1 (.slice a n cap) k us := by
  refine h.kept hg ?_
  cases a with
  | none => left; rfl
  | some p =>
    right
    rcases h.2 with ⟨hv, _⟩ | ⟨g1, cap1, cur1, hv1, hB, hh1, _⟩
    · simp at hv
    · simp at hv1
      simp only [Value.ownBlock]
      intro e
      rcases hne _ e.symm with hlt | ⟨o, ho, hc⟩
      · rw [hv1.1] at hlt
        simp at hlt
        omega
      · rw [hv1.1] at ho
        simp at ho
        rw [hh1] at ho
        cases ho
        cases hc
theorem OwnR.keptBy {w w' : World} {B n cap : Nat} {a : Option Addr} {rs : List Rw} {row : Option Nat} (h : OwnR w B a n cap rs) (hg : w.grownBy w' row)
    (hne : ∀ r, row = some r → r < B ∨ ∃ o : Obj, w.heap[r]? = some o ∧ o.isCells = false) : OwnR w' B a n cap rs :=
  ⟨ownsRow_keptBy h.1 hg hne, h.2.1, h.2.2.1, fun i hi => ⟨ownsRow_keptBy (h.2.2.2.1 i hi).1 hg hne, (h.2.2.2.1 i hi).2⟩, h.2.2.2.2⟩
theorem OwnR.setBox {w : World} {B P n cap : Nat} {a : Option Addr} {rs : List Rw} (h : OwnR w B a n cap rs) (hP : P < B) (v : Value) : OwnR (w.setCell ⟨P, 0, none⟩ v) B a n cap rs :=
  h.keptBy (grownBy_setCell' w P v) (fun r e => .inl (by cases e; exact hP))

/-- What holds between two nodes. -/
structure Among (w wr : World) (P N : Nat) (xs : List Int) (k q1 c1 : Nat) (a1 : Option Addr) (rs : List Rw) (Ds : List Nat) : Prop where
  below : Below w.heap.size w wr
  lo : w.heap.size ≤ P ∧ P < N ∧ N < wr.heap.size
  box : wr.cell? ⟨P, 0, none⟩ = some (.slice a1 q1 c1) ∧ wr.frozen? ⟨P, 0, none⟩ = false
  node : wr.cell? ⟨N, 0, none⟩ = some (.int .i64 ((k : Int) + 1)) ∧ wr.frozen? ⟨N, 0, none⟩ = false
  rows : OwnR wr (P + 1) a1 q1 c1 rs
  nums : numsOf rs = hiTo xs k
  marks : Marks wr w.heap.size Ds
  far : ∀ p, a1 = some p → p.block < N

theorem far_next {X H n n' c c' : Nat} {a a' : Option Addr} (h : (Value.slice a' n' c').ownBlock = (Value.slice a n c).ownBlock ∨ (Value.slice a' n' c').ownBlock = some H) (hX : X ≠ H) (ha : ∀ p, a = some p → p.block ≠ X) : ∀ p, a' = some p → p.block ≠ X := by
  intro p hp e
  subst hp
  cases a with
  | none =>
    simp [Value.ownBlock] at h
    omega
  | some q =>
    simp [Value.ownBlock] at h
    rcases h with h | h
    · exact ha q rfl (by omega)
    · omega
theorem row_far {X n c : Nat} {a : Option Addr} (ha : ∀ p, a = some p → p.block ≠ X) : some X ≠ (Value.slice a n c).ownBlock := by
  cases a with
  | none => simp [Value.ownBlock]
  | some q =>
    have := ha q rfl
    simp [Value.ownBlock]
    omega
theorem row_cells {W : World} {B n cap : Nat} {a : Option Addr} {rs : List Rw} (h : OwnR W B a n cap rs) : ∀ (j : Nat) (o : Obj), (Value.slice a n cap).ownBlock = some j → W.heap[j]? = some o → o.isCells = true := by
  intro j o hj ho
  rcases h.1.2 with ⟨hv, _⟩ | ⟨g1, cap1, cur1, hv1, _, hh1, _⟩
  · simp at hv
    rw [hv.1] at hj
    simp [Value.ownBlock] at hj
  · simp at hv1
    rw [hv1.1] at hj
    simp [Value.ownBlock] at hj
    subst hj
    rw [hh1] at ho
    cases ho
    rfl

/-- What holds on the way up from a node. -/
structure Amid (w W : World) (P N S : Nat) (a : Option Addr) (n cap : Nat) (xs : List Int) (k q : Nat) (Ds : List Nat) : Prop where
  c0 : W.cell? ⟨S, 0, none⟩ = some (.slice a n cap)
  c1 : W.cell? ⟨S + 1, 0, none⟩ = some (.int .i64 ((k : Int) + 1))
  rows : ∃ q2 c2 a2 ss, (W.cell? ⟨P, 0, none⟩ = some (.slice a2 q2 c2) ∧ W.frozen? ⟨P, 0, none⟩ = false) ∧ OwnR W (P + 1) a2 q2 c2 ss ∧ numsOf ss = hiTo xs k ++ hiRow xs (k + 1) q ∧ (∀ p, a2 = some p → p.block ≠ N) ∧ (∀ p, a2 = some p → p.block ≠ S) ∧ (∀ p, a2 = some p → p.block ≠ S + 1)
  marks : ∀ D ∈ Ds, W.heap[D]? = some (.deferred (some []))
  node : W.cell? ⟨N, 0, none⟩ = some (.int .i64 ((k : Int) + 1)) ∧ W.frozen? ⟨N, 0, none⟩ = false
  size : S + 2 ≤ W.heap.size
  deep : q ≤ dep xs ((k : Int) + 1)
theorem Amid.add {w W w5 : World} {P N S n cap k q q2 c2 c5 : Nat} {a a2 a5 : Option Addr} {xs : List Int} {Ds : List Nat} {ss ss5 : List Rw} {row : Option Nat} (h : Amid w W P N S a n cap xs k q Ds) (hPN : P < N) (hNS : N < S) (hr : row = (Value.slice a2 q2 c2).ownBlock) (hg : W.grownBy w5 row)
    (hrows : OwnR W (P + 1) a2 q2 c2 ss) (f1 : ∀ p, a2 = some p → p.block ≠ N) (f2 : ∀ p, a2 = some p → p.block ≠ S) (f3 : ∀ p, a2 = some p → p.block ≠ S + 1) (ho5 : OwnR w5 (P + 1) a5 (q2 + 1) c5 ss5) (hn5 : numsOf ss5 = hiTo xs k ++ hiRow xs (k + 1) (q + 1))
    (hat : (Value.slice a5 (q2 + 1) c5).ownBlock = (Value.slice a2 q2 c2).ownBlock ∨ (Value.slice a5 (q2 + 1) c5).ownBlock = some (W.heap.size + 2)) (hP : w5.cell? ⟨P, 0, none⟩ = some (.slice a2 q2 c2) ∧ w5.frozen? ⟨P, 0, none⟩ = false) (hd : q + 1 ≤ dep xs ((k : Int) + 1)) :
    Amid w (w5.setCell ⟨P, 0, none⟩ (.slice a5 (q2 + 1) c5)) P N S a n cap xs k (q + 1) Ds ∧ KeepsOthers W (w5.setCell ⟨P, 0, none⟩ (.slice a5 (q2 + 1) c5)) := by
  subst hr
  have hs := h.size
  have hsg := hg.size
  have hko : KeepsOthers W w5 := KeepsOthers.of_grownBy hg (row_cells hrows)
  refine ⟨⟨?_, ?_, ⟨q2 + 1, c5, a5, ss5, ⟨?_, ?_⟩, ho5.setBox (Nat.lt_succ_self _) _, hn5, far_next hat (by omega) f1, far_next hat (by omega) f2, far_next hat (by omega) f3⟩, fun D hD => ?_, ⟨?_, ?_⟩, by simp; omega, hd⟩, hko.trans (KeepsOthers.setCell _ _ _)⟩
  · rw [cell_other (by omega)]
    exact hg.cell h.c0 (row_far f2)
  · rw [cell_other (by omega)]
    exact hg.cell h.c1 (row_far f3)
  · exact World.cell?_setCell_same' _ _ _ (by rw [hP.1]; rfl)
  · rw [World.frozen?_setCell]
    exact hP.2
  · exact (KeepsOthers.setCell _ _ _).same D _ (hko.same D _ (h.marks D hD) rfl) rfl
  · rw [cell_other (by omega)]
    exact hg.cell h.node.1 (row_far f1)
  · rw [World.frozen?_setCell, hg.frozen_far _ (by simp; omega) (row_far f1)]
    exact h.node.2
/-- The number that lies where a pointer points. -/
def atPtr (wr : World) : Value → Nat
  | .pointer (some p) => match wr.cell? p with
    | some (.int _ i) => i.toNat
    | _ => 0
  | _ => 0
theorem atPtr_is {wr : World} {p : Addr} {i : Int} (h : wr.cell? p = some (.int .i64 i)) : atPtr wr (.pointer (some p)) = i.toNat := by simp [atPtr, h]
theorem ownsRow_blocks {w w' : World} {B n cap k : Nat} {e : TypeId} {a : Option Addr} {us : List Value} (h : w.ownsRow B e 1 (.slice a n cap) k us) (hb : Blocks w w') : w'.ownsRow B e 1 (.slice a n cap) k us := by
  refine ⟨h.1, ?_⟩
  rcases h.2 with h2 | ⟨g1, cap1, cur1, hv1, hB, hh1, r⟩
  · exact .inl h2
  · exact .inr ⟨g1, cap1, cur1, hv1, hB, hb _ _ _ hh1, r⟩
theorem OwnR.blocks {w w' : World} {B n cap : Nat} {a : Option Addr} {rs : List Rw} (h : OwnR w B a n cap rs) (hb : Blocks w w') : OwnR w' B a n cap rs :=
  ⟨ownsRow_blocks h.1 hb, h.2.1, h.2.2.1, fun i hi => ⟨ownsRow_blocks (h.2.2.2.1 i hi).1 hb, (h.2.2.2.1 i hi).2⟩, h.2.2.2.2⟩

theorem hi_fit {xs : List Int} {n : Nat} (ht : Tree xs n) (h8 : n ≤ 8) {r : List Int} (h : r ∈ hiTo xs n) : r.length = 2 ∧ 0 ≤ nth r 1 ∧ nth r 1 ≤ 9 := by
  have h := (hiTo_inv ht).subset h
  simp only [invL, invTo, invRow, List.mem_flatMap, List.mem_map, List.mem_filter, List.mem_range] at h
  obtain ⟨i, hi, c, ⟨hc, _⟩, rfl⟩ := h
  have := ht.len
  refine ⟨rfl, ?_, ?_⟩
  · show (0 : Int) ≤ ((i + 1 + 1 + c : Nat) : Int)
    omega
  · show ((i + 1 + 1 + c : Nat) : Int) ≤ 9
    omega

set_option maxRecDepth 100000 in
set_option maxHeartbeats 2000000 in
theorem implPairs_any (a : Option Addr) (n cap : Nat) (xs : List Int) (w : World) (h : Has w a n cap xs) :
    Calls Try.prog 6 #[.slice a n cap] w (PostRows w (invOf xs)) := by
  have HL := hid h.len
  refine (callsIn_wide (n := 8)).1 ?_
  refine callsIn_of_wp_marks Try.func6 rfl trivial ?_ rfl
  simp only [Try.ntmps6, List.size_toArray, List.length_cons, List.length_nil, Nat.reduceAdd, Nat.reduceSub, Array.replicate_succ, Array.replicate_zero, List.push_toArray, List.append_toArray, List.nil_append, List.cons_append]
  by_cases hg : treeB xs = true
  · have HR : Hid (invOf xs = (invL xs, true)) := hid (by simp [invOf, hg])
    have ht := tree_of hg h.len
    have h8 := ht.le
    have HT := hid ht
    have HB := hid ht.nthB
    have HG := hid hg
    clear hg ht
    gi_wp2_with fail
    refine ⟨trivial, (callsIn_wide.2 (isTree_any _ _ _ _ _ h)).mono ?_⟩
    rintro e w1 ⟨rfl, hb1⟩
    rw [HG.out]
    have hs1 := hb1.size
    gi_wp2_with fail
    have hD : Among w ((w1.alloc (.cells #[.slice none 0 0] 26)).alloc (.cells #[.int .i64 1] 3)) w1.heap.size (w1.heap.size + 1) xs 0 0 0 none [] [] := by
      obtain ⟨s1, s2, sz⟩ := two_cells w1 (.slice none 0 0) (.int .i64 1) 26 3
      refine ⟨(hb1.alloc hs1 _).alloc (by simp; omega) _, ⟨hs1, by omega, by omega⟩, ⟨s1, ?_⟩, ⟨s2, ?_⟩, OwnR.nil _ _, rfl, Marks.nil _ _, by simp⟩
      · rw [World.frozen?_alloc_past _ _ _ (by simp), World.frozen?_alloc_at _ _ _ _ rfl]
      · rw [World.frozen?_alloc_at _ _ _ _ (by simp)]
    have hP : ∃ P N : Nat, P = w1.heap.size ∧ N = w1.heap.size + 1 := ⟨_, _, rfl, rfl⟩
    obtain ⟨P, N, eP, eN⟩ := hP
    rw [← eN, ← eP] at hD
    rw [← eN, ← eP]
    generalize ((w1.alloc (.cells #[.slice none 0 0] 26)).alloc (.cells #[.int .i64 1] 3)) = W0 at *
    clear hb1 hs1 eP eN
    refine wpIn_loop (fun a' wr => ∃ (k N q1 c1 : Nat) (a1 : Option Addr) (rs : List Rw) (Ds : List Nat) (u1 u2 u3 u6 u7 u8 u9 u10 u11 u12 u13 u14 u15 u16 u17 u18 u19 u20 u21 u22 u23 u24 u25 u26 u27 u28 u29 u30 u31 u32 : Value), k ≤ n ∧ a' = { tmps := #[.slice a n cap, u1, u2, u3, .pointer (some ⟨P, 0, none⟩), .pointer (some ⟨N, 0, none⟩), u6, u7, u8, u9, u10, u11, u12, u13, u14, u15, u16, u17, u18, u19, u20, u21, u22, u23, u24, u25, u26, u27, u28, u29, u30, u31, u32], defers := Ds.map mark } ∧ Among w wr P N xs k q1 c1 a1 rs Ds)
      (fun a' wr => n + 1 - atPtr wr (a'.tmps.getD 5 undef)) ?_ ?_
    · exact ⟨0, N, 0, 0, none, [], [], _, _, _, _, _, _, _, _, _, _, _, _, _, _, _, _, _, _, _, _, _, _, _, _, _, _, _, _, _, _, Nat.zero_le _, rfl, hD⟩
    · clear hD
      rintro _ wr ⟨k, N, q1, c1, a1, rs, Ds, u1, u2, u3, u6, u7, u8, u9, u10, u11, u12, u13, u14, u15, u16, u17, u18, u19, u20, u21, u22, u23, u24, u25, u26, u27, u28, u29, u30, u31, u32, hk, rfl, hD⟩
      obtain ⟨l1, l2, l3⟩ := hD.lo
      obtain ⟨b1, b2⟩ := hD.box
      obtain ⟨n1, n2⟩ := hD.node
      have hAt := hid (atPtr_is n1)
      by_cases hlt : k < n
      · have hh : Has wr a n cap xs := h.below hD.below (Nat.le_refl _)
        gi_wp2_with (refine ⟨trivial, ?_⟩; gi_at_call 19; refine (callsIn_wide.2 (above_any _ _ _ _ _)).mono ?_; rintro e w' ⟨rfl, rfl⟩)
        have hbl : Below wr.heap.size wr ((wr.alloc (.cells #[.slice a n cap] 24)).alloc (.cells #[.int .i64 ((k : Int) + 1)] 3)) := ((Below.refl wr.heap.size wr).alloc (Nat.le_refl _) _).alloc (by simp) _
        obtain ⟨s1, s2, sz⟩ := two_cells wr (.slice a n cap) (.int .i64 ((k : Int) + 1)) 24 3
        generalize ((wr.alloc (.cells #[.slice a n cap] 24)).alloc (.cells #[.int .i64 ((k : Int) + 1)] 3)) = W1 at *
        have hbw := hD.below.size
        have hmW := hD.marks.below hbl (Nat.le_refl _)
        obtain ⟨dp1, dp2, dp3⟩ := HT.out.dep (v := (k : Int) + 1) (by omega) (by omega)
        have D1 := hid dp1
        have D2 := hid dp2
        clear dp1 dp2
        have hqr : ∀ q, q ≤ dep xs ((k : Int) + 1) → ∀ q2 ss W c2 a2, OwnR W (P + 1) a2 q2 c2 ss → numsOf ss = hiTo xs k ++ hiRow xs (k + 1) q → q2 ≤ 200 := fun q hq q2 ss W c2 a2 ho hn => by
          have e1 := congrArg List.length hn
          have e2 := length_hiTo HT.out h8 k (by omega)
          have e3 := length_hiRow xs (k + 1) q
          have e4 := ho.len
          simp [numsOf] at e1
          omega
        have HQR := hid hqr
        clear hqr
        have eq0 : ((k + 1 : Nat) : Int) = (k : Int) + 1 := by omega
        have EQ := hid eq0
        clear eq0
        refine wpIn_above 8 (wr.heap.size + 1) wr.heap.size a n cap xs (k + 1) n rfl HB.out (by omega) h8
          (fun q W => Below w.heap.size w W ∧ Amid w W P N wr.heap.size a n cap xs k q Ds)
          (fun _ _ => False)
          (fun q W hi => ⟨by have := hi.2.deep; omega, ⟨hi.2.c1, hi.2.c0, h.below hi.1 (Nat.le_refl _)⟩⟩) ?_ (fun _ _ _ _ hs _ _ => hs) ?_ (fun x => { tmps := #[.slice a n cap, u1, u2, u3, .pointer (some ⟨P, 0, none⟩), .pointer (some ⟨N, 0, none⟩), .int .i64 x, u7, u8, u9, .int .i64 ((k : Int) + 1), .slice a n cap, .int .i64 (n : Int), .bool true, u14, u15, .slice a n cap, .int .i64 ((k : Int) + 1), UpFn (wr.heap.size + 1) wr.heap.size, .int .i64 x, u20, u21, u22, u23, u24, u25, u26, u27, u28, u29, u30, u31, u32], defers := [] }) ?_ ?_ ?_ ?_
        · refine OwnFrom.and (ownFrom_below (Nat.le_refl _) (by omega)) (fun s A B' row hs hg hr => ?_)
          obtain ⟨e1, e2, ⟨q2, c2, a2, ss, ⟨e3, e3'⟩, e4, e5, e5a, e5b, e5c⟩, e6, ⟨e7, e7'⟩, e8, e9⟩ := hs
          have hr2 : ∀ r, row = some r → ∃ o : Obj, A.heap[r]? = some o ∧ o.isCells = false := fun r e => (hr r e).2
          refine ⟨cell_kept e1 hg hr2, cell_kept e2 hg hr2, ⟨q2, c2, a2, ss, ⟨cell_kept e3 hg hr2, (frozen_kept e3 hg hr2).trans e3'⟩, e4.keptBy hg (fun r e => .inr (hr2 r e)), e5, e5a, e5b, e5c⟩, fun D hD' => ?_, ⟨cell_kept e7 hg hr2, (frozen_kept e7 hg hr2).trans e7'⟩, Nat.le_trans e8 hg.size, e9⟩
          have hlt' := hD.marks.lt hD'
          rw [hg.block D ((Array.getElem?_eq_some_iff.1 (e6 D hD')).1) (fun e => by have := (hr D e.symm).1; omega)]
          exact e6 D hD'
        · refine ⟨hD.below.trans (hbl.mono hbw), ⟨s1, s2, ⟨q1, c1, a1, rs, ⟨by rw [hbl.cell (p := ⟨P, 0, none⟩) (by simp; omega)]; exact b1, by rw [hbl.frozen (p := ⟨P, 0, none⟩) (by simp; omega)]; exact b2⟩, hD.rows.below hbl (Nat.le_refl _), by rw [hD.nums, hiRow_zero, List.append_nil], fun p hp => ?_, fun p hp => ?_, fun p hp => ?_⟩, hmW.isOpen, ⟨by rw [hbl.cell (p := ⟨N, 0, none⟩) (by simp; omega)]; exact n1, by rw [hbl.frozen (p := ⟨N, 0, none⟩) (by simp; omega)]; exact n2⟩, Nat.le_of_eq sz.symm, Nat.zero_le _⟩⟩
          · have := hD.far p hp
            omega
          · have := hD.far p hp
            omega
          · have := hD.far p hp
            omega
        · intro l x W K hK
          gi_wp2
          exact hK
        · rintro l q W ⟨hB, hA⟩ hne
          obtain ⟨d1, d2, ⟨q2, c2, a2, ss, ⟨d3, d3'⟩, d4, d5, d5a, d5b, d5c⟩, d6, ⟨d7, d7'⟩, d8, d9⟩ := id hA
          have hqd : q < dep xs ((k : Int) + 1) := Classical.byContradiction fun hq => hne (by
            have := up_zero D1.out q (by omega)
            rw [EQ.out]
            exact this)
          have hq2 := HQR.out q (by omega) _ _ _ _ _ d4 d5
          rw [EQ.out]
          obtain ⟨u, hu, hun⟩ := up_nat (v := k + 1) HB.out (by omega) (q + 1)
          rw [EQ.out] at hu
          rw [hu]
          by_cases hgt : (k : Int) + 1 < (u : Int)
          · have HS : Hid (hiRow xs (k + 1) (q + 1) = hiRow xs (k + 1) q ++ [[(k : Int) + 1, (u : Int)]]) := hid (by rw [hiRow_yes (by rw [EQ.out, hu]; exact hgt), EQ.out, hu])
            clear hu
            have HDD := hid d9
            gi_wp2_with (gi_at_builtin; refine wpListIn_append_lit2k _ rfl _ _ rfl (P + 1) _ _ _ _ _ _ rfl rfl d4 (by omega) (by omega) ?_; intro a5 c5 w5 ss5 hn5 hown5 hb5 _ hg5 hat5; have P5 : w5.cell? ⟨P, 0, none⟩ = some (.slice a2 q2 c2) := (by rw [hb5.cell (p := ⟨P, 0, none⟩) (by simp)]; exact d3); have P6 : w5.frozen? ⟨P, 0, none⟩ = false := (by rw [hb5.frozen (p := ⟨P, 0, none⟩) (by simp)]; exact d3'))
            obtain ⟨r1, r2⟩ := hA.add (by omega) (by omega) rfl (((World.grownBy_alloc W _ _).trans (World.grownBy_alloc _ _ _)).trans hg5) d4 d5a d5b d5c hown5 (by rw [hn5, d5, HS.out, List.append_assoc]) hat5 ⟨P5, P6⟩ (by omega)
            exact ⟨r2.from _, (hB.trans (hb5.mono (by omega))).setCell (p := ⟨P, 0, none⟩) (by simp; omega) _, r1⟩
          · have HS : Hid (hiRow xs (k + 1) (q + 1) = hiRow xs (k + 1) q) := hid (hiRow_no (by rw [EQ.out, hu]; exact hgt))
            clear hu
            gi_wp2_with fail
            exact ⟨KeepsFrom.refl _ _, hB, d1, d2, ⟨q2, c2, a2, ss, ⟨d3, d3'⟩, d4, by rw [HS.out]; exact d5, d5a, d5b, d5c⟩, d6, ⟨d7, d7'⟩, d8, by omega⟩
        · rintro D q W hDl hz hne ⟨hB, d1, d2, ⟨q2, c2, a2, ss, ⟨d3, d3'⟩, d4, d5, d5a, d5b, d5c⟩, d6, ⟨d7, d7'⟩, d8, d9⟩ hK
          have hdq : dep xs ((k : Int) + 1) = q := by
            rw [EQ.out] at hz hne
            exact dep_is hz hne (by rw [HL.out]; omega)
          have hm := (Marks.mk hD.marks.nodup hD.marks.ge d6).cons (L := W1.heap.size) (D := D) (fun E hE => by have := hD.marks.lt hE; omega) hDl (by omega) hK
          have HS : Hid (numsOf ss = hiTo xs (k + 1)) := hid (by rw [d5, hiTo_succ, hdq])
          gi_wp2
          have hbW : Below W.heap.size W (W.alloc (.cells #[.int .i64 ((k : Int) + 1 + 1)] 3)) := (Below.refl _ _).alloc (Nat.le_refl _) _
          have hAm : Among w (W.alloc (.cells #[.int .i64 ((k : Int) + 1 + 1)] 3)) P W.heap.size xs (k + 1) q2 c2 a2 ss (D :: Ds) := by
            refine ⟨hB.trans (hbW.mono (by omega)), ⟨l1, by omega, by simp⟩, ⟨by rw [hbW.cell (p := ⟨P, 0, none⟩) (by simp; omega)]; exact d3, by rw [hbW.frozen (p := ⟨P, 0, none⟩) (by simp; omega)]; exact d3'⟩, ⟨?_, ?_⟩, d4.below hbW (Nat.le_refl _), HS.out, hm.below hbW (Nat.le_refl _), fun p hp => ?_⟩
            · rw [World.cell?_alloc_at _ _ _ _ rfl]
              simp
            · rw [World.frozen?_alloc_at _ _ _ _ rfl]
            · exact (d4.1.lt p.block (by rw [hp]; rfl)).2
          refine ⟨⟨k + 1, W.heap.size, q2, c2, a2, ss, D :: Ds, _, _, _, _, _, _, _, _, _, _, _, _, _, _, _, _, _, _, _, _, _, _, _, _, _, _, _, _, _, _, by omega, rfl, hAm⟩, ?_⟩
          have hm1 := atPtr_is hAm.node.1
          have hm2 := hAt.out
          show n + 1 - atPtr _ (.pointer (some ⟨W.heap.size, 0, none⟩)) < n + 1 - atPtr wr (.pointer (some ⟨N, 0, none⟩))
          rw [hm1, hm2]
          omega
        · rintro D q W hDl hF hK
          exact hF.elim
      · obtain rfl : k = n := by omega
        have HF := hid (length_hiTo HT.out h8 k (Nat.le_refl _))
        have hfit : ∀ r ∈ rs, r.xs.length = 2 ∧ 0 ≤ nth r.xs 1 ∧ nth r.xs 1 ≤ 9 := fun r hr => by
          have hm : r.xs ∈ hiTo xs k := by rw [← hD.nums]; exact List.mem_map.2 ⟨r, hr, rfl⟩
          exact hi_fit HT.out h8 hm
        have HFIT := hid hfit
        clear hfit
        gi_wp2_with fail
        refine ⟨trivial, (callsIn_wide.2 (sortOwn_any (P + 1) _ _ _ _ _ hD.rows HFIT.out)).mono ?_⟩
        rintro e w5 ⟨rfl, ⟨ss, s1, s2, s3⟩, hg5⟩
        have hb5 : Below (P + 1) wr w5 := (Below.refl _ _).grown hg5 (by omega) (fun j hj => (hD.rows.1.lt j hj).1)
        have P5 : w5.cell? ⟨P, 0, none⟩ = some (.slice a1 q1 c1) := by rw [hb5.cell (p := ⟨P, 0, none⟩) (by simp)]; exact b1
        have hko : KeepsOthers wr w5 := KeepsOthers.of_grownBy hg5 (row_cells hD.rows)
        have hm5 : Marks w5 w.heap.size Ds := ⟨hD.marks.nodup, hD.marks.ge, fun D hD' => hko.same D _ (hD.marks.isOpen D hD') rfl⟩
        have hnum : numsOf ss = invL xs := sorted_inv HT.out h8 (rs := numsOf rs) hD.nums (fun s hs => by
          obtain ⟨r, hr, rfl⟩ := List.mem_map.1 hs
          exact List.mem_map.2 ⟨r, s1.subset hr, rfl⟩) (by unfold numsOf; rw [List.map_map, List.map_map]; exact s2)
        gi_wp2_with fail
        have hbw := hD.below.size
        have hbF : Below w.heap.size w w5 := hD.below.trans (hb5.mono (by omega))
        refine leaves_marks Ds _ hm5 (Nat.le_trans hbw hb5.size) fun w' hc hbk hb => ⟨.tuple #[.slice a1 q1 c1, .bool true], ?_, postRows HR.out ((s3.blocks hbk).mono (by omega)) hnum (hbF.trans hb)⟩
        simp [results, Try.results6, go_sem]
  · have HR : Hid (invOf xs = ([], false)) := hid (by simp [invOf, hg])
    have HG := hid (Bool.eq_false_iff.2 hg)
    clear hg
    gi_wp2_with (refine ⟨trivial, ?_⟩; gi_at_call 18; refine (callsIn_wide.2 (isTree_any _ _ _ _ _ h)).mono ?_; rintro e w1 ⟨rfl, hb1⟩; rw [HG.out])
    refine ⟨.tuple #[.slice none 0 0, .bool false], ?_, postRows_no HR.out hb1⟩
    simp [results, Try.results6, go_sem]

theorem implInvs_any (a : Option Addr) (n cap : Nat) (xs : List Int) (w : World) (h : Has w a n cap xs) :
    Calls Try.prog 8 #[.slice a n cap] w (PostInt w (invCnt xs)) := by
  have hR : ∀ q : Nat, q = (invOf xs).1.length → invCnt xs = ((q : Int), (invOf xs).2) := fun q hq => by
    subst hq
    unfold invCnt invOf
    by_cases hg : treeB xs = true
    · rw [if_pos hg, if_pos hg]
    · rw [if_neg hg, if_neg hg]
      rfl
  have HR := hid hR
  clear hR
  go_enter Try.func8, Try.ntmps8
  go_wp2_with fail
  refine (implPairs_any _ _ _ _ _ h).mono ?_
  rintro e w1 ⟨a1, q, c1, rs, rfl, hown, hn, hb⟩
  have HQ := hid (HR.out q (by rw [← hn, ← hown.len]; simp [numsOf]))
  go_wp2_with fail
  go_ret2
  exact postInt HQ.out hb
end Go.Proofs.Ytdemcjciijlbeaa
