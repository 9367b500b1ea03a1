/- Slices of slices of integers: how they read, which are the call's own, and the laws on make and append in these words. -/
import Derived.Test.YtakadjhbomggbabDoorLawKit
namespace Go.Proofs.YtakadjhbomggbabDoor
open Go.RowKit

/-- A row: where it lies, and its numbers. -/
structure Rw where
  a : Option Addr
  c : Nat
  xs : List Int

def Rw.v (r : Rw) : Value := .slice r.a r.xs.length r.c
def Rw.none' : Rw := ⟨none, 0, []⟩
/-- The i-th row. -/
def nthR (rs : List Rw) (i : Nat) : Rw := rs.getD i Rw.none'
theorem nthR_append_left {rs ss : List Rw} {i : Nat} (h : i < rs.length) : nthR (rs ++ ss) i = nthR rs i := by simp [nthR, List.getElem?_append, h]
theorem nthR_append_right {rs ss : List Rw} {i : Nat} (h : rs.length ≤ i) : nthR (rs ++ ss) i = nthR ss (i - rs.length) := by
  simp [nthR, List.getElem?_append, Nat.not_lt.2 h]
theorem nthR_one (r : Rw) : nthR [r] 0 = r := by simp [nthR]
theorem ext_nthR {rs ss : List Rw} (hl : rs.length = ss.length) (h : ∀ i, i < rs.length → nthR rs i = nthR ss i) : rs = ss := by
  apply List.ext_getElem hl
  intro i h1 h2
  have := h i h1
  simpa [nthR, h1, h2] using this
theorem map_nthR {β : Type} (f : Rw → β) {rs : List Rw} {i : Nat} (h : i < rs.length) : (rs.map f)[i]? = some (f (nthR rs i)) := by simp [nthR, h]

/-- The slice of slices reads as the rows. -/
def HasR (w : World) (a : Option Addr) (n cap : Nat) (rs : List Rw) : Prop :=
  rs.length = n ∧ n ≤ cap ∧ cap ≤ maxLen ∧ n ≤ 2097152 ∧
  (0 < n → ∃ b off, a = some ⟨b, off, none⟩ ∧ b < w.heap.size ∧ ∀ i, i < n → w.cell? ⟨b, off + i, none⟩ = some (nthR rs i).v) ∧
  ∀ i, i < n → Has w (nthR rs i).a (nthR rs i).xs.length (nthR rs i).c (nthR rs i).xs

/-- It and its rows are the call's own, the rows in blocks of their own, later rows in later blocks. -/
def OwnR (w : World) (B : Nat) (a : Option Addr) (n cap : Nat) (rs : List Rw) : Prop :=
  w.ownsRow B 22 1 (.slice a n cap) n (rs.map Rw.v) ∧ rs.length = n ∧ n ≤ 2097152 ∧
  (∀ i, i < n → Own w B (nthR rs i).a (nthR rs i).xs.length (nthR rs i).c (nthR rs i).xs) ∧
  ∀ i j p q, i < j → j < n → (nthR rs i).a = some p → (nthR rs j).a = some q → p.block ≠ q.block

theorem OwnR.len {w : World} {B : Nat} {a : Option Addr} {n cap : Nat} {rs : List Rw} (h : OwnR w B a n cap rs) : rs.length = n := h.2.1
theorem OwnR.le {w : World} {B : Nat} {a : Option Addr} {n cap : Nat} {rs : List Rw} (h : OwnR w B a n cap rs) : n ≤ 2097152 := h.2.2.1

theorem OwnR.has {w : World} {B : Nat} {a : Option Addr} {n cap : Nat} {rs : List Rw} (h : OwnR w B a n cap rs) : HasR w a n cap rs := by
  obtain ⟨h1, h2, h3, h4, h5⟩ := h
  have h6 := fun i hi => (h4 i hi).has
  rcases h1.2 with ⟨hv, hn⟩ | ⟨g, cap', cur, hv, hg, hh, hnc, hcm, hcs, htake⟩
  · simp at hv
    obtain ⟨rfl, hl, rfl⟩ := hv
    exact ⟨h2, by omega, by unfold maxLen; omega, h3, by omega, h6⟩
  · simp at hv
    obtain ⟨rfl, rfl⟩ := hv
    refine ⟨h2, hnc, hcm, h3, fun _ => ⟨g, 0, rfl, (Array.getElem?_eq_some_iff.1 hh).1, fun i hi => ?_⟩, h6⟩
    rw [Nat.zero_add, h1.cellAt i (by omega), map_nthR _ (by omega)]

theorem OwnR.nil (w : World) (B : Nat) : OwnR w B none 0 0 [] := ⟨⟨by simp, .inl ⟨rfl, rfl⟩⟩, rfl, by omega, by omega, by omega⟩

theorem HasR.below {w w' : World} {a : Option Addr} {n cap : Nat} {rs : List Rw} {B : Nat} (h : HasR w a n cap rs) (hb : Below B w w') (hB : w.heap.size ≤ B) : HasR w' a n cap rs := by
  obtain ⟨h0, h1, h2, h3, h4, h5⟩ := h
  refine ⟨h0, h1, h2, h3, fun hx => ?_, fun i hi => (h5 i hi).below hb hB⟩
  obtain ⟨b, off, ha, hlt, hc⟩ := h4 hx
  exact ⟨b, off, ha, Nat.lt_of_lt_of_le hlt hb.size, fun i hi => by rw [hb.cell (p := ⟨b, off + i, none⟩) (by simp; omega)]; exact hc i hi⟩

theorem ownsRow_below {w w' : World} {B K : Nat} {e : TypeId} {v : Value} {n : Nat} {us : List Value} (h : w.ownsRow B e 1 v n us) (hb : Below K w w') (hl : ∀ k, v.ownBlock = some k → k < K) : w'.ownsRow B e 1 v n us := by
  refine ⟨h.1, ?_⟩
  rcases h.2 with h2 | ⟨g, cap', cur, hv, hg, hh, r⟩
  · exact .inl h2
  · exact .inr ⟨g, cap', cur, hv, hg, by rw [hb.block g (hl g (by rw [hv]; rfl))]; exact hh, r⟩

theorem Own.belowB {w w' : World} {B K : Nat} {a : Option Addr} {n cap : Nat} {xs : List Int} (h : Own w B a n cap xs) (hb : Below K w w') (hl : BlkLt a K) : Own w' B a n cap xs :=
  ⟨ownsRow_below h.1 hb (fun k hk => by
    cases a with
    | none => simp [Value.ownBlock] at hk
    | some p => simp [Value.ownBlock] at hk; subst hk; exact hl p rfl), h.2⟩

/-- All its blocks are less than K. -/
def RLt (a : Option Addr) (rs : List Rw) (K : Nat) : Prop := BlkLt a K ∧ ∀ i, i < rs.length → BlkLt (nthR rs i).a K
theorem OwnR.lt {w : World} {B : Nat} {a : Option Addr} {n cap : Nat} {rs : List Rw} (h : OwnR w B a n cap rs) : RLt a rs w.heap.size :=
  ⟨by rintro p rfl; exact (h.1.lt p.block rfl).2, fun i hi => (h.2.2.2.1 i (by rw [← h.len]; exact hi)).lt⟩
theorem OwnR.belowB {w w' : World} {B K : Nat} {a : Option Addr} {n cap : Nat} {rs : List Rw} (h : OwnR w B a n cap rs) (hb : Below K w w') (hl : RLt a rs K) : OwnR w' B a n cap rs :=
  ⟨ownsRow_below h.1 hb (fun k hk => by
    cases a with
    | none => simp [Value.ownBlock] at hk
    | some p => simp [Value.ownBlock] at hk; subst hk; exact hl.1 p rfl), h.2.1, h.2.2.1, fun i hi => (h.2.2.2.1 i hi).belowB hb (hl.2 i (by rw [h.len]; exact hi)), h.2.2.2.2⟩
theorem OwnR.below {w w' : World} {B K : Nat} {a : Option Addr} {n cap : Nat} {rs : List Rw} (h : OwnR w B a n cap rs) (hb : Below K w w') (hB : w.heap.size ≤ K) : OwnR w' B a n cap rs :=
  h.belowB hb ⟨fun p hp => Nat.lt_of_lt_of_le (h.lt.1 p hp) hB, fun i hi p hp => Nat.lt_of_lt_of_le (h.lt.2 i hi p hp) hB⟩
theorem Own.mono' {w : World} {B B' : Nat} {a : Option Addr} {n cap : Nat} {xs : List Int} (h : Own w B a n cap xs) (hB : B' ≤ B) : Own w B' a n cap xs := h.mono hB
theorem ownsRow_mono {w : World} {B B' : Nat} {e : TypeId} {v : Value} {n : Nat} {us : List Value} (h : w.ownsRow B e 1 v n us) (hB : B' ≤ B) : w.ownsRow B' e 1 v n us := by
  refine ⟨h.1, ?_⟩
  rcases h.2 with h2 | ⟨g, cap', cur, hv, hg, r⟩
  · exact .inl h2
  · exact .inr ⟨g, cap', cur, hv, by omega, r⟩
theorem OwnR.mono {w : World} {B B' : Nat} {a : Option Addr} {n cap : Nat} {rs : List Rw} (h : OwnR w B a n cap rs) (hB : B' ≤ B) : OwnR w B' a n cap rs :=
  ⟨ownsRow_mono h.1 hB, h.2.1, h.2.2.1, fun i hi => (h.2.2.2.1 i hi).mono hB, h.2.2.2.2⟩

/-- Behind a mark in a block before its own. -/
theorem OwnR.marked_gt {w w' : World} {B : Nat} {a a' : Option Addr} {n cap : Nat} {rs : List Rw} (h : OwnR w B a n cap rs) (hm : Marked w w' a') (hl : BlkLt a' B) : OwnR w' B a n cap rs := by
  refine ⟨?_, h.2.1, h.2.2.1, fun i hi => (h.2.2.2.1 i hi).marked_gt hm hl, h.2.2.2.2⟩
  obtain ⟨row, hgr, hr⟩ := hm
  refine h.1.kept hgr ?_
  cases a with
  | none => left; rfl
  | some p =>
    right
    have := (h.1.lt p.block rfl).1
    cases row with
    | none => simp [Value.ownBlock]
    | some g =>
      obtain ⟨q, rfl, rfl⟩ := hr g rfl
      have := hl q rfl
      simp [Value.ownBlock]
      omega

theorem Tryd.infoInts : (Tryd.prog.info? 22).map (fun i => (i.zero, i.size, i.bytes)) = some (some (.slice none 0 0), 1, 24) := by kernel_rfl

/-- What a law on append or make leaves, in these words. -/
theorem slice_of_row {w : World} {B : Nat} {e : TypeId} {v : Value} {n : Nat} {us : List Value} (h : w.ownsRow B e 1 v n us) : ∃ a cap, v = .slice a n cap := by
  rcases h.2 with ⟨hv, h0⟩ | ⟨g, cap, cur, hv, _⟩
  · exact ⟨none, 0, by rw [hv, h0]⟩
  · exact ⟨_, cap, hv⟩

/-- A row behind the others. -/
theorem ownR_snoc {w0 w : World} {B : Nat} {a a' : Option Addr} {n cap cap' : Nat} {rs : List Rw} {r : Rw} {K : Nat} (h : OwnR w0 B a n cap rs) (hb : Below K w0 w) (hlt : RLt a rs K) (hr : Own w B r.a r.xs.length r.c r.xs) (hge : BlkGe r.a K)
    (ho : w.ownsRow B 22 1 (.slice a' (n + 1) cap') (n + 1) ((rs ++ [r]).map Rw.v)) (hn : n + 1 ≤ 2097152) : OwnR w B a' (n + 1) cap' (rs ++ [r]) := by
  have hl := h.len
  refine ⟨ho, by simp [hl], hn, fun i hi => ?_, fun i j p q hij hj hp hq => ?_⟩
  · by_cases e : i < n
    · rw [nthR_append_left (by omega)]
      exact (h.2.2.2.1 i e).belowB hb (hlt.2 i (by omega))
    · obtain rfl : i = n := by omega
      rw [nthR_append_right (by omega), hl, Nat.sub_self, nthR_one]
      exact hr
  · rw [nthR_append_left (by omega)] at hp
    by_cases e : j < n
    · rw [nthR_append_left (by omega)] at hq
      exact h.2.2.2.2 i j p q hij e hp hq
    · obtain rfl : j = n := by omega
      rw [nthR_append_right (by omega), hl, Nat.sub_self, nthR_one] at hq
      have h1 := hlt.2 i (by omega) p hp
      have h2 := hge q hq
      omega

theorem one_cellV (w : World) (v : Value) (t : TypeId) : ∀ j u, [v][j]? = some u → (w.alloc (.cells #[v] t)).cell? ((⟨w.heap.size, 0, none⟩ : Addr).add j) = some u := by
  intro j u hj
  match j, hj with
  | 0, hj =>
    simp at hj
    subst hj
    simp [Addr.add]

/-- One row, written out. -/
theorem ownR_lit1 {w : World} {B : Nat} {a1 : Option Addr} {m c1 : Nat} {ys : List Int} (h : Own w B a1 m c1 ys) (hB : B ≤ w.heap.size) : OwnR (w.alloc (.cells #[.slice a1 m c1] 22)) B (some ⟨w.heap.size, 0, none⟩) 1 1 [⟨a1, c1, ys⟩] := by
  have hm : ys.length = m := h.len
  refine ⟨by
    have := World.ownsRow_lit (base := B) (e := 22) (size := 1) w #[.slice a1 m c1] 1 hB (by unfold maxLen; omega) (by simp)
    simpa [Rw.v, hm] using this, rfl, by omega, fun i hi => ?_, by omega⟩
  obtain rfl : i = 0 := by omega
  rw [nthR_one]
  have := h.below (K := w.heap.size) ((Below.refl _ _).alloc (Nat.le_refl _) (.cells #[.slice a1 m c1] 22)) (Nat.le_refl _)
  rw [← hm] at this
  rw [← hm]
  exact this

theorem hasR_cells {w : World} {b off n cap : Nat} {rs : List Rw} (h : HasR w (some ⟨b, off, none⟩) n cap rs) : ∀ j u, (rs.map Rw.v)[j]? = some u → w.cell? ((⟨b, off, none⟩ : Addr).add j) = some u := by
  intro j u hj
  obtain ⟨h0, _, _, _, h4, _⟩ := h
  have hlt : j < rs.length := by
    have := List.getElem?_eq_some_iff.1 hj
    obtain ⟨h1, _⟩ := this
    simpa using h1
  rw [map_nthR _ hlt] at hj
  cases hj
  obtain ⟨b', off', ha, _, hc⟩ := h4 (by omega)
  cases ha
  have e : (⟨b, off, none⟩ : Addr).add j = ⟨b, off + j, none⟩ := by unfold Addr.add; split <;> simp_all
  rw [e]
  exact hc j (by omega)
theorem rows_oneCell (rs : List Rw) : ∀ u ∈ rs.map Rw.v, u.oneCell' = true := by
  intro u hu
  obtain ⟨r, _, rfl⟩ := List.mem_map.1 hu
  rfl

end Go.Proofs.YtakadjhbomggbabDoor
