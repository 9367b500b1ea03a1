/- The program's DepthsOf. -/
import Derived.Test.YtdemcjciijlbeaaImplTs
import Derived.Test.YtdemcjciijlbeaaSpecTw
namespace Go.Proofs.Ytdemcjciijlbeaa
open Go.RowKit Go.Shelf

attribute [local go_sem] Oper.semAt_some

/-- 'make([]int, n)' within a fence. -/
theorem wpListIn_make_ints {F : Fence} {m : Nat} {ops : Array Oper} {rest : List Oper} {o : Oper} {a : Act} {Q : Exit → Act → World → Prop} (w : World) (hgd : o.guard = none) (l c : Operand) (ho : o.op = Op.makeSlice 24 l c)
    (n : Nat) (hl : a.eval l = .int .i64 (n : Int)) (hc : a.eval c = .int .i64 (n : Int)) (hn : n ≤ 2097152)
    (h : ∀ w', Own w' w.heap.size (some ⟨w.heap.size, 0, none⟩) n n (List.replicate n 0) → Below w.heap.size w w' → wpListIn F m Try.prog ops Q rest (a.put o.dst (.slice (some ⟨w.heap.size, 0, none⟩) n n)) w') :
    wpListIn F m Try.prog ops Q (o :: rest) a w := by
  obtain ⟨i0, hi, hz0, hz1, hz2⟩ := info_parts Try.infoInt
  refine wpListIn_plain hgd fun K hK => ?_
  obtain ⟨w', hrun, r1, r2⟩ := run_make_full (P := Try.prog) w w.heap.size 24 3 i0 (.int .i64 0) 1 Try.underlying24 hi hz0 hz1 .i64 .i64 n (by rw [hz2]; omega) (by unfold maxLen; omega) (Nat.le_refl _)
  have hown : Own w' w.heap.size (some ⟨w.heap.size, 0, none⟩) n n (List.replicate n 0) := by
    refine ⟨?_, by simp, hn⟩
    have : (madeCells (Value.int IntKind.i64 0).cells (n * 1)).toList = (List.replicate n (0 : Int)).map (Value.int .i64) := by
      rw [show (Value.int IntKind.i64 0).cells = #[.int .i64 0] from rfl, toList_madeCells_one]; simp
    rw [← this]
    exact r1
  unfold Oper.wpIn
  refine ⟨?_, ?_⟩
  · simp [Oper.about, ho]
  · rw [Oper.semAt_plain F _ _ (by rw [ho]; intro c hc'; cases hc')]
    simp [execOp, ho, hl, hc, hrun, Result.andThen]
    exact hK _ _ (h w' hown (below_grown r2 (Nat.le_refl _) (by simp)))

/-- Behind a turn of a block that is no cells. -/
theorem own_turn {A B : World} {K g n cap : Nat} {xs : List Int} {row : Option Nat} (h : Own A K (some ⟨g, 0, none⟩) n cap xs) (hg : A.grownBy B row) (hr : ∀ r, row = some r → ∃ o : Obj, A.heap[r]? = some o ∧ o.isCells = false) : Own B K (some ⟨g, 0, none⟩) n cap xs := by
  obtain ⟨⟨h1, h2⟩, h3⟩ := h
  refine ⟨⟨h1, ?_⟩, h3⟩
  rcases h2 with h2 | ⟨g', cap', cur, hv, hg', hh, r⟩
  · exact .inl h2
  · have hv' := hv
    simp at hv'
    obtain ⟨rfl, _⟩ := hv'
    refine .inr ⟨g, cap', cur, hv, hg', ?_, r⟩
    rw [hg.block g (Array.getElem?_eq_some_iff.1 hh).1 (fun e => by
      obtain ⟨o, ho, hc⟩ := hr g e.symm
      rw [hh] at ho
      cases ho
      cases hc)]
    exact hh

theorem own_blocks {A B : World} {K g n cap : Nat} {xs : List Int} (h : Own A K (some ⟨g, 0, none⟩) n cap xs) (hb : Blocks A B) : Own B K (some ⟨g, 0, none⟩) n cap xs := by
  obtain ⟨⟨h1, h2⟩, h3⟩ := h
  refine ⟨⟨h1, ?_⟩, h3⟩
  rcases h2 with h2 | ⟨g', cap', cur, hv, hg', hh, r⟩
  · exact .inl h2
  · have hv' := hv
    simp at hv'
    obtain ⟨rfl, _⟩ := hv'
    exact .inr ⟨g, cap', cur, hv, hg', hb _ _ _ hh, r⟩

/-- The depths, as far as they are found. -/
def DepAt (xs ys : List Int) (k : Nat) : Prop := ∀ i, i < xs.length → nth ys i = if i < k then nth (depL xs) i else 0
theorem depAt_all {xs ys : List Int} (h : DepAt xs ys xs.length) (hl : ys.length = xs.length) : ys = depL xs :=
  ext_nth (by rw [hl, length_depL]) fun i hi => by rw [h i (by omega), if_pos (by omega)]
theorem depAt_step {xs ys : List Int} {k : Nat} (h : DepAt xs ys k) (hk : k < xs.length) (hl : ys.length = xs.length) : DepAt xs (ys.set k (dep xs ((k : Int) + 1) : Int)) (k + 1) := fun i hi => by
  rw [nth_set (by omega)]
  by_cases e : k = i
  · subst e; rw [if_pos rfl, if_pos (by omega), nth_depL hk]
  · rw [if_neg e, h i hi]
    by_cases e2 : i < k
    · rw [if_pos e2, if_pos (by omega)]
    · rw [if_neg e2, if_neg (by omega)]

structure Deep (w wr : World) (B T : Nat) (n : Nat) (xs ys : List Int) (k : Nat) (Ds : List Nat) : Prop where
  below : Below w.heap.size w wr
  lo : w.heap.size ≤ B ∧ B < T ∧ T < wr.heap.size
  box : wr.cell? ⟨T, 0, none⟩ = some (.slice (some ⟨B, 0, none⟩) n n)
  own : Own wr B (some ⟨B, 0, none⟩) n n ys
  marks : Marks wr w.heap.size Ds
  found : DepAt xs ys k

set_option maxRecDepth 100000 in
set_option maxHeartbeats 2000000 in
theorem implDepths_any (a : Option Addr) (n cap : Nat) (xs : List Int) (w : World) (h : Has w a n cap xs) :
    Calls Try.prog 9 #[.slice a n cap] w (PostInts w (depOf xs)) := by
  have HL := hid h.len
  refine (callsIn_wide (n := 8)).1 ?_
  refine callsIn_of_wp_marks Try.func9 rfl trivial ?_ rfl
  simp only [Try.ntmps9, List.size_toArray, List.length_cons, List.length_nil, Nat.reduceAdd, Nat.reduceSub, Array.replicate_succ, Array.replicate_zero, List.push_toArray, List.append_toArray, List.nil_append, List.cons_append]
  by_cases hg : treeB xs = true
  · have HR : Hid (depOf xs = (depL xs, true)) := hid (by simp [depOf, hg])
    have ht := tree_of hg h.len
    have h8 := ht.le
    have HT := hid ht
    have HB := hid ht.nthB
    have HG := hid hg
    clear hg ht
    gi_wp2_with fail
    refine ⟨trivial, (callsIn_wide.2 (isTree_any _ _ _ _ _ h)).mono ?_⟩
    rintro e w1 ⟨rfl, hb1⟩
    rw [HG.out]
    have hs1 := hb1.size
    gi_wp2_with (gi_at_make; refine wpListIn_make_ints _ rfl _ _ rfl n rfl rfl (by omega) ?_; intro w2 hown2 hb2)
    have hs2 : w1.heap.size < w2.heap.size := (hown2.1.lt w1.heap.size rfl).2
    have hD : Deep w (w2.alloc (.cells #[.slice (some ⟨w1.heap.size, 0, none⟩) n n] 24)) w1.heap.size w2.heap.size n xs (List.replicate n 0) 0 [] := by
      refine ⟨(hb1.trans (hb2.mono hs1)).alloc (by omega) _, ⟨hs1, hs2, by simp⟩, by rw [World.cell?_alloc_at _ _ _ _ rfl]; rfl, own_kept hown2 ((Below.refl w2.heap.size w2).alloc (Nat.le_refl _) _) hs2, Marks.nil _ _, fun i hi => ?_⟩
      rw [nth_replicate0', if_neg (by omega)]
    have c0 := hD.box
    generalize hT : w2.heap.size = T at *
    generalize (w2.alloc (.cells #[.slice (some ⟨w1.heap.size, 0, none⟩) n n] 24)) = W0 at *
    generalize w1.heap.size = B at *
    clear hown2 hb2 hb1 hT
    gi_wp2_with fail
    refine wpIn_loop (fun a' wr => ∃ (k : Nat) (Ds : List Nat) (ys : List Int) (u1 u2 u3 u5 u6 u7 u8 u9 u10 u11 u12 u15 u16 u17 u18 u19 u20 u21 u22 u23 u24 u25 u26 u27 u28 u29 : Value), k ≤ n ∧ a' = { tmps := #[.slice a n cap, u1, u2, u3, .pointer (some ⟨T, 0, none⟩), u5, u6, u7, u8, u9, u10, u11, u12, .int .i64 (n : Int), .int .i64 (k : Int), u15, u16, u17, u18, u19, u20, u21, u22, u23, u24, u25, u26, u27, u28, u29], defers := Ds.map mark } ∧ Deep w wr B T n xs ys k Ds)
      (fun a' _ => n - (intOf (a'.tmps.getD 14 undef)).toNat) ?_ ?_
    · exact ⟨0, [], _, _, _, _, _, _, _, _, _, _, _, _, _, _, _, _, _, _, _, _, _, _, _, _, _, _, _, Nat.zero_le _, rfl, hD⟩
    · clear hD c0
      rintro _ wr ⟨k, Ds, ys, u1, u2, u3, u5, u6, u7, u8, u9, u10, u11, u12, u15, u16, u17, u18, u19, u20, u21, u22, u23, u24, u25, u26, u27, u28, u29, hk, rfl, hD⟩
      obtain ⟨l1, l2, l3⟩ := hD.lo
      by_cases hlt : k < n
      · have hh : Has wr a n cap xs := h.below hD.below (Nat.le_refl _)
        have c5 : (wr.alloc (.cells #[.int .i64 (k : Int)] 3)).cell? ⟨wr.heap.size, 0, none⟩ = some (.int .i64 (k : Int)) := by rw [World.cell?_alloc_at _ _ _ _ rfl]; rfl
        gi_wp2_with (refine ⟨trivial, ?_⟩; gi_at_call 19; refine (callsIn_wide.2 (above_any _ _ _ _ _)).mono ?_; rintro e w' ⟨rfl, rfl⟩)
        have hbl : Below wr.heap.size wr (((wr.alloc (.cells #[.int .i64 (k : Int)] 3)).alloc (.cells #[.slice a n cap] 24)).alloc (.cells #[.int .i64 ((k : Int) + 1)] 3)) := (((Below.refl wr.heap.size wr).alloc (Nat.le_refl _) _).alloc (by simp) _).alloc (by simp; omega) _
        obtain ⟨s0, s1, s2, sf, sz⟩ := three_cells wr (.int .i64 (k : Int)) (.slice a n cap) (.int .i64 ((k : Int) + 1)) 3 24 3
        generalize (((wr.alloc (.cells #[.int .i64 (k : Int)] 3)).alloc (.cells #[.slice a n cap] 24)).alloc (.cells #[.int .i64 ((k : Int) + 1)] 3)) = W1 at *
        clear c5
        have hbw := hD.below.size
        have hboxW : W1.cell? ⟨T, 0, none⟩ = some (.slice (some ⟨B, 0, none⟩) n n) := by rw [hbl.cell (p := ⟨T, 0, none⟩) (by simp; omega)]; exact hD.box
        have hownW : Own W1 B (some ⟨B, 0, none⟩) n n (ys.set k ((0 : Nat) : Int)) := by
          have h0 : nth ys k = 0 := by rw [hD.found k (by rw [HL.out]; exact hlt), if_neg (by omega)]
          have : ys.set k ((0 : Nat) : Int) = ys := ext_nth (by simp) fun i hi => by
            rw [nth_set (by simpa [hD.own.len] using hlt)]
            split
            · subst_vars; exact h0.symm
            · rfl
          rw [this]
          exact own_kept hD.own hbl (by omega)
        have hylen := hD.own.len
        have hmW := hD.marks.below hbl (Nat.le_refl _)
        obtain ⟨dp1, dp2, dp3⟩ := HT.out.dep (v := (k : Int) + 1) (by omega) (by omega)
        have D1 := hid dp1
        have D2 := hid dp2
        clear dp1 dp2
        refine wpIn_above 8 (wr.heap.size + 1 + 1) (wr.heap.size + 1) a n cap xs (k + 1) n rfl HB.out (by omega) h8
          (fun q W => Below w.heap.size w W ∧ (W.cell? ⟨T, 0, none⟩ = some (.slice (some ⟨B, 0, none⟩) n n) ∧ W.cell? ⟨wr.heap.size, 0, none⟩ = some (.int .i64 (k : Int)) ∧ W.cell? ⟨wr.heap.size + 1, 0, none⟩ = some (.slice a n cap) ∧ W.cell? ⟨wr.heap.size + 1 + 1, 0, none⟩ = some (.int .i64 ((k : Int) + 1)) ∧ Own W B (some ⟨B, 0, none⟩) n n (ys.set k (q : Int)) ∧ (∀ D ∈ Ds, W.heap[D]? = some (.deferred (some []))) ∧ W1.heap.size ≤ W.heap.size ∧ q ≤ dep xs ((k : Int) + 1)))
          (fun _ _ => False)
          (fun q W hi => ⟨by have := hi.2.2.2.2.2.2.2.2; omega, ⟨hi.2.2.2.2.1, hi.2.2.2.1, h.below hi.1 (Nat.le_refl _)⟩⟩) ?_ (fun _ _ _ _ hs _ _ => hs) ⟨hD.below.trans (hbl.mono hbw), hboxW, s0, s1, s2, hownW, hmW.isOpen, Nat.le_refl _, Nat.zero_le _⟩ (fun x => { tmps := #[.slice a n cap, u1, u2, u3, .pointer (some ⟨T, 0, none⟩), .pointer (some ⟨wr.heap.size, 0, none⟩), u6, u7, u8, u9, u10, u11, u12, .int .i64 (n : Int), .int .i64 (k : Int), .bool true, .int .i64 (k : Int), .slice a n cap, .int .i64 (k : Int), .int .i64 ((k : Int) + 1), UpFn (wr.heap.size + 1 + 1) (wr.heap.size + 1), .int .i64 x, u22, u23, u24, u25, u26, u27, u28, u29], defers := [] }) ?_ ?_ ?_ ?_
        · refine OwnFrom.and (ownFrom_below (Nat.le_refl _) (by omega)) (fun s A B' row hs hg hr => ?_)
          obtain ⟨e1, e2, e3, e4, e5, e6, e7, e8⟩ := hs
          have hr2 : ∀ r, row = some r → ∃ o : Obj, A.heap[r]? = some o ∧ o.isCells = false := fun r e => (hr r e).2
          refine ⟨cell_kept e1 hg hr2, cell_kept e2 hg hr2, cell_kept e3 hg hr2, cell_kept e4 hg hr2, own_turn e5 hg hr2, fun D hD' => ?_, Nat.le_trans e7 hg.size, e8⟩
          have hlt' := hD.marks.lt hD'
          rw [hg.block D ((Array.getElem?_eq_some_iff.1 (e6 D hD')).1) (fun e => by have := (hr D e.symm).1; omega)]
          exact e6 D hD'
        · intro l x W K hK
          gi_wp2
          exact hK
        · rintro l q W ⟨hB, d1, d2, d3, d4, d5, d6, d7, d8⟩ hne
          have hqd : q < dep xs ((k : Int) + 1) := Classical.byContradiction fun hq => hne (by
            have := up_zero D1.out q (by omega)
            exact_mod_cast this)
          have hq8 : q ≤ 8 := by omega
          obtain ⟨g, hgg, hg1, hg2, hg3, hg4⟩ := d5.opened (by omega)
          cases hgg
          have hgk := hg3 k hlt
          rw [nth_set (by omega), if_pos rfl] at hgk
          have hgf := hg4 k
          obtain ⟨t1, t2⟩ := d5.set k ((q : Int) + 1)
          have HZ : Hid ((ys.set k (q : Int)).set k ((q : Int) + 1) = ys.set k ((q + 1 : Nat) : Int)) := hid (by rw [List.set_set]; rfl)
          clear hg3 hg4
          gi_wp2
          refine ⟨(KeepsOthers.setCell _ _ _).from _, hB.setCell (p := ⟨B, k, none⟩) (by simp; omega) _, ?_, ?_, ?_, ?_, by rw [← HZ.out]; exact t1, fun D hD' => (KeepsOthers.setCell _ _ _).same D _ (d6 D hD') rfl, by simpa using d7, by omega⟩
          · rw [cell_other (by omega)]; exact d1
          · rw [cell_other (by omega)]; exact d2
          · rw [cell_other (by omega)]; exact d3
          · rw [cell_other (by omega)]; exact d4
        · rintro D q W hDl hz hne ⟨hB, d1, d2, d3, d4, d5, d6, d7, d8⟩ hK
          have eq1 : ((k + 1 : Nat) : Int) = (k : Int) + 1 := by omega
          have hdq : dep xs ((k : Int) + 1) = q := by
            rw [eq1] at hz hne
            exact dep_is hz hne (by rw [HL.out]; omega)
          have hm := (Marks.mk hD.marks.nodup hD.marks.ge d6).cons (L := W1.heap.size) (D := D) (fun E hE => by have := hD.marks.lt hE; omega) hDl (by omega) hK
          have HS := depAt_step hD.found (by rw [HL.out]; exact hlt) (by rw [hylen, HL.out])
          rw [hdq] at HS
          gi_wp2
          refine ⟨⟨k + 1, D :: Ds, _, _, _, _, _, _, _, _, _, _, _, _, _, _, _, _, _, _, _, _, _, _, _, _, _, _, _, by omega, by rw [eq1]; rfl, ⟨hB, ⟨l1, l2, by omega⟩, d1, d5, hm, HS⟩⟩, ?_⟩
          simp [intOf]; omega
        · rintro D q W hDl hF hK
          exact hF.elim
      · obtain rfl : k = n := by omega
        have HF : Hid (ys = depL xs) := hid (depAt_all (by rw [HL.out]; exact hD.found) (by rw [hD.own.len, HL.out]))
        have c1 := hD.box
        gi_wp2_with fail
        refine leaves_marks Ds _ hD.marks hD.below.size fun w' hc hbk hb => ⟨.tuple #[.slice (some ⟨B, 0, none⟩) k k, .bool true], ?_, postInts HR.out (by rw [← HF.out]; exact (own_blocks hD.own hbk).mono l1) (hD.below.trans hb)⟩
        simp [results, Try.results9, go_sem]
  · have HR : Hid (depOf xs = ([], false)) := hid (by simp [depOf, hg])
    have HG := hid (Bool.eq_false_iff.2 hg)
    clear hg
    gi_wp2_with (refine ⟨trivial, ?_⟩; gi_at_call 18; refine (callsIn_wide.2 (isTree_any _ _ _ _ _ h)).mono ?_; rintro e w1 ⟨rfl, hb1⟩; rw [HG.out])
    refine ⟨.tuple #[.slice none 0 0, .bool false], ?_, postInts_no HR.out hb1⟩
    simp [results, Try.results9, go_sem]
end Go.Proofs.Ytdemcjciijlbeaa
