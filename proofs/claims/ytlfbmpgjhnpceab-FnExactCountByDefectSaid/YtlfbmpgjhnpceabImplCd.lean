/- The program's counts by defects. -/
import Derived.Test.YtlfbmpgjhnpceabKept
import Derived.Test.YtlfbmpgjhnpceabImplDe
import Derived.Test.YtlfbmpgjhnpceabSpecLe
namespace Go.Proofs.Ytlfbmpgjhnpceab
open Go.RowKit Go.Shelf

attribute [local go_sem] Oper.semAt_some

/-- 'make([]int, n)' within a fence. -/
theorem wpListIn_mk {F : Fence} {m : Nat} {ops : Array Oper} {rest : List Oper} {o : Oper} {a : Act} {Q : Exit → Act → World → Prop} (w : World) (hgd : o.guard = none) (l c : Operand) (ho : o.op = Op.makeSlice 22 l c)
    (n : Nat) (hl : a.eval l = .int .i64 (n : Int)) (hc : a.eval c = .int .i64 (n : Int)) (hn : n ≤ 2097152)
    (h : ∀ w', Own w' w.heap.size (some ⟨w.heap.size, 0, none⟩) n n (List.replicate n 0) → Below w.heap.size w w' → wpListIn F m Try.prog ops Q rest (a.put o.dst (.slice (some ⟨w.heap.size, 0, none⟩) n n)) w') :
    wpListIn F m Try.prog ops Q (o :: rest) a w := by
  obtain ⟨i0, hi, hz0, hz1, hz2⟩ := info_parts Try.infoInt
  refine wpListIn_plain hgd fun K hK => ?_
  obtain ⟨w', hrun, r1, r2⟩ := run_make_full (P := Try.prog) w w.heap.size 22 3 i0 (.int .i64 0) 1 Try.underlying22 hi hz0 hz1 .i64 .i64 n (by rw [hz2]; omega) (by unfold maxLen; omega) (Nat.le_refl _)
  have hown : Own w' w.heap.size (some ⟨w.heap.size, 0, none⟩) n n (List.replicate n 0) := by
    refine ⟨?_, by simp, hn⟩
    have : (madeCells (Value.int IntKind.i64 0).cells (n * 1)).toList = (List.replicate n (0 : Int)).map (Value.int .i64) := by
      rw [show (Value.int IntKind.i64 0).cells = #[.int .i64 0] from rfl, toList_madeCells_one]; simp
    rw [← this]
    exact r1
  unfold Oper.wpIn
  refine ⟨?_, ?_⟩
  · simp [Oper.about, ho]
  · rw [Oper.semAt_plain F _ _ (by rw [ho]; intro c hc'; cases hc')]
    simp [execOp, ho, hl, hc, hrun, Result.andThen]
    exact hK _ _ (h w' hown (below_grown r2 (Nat.le_refl _) (by simp)))

theorem Own.turn {A B : World} {K : Nat} {a : Option Addr} {n cap : Nat} {xs : List Int} {row : Option Nat} (h : Own A K a n cap xs) (hg : A.grownBy B row) (hr : ∀ r, row = some r → ∃ o : Obj, A.heap[r]? = some o ∧ o.isCells = false) : Own B K a n cap xs := by
  obtain ⟨⟨h1, h2⟩, h3⟩ := h
  refine ⟨⟨h1, ?_⟩, h3⟩
  rcases h2 with h2 | ⟨g, cap', cur, hv, hgB, hh, r⟩
  · exact .inl h2
  · refine .inr ⟨g, cap', cur, hv, hgB, ?_, r⟩
    rw [hg.block g (Array.getElem?_eq_some_iff.1 hh).1 (fun e => by
      obtain ⟨o, ho, hc⟩ := hr g e.symm
      rw [hh] at ho
      cases ho
      simp [Obj.isCells] at hc)]
    exact hh

/-- What the loop of the counts keeps: n (block b), the counts' slice (block bc), the iterator's n (block bn), the counts (block g). -/
structure Counts5 (W : World) (b bc bn g p K : Nat) (zs : List Int) : Prop where
  cn : W.cell? ⟨b, 0, none⟩ = some (.int .i64 (p : Int))
  cc : W.cell? ⟨bc, 0, none⟩ = some (.slice (some ⟨g, 0, none⟩) p p)
  it : W.cell? ⟨bn, 0, none⟩ = some (.int .i64 (p : Int))
  own : Own W K (some ⟨g, 0, none⟩) p p zs
theorem Counts5.below {W W' : World} {b bc bn g p K L : Nat} {zs : List Int} (h : Counts5 W b bc bn g p K zs) (hb : Below L W W') (h1 : b < L) (h2 : bc < L) (h3 : bn < L) (h4 : g < L) : Counts5 W' b bc bn g p K zs :=
  ⟨by rw [hb.cell (p := ⟨b, 0, none⟩) (by simp; omega)]; exact h.cn, by rw [hb.cell (p := ⟨bc, 0, none⟩) (by simp; omega)]; exact h.cc, by rw [hb.cell (p := ⟨bn, 0, none⟩) (by simp; omega)]; exact h.it,
   h.own.belowB hb (fun q hq => by cases hq; exact h4)⟩
theorem Counts5.turn {A B : World} {b bc bn g p K : Nat} {zs : List Int} {row : Option Nat} (h : Counts5 A b bc bn g p K zs) (hg : A.grownBy B row) (hr : ∀ r, row = some r → ∃ o : Obj, A.heap[r]? = some o ∧ o.isCells = false) : Counts5 B b bc bn g p K zs :=
  ⟨cell_kept h.cn hg hr, cell_kept h.cc hg hr, cell_kept h.it hg hr, h.own.turn hg hr⟩
theorem Counts5.set {W : World} {b bc bn g p K : Nat} {zs : List Int} (h : Counts5 W b bc bn g p K zs) (h1 : g ≠ b) (h2 : g ≠ bc) (h3 : g ≠ bn) (i : Nat) (y : Int) : Counts5 (W.setCell ⟨g, i, none⟩ (.int .i64 y)) b bc bn g p K (zs.set i y) :=
  ⟨by rw [cell_other h1]; exact h.cn, by rw [cell_other h2]; exact h.cc, by rw [cell_other h3]; exact h.it, (h.own.set i y).1⟩

set_option maxRecDepth 100000 in
set_option maxHeartbeats 4000000 in
theorem byDefect_any (n : Int) (w : World) : Calls Try.prog 16 #[.int .i64 n] w (PostInts w (byDefectOf n)) := by
  refine (callsIn_wide (n := 8)).1 ?_
  refine callsIn_of_wp_marks Try.func16 rfl trivial ?_ rfl
  simp only [Try.ntmps16, List.size_toArray, List.length_cons, List.length_nil, Nat.reduceAdd, Nat.reduceSub, Array.replicate_succ, Array.replicate_zero, List.push_toArray, List.append_toArray, List.nil_append, List.cons_append]
  by_cases hn : inB n 1 5 = true
  · obtain ⟨p, rfl⟩ : ∃ p : Nat, n = (p : Int) := ⟨n.toNat, by have := inB_iff.1 hn; omega⟩
    have hp1 : 1 ≤ p ∧ p ≤ 5 := by have := inB_iff.1 hn; omega
    obtain ⟨hp1, hp5⟩ := hp1
    have HN := hid hn
    have HR : Hid (byDefectOf p = (byDefect p, true)) := hid (by simp [byDefectOf, hn])
    clear hn
    gi_wp2_with (first | (refine ⟨trivial, ?_⟩; gi_at_call 88; refine (callsIn_wide.2 (isTried_any _ _)).mono ?_; rintro e w' ⟨rfl, rfl⟩; rw [HN.out]) | (gi_at_make; refine wpListIn_mk _ rfl _ _ rfl p rfl rfl (by omega) ?_; intro w2 hown2 hb2; have z0 : w2.cell? ⟨w.heap.size, 0, none⟩ = some (.int .i64 (p : Int)) := (by rw [hb2.cell (p := ⟨w.heap.size, 0, none⟩) (by simp), World.cell?_alloc_at _ _ _ _ rfl]; rfl); have z1 : w.heap.size + 2 ≤ w2.heap.size := (by have := (hown2.lt _ rfl); simp at this; omega); have z4 := alloc_keep z0 (by omega)) | (refine ⟨trivial, ?_⟩; gi_at_call 89; refine (callsIn_wide.2 (tried_any _ _)).mono ?_; rintro e w' ⟨rfl, rfl⟩))
    have hgs : (w.alloc (.cells #[.int .i64 (p : Int)] 3)).heap.size = w.heap.size + 1 := by simp
    rw [hgs] at hown2
    have hbw2 : Below w.heap.size w w2 := ((Below.refl _ _).alloc (Nat.le_refl _) _).trans (hb2.mono (by simp))
    have hsz0 : ((w2.alloc (.cells #[.slice (some ⟨w.heap.size + 1, 0, none⟩) p p] 22)).alloc (.cells #[.int .i64 (p : Int)] 3)).heap.size = w2.heap.size + 2 := by simp
    have V0 : Counts5 ((w2.alloc (.cells #[.slice (some ⟨w.heap.size + 1, 0, none⟩) p p] 22)).alloc (.cells #[.int .i64 (p : Int)] 3)) w.heap.size w2.heap.size (w2.heap.size + 1) (w.heap.size + 1) p (w.heap.size + 1) (List.replicate p 0) := by
      refine ⟨alloc_keep (z4 _) (by simp; omega) _, ?_, ?_, (hown2.al _).al _⟩
      · rw [World.cell?_alloc_past _ _ _ (by simp), World.cell?_alloc_at _ _ _ _ rfl]; rfl
      · rw [World.cell?_alloc_at _ _ _ _ (by simp)]; rfl
    have hb0 : Below w.heap.size w ((w2.alloc (.cells #[.slice (some ⟨w.heap.size + 1, 0, none⟩) p p] 22)).alloc (.cells #[.int .i64 (p : Int)] 3)) := (hbw2.alloc (by omega) _).alloc (by simp; omega) _
    generalize ((w2.alloc (.cells #[.slice (some ⟨w.heap.size + 1, 0, none⟩) p p] 22)).alloc (.cells #[.int .i64 (p : Int)] 3)) = W0 at *
    clear z0 z4 hgs hown2 hb2 hbw2
    have HG := hid (fun k (hk : k < p ^ p) => tried_good hp1 hp5 hk)
    have HTL := hid (length_defTs hp1)
    have HDF := hid (fun k (hk : k < p ^ p) => defTs_facts hp1 hk rfl (tried_good hp1 hp5 hk).1 (tried_good hp1 hp5 hk).2)
    refine wpIn_tried 8 (w2.heap.size + 1) p (p ^ p) rfl hp1 hp5 (by omega) rfl
      (fun k W => (∃ zs, Counts5 W w.heap.size w2.heap.size (w2.heap.size + 1) (w.heap.size + 1) p (w.heap.size + 1) zs ∧ Hist5 (defTs p) p k zs) ∧ Below w.heap.size w W)
      (fun k V h => by obtain ⟨⟨zs, h1, -⟩, -⟩ := h; exact h1.it) (fun k V V' h hb => by obtain ⟨⟨zs, h1, h2⟩, h3⟩ := h; exact ⟨⟨zs, h1.below hb (by omega) (by omega) (by omega) (by omega), h2⟩, h3.trans (hb.mono (by omega))⟩) ?_ ⟨⟨_, V0, hist5_first _ _⟩, hb0⟩
      (fun x => { tmps := #[.int .i64 (p : Int), .pointer (some ⟨w.heap.size, 0, none⟩), .slice none 0 0, .bool false, .pointer (some ⟨w2.heap.size, 0, none⟩), x, undef, undef, .int .i64 (p : Int), .bool true, .bool false, .int .i64 (p : Int), .slice (some ⟨w.heap.size + 1, 0, none⟩) p p, .int .i64 (p : Int), TrFn (w2.heap.size + 1), x, undef, undef, undef, undef, undef, undef, undef, undef, undef, undef, undef, undef, undef], defers := [] }) ?_ ?_ ?_
    · refine OwnFrom.and (fun s A B' row hs hg hr => by obtain ⟨zs, h1, h2⟩ := hs; exact ⟨zs, h1.turn hg (fun r e => (hr r e).2), h2⟩) (ownFrom_below (Nat.le_refl _) (by omega))
    · intro l x W K hK
      gi_wp2
      exact hK
    · rintro l k gl W ⟨⟨zs, V, hH⟩, hB⟩ hsz hlt hown
      obtain ⟨gl1, gl2⟩ := HG.out k hlt
      obtain ⟨d, hd, hdp, hdn⟩ := HDF.out k hlt
      have HH2 := hid (hist5_step hH (by rw [HTL.out]; exact hlt) hdn hdp V.own.len)
      obtain ⟨z0, z1⟩ := hist5_le hH hdp (by rw [HTL.out]; omega)
      have hN : p ^ p ≤ 3125 := Nat.le_trans (Nat.pow_le_pow_left hp5 p) (Nat.pow_le_pow_right (by omega) hp5)
      rw [HTL.out] at z1
      generalize (allTried p).getD k [] = xs at *
      have HD : Hid (defectOf xs p = ((d : Int), true)) := hid (by simp [defectOf, gl2, hd])
      have cn := V.cn
      have hdi : (d : Int) < (p : Int) := by omega
      have hdz : (0 : Int) ≤ (d : Int) := by omega
      clear hd hdn gl1 gl2 hH
      gi_wp2_with (refine ⟨trivial, ?_⟩; gi_at_call 48; refine (CallsIn.inRound l (callsIn_wide.2 (defect_any _ _ _ _ p _ hown.has))).mono ?_; rw [HD.out]; rintro e w3 ⟨rfl, hb3⟩; have V3 := V.below hb3 (by omega) (by omega) (by omega) (by omega); have cc := V3.cc; obtain ⟨g', hga, -, -, hcg, hfg⟩ := V3.own.opened (by omega); cases hga; have hgd := hcg d hdp; have hgf := hfg d; clear hcg hfg)
      have hs3 := hb3.size
      refine ⟨(keeps_below hb3 (Nat.le_refl _)).trans ((KeepsOthers.setCell _ _ _).from _), ⟨⟨_, V3.set (by omega) (by omega) (by omega) d _, HH2.out⟩, (hB.trans (hb3.mono hB.size)).setCell (by simp) _⟩, (kept_below hb3 (Nat.le_refl _)).trans (kept_set _ _ _ _ (by omega))⟩
    · rintro D W hDl ⟨⟨zs, V, hH⟩, hB⟩ hK
      have cc := V.cc
      have HF := hid (hist5_all hH HTL.out V.own.len)
      gi_wp2
      refine ⟨by simp, .inl ⟨D, W.putObj D (.deferred none), rfl, run_takeDeferred hK, ?_⟩⟩
      have hb9 : Below w.heap.size W (W.putObj D (.deferred none)) := (Below.refl _ _).grown (grownBy_putObj' W D _) hB.size (fun k e => by cases e; omega)
      have hto := V.own.turn (grownBy_putObj' W D (.deferred none)) (fun r e => by cases e; exact ⟨_, hK, rfl⟩)
      rw [HF.out] at hto
      refine ⟨.tuple #[.slice (some ⟨w.heap.size + 1, 0, none⟩) p p, .bool true], ?_, postInts HR.out (hto.mono (by omega)) (hB.trans hb9)⟩
      simp [results, Try.results16, go_sem]
  · have HN := hid (Bool.eq_false_iff.2 hn)
    have HR : Hid (byDefectOf n = ([], false)) := hid (by simp [byDefectOf, hn])
    clear hn
    gi_wp2_with (first | (refine ⟨trivial, ?_⟩; gi_at_call 88; refine (callsIn_wide.2 (isTried_any _ _)).mono ?_; rintro e w' ⟨rfl, rfl⟩; rw [HN.out]))
    refine ⟨.tuple #[.slice none 0 0, .bool false], ?_, postInts_no HR.out ((Below.refl _ _).alloc (Nat.le_refl _) _)⟩
    simp [results, Try.results16, go_sem]
end Go.Proofs.Ytlfbmpgjhnpceab
