/- The program's BelowCounts. -/
import Derived.Test.YtdemcjciijlbeaaImplTw
namespace Go.Proofs.Ytdemcjciijlbeaa
open Go.RowKit Go.Shelf

attribute [local go_sem] Oper.semAt_some

theorem two_cells (w : World) (x y : Value) (t u : TypeId) :
    ((w.alloc (.cells #[x] t)).alloc (.cells #[y] u)).cell? ⟨w.heap.size, 0, none⟩ = some x ∧
    ((w.alloc (.cells #[x] t)).alloc (.cells #[y] u)).cell? ⟨w.heap.size + 1, 0, none⟩ = some y ∧
    ((w.alloc (.cells #[x] t)).alloc (.cells #[y] u)).heap.size = w.heap.size + 2 := by
  refine ⟨?_, ?_, by simp⟩
  · rw [World.cell?_alloc_past _ _ _ (by simp), World.cell?_alloc_at _ _ _ _ rfl]; rfl
  · rw [World.cell?_alloc_at _ _ _ _ (by simp)]; rfl

/-- The array in memory. -/
def ArrAt (W : World) (T : Nat) (ys : List Int) : Prop := ∀ v, v < 9 → W.cell? ⟨T, v, none⟩ = some (.int .i64 (nth ys v)) ∧ W.frozen? ⟨T, v, none⟩ = false
theorem ArrAt.below {W W' : World} {T K : Nat} {ys : List Int} (h : ArrAt W T ys) (hb : Below K W W') (hT : T < K) : ArrAt W' T ys := fun v hv => by
  rw [hb.cell (p := ⟨T, v, none⟩) hT, hb.frozen (p := ⟨T, v, none⟩) hT]; exact h v hv
theorem ArrAt.set {W : World} {T u : Nat} {ys : List Int} (h : ArrAt W T ys) (hu : u < 9) (hl : ys.length = 9) (y : Int) : ArrAt (W.setCell ⟨T, u, none⟩ (.int .i64 y)) T (ys.set u y) := fun v hv => by
  rw [World.frozen?_setCell, nth_set (by omega)]
  refine ⟨?_, (h v hv).2⟩
  by_cases e : u = v
  · subst e
    rw [if_pos rfl]
    exact World.cell?_setCell_same' _ _ _ (by rw [(h u hu).1]; rfl)
  · rw [if_neg e, World.cell?_setCell_other _ _ _ _ (by intro hh; injection hh with _ h5 _; exact e h5)]
    exact (h v hv).1
theorem ArrAt.turn {A B : World} {T : Nat} {ys : List Int} {row : Option Nat} (h : ArrAt A T ys) (hg : A.grownBy B row) (hr : ∀ r, row = some r → ∃ o : Obj, A.heap[r]? = some o ∧ o.isCells = false) : ArrAt B T ys := fun v hv =>
  ⟨cell_kept (h v hv).1 hg hr, (frozen_kept (h v hv).1 hg hr).trans (h v hv).2⟩
theorem ArrAt.has {W : World} {T n : Nat} {ys : List Int} (h : ArrAt W T ys) (hT : T < W.heap.size) (hl : ys.length = 9) (hn : n ≤ 9) : Has W (some ⟨T, 0, none⟩) n 9 (ys.take n) :=
  ⟨by simp; omega, hn, by unfold maxLen; omega, by omega, fun _ => ⟨T, 0, rfl, hT, fun i hi => by rw [Nat.zero_add, (h i (by omega)).1, nth_take hi]⟩⟩

structure Beneath (w wr : World) (T : Nat) (xs ys : List Int) (k : Nat) (Ds : List Nat) : Prop where
  below : Below w.heap.size w wr
  lo : w.heap.size ≤ T ∧ T < wr.heap.size
  arr : ArrAt wr T ys
  marks : Marks wr w.heap.size Ds
  found : BelAt xs ys 9 k 0

set_option maxRecDepth 100000 in
set_option maxHeartbeats 2000000 in
theorem implBelow_any (a : Option Addr) (n cap : Nat) (xs : List Int) (w : World) (h : Has w a n cap xs) :
    Calls Try.prog 11 #[.slice a n cap] w (PostInts w (belOf xs)) := by
  have HL := hid h.len
  refine (callsIn_wide (n := 8)).1 ?_
  refine callsIn_of_wp_marks Try.func11 rfl trivial ?_ rfl
  simp only [Try.ntmps11, List.size_toArray, List.length_cons, List.length_nil, Nat.reduceAdd, Nat.reduceSub, Array.replicate_succ, Array.replicate_zero, List.push_toArray, List.append_toArray, List.nil_append, List.cons_append]
  by_cases hg : treeB xs = true
  · have HR : Hid (belOf xs = (belL xs, true)) := hid (by simp [belOf, hg])
    have ht := tree_of hg h.len
    have h8 := ht.le
    have HT := hid ht
    have HB := hid ht.nthB
    have HG := hid hg
    clear hg ht
    gi_wp2_with fail
    refine ⟨trivial, (callsIn_wide.2 (isTree_any _ _ _ _ _ h)).mono ?_⟩
    rintro e w1 ⟨rfl, hb1⟩
    rw [HG.out]
    have hs1 := hb1.size
    gi_wp2_with fail
    have hD : Beneath w (w1.alloc (.cells #[.int .i64 0, .int .i64 0, .int .i64 0, .int .i64 0, .int .i64 0, .int .i64 0, .int .i64 0, .int .i64 0, .int .i64 0] 49)) w1.heap.size xs (List.replicate 9 0) 0 [] := by
      refine ⟨hb1.alloc hs1 _, ⟨hs1, by simp⟩, fun v hv => ⟨?_, ?_⟩, Marks.nil _ _, belAt_zero (by rw [HL.out]; omega)⟩
      · rw [World.cell?_alloc_at _ _ _ _ rfl, nth_replicate0']
        match v, hv with
        | 0, _ => rfl
        | 1, _ => rfl
        | 2, _ => rfl
        | 3, _ => rfl
        | 4, _ => rfl
        | 5, _ => rfl
        | 6, _ => rfl
        | 7, _ => rfl
        | 8, _ => rfl
      · rw [World.frozen?_alloc_at _ _ _ _ rfl]
    generalize hT : w1.heap.size = T at *
    generalize (w1.alloc (.cells #[.int .i64 0, .int .i64 0, .int .i64 0, .int .i64 0, .int .i64 0, .int .i64 0, .int .i64 0, .int .i64 0, .int .i64 0] 49)) = W0 at *
    clear hb1 hT
    refine wpIn_loop (fun a' wr => ∃ (k : Nat) (Ds : List Nat) (ys : List Int) (u1 u2 u3 u5 u6 u7 u8 u9 u10 u13 u14 u15 u16 u17 u18 u19 u20 u21 u22 u23 u24 u25 u26 u27 u28 u29 u30 : Value), k ≤ n ∧ a' = { tmps := #[.slice a n cap, u1, u2, u3, .pointer (some ⟨T, 0, none⟩), u5, u6, u7, u8, u9, u10, .int .i64 (n : Int), .int .i64 (k : Int), u13, u14, u15, u16, u17, u18, u19, u20, u21, u22, u23, u24, u25, u26, u27, u28, u29, u30], defers := Ds.map mark } ∧ Beneath w wr T xs ys k Ds)
      (fun a' _ => n - (intOf (a'.tmps.getD 12 undef)).toNat) ?_ ?_
    · exact ⟨0, [], _, _, _, _, _, _, _, _, _, _, _, _, _, _, _, _, _, _, _, _, _, _, _, _, _, _, _, _, Nat.zero_le _, rfl, hD⟩
    · clear hD
      rintro _ wr ⟨k, Ds, ys, u1, u2, u3, u5, u6, u7, u8, u9, u10, u13, u14, u15, u16, u17, u18, u19, u20, u21, u22, u23, u24, u25, u26, u27, u28, u29, u30, hk, rfl, hD⟩
      obtain ⟨l1, l2⟩ := hD.lo
      by_cases hlt : k < n
      · have hh : Has wr a n cap xs := h.below hD.below (Nat.le_refl _)
        gi_wp2_with (refine ⟨trivial, ?_⟩; gi_at_call 19; refine (callsIn_wide.2 (above_any _ _ _ _ _)).mono ?_; rintro e w' ⟨rfl, rfl⟩)
        have hbl : Below wr.heap.size wr ((wr.alloc (.cells #[.slice a n cap] 24)).alloc (.cells #[.int .i64 ((k : Int) + 1)] 3)) := ((Below.refl wr.heap.size wr).alloc (Nat.le_refl _) _).alloc (by simp) _
        obtain ⟨s1, s2, sz⟩ := two_cells wr (.slice a n cap) (.int .i64 ((k : Int) + 1)) 24 3
        generalize ((wr.alloc (.cells #[.slice a n cap] 24)).alloc (.cells #[.int .i64 ((k : Int) + 1)] 3)) = W1 at *
        have hbw := hD.below.size
        have hmW := hD.marks.below hbl (Nat.le_refl _)
        obtain ⟨dp1, dp2, dp3⟩ := HT.out.dep (v := (k : Int) + 1) (by omega) (by omega)
        have D1 := hid dp1
        have D2 := hid dp2
        clear dp1 dp2
        refine wpIn_above 8 (wr.heap.size + 1) wr.heap.size a n cap xs (k + 1) n rfl HB.out (by omega) h8
          (fun q W => Below w.heap.size w W ∧ (W.cell? ⟨wr.heap.size, 0, none⟩ = some (.slice a n cap) ∧ W.cell? ⟨wr.heap.size + 1, 0, none⟩ = some (.int .i64 ((k : Int) + 1)) ∧ (∃ zs, ArrAt W T zs ∧ BelAt xs zs 9 k q) ∧ (∀ D ∈ Ds, W.heap[D]? = some (.deferred (some []))) ∧ W1.heap.size ≤ W.heap.size ∧ q ≤ dep xs ((k : Int) + 1)))
          (fun _ _ => False)
          (fun q W hi => ⟨by have := hi.2.2.2.2.2.2; omega, ⟨hi.2.2.1, hi.2.1, h.below hi.1 (Nat.le_refl _)⟩⟩) ?_ (fun _ _ _ _ hs _ _ => hs) ⟨hD.below.trans (hbl.mono hbw), s1, s2, ⟨ys, hD.arr.below hbl l2, hD.found⟩, hmW.isOpen, Nat.le_refl _, Nat.zero_le _⟩ (fun x => { tmps := #[.slice a n cap, u1, u2, u3, .pointer (some ⟨T, 0, none⟩), .int .i64 (k : Int), .int .i64 x, u7, u8, u9, u10, .int .i64 (n : Int), .int .i64 (k : Int), .bool true, .int .i64 (k : Int), .slice a n cap, .int .i64 (k : Int), .int .i64 ((k : Int) + 1), UpFn (wr.heap.size + 1) wr.heap.size, .int .i64 x, u20, u21, u22, u23, u24, u25, u26, u27, u28, u29, u30], defers := [] }) ?_ ?_ ?_ ?_
        · refine OwnFrom.and (ownFrom_below (Nat.le_refl _) (by omega)) (fun s A B' row hs hg hr => ?_)
          obtain ⟨e1, e2, ⟨zs, e3, e4⟩, e6, e7, e8⟩ := hs
          have hr2 : ∀ r, row = some r → ∃ o : Obj, A.heap[r]? = some o ∧ o.isCells = false := fun r e => (hr r e).2
          refine ⟨cell_kept e1 hg hr2, cell_kept e2 hg hr2, ⟨zs, e3.turn hg hr2, e4⟩, fun D hD' => ?_, Nat.le_trans e7 hg.size, e8⟩
          have hlt' := hD.marks.lt hD'
          rw [hg.block D ((Array.getElem?_eq_some_iff.1 (e6 D hD')).1) (fun e => by have := (hr D e.symm).1; omega)]
          exact e6 D hD'
        · intro l x W K hK
          gi_wp2
          exact hK
        · rintro l q W ⟨hB, d1, d2, ⟨zs, d3, d4⟩, d6, d7, d8⟩ hne
          have hqd : q < dep xs ((k : Int) + 1) := Classical.byContradiction fun hq => hne (by
            have := up_zero D1.out q (by omega)
            exact_mod_cast this)
          have eq1 : ((k + 1 : Nat) : Int) = (k : Int) + 1 := by omega
          rw [eq1]
          obtain ⟨u, hu, hun⟩ := up_nat (v := k + 1) HB.out (by omega) (q + 1)
          rw [eq1] at hu
          rw [hu]
          obtain ⟨z1, z2⟩ := d3 u (by omega)
          have hsm := d4.small u (by omega)
          have hps := belAt_pos d4 (v := u) (by omega)
          have hq64 : nth zs u ≤ 1000 := by omega
          have hu9 : u < 9 := by omega
          have HS := hid (belAt_step d4 (u := u) (by omega) hu)
          have HA := hid (d3.set (u := u) (by omega) d4.len.2 (nth zs u + 1))
          clear hsm hu eq1
          gi_wp2
          refine ⟨(KeepsOthers.setCell _ _ _).from _, hB.setCell (p := ⟨T, u, none⟩) (by simp; omega) _, ?_, ?_, ⟨_, HA.out, HS.out⟩, fun D hD' => (KeepsOthers.setCell _ _ _).same D _ (d6 D hD') rfl, by simpa using d7, by omega⟩
          · rw [cell_other (by omega)]; exact d1
          · rw [cell_other (by omega)]; exact d2
        · rintro D q W hDl hz hne ⟨hB, d1, d2, ⟨zs, d3, d4⟩, d6, d7, d8⟩ hK
          have eq1 : ((k + 1 : Nat) : Int) = (k : Int) + 1 := by omega
          have hdq : dep xs ((k : Int) + 1) = q := by
            rw [eq1] at hz hne
            exact dep_is hz hne (by rw [HL.out]; omega)
          have hm := (Marks.mk hD.marks.nodup hD.marks.ge d6).cons (L := W1.heap.size) (D := D) (fun E hE => by have := hD.marks.lt hE; omega) hDl (by omega) hK
          have HS := belAt_next d4 (by omega) hdq
          gi_wp2
          refine ⟨⟨k + 1, D :: Ds, _, _, _, _, _, _, _, _, _, _, _, _, _, _, _, _, _, _, _, _, _, _, _, _, _, _, _, _, by omega, by rw [eq1]; rfl, ⟨hB, ⟨l1, by omega⟩, d3, hm, HS⟩⟩, ?_⟩
          simp [intOf]; omega
        · rintro D q W hDl hF hK
          exact hF.elim
      · obtain rfl : k = n := by omega
        have HF : Hid (ys.take (k + 1) = belL xs) := hid (by have := belAt_all (xs := xs) (ys := ys) (m := 9) (by rw [HL.out]; exact hD.found); rw [HL.out] at this; exact this)
        have hh := hD.arr.has l2 hD.found.len.2 (n := k + 1) (by omega)
        have hal : Try.prog.arrayLen 49 = 9 := by kernel_rfl
        have hel : Try.prog.elem 49 = 3 := by kernel_rfl
        have hsl : (Instr.sliceAt 49 (.pointer (some ⟨T, 0, none⟩)) none (some (.int .i64 ((k : Int) + 1))) none).run Try.prog wr = .ok (.slice (some ⟨T, 0, none⟩) (k + 1) 9) wr := by
          obtain ⟨i0, hi, hz0, hz1, hz2⟩ := info_parts Try.infoInt
          have h1 := run_sliceAt_array_h (P := Try.prog) wr 49 ⟨T, 0, none⟩ (by kernel_rfl) .i64 ((k : Int) + 1) (by omega) (by rw [hal]; omega)
          rw [h1, hal, hel]
          have e : ((k : Int) + 1).toNat = k + 1 := by omega
          simp [sizeOf, typeInfo, hi, hz1, slicedAt, e, Result.andThen, Addr.add]
        clear hal hel
        gi_wp2_with (refine ⟨trivial, ?_⟩; gi_at_call 25; refine (callsIn_wide.2 (cloneT_any _ _ _ _ _ hh)).mono ?_; rintro e w2 ⟨a2, cap2, rfl, hown2, hb2⟩)
        obtain ⟨g, rfl, hg1, hg2, hg3, hg4⟩ := hown2.opened (by omega)
        have hbw := hD.below.size
        refine leaves_marks Ds _ (hD.marks.below hb2 (Nat.le_refl _)) (Nat.le_trans hbw hb2.size) fun w' hc hbk hb => ⟨.tuple #[.slice (some ⟨g, 0, none⟩) (k + 1) cap2, .bool true], ?_, postInts HR.out (by rw [← HF.out]; exact (own_blocks hown2 hbk).mono hbw) ((hD.below.trans (hb2.mono hbw)).trans hb)⟩
        simp [results, Try.results11, go_sem]
  · have HR : Hid (belOf xs = ([], false)) := hid (by simp [belOf, hg])
    have HG := hid (Bool.eq_false_iff.2 hg)
    clear hg
    gi_wp2_with (refine ⟨trivial, ?_⟩; gi_at_call 18; refine (callsIn_wide.2 (isTree_any _ _ _ _ _ h)).mono ?_; rintro e w1 ⟨rfl, hb1⟩; rw [HG.out])
    refine ⟨.tuple #[.slice none 0 0, .bool false], ?_, postInts_no HR.out hb1⟩
    simp [results, Try.results11, go_sem]
end Go.Proofs.Ytdemcjciijlbeaa
