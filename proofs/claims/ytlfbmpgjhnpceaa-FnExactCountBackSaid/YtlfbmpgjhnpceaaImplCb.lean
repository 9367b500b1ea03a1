/- The program's count of lists whose cars look back. -/
import Derived.Test.YtlfbmpgjhnpceaaTried
import Derived.Test.YtlfbmpgjhnpceaaImplLt
namespace Go.Proofs.Ytlfbmpgjhnpceaa
open Go.RowKit Go.Shelf

attribute [local go_sem] Oper.semAt_some

theorem isTried_any (n : Int) (w : World) : Calls Try.prog 66 #[.int .i64 n] w fun e w' => e = .returned (.bool (inB n 1 5)) ∧ w = w' := by
  by_cases h1 : 1 ≤ n
  · by_cases h2 : n ≤ 5
    · have HR : Hid (inB n 1 5 = true) := hid (inB_iff.2 ⟨h1, h2⟩)
      go_enter Try.func66, Try.ntmps66
      go_wp2_with fail
      go_ret
      exact ⟨ret_bool HR.out.symm, rfl⟩
    · have HR : Hid (inB n 1 5 = false) := hid (inB_not.2 (by omega))
      go_enter Try.func66, Try.ntmps66
      go_wp2_with fail
      go_ret
      exact ⟨ret_bool HR.out.symm, rfl⟩
  · have HR : Hid (inB n 1 5 = false) := hid (inB_not.2 (by omega))
    go_enter Try.func66, Try.ntmps66
    go_wp2_with fail
    go_ret
    exact ⟨ret_bool HR.out.symm, rfl⟩

theorem keeps_below {B K : Nat} {W W' : World} (hb : Below K W W') (hK : W.heap.size ≤ K) : KeepsFrom B W W' :=
  ⟨hb.size, fun k o _ hk _ => by rw [hb.block k (by have := (Array.getElem?_eq_some_iff.1 hk).1; omega)]; exact hk⟩
theorem kept_below {base K : Nat} {W W' : World} (hb : Below K W W') (hK : W.heap.size ≤ K) : Kept base W W' :=
  ⟨hb.size, fun b _ h2 => hb.block b (by omega)⟩
theorem kept_set {base : Nat} (W : World) (g i : Nat) (v : Value) (hg : g < base) : Kept base W (W.setCell ⟨g, i, none⟩ v) :=
  ⟨by simp, fun b h1 _ => heap_setCell_other W ⟨g, i, none⟩ b v (by simp; omega)⟩
theorem Kept.trans {base : Nat} {A B C : World} (h : Kept base A B) (h' : Kept base B C) : Kept base A C :=
  ⟨Nat.le_trans h.1 h'.1, fun b h1 h2 => by rw [h'.2 b h1 (by have := h.1; omega), h.2 b h1 h2]⟩

/-- The cells of a loop's own variables: n and m (blocks b, b + 1), what is counted (block bc), the iterator's n (block bn). -/
structure Vars (W : World) (b bc bn : Nat) (n m c : Int) : Prop where
  cn : W.cell? ⟨b, 0, none⟩ = some (.int .i64 n)
  cm : W.cell? ⟨b + 1, 0, none⟩ = some (.int .i64 m)
  cc : W.cell? ⟨bc, 0, none⟩ = some (.int .i64 c)
  fc : W.frozen? ⟨bc, 0, none⟩ = false
  it : W.cell? ⟨bn, 0, none⟩ = some (.int .i64 n)
theorem Vars.below {W W' : World} {b bc bn K : Nat} {n m c : Int} (h : Vars W b bc bn n m c) (hb : Below K W W') (h1 : b + 1 < K) (h2 : bc < K) (h3 : bn < K) : Vars W' b bc bn n m c :=
  ⟨by rw [hb.cell (p := ⟨b, 0, none⟩) (by simp; omega)]; exact h.cn, by rw [hb.cell (p := ⟨b + 1, 0, none⟩) (by simp; omega)]; exact h.cm,
   by rw [hb.cell (p := ⟨bc, 0, none⟩) (by simp; omega)]; exact h.cc, by rw [hb.frozen (p := ⟨bc, 0, none⟩) (by simp; omega)]; exact h.fc,
   by rw [hb.cell (p := ⟨bn, 0, none⟩) (by simp; omega)]; exact h.it⟩
theorem Vars.turn {A B : World} {b bc bn : Nat} {n m c : Int} {row : Option Nat} (h : Vars A b bc bn n m c) (hg : A.grownBy B row) (hr : ∀ r, row = some r → ∃ o : Obj, A.heap[r]? = some o ∧ o.isCells = false) : Vars B b bc bn n m c :=
  ⟨cell_kept h.cn hg hr, cell_kept h.cm hg hr, cell_kept h.cc hg hr, (frozen_kept h.cc hg hr).trans h.fc, cell_kept h.it hg hr⟩
theorem Vars.set {W : World} {b bc bn : Nat} {n m c : Int} (h : Vars W b bc bn n m c) (h1 : b + 1 < bc) (h2 : bc ≠ bn) (y : Int) : Vars (W.setCell ⟨bc, 0, none⟩ (.int .i64 y)) b bc bn n m y :=
  ⟨by rw [cell_other (by omega)]; exact h.cn, by rw [cell_other (by omega)]; exact h.cm, World.cell?_setCell_same _ _ _ h.cc, by rw [World.frozen?_setCell]; exact h.fc, by rw [cell_other (by omega)]; exact h.it⟩
theorem alloc_keep {w : World} {b : Nat} {v : Value} (h : w.cell? ⟨b, 0, none⟩ = some v) (hb : b < w.heap.size) (O : Obj) : (w.alloc O).cell? ⟨b, 0, none⟩ = some v := by
  rw [World.cell?_alloc_past _ _ _ (by simpa using hb)]; exact h
theorem boxes2 {w w1 : World} {x y : Value} {t u : TypeId} (hb : Below ((w.alloc (.cells #[x] t)).alloc (.cells #[y] u)).heap.size ((w.alloc (.cells #[x] t)).alloc (.cells #[y] u)) w1) :
    w1.cell? ⟨w.heap.size, 0, none⟩ = some x ∧ w1.cell? ⟨w.heap.size + 1, 0, none⟩ = some y ∧ w.heap.size + 2 ≤ w1.heap.size ∧ Below w.heap.size w w1 := by
  have hs : ((w.alloc (.cells #[x] t)).alloc (.cells #[y] u)).heap.size = w.heap.size + 2 := by simp
  refine ⟨?_, ?_, by have := hb.size; omega, ?_⟩
  · rw [hb.cell (p := ⟨w.heap.size, 0, none⟩) (by rw [hs]; simp), World.cell?_alloc_past _ _ _ (by simp), World.cell?_alloc_at _ _ _ _ rfl]; rfl
  · rw [hb.cell (p := ⟨w.heap.size + 1, 0, none⟩) (by rw [hs]; simp), World.cell?_alloc_at _ _ _ _ (by simp)]; rfl
  · exact (((Below.refl _ _).alloc (Nat.le_refl _) _).alloc (by simp) _).trans (hb.mono (by rw [hs]; omega))

set_option maxRecDepth 100000 in
set_option maxHeartbeats 4000000 in
theorem countBack_any (n k0 : Int) (w : World) : Calls Try.prog 42 #[.int .i64 n, .int .i64 k0] w (PostInt w (countBackOf n k0)) := by
  refine (callsIn_wide (n := 8)).1 ?_
  refine callsIn_of_wp_marks Try.func42 rfl trivial ?_ rfl
  simp only [Try.ntmps42, List.size_toArray, List.length_cons, List.length_nil, Nat.reduceAdd, Nat.reduceSub, Array.replicate_succ, Array.replicate_zero, List.push_toArray, List.append_toArray, List.nil_append, List.cons_append]
  by_cases hn : inB n 1 5 = true
  · by_cases hk : inB k0 0 8 = true
    · obtain ⟨p, rfl⟩ : ∃ p : Nat, n = (p : Int) := ⟨n.toNat, by have := inB_iff.1 hn; omega⟩
      obtain ⟨m, rfl⟩ : ∃ m : Nat, k0 = (m : Int) := ⟨k0.toNat, by have := inB_iff.1 hk; omega⟩
      have hp1 : 1 ≤ p ∧ p ≤ 5 := by have := inB_iff.1 hn; omega
      have hm8 : m ≤ 8 := by have := inB_iff.1 hk; omega
      obtain ⟨hp1, hp5⟩ := hp1
      have HN := hid hn
      have HK := hid hk
      have HR : Hid (countBackOf p m = ((cntTo (backOk p m) (allTried p) (p ^ p) : Int), true)) := hid (by simp [countBackOf, hn, hk])
      clear hn hk
      gi_wp2_with (first | (refine ⟨trivial, ?_⟩; gi_at_call 66; refine (callsIn_wide.2 (isTried_any _ _)).mono ?_; rintro e w' ⟨rfl, rfl⟩; rw [HN.out]) | (refine ⟨trivial, ?_⟩; gi_at_call 67; refine (callsIn_wide.2 (wayB_any _ _ _)).mono ?_; rintro e w1 ⟨rfl, hb1⟩; rw [HK.out]; obtain ⟨z0, z1, z2, z3⟩ := boxes2 hb1; clear hb1; have z4 := alloc_keep z0 (by omega); have z5 := alloc_keep z1 (by omega)) | (refine ⟨trivial, ?_⟩; gi_at_call 68; refine (callsIn_wide.2 (tried_any _ _)).mono ?_; rintro e w' ⟨rfl, rfl⟩))
      have hsz0 : ((w1.alloc (.cells #[.int .i64 0] 3)).alloc (.cells #[.int .i64 (p : Int)] 3)).heap.size = w1.heap.size + 2 := by simp
      have V0 : Vars ((w1.alloc (.cells #[.int .i64 0] 3)).alloc (.cells #[.int .i64 (p : Int)] 3)) w.heap.size w1.heap.size (w1.heap.size + 1) p m 0 := by
        refine ⟨alloc_keep (z4 _) (by simp; omega) _, alloc_keep (z5 _) (by simp; omega) _, ?_, ?_, ?_⟩
        · rw [World.cell?_alloc_past _ _ _ (by simp), World.cell?_alloc_at _ _ _ _ rfl]; rfl
        · rw [World.frozen?_alloc_past _ _ _ (by simp), World.frozen?_alloc_at _ _ _ _ rfl]
        · rw [World.cell?_alloc_at _ _ _ _ (by simp)]; rfl
      have hb0 : Below w.heap.size w ((w1.alloc (.cells #[.int .i64 0] 3)).alloc (.cells #[.int .i64 (p : Int)] 3)) := (z3.alloc (by omega) _).alloc (by simp; omega) _
      generalize ((w1.alloc (.cells #[.int .i64 0] 3)).alloc (.cells #[.int .i64 (p : Int)] 3)) = W0 at *
      clear z0 z1 z3 z4 z5
      have HG := hid (fun k (hk : k < p ^ p) => tried_good hp1 hp5 hk)
      have HLL := hid (length_allTried hp1)
      refine wpIn_tried 8 (w1.heap.size + 1) p (p ^ p) rfl hp1 hp5 (by omega) rfl
        (fun k W => Vars W w.heap.size w1.heap.size (w1.heap.size + 1) p m (cntTo (backOk p m) (allTried p) k : Nat) ∧ Below w.heap.size w W)
        (fun k V h => h.1.it) (fun k V V' h hb => ⟨h.1.below hb (by omega) (by omega) (by omega), h.2.trans (hb.mono (by omega))⟩) ?_ ⟨V0, hb0⟩
        (fun x => { tmps := #[.int .i64 (p : Int), .int .i64 (m : Int), .pointer (some ⟨w.heap.size, 0, none⟩), .pointer (some ⟨w.heap.size + 1, 0, none⟩), .int .i64 0, .bool false, .pointer (some ⟨w1.heap.size, 0, none⟩), x, undef, undef, .int .i64 (p : Int), .bool true, .bool false, .bool false, .int .i64 (m : Int), .agg #[.int .i64 (m : Int)], .iface 49 (.agg #[.int .i64 (m : Int)]), .int .i64 (p : Int), .bool true, .bool false, .bool false, .int .i64 (p : Int), TrFn (w1.heap.size + 1), x, undef, undef, undef, undef, undef, undef, undef, undef, undef, undef, undef], defers := [] }) ?_ ?_ ?_
      · refine OwnFrom.and (fun s A B' row hs hg hr => hs.turn hg (fun r e => (hr r e).2)) (ownFrom_below (Nat.le_refl _) (by omega))
      · intro l x W K hK
        gi_wp2
        exact hK
      · rintro l k gl W ⟨V, hB⟩ hsz hlt hown
        obtain ⟨gl1, gl2⟩ := HG.out k hlt
        have HS := hid (cntTo_succ (f := backOk p m) (L := allTried p) (k := k) (by rw [HLL.out]; exact hlt))
        have hcl := cntTo_le (backOk p m) (allTried p) k
        have hN : p ^ p ≤ 3125 := Nat.le_trans (Nat.pow_le_pow_left hp5 p) (Nat.pow_le_pow_right (by omega) hp5)
        generalize (allTried p).getD k [] = xs at *
        generalize cntTo (backOk p m) (allTried p) k = c at *
        have hB2 : backB xs p m = true := by simp [backB, gl2, HK.out]
        have cn := V.cn
        have cm := V.cm
        by_cases hm : hasB (backs p m xs) (-1) = true
        · have HD : Hid (driveBackOf xs p m = ([], false)) := hid (by simp [driveBackOf, hm])
          have HC : Hid (cntTo (backOk p m) (allTried p) (k + 1) = c) := hid (by rw [HS.out]; simp [backOk, hm])
          clear hm hB2 gl1 gl2
          gi_wp2_with (refine ⟨trivial, ?_⟩; gi_at_call 22; refine (CallsIn.inRound l (callsIn_wide.2 (driveBack_any _ _ _ _ p m _ hown.has))).mono ?_; rw [HD.out]; rintro e w3 ⟨a3, n3, c3, rfl, hown3, hb3⟩)
          exact ⟨keeps_below hb3 (Nat.le_refl _), ⟨by rw [HC.out]; exact V.below hb3 (by omega) (by omega) (by omega), hB.trans (hb3.mono hB.size)⟩, kept_below hb3 (Nat.le_refl _)⟩
        · have hm' : hasB (backs p m xs) (-1) = false := by simpa using hm
          have HD : Hid (driveBackOf xs p m = (backs p m xs, true)) := hid (by simp [driveBackOf, hB2, hm'])
          have HC : Hid (cntTo (backOk p m) (allTried p) (k + 1) = c + 1) := hid (by rw [HS.out]; simp [backOk, hm'])
          clear hm hm' hB2 gl1 gl2
          gi_wp2_with (refine ⟨trivial, ?_⟩; gi_at_call 22; refine (CallsIn.inRound l (callsIn_wide.2 (driveBack_any _ _ _ _ p m _ hown.has))).mono ?_; rw [HD.out]; rintro e w3 ⟨a3, n3, c3, rfl, hown3, hb3⟩; have V3 := V.below hb3 (by omega) (by omega) (by omega); have cc := V3.cc; have fc := V3.fc)
          have hs3 := hb3.size
          refine ⟨(keeps_below hb3 (Nat.le_refl _)).trans ((KeepsOthers.setCell _ _ _).from _), ⟨?_, (hB.trans (hb3.mono hB.size)).setCell (by simp; omega) _⟩, (kept_below hb3 (Nat.le_refl _)).trans (kept_set _ _ _ _ (by omega))⟩
          rw [HC.out]
          exact V3.set (by omega) (by omega) _
      · rintro D W hDl ⟨V, hB⟩ hK
        have cc := V.cc
        gi_wp2
        refine ⟨by simp, .inl ⟨D, W.putObj D (.deferred none), rfl, run_takeDeferred hK, ?_⟩⟩
        have hb9 : Below w.heap.size W (W.putObj D (.deferred none)) := (Below.refl _ _).grown (grownBy_putObj' W D _) hB.size (fun k e => by cases e; omega)
        refine ⟨.tuple #[.int .i64 (cntTo (backOk p m) (allTried p) (p ^ p) : Nat), .bool true], ?_, postInt HR.out (hB.trans hb9)⟩
        simp [results, Try.results42, go_sem]
    · have HN := hid hn
      have HK := hid (Bool.eq_false_iff.2 hk)
      have HR : Hid (countBackOf n k0 = (0, false)) := hid (by simp [countBackOf, hk])
      clear hn hk
      gi_wp2_with (first | (refine ⟨trivial, ?_⟩; gi_at_call 66; refine (callsIn_wide.2 (isTried_any _ _)).mono ?_; rintro e w' ⟨rfl, rfl⟩; rw [HN.out]) | (refine ⟨trivial, ?_⟩; gi_at_call 67; refine (callsIn_wide.2 (wayB_any _ _ _)).mono ?_; rintro e w1 ⟨rfl, hb1⟩; rw [HK.out]; obtain ⟨z0, z1, z2, z3⟩ := boxes2 hb1; clear hb1))
      refine ⟨.tuple #[.int .i64 0, .bool false], ?_, postInt HR.out z3⟩
      simp [results, Try.results42, go_sem]
  · have HN := hid (Bool.eq_false_iff.2 hn)
    have HR : Hid (countBackOf n k0 = (0, false)) := hid (by simp [countBackOf, hn])
    clear hn
    gi_wp2_with (first | (refine ⟨trivial, ?_⟩; gi_at_call 66; refine (callsIn_wide.2 (isTried_any _ _)).mono ?_; rintro e w' ⟨rfl, rfl⟩; rw [HN.out]))
    refine ⟨trivial, ?_⟩
    gi_wp2
    refine ⟨.tuple #[.int .i64 0, .bool false], ?_, postInt HR.out (((Below.refl _ _).alloc (Nat.le_refl _) _).alloc (by simp) _)⟩
    simp [results, Try.results42, go_sem]
end Go.Proofs.Ytlfbmpgjhnpceaa
