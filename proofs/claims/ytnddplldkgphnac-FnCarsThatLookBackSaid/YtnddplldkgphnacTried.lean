/- The program's iterator over all lists of favourites. -/
import Derived.RangeFuncNested
import Derived.RangeFuncBound
import Derived.RangeFuncCalls
import Derived.RangeFuncLeaves
import Derived.Shelf.Abstract
import Derived.WalkKit
import Derived.OwnWalkIn
import Derived.TacticsInMore
import Derived.LoopNIn
import Derived.LoopIn
import Derived.Test.YtnddplldkgphnacRep
import Derived.Test.YtnddplldkgphnacStepA
import Derived.Test.YtnddplldkgphnacMathAt
import Derived.Test.YtnddplldkgphnacImplN
import Derived.Deep.RegionHeld3
import Derived.Deep.DeepCutAuto
namespace Go.Proofs.Ytnddplldkgphnac
open Go.RowKit Go.Shelf

attribute [local go_sem] Oper.semAt_some

def zcells (n : Nat) : Array Value := madeCells #[.int .i64 0] n
theorem run_mk (n : Nat) (hn : n ≤ 2097152) (w : World) : (Instr.makeSlice 22 (.int .i64 (n : Int)) (.int .i64 (n : Int))).run Try.prog w = .ok (.slice (some ⟨w.heap.size, 0, none⟩) n n) (w.alloc (.cells (zcells n) 3)) := by
  obtain ⟨i0, hi, hz0, hz1, hz2⟩ := info_parts Try.infoInt
  have h := run_makeSlice (P := Try.prog) w 22 3 i0 (.int .i64 0) Try.underlying22 hi hz0 .i64 .i64 n n (by omega) (Int.le_refl _) (by simp [hz1]; omega) (by rw [hz2]; omega) (by omega)
  simp only [Int.toNat_natCast, hz1, Nat.mul_one] at h
  exact h
/-- What such a make lays. -/
theorem own_mk {W : World} {B n b : Nat} (hn : n ≤ 2097152) (hb : b = W.heap.size) (hB : B ≤ W.heap.size) : Own (W.alloc (.cells (zcells n) 3)) B (some ⟨b, 0, none⟩) n n (List.replicate n 0) := by
  subst hb
  have hz : (zcells n).toList = (List.replicate n (0 : Int)).map (Value.int .i64) := by
    unfold zcells
    rw [toList_madeCells_one]
    simp
  refine ⟨⟨by simp, .inr ⟨W.heap.size, n, zcells n, rfl, hB, heap_alloc_new W _, Nat.le_refl _, by unfold maxLen; omega, by simp [zcells, size_madeCells], ?_⟩⟩, by simp, hn⟩
  rw [hz]
  simp
theorem Own.al {W : World} {B : Nat} {a : Option Addr} {n cap : Nat} {xs : List Int} (h : Own W B a n cap xs) (O : Obj) : Own (W.alloc O) B a n cap xs := h.below ((Below.refl W.heap.size W).alloc (Nat.le_refl _) O) (Nat.le_refl _)
theorem Own.ct {W W' : World} {B : Nat} {a : Option Addr} {n cap : Nat} {xs : List Int} (hb : Below W.heap.size W W') (h : Own W B a n cap xs) : Own W' B a n cap xs := h.below hb (Nat.le_refl _)
theorem Own.dr {W : World} {B : Nat} {a : Option Addr} {n cap : Nat} {xs : List Int} (h : Own W B a n cap xs) : Own W.drew B a n cap xs := h
theorem below_al {B : Nat} {W V : World} {O : Obj} (hB : B ≤ V.heap.size) (h : Below B W V) : Below B W (V.alloc O) := h.alloc hB O
theorem below_dr {B : Nat} {W V : World} (h : Below B W V) : Below B W V.drew := h.drew
theorem below_ct {B K : Nat} {W V V' : World} (hb : Below K V V') (hK : B ≤ K) (h : Below B W V) : Below B W V' := h.trans (hb.mono hK)
theorem has_cell {W : World} {b : Nat} {x : Int} (hb : b < W.heap.size) (hc : W.cell? ⟨b, 0, none⟩ = some (.int .i64 x)) : Has W (some ⟨b, 0, none⟩) 1 1 [x] := by
  refine ⟨rfl, Nat.le_refl _, by unfold maxLen; omega, by omega, fun _ => ⟨b, 0, rfl, hb, fun i hi => ?_⟩⟩
  obtain rfl : i = 0 := by omega
  exact hc
theorem cell_past {w : World} {bn : Nat} {v : Value} (hb : bn < w.heap.size) (hc : w.cell? ⟨bn, 0, none⟩ = some v) :
    (∀ O, (w.alloc O).cell? ⟨bn, 0, none⟩ = some v) ∧ (∀ O1 O2, ((w.alloc O1).alloc O2).cell? ⟨bn, 0, none⟩ = some v) ∧ (∀ O1 O2 O3, (((w.alloc O1).alloc O2).alloc O3).cell? ⟨bn, 0, none⟩ = some v) := by
  have k1 : ∀ (w : World), bn < w.heap.size → w.cell? ⟨bn, 0, none⟩ = some v → ∀ O, (w.alloc O).cell? ⟨bn, 0, none⟩ = some v := fun w hb hc O => by rw [World.cell?_alloc_past _ _ _ (by simpa using hb)]; exact hc
  exact ⟨k1 w hb hc, fun O1 O2 => k1 _ (by simp; omega) (k1 w hb hc O1) O2, fun O1 O2 O3 => k1 _ (by simp; omega) (k1 _ (by simp; omega) (k1 w hb hc O1) O2) O3⟩
theorem lit0 (W : World) (b : Nat) (x : Int) (t : TypeId) (h : b = W.heap.size) : ((W.alloc (.cells #[.int .i64 x] t)).drew).cell? ⟨b, 0, none⟩ = some (.int .i64 x) := by
  show (W.alloc (.cells #[.int .i64 x] t)).cell? ⟨b, 0, none⟩ = _
  rw [World.cell?_alloc_at _ _ _ _ (by simpa using h)]; rfl
theorem lit1 (W : World) (O : Obj) (b : Nat) (x : Int) (t : TypeId) (h : b = W.heap.size) : (((W.alloc (.cells #[.int .i64 x] t)).alloc O).drew).cell? ⟨b, 0, none⟩ = some (.int .i64 x) := by
  show ((W.alloc (.cells #[.int .i64 x] t)).alloc O).cell? ⟨b, 0, none⟩ = _
  rw [World.cell?_alloc_past _ _ _ (by simp; omega)]
  exact lit0 W b x t h
theorem lit2 (W : World) (O O' : Obj) (b : Nat) (x : Int) (t : TypeId) (h : b = W.heap.size) : ((((W.alloc (.cells #[.int .i64 x] t)).alloc O).alloc O').drew).cell? ⟨b, 0, none⟩ = some (.int .i64 x) := by
  show (((W.alloc (.cells #[.int .i64 x] t)).alloc O).alloc O').cell? ⟨b, 0, none⟩ = _
  rw [World.cell?_alloc_past _ _ _ (by simp; omega)]
  exact lit1 W O b x t h

/-- What lies at or beyond a block, and lay there, lies as it lay. -/
def Kept (base : Nat) (W W' : World) : Prop := W.heap.size ≤ W'.heap.size ∧ ∀ b, base ≤ b → b < W.heap.size → W'.heap[b]? = W.heap[b]?
theorem Own.keptFrom {W W' : World} {B : Nat} {a : Option Addr} {n cap : Nat} {xs : List Int} (h : Own W B a n cap xs) (hk : Kept B W W') : Own W' B a n cap xs := by
  obtain ⟨⟨h1, h2⟩, h3⟩ := h
  refine ⟨⟨h1, ?_⟩, h3⟩
  rcases h2 with h2 | ⟨g, cap', cur, hv, hg, hh, r⟩
  · exact .inl h2
  · exact .inr ⟨g, cap', cur, hv, hg, by rw [hk.2 g hg (Array.getElem?_eq_some_iff.1 hh).1]; exact hh, r⟩

/-- The three lists of the iterator: the present one, the least and the greatest. -/
structure Tri (W : World) (base n g1 : Nat) (a2 a3 : Option Addr) (c2 c3 : Nat) (zs : List Int) : Prop where
  l : Own W base (some ⟨g1, 0, none⟩) n n zs
  lo : Own W base a2 n c2 (List.replicate n 0)
  hi : Own W base a3 n c3 (List.replicate n ((n : Int) - 1))
  ne2 : ∀ g, (some ⟨g1, 0, none⟩ : Option Addr) = some ⟨g, 0, none⟩ → ∀ q, a2 = some q → q.block ≠ g
  ne3 : ∀ g, (some ⟨g1, 0, none⟩ : Option Addr) = some ⟨g, 0, none⟩ → ∀ q, a3 = some q → q.block ≠ g

theorem Own.marked_ne {w w' : World} {B : Nat} {a : Option Addr} {g1 n cap : Nat} {xs : List Int} (h : Own w B a n cap xs) (hm : Marked w w' (some ⟨g1, 0, none⟩)) (hne : ∀ q, a = some q → q.block ≠ g1) : Own w' B a n cap xs := by
  obtain ⟨row, hgr, hr⟩ := hm
  cases row with
  | none => exact ⟨h.1.kept hgr ((Classical.em _).elim .inl fun h => .inr h), h.2⟩
  | some g =>
    obtain ⟨p, hp, rfl⟩ := hr g rfl
    cases hp
    exact h.kept hgr (.inr hne)
theorem Tri.keptFrom {W W' : World} {base n g1 : Nat} {a2 a3 : Option Addr} {c2 c3 : Nat} {zs : List Int} (h : Tri W base n g1 a2 a3 c2 c3 zs) (hk : Kept base W W') : Tri W' base n g1 a2 a3 c2 c3 zs :=
  ⟨h.l.keptFrom hk, h.lo.keptFrom hk, h.hi.keptFrom hk, h.ne2, h.ne3⟩

/-- Behind the statement that makes the three lists. -/
def RegPost (W : World) (base n : Nat) (y : Value) (bn : Nat) (e : Exit) (a : Act) (w' : World) : Prop :=
  e = .normal ∧ ∃ (g1 g2 g0 : Nat) (a3 : Option Addr) (c3 : Nat), a = { tmps := #[y, .pointer (some ⟨bn, 0, none⟩), undef, .slice (some ⟨g1, 0, none⟩) n n, .slice (some ⟨g2, 0, none⟩) n n, .slice a3 n c3, .int .i64 (n : Int), .slice (some ⟨g1, 0, none⟩) n n, .int .i64 (n : Int), .slice (some ⟨g2, 0, none⟩) n n, .int .i64 (n : Int), .int .i64 ((n : Int) - 1), .slice (some ⟨g0, 0, none⟩) 1 1, .int .i64 (n : Int), .slice a3 n c3, undef, undef, undef, undef, undef, undef, undef, undef, undef, undef, undef, undef, undef, undef], defers := [] } ∧
    Tri w' base n g1 (some ⟨g2, 0, none⟩) a3 n c3 (List.replicate n 0) ∧ Below base W w'

set_option maxRecDepth 100000 in
set_option maxHeartbeats 8000000 in
theorem tried1_in (m l bn n N : Nat) (hN : n ^ n = N) (hn1 : 1 ≤ n) (hn5 : n ≤ 5) (J : Nat → World → Prop) (W : World) (base : Nat) (hbase : base = W.heap.size) (hbn : bn < base)
    (hJc : ∀ k V, J k V → V.cell? ⟨bn, 0, none⟩ = some (.int .i64 (n : Int)) ∧ base ≤ V.heap.size)
    (hJb : ∀ k V V', J k V → Below base V V' → J k V')
    (hY : ∀ k V g, J k V → k < N → Own V base (some ⟨g, 0, none⟩) n n ((allTried n).getD k []) → YieldAt Fence.wide (m - 1) Try.prog l #[.slice (some ⟨g, 0, none⟩) n n] V fun e V' => e = .returned (.bool true) ∧ J (k + 1) V' ∧ Kept base V V')
    (h0 : J 0 W) :
    CallsIn Fence.wide m Try.prog 101 #[.func (.yield l) #[] #[], .pointer (some ⟨bn, 0, none⟩)] W fun e W' => (∃ r, e = .returned r) ∧ J N W' := by
  subst hbase
  obtain ⟨hc, -⟩ := hJc 0 W h0
  have hb : bn < W.heap.size := hbn
  have hmk := run_mk n (by omega)
  have hwr : IntKind.i64.wrap ((n : Int) - 1) = (n : Int) - 1 := IntWalk.i64_in _ (by omega)
  obtain ⟨k1, k2, k3⟩ := cell_past hb hc
  refine callsIn_of_wp Try.func101 rfl trivial ?_ rfl
  simp only [Try.ntmps101, List.size_toArray, List.length_cons, List.length_nil, Nat.reduceAdd, Nat.reduceSub, Array.replicate_succ, Array.replicate_zero, List.push_toArray, List.append_toArray, List.nil_append, List.cons_append]
  gi_wp2
  refine wpIn_wide.2 (Code.wp_mono (Q := RegPost W W.heap.size n (.func (.yield l) #[] #[]) bn) ?_ ?_)
  · rintro e a w1 ⟨rfl, g1, g2, g0, a3, c3, rfl, T, hb1⟩
    have hN5 : N ≤ 3125 := by
      rw [← hN]
      exact Nat.le_trans (Nat.pow_le_pow_left hn5 n) (Nat.pow_le_pow_right (by omega) hn5)
    have HNN := hid hN
    have HLS := hid (SeqTo.at [] (tried_seq hn1))
    have HLL : Hid ((allTried n).length = N) := hid (by rw [length_allTried hn1, hN])
    have hJ0 := hJb 0 W w1 h0 hb1
    have HY := hid hY
    have HJC := hid hJc
    have HJB := hid hJb
    obtain ⟨hc1, -⟩ := hJc 0 w1 hJ0
    clear hY hN k1 k2 k3 hmk hJc hJb hc h0
    have hwd : Fence.wide.depth.isSome = true → 1 ≤ m := fun h => by cases h
    gi_wp2_with (refine ⟨trivial, hwd, ?_⟩; gi_at_call 103; refine (callsIn_wide.2 (power_at n n N _ _ _ rfl rfl (by omega) (by omega) HNN)).mono ?_; rintro e w' ⟨rfl, rfl⟩)
    gi_loopw [18] (fun i wr => ∃ (k : Nat) (zs : List Int), k ≤ N ∧ i = .int .i64 k ∧ J k wr ∧ Tri wr W.heap.size n g1 (some ⟨g2, 0, none⟩) a3 n c3 zs ∧ Hid (k < N → zs = (allTried n).getD k []) ∧ Hid (∀ x ∈ zs, 0 ≤ x)) (fun i _ => N - (intOf i).toNat)
    case atStart => exact ⟨0, _, Nat.zero_le _, rfl, hJ0, T, hid (fun _ => HLS.out.1.symm), hid (fun x hx => by have := List.eq_of_mem_replicate hx; omega)⟩
    case round =>
      clear T hJ0 hc1
      obtain ⟨k, zs, hk, rfl, hJ, T, HZ, HZN⟩ := hrel
      by_cases hlt : k < N
      · obtain ⟨fn, tmps, assign, body, hy, hR⟩ := HY.out k wr g1 hJ hlt (by rw [← HZ.out hlt]; exact T.l)
        have HR := hid hR
        clear hR
        gi_wp2
        refine ⟨hwd, HR.out.mono ?_⟩
        rintro e W3 ⟨rfl, hJ3, hK3⟩
        have T3 := T.keptFrom hK3
        have STEP := stepApart_any W.heap.size _ _ _ n n n c3 zs _ _ W3 T3.l T3.lo.has T3.hi.has T3.ne2 T3.ne3 (fun i hi => by rw [nth_rep hi]; omega) (fun i hi => HZN.out _ (nth_mem (by rw [T3.l.len]; exact hi)))
        have HS := hid STEP
        obtain ⟨-, hb3⟩ := HJC.out (k + 1) W3 hJ3
        clear STEP
        gi_wp2_with (refine ⟨trivial, hwd, ?_⟩; gi_at_call 104; refine (callsIn_wide.2 HS.out).mono ?_; rintro e W4 ⟨rfl, hl4, hm4⟩)
        go_roundw
        case rel =>
          refine ⟨k + 1, _, by omega, by go_num, HJB.out (k + 1) W3 W4 hJ3 (hm4.below T3.l.ge hb3), ⟨hl4, T3.lo.marked_ne hm4 (T3.ne2 _ rfl), T3.hi.marked_ne hm4 (T3.ne3 _ rfl), T3.ne2, T3.ne3⟩, hid (fun hlt2 => ?_), hid (stepC_nonneg _ _ _ HZN.out (fun x hx => by have := List.eq_of_mem_replicate hx; omega))⟩
          rw [HZ.out hlt]
          exact HLS.out.2 k (by rw [HLL.out]; exact hlt2)
        case measure => simp [intOf]; omega
      · obtain rfl : k = N := by omega
        gi_wp2
        go_end0
        exact ⟨⟨_, rfl⟩, hJ⟩
  · go_region_held3 (fun w' => w'.cell? ⟨bn, 0, none⟩ = some (.int .i64 (n : Int))) (first | go_keep | skip) (first | (go_at_call 102; refine (repeat_any _ 1 n ((n : Int) - 1) _ (has_cell (by simp; try omega) (by first | exact lit0 _ _ _ _ (by simp) | exact lit1 _ _ _ _ _ (by simp) | exact lit2 _ _ _ _ _ _ (by simp))) hn5).mono ?_; rintro e w' ⟨a', cap', rfl, hown, hbw⟩; have hkk : w'.cell? ⟨bn, 0, none⟩ = some (.int .i64 (n : Int)) := (by rw [hbw.cell (p := ⟨bn, 0, none⟩) (by simp; omega)]; simp [*]); obtain ⟨j1, j2, -⟩ := cell_past (show bn < w'.heap.size by have := hbw.size; simp at this; omega) hkk))
    all_goals
      have hsz := hbw.size
      simp at hsz
      refine ⟨rfl, _, _, _, _, _, rfl, ⟨?_, ?_, ?_, ?_, ?_⟩, ?_⟩
      · repeat (first | ((with_reducible refine own_mk ?_ ?_ ?_) <;> first | omega | (simp; done) | (simp; omega)) | with_reducible refine Own.dr ?_ | with_reducible refine Own.al ?_ _ | with_reducible refine Own.ct hbw ?_)
      · repeat (first | ((with_reducible refine own_mk ?_ ?_ ?_) <;> first | omega | (simp; done) | (simp; omega)) | with_reducible refine Own.dr ?_ | with_reducible refine Own.al ?_ _ | with_reducible refine Own.ct hbw ?_)
      · repeat (first | ((with_reducible refine hown.mono ?_); focus (first | (simp; done) | (simp; omega))) | with_reducible refine Own.al ?_ _)
      · intro g e q hq; cases e; cases hq; simp; try omega
      · intro g e q hq; cases e
        have hg3 := hown.ge q hq
        have hl3 := hown.lt q hq
        simp at hg3
        omega
      · repeat (first | with_reducible exact Below.refl _ _ | ((with_reducible refine below_al ?_ ?_); (focus first | omega | (simp; omega) | simp)) | with_reducible refine below_dr ?_ | ((with_reducible refine below_ct hbw ?_ ?_); (focus first | omega | (simp; omega) | simp)))
/-! END OF tried1_in -/

/-- The iterator that triedLists hands back: the block of n. -/
def TrFn (bn : Nat) : Value := .func (.func 101) #[] #[.pointer (some ⟨bn, 0, none⟩)]
theorem tried_any (v : Int) (w : World) :
    Calls Try.prog 75 #[.int .i64 v] w fun e w' => e = .returned (TrFn w.heap.size) ∧ w' = w.alloc (.cells #[.int .i64 v] 3) := by
  have hmf : ∀ (fn : Fn) (first cap : Array Value) (w : World), (Instr.makeFunc fn first cap).run Try.prog w = .ok (.func fn first cap) w := fun _ _ _ _ => rfl
  go_enter Try.func75, Try.ntmps75
  go_wp2_with fail
  go_ret
  exact ⟨rfl, rfl⟩

/-- How a round of such a loop ends: it goes on. -/
def trPost (B base : Nat) (I : Nat → World → Prop) (k : Nat) (W : World) : Exit → Act → World → Prop
  | .normal, _, W' => KeepsFrom B W W' ∧ I (k + 1) W' ∧ Kept base W W'
  | _, _, _ => False

set_option maxHeartbeats 1000000 in
/-- 'for list := range triedLists(n)'. -/
theorem wpIn_tried (m : Nat) {g : Operand} {tp : Tmp} {assign body : Code} {Q : Exit → Act → World → Prop} {a : Act} {w : World} (bn n N : Nat) (hN : n ^ n = N) (hn1 : 1 ≤ n) (hn5 : n ≤ 5) (hbn : bn < w.heap.size)
    (hg : a.eval g = TrFn bn) (I : Nat → World → Prop) (hIc : ∀ k V, I k V → V.cell? ⟨bn, 0, none⟩ = some (.int .i64 (n : Int)))
    (hIb : ∀ k V V', I k V → Below (w.heap.size + 2) V V' → I k V') (hI : OwnFrom w.heap.size I) (h0 : I 0 w) (a₁ : Value → Act)
    (hassign : ∀ (l : Nat) (x : Value) (W : World) (K : Act → World → Prop), K (a₁ x) W →
      assign.wpIn (Fence.wide.inRound l) (m - 1 - 1) Try.prog (Exit.then K (fun _ _ _ => False)) { tmps := a.tmps.setIfInBounds tp x, defers := [] } W)
    (hbody : ∀ (l k gl : Nat) (W : World), I k W → w.heap.size + 2 ≤ W.heap.size → k < N → Own W (w.heap.size + 2) (some ⟨gl, 0, none⟩) n n ((allTried n).getD k []) → body.wpIn (Fence.wide.inRound l) (m - 1 - 1) Try.prog (trPost w.heap.size (w.heap.size + 2) I k W) (a₁ (.slice (some ⟨gl, 0, none⟩) n n)) W)
    (hdone : ∀ (D : Nat) (W : World), w.heap.size ≤ D → I N W → W.heap[D]? = some (.deferred (some [])) → Q .normal { a with defers := { target := .collected D, args := #[] } :: a.defers } W) :
    (Code.rangeFunc g #[tp] assign body).wpIn Fence.wide m Try.prog Q a w := by
  refine wpIn_rangeFunc fun fn hfn => ?_
  have key : ∀ rec : LoopState → Option Code → Loop, rec = (fun st pe => { state := st, pending := pe, fn := fn, tmps := a.tmps, params := #[tp], assign := assign, body := body, defers := w.heap.size }) →
      ∀ W1, (w.alloc (.deferred (some []))).alloc (.loop (rec .ready none)) = W1 → CallsIn Fence.wide (m - 1) Try.prog 101 #[.func (.yield (w.heap.size + 1)) #[] #[], .pointer (some ⟨bn, 0, none⟩)] W1
        (rangePost Fence.wide m Try.prog (w.heap.size + 1) Q { a with defers := { target := .collected w.heap.size, args := #[] } :: a.defers }) := by
    intro rec hrec W1 hW1
    have hblk : (w.alloc (.deferred (some []))).heap.size = w.heap.size + 1 := World.size_alloc w _
    have hsz1 : W1.heap.size = w.heap.size + 2 := by rw [← hW1]; simp
    have hl1 : W1.heap[w.heap.size + 1]? = some (.loop (rec .ready none)) := by
      rw [← hW1, ← hblk]; exact World.alloc_heap_new _ _
    have hd1 : W1.heap[w.heap.size]? = some (.deferred (some [])) := by
      rw [← hW1]; exact (Below.heap_alloc _ _ _ (by simp)).trans (World.alloc_heap_new w _)
    have hi1 : I 0 W1 := by rw [← hW1]; exact hI.alloc _ (hI.alloc _ h0)
    refine (tried1_in (m - 1) (w.heap.size + 1) bn n N hN hn1 hn5
      (fun k W => I k W ∧ W.heap[w.heap.size + 1]? = some (.loop (rec .ready none)) ∧ W.heap[w.heap.size]? = some (.deferred (some [])))
      W1 W1.heap.size rfl (by rw [hsz1]; omega) (fun k V h => ⟨hIc k V h.1, by rw [hsz1]; have := (Array.getElem?_eq_some_iff.1 h.2.1).1; omega⟩) ?_ ?_ ⟨hi1, hl1, hd1⟩).mono ?_
    · rintro k V V' ⟨h1, h2, h3⟩ hb
      rw [hsz1] at hb
      exact ⟨hIb k V V' h1 hb, by rw [hb.block _ (by omega)]; exact h2, by rw [hb.block _ (by omega)]; exact h3⟩
    · rintro k W gl ⟨hi, hl, hd⟩ hlt hown
      have hlt2 : w.heap.size + 1 < W.heap.size := (Array.getElem?_eq_some_iff.1 hl).1
      have hy := run_yield (P := Try.prog) (args := #[.slice (some ⟨gl, 0, none⟩) n n]) hl (by rw [hrec]; rfl)
      rw [hrec] at hy
      have hz : ∀ (ts : Array Value) (y : Value), ((#[tp] : Array Tmp).zip #[y]).foldl (fun t (p, v) => t.setIfInBounds p v) ts = ts.setIfInBounds tp y := fun ts y => by simp
      refine ⟨fn, _, assign, body, hy, roundIn_of_wpIn hfn ?_⟩
      rw [hz]
      refine hassign _ (.slice (some ⟨gl, 0, none⟩) n n) W _ ?_
      clear hy
      refine ⟨_, run_beginRound hl (by rw [hrec]), ?_⟩
      generalize hWb : W.putObj (w.heap.size + 1) (.loop { rec .ready none with state := .busy }) = Wb
      have hszb : Wb.heap.size = W.heap.size := by rw [← hWb]; simp
      have hlb : Wb.heap[w.heap.size + 1]? = some (.loop { rec .ready none with state := .busy }) := by rw [← hWb]; exact World.putObj_heap_same hlt2
      have hdb : Wb.heap[w.heap.size]? = some (.deferred (some [])) := by rw [← hWb]; exact (World.putObj_heap_other (by omega)).trans hd
      have hib : I k Wb := by rw [← hWb]; exact hI.putObj _ hi (by omega) hl rfl
      have hkb : Kept W1.heap.size W Wb := ⟨by omega, fun b h1 h2 => by rw [← hWb]; exact World.putObj_heap_other (by omega)⟩
      have hob := hown.keptFrom hkb
      rw [hsz1] at hob
      refine wpIn_mono (hbody _ k gl Wb hib (by omega) hlt hob) ?_
      rintro e a3 W3 hp
      cases e with
      | normal =>
        obtain ⟨hk3, hi3, hkk⟩ := hp
        have h3 := hk3.same _ _ (by omega) hlb rfl
        have h4 := hk3.same _ _ (Nat.le_refl _) hdb rfl
        have he := run_endRound (P := Try.prog) none h3
        rw [hrec] at he h3
        have hsz3 : w.heap.size + 1 < W3.heap.size := (Array.getElem?_eq_some_iff.1 h3).1
        refine ⟨_, _, he, rfl, ⟨hI.putObj _ hi3 (by omega) h3 rfl, by rw [hrec]; exact World.putObj_heap_same hsz3, (World.putObj_heap_other (by omega)).trans h4⟩, ?_⟩
        refine ⟨?_, fun b h1 h2 => ?_⟩
        · have := hkk.1
          simp
          omega
        · rw [World.putObj_heap_other (by omega), hkk.2 b (by omega) (by omega)]
          exact hkb.2 b h1 h2
      | ret => exact hp.elim
      | exit id => exact hp.elim
      | goto t => exact hp.elim
      | panic ch => exact hp.elim
      | outgrown => exact hp.elim
    · rintro e W2 ⟨⟨r, rfl⟩, hi, hl, hd⟩
      refine ⟨none, _, by have := run_endLoop (P := Try.prog) hl (by rw [hrec]; simp); rw [hrec] at this; exact this, ?_⟩
      exact hdone _ _ (Nat.le_refl _) (hI.putObj _ hi (by omega) hl rfl) ((World.putObj_heap_other (by omega)).trans hd)
  obtain ⟨W1, hW1⟩ : ∃ W1, (w.alloc (.deferred (some []))).alloc (.loop { state := .ready, pending := none, fn := fn, tmps := a.tmps, params := #[tp], assign := assign, body := body, defers := w.heap.size }) = W1 := ⟨_, rfl⟩
  refine ⟨w.heap.size + 1, [{ target := .collected w.heap.size, args := #[] }], W1, { target := .fn (.func 101) #[.pointer (some ⟨bn, 0, none⟩)], args := #[.func (.yield (w.heap.size + 1)) #[] #[]] }, W1, 101,
    #[.func (.yield (w.heap.size + 1)) #[] #[], .pointer (some ⟨bn, 0, none⟩)], W1, (by rw [← hW1]; exact run_enterLoop_outer _ _ _ _ _), ?_, (fun _ _ => trivial), ?_, (fun h => by cases h), key _ rfl W1 hW1⟩
  · simp only [resolve, hg, TrFn]
    simp [go_sem]
  · simp [invoke, go_sem]
end Go.Proofs.Ytnddplldkgphnac
