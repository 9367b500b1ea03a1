/- 'for x := range above(parents, node)': the program's iterator over what is above a node, and a loop over it. -/
import Derived.RangeFuncNested
import Derived.RangeFuncBound
import Derived.RangeFuncCalls
import Derived.RangeFuncLeaves
import Derived.Shelf.Abstract
import Derived.WalkKit
import Derived.OwnWalkIn
import Derived.TacticsInMore
import Derived.LoopNIn
import Derived.LoopIn
import Derived.Test.YtdemcjciijlbeaaImplA
import Derived.Test.YtdemcjciijlbeaaMathTr
import Derived.Deep.LoopGhost
namespace Go.Proofs.Ytdemcjciijlbeaa
open Go.RowKit Go.Shelf

attribute [local go_sem] Oper.semAt_some

/-- The closure that 'above' hands back: the blocks of the node and of the parents. -/
def UpFn (bn bp : Nat) : Value := .func (.func 33) #[] #[.pointer (some ⟨bn, 0, none⟩), .pointer (some ⟨bp, 0, none⟩)]

theorem above_any (a : Option Addr) (n cap : Nat) (v : Int) (w : World) :
    Calls Try.prog 19 #[.slice a n cap, .int .i64 v] w fun e w' => e = .returned (UpFn (w.heap.size + 1) w.heap.size) ∧ w' = (w.alloc (.cells #[.slice a n cap] 24)).alloc (.cells #[.int .i64 v] 3) := by
  have hmf : ∀ (fn : Fn) (first cap : Array Value) (w : World), (Instr.makeFunc fn first cap).run Try.prog w = .ok (.func fn first cap) w := fun _ _ _ _ => rfl
  go_enter Try.func19, Try.ntmps19
  go_wp2_with fail
  go_ret
  exact ⟨rfl, rfl⟩

/-- What the iterator reads. -/
structure UpAt (W : World) (bn bp : Nat) (sl : Option Addr) (n cap : Nat) (xs : List Int) (v : Nat) : Prop where
  node : W.cell? ⟨bn, 0, none⟩ = some (.int .i64 v)
  parents : W.cell? ⟨bp, 0, none⟩ = some (.slice sl n cap)
  has : Has W sl n cap xs
theorem up_nat {xs : List Int} {n v : Nat} (hb : ∀ i, i < n → 0 ≤ nth xs i ∧ nth xs i ≤ (n : Int)) (hv : v ≤ n) : ∀ k, ∃ u : Nat, up xs v k = (u : Int) ∧ u ≤ n
  | 0 => ⟨v, rfl, hv⟩
  | k + 1 => by
    obtain ⟨u, h1, h2⟩ := up_nat hb hv k
    by_cases e : up xs v k = 0
    · exact ⟨0, by simp [up, e], by omega⟩
    · rw [up_succ e, h1]
      have := hb (u - 1) (by omega)
      unfold par
      rw [Int.toNat_natCast]
      exact ⟨(nth xs (u - 1)).toNat, by omega, by omega⟩

set_option maxRecDepth 100000 in
set_option maxHeartbeats 1000000 in
/-- The iterator: for every loop's body that leaves in peace what it reads. -/
theorem above1_in (m : Nat) (l bn bp : Nat) (sl : Option Addr) (n cap : Nat) (xs : List Int) (v M : Nat) (J Jx : Nat → World → Prop)
    (hb : ∀ i, i < n → 0 ≤ nth xs i ∧ nth xs i ≤ (n : Int)) (hv : v ≤ n) (h8 : n ≤ 8)
    (hJ : ∀ k W, J k W → k ≤ M ∧ UpAt W bn bp sl n cap xs v)
    (hY : ∀ k W, J k W → up xs v k ≠ 0 → YieldAt Fence.wide (m - 1) Try.prog l #[.int .i64 (up xs v (k + 1))] W fun e W' =>
      (e = .returned (.bool true) ∧ J (k + 1) W') ∨ (e = .returned (.bool false) ∧ Jx (k + 1) W'))
    (W : World) (h0 : J 0 W) :
    CallsIn Fence.wide m Try.prog 33 #[.func (.yield l) #[] #[], .pointer (some ⟨bn, 0, none⟩), .pointer (some ⟨bp, 0, none⟩)] W fun e W' => (∃ r, e = .returned r) ∧
      ((∃ k, up xs v k = 0 ∧ (∀ j, j < k → up xs v j ≠ 0) ∧ J k W') ∨ (∃ k, Jx k W')) := by
  obtain ⟨hM0, hn0, hp0, hs0⟩ := hJ 0 W h0
  refine callsIn_of_wp Try.func33 rfl trivial ?_ rfl
  simp only [Try.ntmps33, List.size_toArray, List.length_cons, List.length_nil, Nat.reduceAdd, Nat.reduceSub, Array.replicate_succ, Array.replicate_zero, List.push_toArray, List.append_toArray, List.nil_append, List.cons_append]
  gi_wp2
  gi_loopw [4] (fun p wr => ∃ q k : Nat, k + q = M + 1 ∧ p = .int .i64 (up xs v k) ∧ (∀ j, j < k → up xs v j ≠ 0) ∧ J k wr)
    (fun p wr => _root_.Go.leastOf (fun q => ∃ k : Nat, k + q = M + 1 ∧ p = .int .i64 (up xs v k) ∧ (∀ j, j < k → up xs v j ≠ 0) ∧ J k wr))
  case atStart => exact ⟨M + 1, 0, by omega, rfl, by omega, h0⟩
  case round =>
    have hspec := (leastOf_spec hrel).1
    generalize hL : _root_.Go.leastOf _ = L at hspec
    obtain ⟨k, hkq, rfl, hne, hjs⟩ := hspec
    have HL := hid hL
    clear hrel hL
    obtain ⟨hM, hn1, hp1, hs1⟩ := hJ k wr hjs
    have HNE := hid hne
    clear hne hn0 hp0 hs0
    obtain ⟨u, hu, hun⟩ := up_nat hb hv k
    by_cases hz : u = 0
    · have HZ : Hid (up xs v k = 0) := hid (by rw [hu, hz]; rfl)
      have hbe : (up xs v k != 0) = false := by rw [HZ.out]; rfl
      gi_wp2
      go_end0
      exact ⟨⟨_, rfl⟩, .inl ⟨k, HZ.out, HNE.out, hjs⟩⟩
    · have HZ : Hid (up xs v k ≠ 0) := hid (by rw [hu]; omega)
      obtain ⟨t, hut⟩ : ∃ t : Nat, u = t + 1 := ⟨u - 1, by omega⟩
      subst hut
      have HS : Hid (up xs v (k + 1) = nth xs t) := hid (by
        rw [up_succ HZ.out, hu]
        unfold par
        rw [show ((t + 1 : Nat) : Int).toNat - 1 = t by omega])
      obtain ⟨b, off, rfl, hbb, hc⟩ := hs1.2.2.2.2 (by omega)
      have hct := hc t (by omega)
      obtain ⟨fn, tmps, assign, body, hy, hR⟩ := hY k wr hjs HZ.out
      rw [HS.out] at hy
      have HU := hid hu
      have HR := hid hR
      clear hR hu hc hs1
      have HL2 := HL.out
      rw [HU.out] at HL2
      replace HL := hid HL2
      clear HL2
      rw [HU.out]
      have hbe : ((t : Int) + 1 != 0) = true := by simp; omega
      have hwd : Fence.wide.depth.isSome = true → 1 ≤ m := fun h => by cases h
      have hwt : wrap64 (t : Int) = (t : Int) := IntWalk.wrap64_in _ ⟨by omega, by omega⟩
      gi_wp2
      refine ⟨hwd, HR.out.mono ?_⟩
      rintro e W3 (⟨rfl, hJ3⟩ | ⟨rfl, hJx3⟩)
      · obtain ⟨hM3, hn3, hp3, hs3⟩ := hJ (k + 1) W3 hJ3
        obtain ⟨b', off', hbo, hbb3, hc3⟩ := hs3.2.2.2.2 (by omega)
        have hct3 := hc3 t (by omega)
        cases hbo
        clear hc3 hs3
        gi_wp2
        go_roundw
        case rel => exact ⟨M - k, k + 1, by omega, by rw [HS.out], fun j hj => by rcases Nat.lt_succ_iff_lt_or_eq.1 hj with h1 | rfl; exact HNE.out j h1; exact HZ.out, hJ3⟩
        case measure =>
          refine Nat.lt_of_lt_of_eq (m := L) ?_ HL.out.symm
          have hr : ∃ k' : Nat, k' + (M - k) = M + 1 ∧ Value.int .i64 (nth xs t) = .int .i64 (up xs v k') ∧ (∀ j, j < k' → up xs v j ≠ 0) ∧ J k' W3 :=
            ⟨k + 1, by omega, by rw [HS.out], fun j hj => by rcases Nat.lt_succ_iff_lt_or_eq.1 hj with h1 | rfl; exact HNE.out j h1; exact HZ.out, hJ3⟩
          refine Nat.lt_of_le_of_lt ((leastOf_spec ⟨M - k, hr⟩).2 (M - k) hr) (by omega)
      · gi_wp2
        refine bodyPost_ret (results_none rfl _ _ _) rfl ?_
        exact ⟨⟨_, rfl⟩, .inr ⟨k + 1, hJx3⟩⟩

/-- How a round of such a loop may end: it goes on, or returns. -/
def upPost (B : Nat) (I Ix : Nat → World → Prop) (k : Nat) (W : World) : Exit → Act → World → Prop
  | .normal, _, W' => KeepsFrom B W W' ∧ I (k + 1) W'
  | .ret, _, W' => KeepsFrom B W W' ∧ Ix (k + 1) W'
  | _, _, _ => False

set_option maxHeartbeats 1000000 in
/-- 'for x := range above(parents, node)'. -/
theorem wpIn_above (m : Nat) {g : Operand} {tp : Tmp} {assign body : Code} {Q : Exit → Act → World → Prop} {a : Act} {w : World} (bn bp : Nat) (sl : Option Addr) (n cap : Nat) (xs : List Int) (v M : Nat)
    (hg : a.eval g = UpFn bn bp) (hb : ∀ i, i < n → 0 ≤ nth xs i ∧ nth xs i ≤ (n : Int)) (hv : v ≤ n) (h8 : n ≤ 8)
    (I Ix : Nat → World → Prop) (hIk : ∀ k W, I k W → k ≤ M ∧ UpAt W bn bp sl n cap xs v) (hI : OwnFrom w.heap.size I) (hIx : OwnFrom w.heap.size Ix) (h0 : I 0 w) (a₁ : Int → Act)
    (hassign : ∀ (l : Nat) (x : Int) (W : World) (K : Act → World → Prop), K (a₁ x) W →
      assign.wpIn (Fence.wide.inRound l) (m - 1 - 1) Try.prog (Exit.then K (fun _ _ _ => False)) { tmps := a.tmps.setIfInBounds tp (.int .i64 x), defers := [] } W)
    (hbody : ∀ (l k : Nat) (W : World), I k W → up xs v k ≠ 0 → body.wpIn (Fence.wide.inRound l) (m - 1 - 1) Try.prog (upPost w.heap.size I Ix k W) (a₁ (up xs v (k + 1))) W)
    (hdone : ∀ (D k : Nat) (W : World), w.heap.size ≤ D → up xs v k = 0 → (∀ j, j < k → up xs v j ≠ 0) → I k W → W.heap[D]? = some (.deferred (some [])) → Q .normal { a with defers := { target := .collected D, args := #[] } :: a.defers } W)
    (hstop : ∀ (D k : Nat) (W : World), w.heap.size ≤ D → Ix k W → W.heap[D]? = some (.deferred (some [])) → Code.ret.wpIn Fence.wide m Try.prog Q { a with defers := { target := .collected D, args := #[] } :: a.defers } W) :
    (Code.rangeFunc g #[tp] assign body).wpIn Fence.wide m Try.prog Q a w := by
  refine wpIn_rangeFunc fun fn hfn => ?_
  have key : ∀ rec : LoopState → Option Code → Loop, rec = (fun st pe => { state := st, pending := pe, fn := fn, tmps := a.tmps, params := #[tp], assign := assign, body := body, defers := w.heap.size }) →
      ∀ W1, (w.alloc (.deferred (some []))).alloc (.loop (rec .ready none)) = W1 → CallsIn Fence.wide (m - 1) Try.prog 33 #[.func (.yield (w.heap.size + 1)) #[] #[], .pointer (some ⟨bn, 0, none⟩), .pointer (some ⟨bp, 0, none⟩)] W1
        (rangePost Fence.wide m Try.prog (w.heap.size + 1) Q { a with defers := { target := .collected w.heap.size, args := #[] } :: a.defers }) := by
    intro rec hrec W1 hW1
    have hblk : (w.alloc (.deferred (some []))).heap.size = w.heap.size + 1 := World.size_alloc w _
    have hl1 : W1.heap[w.heap.size + 1]? = some (.loop (rec .ready none)) := by
      rw [← hW1, ← hblk]; exact World.alloc_heap_new _ _
    have hd1 : W1.heap[w.heap.size]? = some (.deferred (some [])) := by
      rw [← hW1]; exact (Below.heap_alloc _ _ _ (by simp)).trans (World.alloc_heap_new w _)
    have hi1 : I 0 W1 := by rw [← hW1]; exact hI.alloc _ (hI.alloc _ h0)
    refine (above1_in (m - 1) (w.heap.size + 1) bn bp sl n cap xs v M
      (fun k W => I k W ∧ W.heap[w.heap.size + 1]? = some (.loop (rec .ready none)) ∧ W.heap[w.heap.size]? = some (.deferred (some [])))
      (fun k W => Ix k W ∧ W.heap[w.heap.size + 1]? = some (.loop (rec .done (some .ret))) ∧ W.heap[w.heap.size]? = some (.deferred (some [])))
      hb hv h8 (fun k W h => hIk k W h.1) ?_ W1 ⟨hi1, hl1, hd1⟩).mono ?_
    · rintro k W ⟨hi, hl, hd⟩ hne
      have hlt : w.heap.size + 1 < W.heap.size := (Array.getElem?_eq_some_iff.1 hl).1
      have hy := run_yield (P := Try.prog) (args := #[.int .i64 (up xs v (k + 1))]) hl (by rw [hrec]; rfl)
      rw [hrec] at hy
      have hz : ∀ (ts : Array Value) (y : Value), ((#[tp] : Array Tmp).zip #[y]).foldl (fun t (p, v) => t.setIfInBounds p v) ts = ts.setIfInBounds tp y := fun ts y => by simp
      refine ⟨fn, _, assign, body, hy, roundIn_of_wpIn hfn ?_⟩
      rw [hz]
      refine hassign _ (up xs v (k + 1)) W _ ?_
      clear hy
      refine ⟨_, run_beginRound hl (by rw [hrec]), ?_⟩
      generalize hWb : W.putObj (w.heap.size + 1) (.loop { rec .ready none with state := .busy }) = Wb
      have hlb : Wb.heap[w.heap.size + 1]? = some (.loop { rec .ready none with state := .busy }) := by rw [← hWb]; exact World.putObj_heap_same hlt
      have hdb : Wb.heap[w.heap.size]? = some (.deferred (some [])) := by rw [← hWb]; exact (World.putObj_heap_other (by omega)).trans hd
      have hib : I k Wb := by rw [← hWb]; exact hI.putObj _ hi (by omega) hl rfl
      have ends : ∀ (jump : Option Code) (W3 : World), KeepsFrom w.heap.size Wb W3 →
          W3.heap[w.heap.size + 1]? = some (.loop { rec .ready none with state := .busy }) ∧
          (Instr.endRound (w.heap.size + 1) jump).run Try.prog W3 = .ok (.bool jump.isNone) (W3.putObj (w.heap.size + 1) (.loop (rec (if jump.isNone then .ready else .done) jump))) ∧
          (W3.putObj (w.heap.size + 1) (.loop (rec (if jump.isNone then .ready else .done) jump))).heap[w.heap.size + 1]? = some (.loop (rec (if jump.isNone then .ready else .done) jump)) ∧
          (W3.putObj (w.heap.size + 1) (.loop (rec (if jump.isNone then .ready else .done) jump))).heap[w.heap.size]? = some (.deferred (some [])) := by
        intro jump W3 hk
        have h3 := hk.same _ _ (by omega) hlb rfl
        have h4 := hk.same _ _ (Nat.le_refl _) hdb rfl
        have he := run_endRound (P := Try.prog) jump h3
        rw [hrec] at he ⊢
        exact ⟨by rw [hrec] at h3; exact h3, he, World.putObj_heap_same (Array.getElem?_eq_some_iff.1 h3).1, (World.putObj_heap_other (by omega)).trans h4⟩
      refine wpIn_mono (hbody _ k Wb hib hne) ?_
      rintro e a3 W3 hp
      cases e with
      | normal =>
        obtain ⟨h3, h4, h5, h6⟩ := ends none W3 hp.1
        exact ⟨_, _, h4, .inl ⟨rfl, hI.putObj _ hp.2 (by omega) h3 rfl, h5, h6⟩⟩
      | ret =>
        obtain ⟨h3, h4, h5, h6⟩ := ends (some .ret) W3 hp.1
        exact ⟨_, _, h4, .inr ⟨rfl, hIx.putObj _ hp.2 (by omega) h3 rfl, h5, h6⟩⟩
      | exit id => exact hp.elim
      | goto t => exact hp.elim
      | panic ch => exact hp.elim
      | outgrown => exact hp.elim
    · rintro e W2 ⟨⟨r, rfl⟩, ⟨k, hz, hne, hi, hl, hd⟩ | ⟨k, hi, hl, hd⟩⟩
      · refine ⟨none, _, by have := run_endLoop (P := Try.prog) hl (by rw [hrec]; simp); rw [hrec] at this; exact this, ?_⟩
        exact hdone _ k _ (Nat.le_refl _) hz hne (hI.putObj _ hi (by omega) hl rfl) ((World.putObj_heap_other (by omega)).trans hd)
      · refine ⟨some .ret, _, by have := run_endLoop (P := Try.prog) hl (by rw [hrec]; simp); rw [hrec] at this; exact this, ?_⟩
        exact hstop _ k _ (Nat.le_refl _) (hIx.putObj _ hi (by omega) hl rfl) ((World.putObj_heap_other (by omega)).trans hd)
  obtain ⟨W1, hW1⟩ : ∃ W1, (w.alloc (.deferred (some []))).alloc (.loop { state := .ready, pending := none, fn := fn, tmps := a.tmps, params := #[tp], assign := assign, body := body, defers := w.heap.size }) = W1 := ⟨_, rfl⟩
  refine ⟨w.heap.size + 1, [{ target := .collected w.heap.size, args := #[] }], W1, { target := .fn (.func 33) #[.pointer (some ⟨bn, 0, none⟩), .pointer (some ⟨bp, 0, none⟩)], args := #[.func (.yield (w.heap.size + 1)) #[] #[]] }, W1, 33,
    #[.func (.yield (w.heap.size + 1)) #[] #[], .pointer (some ⟨bn, 0, none⟩), .pointer (some ⟨bp, 0, none⟩)], W1, (by rw [← hW1]; exact run_enterLoop_outer _ _ _ _ _), ?_, (fun _ _ => trivial), ?_, (fun h => by cases h), key _ rfl W1 hW1⟩
  · simp only [resolve, hg, UpFn]
    simp [go_sem]
  · simp [invoke, go_sem]
end Go.Proofs.Ytdemcjciijlbeaa
