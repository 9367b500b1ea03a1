/-
  Proved: laws.FnExactPlanesBetween answers true at every input, and leaves each argument as it was.
  No condition: every value of the parameters' types. The frame is the guide's shell; the walk goes by the contracts of the functions called.
-/
import Derived.Test.YtnddplldkgphnacRows
import Derived.Test.YtnddplldkgphnacLawKit
import Derived.Test.YtnddplldkgphnacImplBet
import Derived.Test.YtnddplldkgphnacSpecBet
import Derived.WalkKit
import Derived.ProofKit
import Derived.OpenShut
import Derived.ShutString
import Derived.ChangeOld
import Derived.Below
namespace Go.Proofs.Ytnddplldkgphnac.fnExactPlanesBetween
open Go.ChangeShapes Go.WideShapes Go.ChangeAt Go.RowKit
open Go.ChangeMaps (open_string shut_string)
set_option linter.unusedVariables false

theorem own : ownKnob Try.prog.godebug = none := by kernel_rfl
theorem laidOut : laidOutB Try.prog = true := by kernel_rfl

/-- WHAT THE WALK IS TOLD OF A SLICE OF INTEGERS THAT CAME IN: it is nil; or it leads to a row of 'cap' cells, the numbers 'zs' (the first 'len' are its elements, the rest its spare room), each fitting its kind. -/
def IsRow (k : IntKind) (w : World) (a : Option Addr) (len cap : Nat) (zs : List Int) : Prop :=
  (a = none ∧ len = 0 ∧ cap = 0 ∧ zs = []) ∨
  ∃ x, a = some x ∧ len ≤ cap ∧ cap ≤ maxLen ∧ zs.length = cap ∧ (∀ i, i < zs.length → w.cell? (x.add i) = some (.int k (zs.getD i 0))) ∧ ∀ n ∈ zs, (Lit.int k n).wf = true

/-! ### STEP 1: THE WALK: the Go text returns true, AND WRITES NOTHING THAT WAS THERE: 'Below w.heap.size w w'' (Derived/Below.lean: '.refl', '.alloc', '.drew', '.setCell' at a new block, '.trans'). Open each 'IsRow' by 'rcases' AHEAD of 'go_enter'; part every test ahead of the walk. -/
set_option maxHeartbeats 2000000 in
theorem walk (a0 : Option Addr) (len0 cap0 : Nat) (z0 : List Int) (a1 : Option Addr) (len1 cap1 : Nat) (z1 : List Int) (w : World) (w0 : IsRow .i64 w a0 len0 cap0 z0) (w1 : IsRow .i64 w a1 len1 cap1 z1) :
    Calls Try.prog 3 #[.slice a0 len0 cap0, .slice a1 len1 cap1] w fun e w' => e = .returned (.bool true) ∧ Below w.heap.size w w' := by
  by_cases hs0 : len0 ≤ 1048576
  · obtain ⟨xs0, H0⟩ := has_of_row w0 hs0
    clear w0
    by_cases hs1 : len1 ≤ 1048576
    · obtain ⟨xs1, H1⟩ := has_of_row w1 hs1
      clear w1
      obtain ⟨⟨y0, ok⟩, hr⟩ : ∃ r, betweenOf xs0 xs1 = r := ⟨_, rfl⟩
      have HR := hid hr
      clear hr
      have hB : Below w.heap.size w w := Below.refl _ _
      have hy := neq_self_int y0
      have hok := neq_self_bool ok
      go_enter Try.func3, Try.ntmps3
      have k_t0 := hB.size
      go_wp2_with fail
      refine (toIntS_any _ _ _ _ _ (H0.beyond hB)).mono ?_
      rintro e v1 ⟨a_t0, c_t0, rfl, o_t0, st⟩
      replace hB := hB.trans (st.mono hB.size)
      clear st
      have lt_t0_t1 := o_t0.lt
      have k_t1 := hB.size
      go_wp2_with fail
      refine (toIntS_any _ _ _ _ _ (H1.beyond hB)).mono ?_
      rintro e v2 ⟨a_t1, c_t1, rfl, o_t1, st⟩
      replace o_t0 := o_t0.below st (Nat.le_refl _)
      replace hB := hB.trans (st.mono hB.size)
      clear st
      go_wp2_with fail
      refine (specBetween_any _ _ _ _ _ _ _ _ _ o_t0.has o_t1.has).mono ?_
      rw [HR.out]
      rintro e v3 ⟨rfl, st⟩
      replace o_t0 := o_t0.below st (Nat.le_refl _)
      replace o_t1 := o_t1.below st (Nat.le_refl _)
      replace hB := hB.trans (st.mono hB.size)
      clear st
      clear o_t0
      clear o_t1
      have k_x0 := hB.size
      go_wp2_with fail
      refine (toIntS_any _ _ _ _ _ (H0.beyond hB)).mono ?_
      rintro e v4 ⟨a_x0, c_x0, rfl, o_x0, st⟩
      replace hB := hB.trans (st.mono hB.size)
      clear st
      have lt_x0_x1 := o_x0.lt
      have k_x1 := hB.size
      go_wp2_with fail
      refine (toIntS_any _ _ _ _ _ (H1.beyond hB)).mono ?_
      rintro e v5 ⟨a_x1, c_x1, rfl, o_x1, st⟩
      replace o_x0 := o_x0.below st (Nat.le_refl _)
      replace hB := hB.trans (st.mono hB.size)
      clear st
      go_wp2_with fail
      refine (implBetween_any _ _ _ _ _ _ _ _ _ o_x0.has o_x1.has).mono ?_
      rw [HR.out]
      rintro e v6 ⟨rfl, st⟩
      replace o_x0 := o_x0.below st (Nat.le_refl _)
      replace o_x1 := o_x1.below st (Nat.le_refl _)
      replace hB := hB.trans (st.mono hB.size)
      clear st
      have lt_x0_u0 := o_x0.lt
      have lt_x1_u0 := o_x1.lt
      have k_u0 := hB.size
      go_wp2_with fail
      refine (toIntS_any _ _ _ _ _ (H0.beyond hB)).mono ?_
      rintro e v7 ⟨a_u0, c_u0, rfl, o_u0, st⟩
      replace o_x0 := o_x0.below st (Nat.le_refl _)
      replace o_x1 := o_x1.below st (Nat.le_refl _)
      replace hB := hB.trans (st.mono hB.size)
      clear st
      go_wp2_with fail
      refine (eqIntS_any _ _ _ _ _ _ _ _ _ o_x0.has o_u0.has).mono ?_
      rintro e v8 ⟨rfl, q⟩
      have st : Below v7.heap.size v7 v8 := q.below _
      replace o_x0 := o_x0.below st (Nat.le_refl _)
      replace o_x1 := o_x1.below st (Nat.le_refl _)
      replace o_u0 := o_u0.below st (Nat.le_refl _)
      replace hB := hB.trans (st.mono hB.size)
      clear st
      clear q
      rw [same_self]
      clear o_u0
      have lt_x0_u1 := o_x0.lt
      have lt_x1_u1 := o_x1.lt
      have k_u1 := hB.size
      go_wp2_with fail
      refine (toIntS_any _ _ _ _ _ (H1.beyond hB)).mono ?_
      rintro e v9 ⟨a_u1, c_u1, rfl, o_u1, st⟩
      replace o_x0 := o_x0.below st (Nat.le_refl _)
      replace o_x1 := o_x1.below st (Nat.le_refl _)
      replace hB := hB.trans (st.mono hB.size)
      clear st
      go_wp2_with fail
      refine (eqIntS_any _ _ _ _ _ _ _ _ _ o_x1.has o_u1.has).mono ?_
      rintro e v10 ⟨rfl, q⟩
      have st : Below v9.heap.size v9 v10 := q.below _
      replace o_x0 := o_x0.below st (Nat.le_refl _)
      replace o_x1 := o_x1.below st (Nat.le_refl _)
      replace o_u1 := o_u1.below st (Nat.le_refl _)
      replace hB := hB.trans (st.mono hB.size)
      clear st
      clear q
      rw [same_self]
      clear o_u1
      go_wp2_with fail
      go_ret
      exact ⟨rfl, hB⟩
    · go_enter Try.func3, Try.ntmps3
      go_wp2_with fail
      go_ret
      exact ⟨rfl, Below.refl _ _⟩
  · go_enter Try.func3, Try.ntmps3
    go_wp2_with fail
    go_ret
    exact ⟨rfl, Below.refl _ _⟩

/-! ### THE ROW's STEP: WRITTEN OUT: LEAVE IT -/
set_option maxRecDepth 100000 in
theorem lifted (os : Os) (started : os.Started) (H : Type) (enc : TypeId × Value → H) :
    ReturnsInHanded {} Try.checked os 3 .any (Rows.fnExactPlanesBetweenSpec.pre6 enc Try.prog Try.f3 Rows.fnExactPlanesBetweenRow.domain false) (Rows.fnExactPlanesBetweenSpec.post enc Try.prog Try.f3 false true false false) := by
  refine returnsInHanded_of_change (C := Try.checked) own started (by kernel_rfl) Try.func3
    (ChangeSpec.witness6 (enc := enc) (C := Try.checked) false ⟨#[], #[.slice none 0 0, .slice none 0 0], []⟩ 8 (by kernel_rfl) (by kernel_rfl) (by kernel_rfl) (by kernel_rfl)) ?_
  intro W base args ds gs before hval0 hW hcnd _
  have hval : ∀ (j : Nat) t v, Try.f3.params[j]? = some t → args[j]? = some v → Value.okWide Try.prog W .any base t v := hval0
  have hW' := hW
  obtain ⟨p, q, hA0, hV, rfl, hfz, hnd⟩ := hW
  have hA : DataW.TrodAll enc Try.prog W 0 (fun _ => true) true Try.f3.params.toList args.toList ds p := hA0
  rw [Try.params3] at hA hval
  obtain ⟨v0, vs0, d0, ds0, p0, q0, hargs, rfl, rfl, h0, r0⟩ := trodAll_cons hA
  obtain ⟨v1, vs1, d1, ds1, p1, q1, rfl, rfl, rfl, h1, r1⟩ := trodAll_cons r0
  obtain ⟨rfl, rfl, rfl⟩ := trodAll_nil r1
  obtain rfl : args = #[v0, v1] := by cases args; simp_all
  obtain ⟨rfl, rfl⟩ := trodVars_none hV
  obtain ⟨a0, len0, cap0, rfl⟩ := okWide_slice Try.underlying22 (hval 0 22 v0 rfl rfl)
  have k0 := h0
  have lt0 : ∀ x ∈ p0, x.block < W.heap.size := by obtain ⟨m, hm⟩ := k0; exact DataW.trod_lt m _ _ _ hm
  obtain ⟨z0, w0⟩ : ∃ zs, IsRow .i64 W a0 len0 cap0 zs := by
    obtain ⟨fuel, hf⟩ := h0
    rcases open_ints Try.underlying22 Try.underlying3 (by kernel_rfl) hf with ⟨hcs, _⟩ | ⟨x, l, c, zs, hcs, _, hl, hm, hz, _, hcell, hwz⟩
    · simp [Value.cells] at hcs
      obtain ⟨rfl, rfl, rfl⟩ := hcs
      exact ⟨[], .inl ⟨rfl, rfl, rfl, rfl⟩⟩
    · simp [Value.cells] at hcs
      obtain ⟨rfl, rfl, rfl⟩ := hcs
      exact ⟨zs, .inr ⟨_, rfl, hl, hm, by simpa using hz, hcell, hwz⟩⟩
  obtain ⟨a1, len1, cap1, rfl⟩ := okWide_slice Try.underlying22 (hval 1 22 v1 rfl rfl)
  have k1 := h1
  have lt1 : ∀ x ∈ p1, x.block < W.heap.size := by obtain ⟨m, hm⟩ := k1; exact DataW.trod_lt m _ _ _ hm
  obtain ⟨z1, w1⟩ : ∃ zs, IsRow .i64 W a1 len1 cap1 zs := by
    obtain ⟨fuel, hf⟩ := h1
    rcases open_ints Try.underlying22 Try.underlying3 (by kernel_rfl) hf with ⟨hcs, _⟩ | ⟨x, l, c, zs, hcs, _, hl, hm, hz, _, hcell, hwz⟩
    · simp [Value.cells] at hcs
      obtain ⟨rfl, rfl, rfl⟩ := hcs
      exact ⟨[], .inl ⟨rfl, rfl, rfl, rfl⟩⟩
    · simp [Value.cells] at hcs
      obtain ⟨rfl, rfl, rfl⟩ := hcs
      exact ⟨zs, .inr ⟨_, rfl, hl, hm, by simpa using hz, hcell, hwz⟩⟩
  clear hA0 hval0
  refine (walk a0 len0 cap0 z0 a1 len1 cap1 z1 W w0 w1).mono fun e W' ⟨he, bel⟩ => ?_
  subst he
  exact ⟨_, rfl, _, _, _, [], _, [], hW', trodAll_mk1 (shut_bool Try.underlying4 _), (trodAll_cons_mk (Below.trod laidOut (by kernel_rfl) (of_decide_eq_true (by kernel_rfl)) k0 bel lt0) (trodAll_cons_mk (Below.trod laidOut (by kernel_rfl) (of_decide_eq_true (by kernel_rfl)) k1 bel lt1) trodAll_mk0)), rfl, bel.frame _, fun h => by cases h⟩

theorem over : Rows.fnExactPlanesBetweenRow.holds Try.pinned (OpenSpec.ofChange Rows.fnExactPlanesBetweenSpec) :=
  OpenClaim.holds_of_wide 3 Try.f3 rfl rfl rfl rfl rfl rfl rfl ⟨rfl, rfl, rfl, rfl, rfl⟩ rfl rfl rfl rfl rfl (by kernel_rfl) Try.func3 (by kernel_rfl)
    (of_decide_eq_true (by kernel_rfl)) (by unfold Func.isWrapper; first | (rw [if_pos (by decide +kernel)]; kernel_rfl) | (rw [if_neg (by decide +kernel)]; exact ⟨rfl, rfl⟩))
    (fun os started H enc _ => lifted os started H enc)

/-- ████ THE STATEMENT ████ -/
theorem proved : Rows.FnExactPlanesBetweenSaid := over
#print axioms proved
end Go.Proofs.Ytnddplldkgphnac.fnExactPlanesBetween

