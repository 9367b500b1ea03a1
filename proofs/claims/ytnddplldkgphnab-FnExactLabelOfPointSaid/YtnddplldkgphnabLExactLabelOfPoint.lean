/-
  Proved: laws.FnExactLabelOfPoint answers true at every input, and leaves each argument as it was.
  No condition: every value of the parameters' types. The frame is the guide's shell; the walk goes by the contracts of the functions called.
-/
import Derived.Test.YtnddplldkgphnabRows
import Derived.Test.YtnddplldkgphnabLawKit
import Derived.Test.YtnddplldkgphnabImplLab
import Derived.WalkKit
import Derived.ProofKit
import Derived.OpenShut
import Derived.ShutString
import Derived.ChangeOld
import Derived.Below
namespace Go.Proofs.Ytnddplldkgphnab.fnExactLabelOfPoint
open Go.ChangeShapes Go.WideShapes Go.ChangeAt Go.RowKit
open Go.ChangeMaps (open_string shut_string)
set_option linter.unusedVariables false

theorem own : ownKnob Try.prog.godebug = none := by kernel_rfl
theorem laidOut : laidOutB Try.prog = true := by kernel_rfl

/-- WHAT THE WALK IS TOLD OF A SLICE OF INTEGERS THAT CAME IN: it is nil; or it leads to a row of 'cap' cells, the numbers 'zs' (the first 'len' are its elements, the rest its spare room), each fitting its kind. -/
def IsRow (k : IntKind) (w : World) (a : Option Addr) (len cap : Nat) (zs : List Int) : Prop :=
  (a = none ∧ len = 0 ∧ cap = 0 ∧ zs = []) ∨
  ∃ x, a = some x ∧ len ≤ cap ∧ cap ≤ maxLen ∧ zs.length = cap ∧ (∀ i, i < zs.length → w.cell? (x.add i) = some (.int k (zs.getD i 0))) ∧ ∀ n ∈ zs, (Lit.int k n).wf = true

/-! ### STEP 1: THE WALK: the Go text returns true, AND WRITES NOTHING THAT WAS THERE: 'Below w.heap.size w w'' (Derived/Below.lean: '.refl', '.alloc', '.drew', '.setCell' at a new block, '.trans'). Open each 'IsRow' by 'rcases' AHEAD of 'go_enter'; part every test ahead of the walk. -/
set_option maxHeartbeats 2000000 in
theorem walk (a0 : Option Addr) (len0 cap0 : Nat) (z0 : List Int) (w : World) (w0 : IsRow .i64 w a0 len0 cap0 z0) :
    Calls Try.prog 7 #[.slice a0 len0 cap0] w fun e w' => e = .returned (.bool true) ∧ Below w.heap.size w w' := by
  by_cases hs0 : len0 ≤ 1048576
  · obtain ⟨xs0, H0⟩ := has_of_row w0 hs0
    clear w0
    obtain ⟨⟨y0, ok⟩, hr⟩ : ∃ r, labelPtOf xs0 = r := ⟨_, rfl⟩
    have HR := hid hr
    clear hr
    have hB : Below w.heap.size w w := Below.refl _ _
    have hok := neq_self_bool ok
    go_enter Try.func7, Try.ntmps7
    have k_t0 := hB.size
    go_wp2_with fail
    refine (toIntS_any _ _ _ _ _ (H0.beyond hB)).mono ?_
    rintro e v1 ⟨a_t0, c_t0, rfl, o_t0, st⟩
    replace hB := hB.trans (st.mono hB.size)
    clear st
    have lt_t0_r := o_t0.lt
    have k_r := hB.size
    go_wp2_with fail
    refine (specLabelPt_any _ _ _ _ _ o_t0.has).mono ?_
    rw [HR.out]
    rintro e v2 ⟨a_r, n_r, c_r, rfl, o_r, st⟩
    replace o_t0 := o_t0.below st (Nat.le_refl _)
    replace hB := hB.trans (st.mono hB.size)
    clear st
    clear o_t0
    have lt_r_x0 := o_r.lt
    have k_x0 := hB.size
    go_wp2_with fail
    refine (toIntS_any _ _ _ _ _ (H0.beyond hB)).mono ?_
    rintro e v3 ⟨a_x0, c_x0, rfl, o_x0, st⟩
    replace o_r := o_r.below st (Nat.le_refl _)
    replace hB := hB.trans (st.mono hB.size)
    clear st
    have lt_r_g := o_r.lt
    have lt_x0_g := o_x0.lt
    have k_g := hB.size
    go_wp2_with fail
    refine (implLabelPt_any _ _ _ _ _ o_x0.has).mono ?_
    rw [HR.out]
    rintro e v4 ⟨a_g, n_g, c_g, rfl, o_g, st⟩
    replace o_r := o_r.below st (Nat.le_refl _)
    replace o_x0 := o_x0.below st (Nat.le_refl _)
    replace hB := hB.trans (st.mono hB.size)
    clear st
    go_wp2_with fail
    refine (eqIntS_any _ _ _ _ _ _ _ _ _ o_g.has o_r.has).mono ?_
    rintro e v5 ⟨rfl, q⟩
    have st : Below v4.heap.size v4 v5 := q.below _
    replace o_r := o_r.below st (Nat.le_refl _)
    replace o_x0 := o_x0.below st (Nat.le_refl _)
    replace o_g := o_g.below st (Nat.le_refl _)
    replace hB := hB.trans (st.mono hB.size)
    clear st
    clear q
    rw [same_self]
    have lt_r_u0 := o_r.lt
    have lt_x0_u0 := o_x0.lt
    have lt_g_u0 := o_g.lt
    have k_u0 := hB.size
    go_wp2_with fail
    refine (toIntS_any _ _ _ _ _ (H0.beyond hB)).mono ?_
    rintro e v6 ⟨a_u0, c_u0, rfl, o_u0, st⟩
    replace o_r := o_r.below st (Nat.le_refl _)
    replace o_x0 := o_x0.below st (Nat.le_refl _)
    replace o_g := o_g.below st (Nat.le_refl _)
    replace hB := hB.trans (st.mono hB.size)
    clear st
    go_wp2_with fail
    refine (eqIntS_any _ _ _ _ _ _ _ _ _ o_x0.has o_u0.has).mono ?_
    rintro e v7 ⟨rfl, q⟩
    have st : Below v6.heap.size v6 v7 := q.below _
    replace o_r := o_r.below st (Nat.le_refl _)
    replace o_x0 := o_x0.below st (Nat.le_refl _)
    replace o_g := o_g.below st (Nat.le_refl _)
    replace o_u0 := o_u0.below st (Nat.le_refl _)
    replace hB := hB.trans (st.mono hB.size)
    clear st
    clear q
    rw [same_self]
    clear o_u0
    have hn_g := o_g.le
    go_wp2_with fail
    refine (markIntS_any _ _ _ _ _ _ _ o_x0 (by omega) (by omega)).mono ?_
    rintro e v8 ⟨rfl, om, hm⟩
    replace o_r := o_r.marked_lt hm lt_r_x0 o_x0.ge
    replace o_g := o_g.marked_gt hm lt_x0_g
    replace hB := hB.trans (hm.below (o_x0.ge.mono k_x0) hB.size)
    clear hm o_x0
    have o_x0 := om
    clear om
    go_wp2_with fail
    refine (eqIntS_any _ _ _ _ _ _ _ _ _ o_g.has o_r.has).mono ?_
    rintro e v9 ⟨rfl, q⟩
    have st : Below v8.heap.size v8 v9 := q.below _
    replace o_r := o_r.below st (Nat.le_refl _)
    replace o_x0 := o_x0.below st (Nat.le_refl _)
    replace o_g := o_g.below st (Nat.le_refl _)
    replace hB := hB.trans (st.mono hB.size)
    clear st
    clear q
    rw [same_self]
    have hmm : ((1 : Int) + (n_g : Int) != (1 : Int) + (n_g : Int)) = false := neq_self_int _
    go_wp2_with fail
    refine (markIntS_any _ _ _ _ _ _ _ o_g (by omega) (by omega)).mono ?_
    rintro e v10 ⟨rfl, om, hm⟩
    replace o_r := o_r.marked_lt hm lt_r_g o_g.ge
    replace o_x0 := o_x0.marked_lt hm lt_x0_g o_g.ge
    replace hB := hB.trans (hm.below (o_g.ge.mono k_g) hB.size)
    clear hm o_g
    have o_g := om
    clear om
    go_wp2_with fail
    refine (heldIntS_any _ _ _ _ _ o_g.has (by omega) (by omega)).mono ?_
    rintro e _ ⟨rfl, rfl⟩
    have lt_r_s0 := o_r.lt
    have lt_x0_s0 := o_x0.lt
    have lt_g_s0 := o_g.lt
    have k_s0 := hB.size
    go_wp2_with fail
    refine (toIntS_any _ _ _ _ _ (H0.beyond hB)).mono ?_
    rintro e v11 ⟨a_s0, c_s0, rfl, o_s0, st⟩
    replace o_r := o_r.below st (Nat.le_refl _)
    replace o_x0 := o_x0.below st (Nat.le_refl _)
    replace o_g := o_g.below st (Nat.le_refl _)
    replace hB := hB.trans (st.mono hB.size)
    clear st
    have lt_r_h := o_r.lt
    have lt_x0_h := o_x0.lt
    have lt_g_h := o_g.lt
    have lt_s0_h := o_s0.lt
    have k_h := hB.size
    go_wp2_with fail
    refine (implLabelPt_any _ _ _ _ _ o_s0.has).mono ?_
    rw [HR.out]
    rintro e v12 ⟨a_h, n_h, c_h, rfl, o_h, st⟩
    replace o_r := o_r.below st (Nat.le_refl _)
    replace o_x0 := o_x0.below st (Nat.le_refl _)
    replace o_g := o_g.below st (Nat.le_refl _)
    replace o_s0 := o_s0.below st (Nat.le_refl _)
    replace hB := hB.trans (st.mono hB.size)
    clear st
    clear o_s0
    go_wp2_with fail
    refine (eqIntS_any _ _ _ _ _ _ _ _ _ o_h.has o_r.has).mono ?_
    rintro e v13 ⟨rfl, q⟩
    have st : Below v12.heap.size v12 v13 := q.below _
    replace o_r := o_r.below st (Nat.le_refl _)
    replace o_x0 := o_x0.below st (Nat.le_refl _)
    replace o_g := o_g.below st (Nat.le_refl _)
    replace o_h := o_h.below st (Nat.le_refl _)
    replace hB := hB.trans (st.mono hB.size)
    clear st
    clear q
    rw [same_self]
    go_wp2_with fail
    refine (heldIntS_any _ _ _ _ _ o_g.has (by omega) (by omega)).mono ?_
    rintro e _ ⟨rfl, rfl⟩
    go_wp2_with fail
    go_ret
    exact ⟨rfl, hB⟩
  · go_enter Try.func7, Try.ntmps7
    go_wp2_with fail
    go_ret
    exact ⟨rfl, Below.refl _ _⟩

/-! ### THE ROW's STEP: WRITTEN OUT: LEAVE IT -/
set_option maxRecDepth 100000 in
theorem lifted (os : Os) (started : os.Started) (H : Type) (enc : TypeId × Value → H) :
    ReturnsInHanded {} Try.checked os 7 .any (Rows.fnExactLabelOfPointSpec.pre6 enc Try.prog Try.f7 Rows.fnExactLabelOfPointRow.domain false) (Rows.fnExactLabelOfPointSpec.post enc Try.prog Try.f7 false true false false) := by
  refine returnsInHanded_of_change (C := Try.checked) own started (by kernel_rfl) Try.func7
    (ChangeSpec.witness6 (enc := enc) (C := Try.checked) false ⟨#[], #[.slice none 0 0], []⟩ 8 (by kernel_rfl) (by kernel_rfl) (by kernel_rfl) (by kernel_rfl)) ?_
  intro W base args ds gs before hval0 hW hcnd _
  have hval : ∀ (j : Nat) t v, Try.f7.params[j]? = some t → args[j]? = some v → Value.okWide Try.prog W .any base t v := hval0
  have hW' := hW
  obtain ⟨p, q, hA0, hV, rfl, hfz, hnd⟩ := hW
  have hA : DataW.TrodAll enc Try.prog W 0 (fun _ => true) true Try.f7.params.toList args.toList ds p := hA0
  rw [Try.params7] at hA hval
  obtain ⟨v0, vs0, d0, ds0, p0, q0, hargs, rfl, rfl, h0, r0⟩ := trodAll_cons hA
  obtain ⟨rfl, rfl, rfl⟩ := trodAll_nil r0
  obtain rfl : args = #[v0] := by cases args; simp_all
  obtain ⟨rfl, rfl⟩ := trodVars_none hV
  obtain ⟨a0, len0, cap0, rfl⟩ := okWide_slice Try.underlying22 (hval 0 22 v0 rfl rfl)
  have k0 := h0
  have lt0 : ∀ x ∈ p0, x.block < W.heap.size := by obtain ⟨m, hm⟩ := k0; exact DataW.trod_lt m _ _ _ hm
  obtain ⟨z0, w0⟩ : ∃ zs, IsRow .i64 W a0 len0 cap0 zs := by
    obtain ⟨fuel, hf⟩ := h0
    rcases open_ints Try.underlying22 Try.underlying3 (by kernel_rfl) hf with ⟨hcs, _⟩ | ⟨x, l, c, zs, hcs, _, hl, hm, hz, _, hcell, hwz⟩
    · simp [Value.cells] at hcs
      obtain ⟨rfl, rfl, rfl⟩ := hcs
      exact ⟨[], .inl ⟨rfl, rfl, rfl, rfl⟩⟩
    · simp [Value.cells] at hcs
      obtain ⟨rfl, rfl, rfl⟩ := hcs
      exact ⟨zs, .inr ⟨_, rfl, hl, hm, by simpa using hz, hcell, hwz⟩⟩
  clear hA0 hval0
  refine (walk a0 len0 cap0 z0 W w0).mono fun e W' ⟨he, bel⟩ => ?_
  subst he
  exact ⟨_, rfl, _, _, _, [], _, [], hW', trodAll_mk1 (shut_bool Try.underlying4 _), (trodAll_cons_mk (Below.trod laidOut (by kernel_rfl) (of_decide_eq_true (by kernel_rfl)) k0 bel lt0) trodAll_mk0), rfl, bel.frame _, fun h => by cases h⟩

theorem over : Rows.fnExactLabelOfPointRow.holds Try.pinned (OpenSpec.ofChange Rows.fnExactLabelOfPointSpec) :=
  OpenClaim.holds_of_wide 7 Try.f7 rfl rfl rfl rfl rfl rfl rfl ⟨rfl, rfl, rfl, rfl, rfl⟩ rfl rfl rfl rfl rfl (by kernel_rfl) Try.func7 (by kernel_rfl)
    (of_decide_eq_true (by kernel_rfl)) (by unfold Func.isWrapper; first | (rw [if_pos (by decide +kernel)]; kernel_rfl) | (rw [if_neg (by decide +kernel)]; exact ⟨rfl, rfl⟩))
    (fun os started H enc _ => lifted os started H enc)

/-- ████ THE STATEMENT ████ -/
theorem proved : Rows.FnExactLabelOfPointSaid := over
#print axioms proved
end Go.Proofs.Ytnddplldkgphnab.fnExactLabelOfPoint

