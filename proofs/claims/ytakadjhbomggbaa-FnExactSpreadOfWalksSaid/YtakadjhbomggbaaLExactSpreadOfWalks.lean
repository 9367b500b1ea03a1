/-
  Proved: laws.FnExactSpreadOfWalks answers true at every input, and leaves each argument as it was.
  No condition: every value of the parameters' types. The frame is the guide's shell; the walk goes by the contracts of the functions called.
-/
import Derived.Test.YtakadjhbomggbaaRows
import Derived.Test.YtakadjhbomggbaaLawKit
import Derived.Test.YtakadjhbomggbaaSpiF
import Derived.WalkKit
import Derived.ProofKit
import Derived.OpenShut
import Derived.ShutString
namespace Go.Proofs.Ytakadjhbomggbaa.fnExactSpreadOfWalks
open Go.ChangeShapes Go.WideShapes Go.ChangeAt Go.RowKit
open Go.ChangeMaps (open_string shut_string)
set_option linter.unusedVariables false      -- a walk need not use every 'w<i>' (that an integer argument fits its kind)

theorem own : ownKnob Try.prog.godebug = none := by kernel_rfl

/-! ### STEP 1: THE WALK: the Go text returns true. Part the cases AHEAD of 'go_enter' where a test parts the walk; take each callee by a contract of your own. -/
set_option maxHeartbeats 2000000 in
theorem walk (a0 : Int) (w0 : (Lit.int .i64 a0).wf = true) (w : World) :
    Calls Try.prog 6 #[.int .i64 a0] w fun e w' => e = .returned (.bool true) ∧ Below w.heap.size w w' := by
  obtain ⟨⟨y0, ok⟩, hr⟩ : ∃ r, spreadOf a0 = r := ⟨_, rfl⟩
  have HR := hid hr
  clear hr
  have hB : Below w.heap.size w w := Below.refl _ _
  have hok := neq_self_bool ok
  go_enter Try.func6, Try.ntmps6
  have k_r := hB.size
  go_wp2_with fail
  refine (specSpread_any _ _).mono ?_
  rw [HR.out]
  rintro e v1 ⟨a_r, n_r, c_r, rs_r, rfl, o_r, nn_r, st⟩
  replace hB := hB.trans (st.mono hB.size)
  clear st
  have N_r := hid nn_r
  clear nn_r
  have lt_r_g := o_r.lt
  have k_g := hB.size
  have sz_g : v1.heap.size ≤ v1.heap.size := Nat.le_refl _
  go_wp2_with fail
  refine (implSpread_any _ _).mono ?_
  rw [HR.out]
  rintro e v2 ⟨a_g, n_g, c_g, rs_g, rfl, o_g, nn_g, st⟩
  replace o_r := o_r.below st (Nat.le_refl _)
  replace hB := hB.trans (st.mono hB.size)
  replace sz_g := Nat.le_trans sz_g st.size
  clear st
  have N_g := hid nn_g
  clear nn_g
  go_wp2_with fail
  refine (eqIntSS_any _ _ _ _ _ _ _ _ _ o_g.has o_r.has).mono ?_
  rintro e v3 ⟨rfl, q⟩
  have st : Below v2.heap.size v2 v3 := q.below _
  replace o_r := o_r.below st (Nat.le_refl _)
  replace o_g := o_g.below st (Nat.le_refl _)
  replace hB := hB.trans (st.mono hB.size)
  replace sz_g := Nat.le_trans sz_g st.size
  clear st
  clear q
  rw [sameR_self' (N_g.out.trans N_r.out.symm)]
  have hmm : ((1 : Int) + (sumLen rs_g n_g : Int) != (1 : Int) + (sumLen rs_g n_g : Int)) = false := neq_self_int _
  have hnn : ¬ (1 : Int) + (sumLen rs_g n_g : Int) < 0 := by omega
  go_wp2_with fail
  refine (markIntSS_any _ _ _ _ _ _ o_g (Nat.le_trans (Nat.le_refl _) sz_g)).mono ?_
  rintro e v4 ⟨rfl, om, hm⟩
  replace o_r := o_r.belowB hm lt_r_g
  replace hB := hB.trans (hm.mono k_g)
  clear hm o_g sz_g
  have o_g := om
  clear om
  go_wp2_with fail
  refine (heldIntSS_any _ _ _ rs_g _ o_g.has).mono ?_
  rintro e _ ⟨rfl, rfl⟩
  have lt_r_h := o_r.lt
  have lt_g_h := o_g.lt
  have k_h := hB.size
  go_wp2_with fail
  refine (implSpread_any _ _).mono ?_
  rw [HR.out]
  rintro e v5 ⟨a_h, n_h, c_h, rs_h, rfl, o_h, nn_h, st⟩
  replace o_r := o_r.below st (Nat.le_refl _)
  replace o_g := o_g.below st (Nat.le_refl _)
  replace hB := hB.trans (st.mono hB.size)
  clear st
  have N_h := hid nn_h
  clear nn_h
  go_wp2_with fail
  refine (eqIntSS_any _ _ _ _ _ _ _ _ _ o_h.has o_r.has).mono ?_
  rintro e v6 ⟨rfl, q⟩
  have st : Below v5.heap.size v5 v6 := q.below _
  replace o_r := o_r.below st (Nat.le_refl _)
  replace o_g := o_g.below st (Nat.le_refl _)
  replace o_h := o_h.below st (Nat.le_refl _)
  replace hB := hB.trans (st.mono hB.size)
  clear st
  clear q
  rw [sameR_self' (N_h.out.trans N_r.out.symm)]
  go_wp2_with fail
  refine (heldIntSS_any _ _ _ rs_g _ o_g.has).mono ?_
  rintro e _ ⟨rfl, rfl⟩
  go_wp2_with fail
  go_ret
  exact ⟨rfl, hB⟩
  -- go_enter Try.func6, Try.ntmps6
  -- go_wp2
  -- go_ret
  -- exact ⟨rfl, by repeat (first | exact Grown.refl _ | apply Grown.drew | apply Grown.alloc)⟩

/-! ### THE ROW's STEP: WRITTEN OUT: LEAVE IT -/
set_option maxRecDepth 100000 in
theorem lifted (os : Os) (started : os.Started) (H : Type) (enc : TypeId × Value → H) :
    ReturnsInHanded {} Try.checked os 6 .any (Rows.fnExactSpreadOfWalksSpec.pre6 enc Try.prog Try.f6 Rows.fnExactSpreadOfWalksRow.domain false) (Rows.fnExactSpreadOfWalksSpec.post enc Try.prog Try.f6 false true false false) := by
  refine returnsInHanded_of_change (C := Try.checked) own started (by kernel_rfl) Try.func6
    (ChangeSpec.witness6 (enc := enc) (C := Try.checked) false ⟨#[], #[.int .i64 0], []⟩ 8 (by kernel_rfl) (by kernel_rfl) (by kernel_rfl) (by kernel_rfl)) ?_
  intro W base args ds gs before hval0 hW hcnd _
  have hval : ∀ (j : Nat) t v, Try.f6.params[j]? = some t → args[j]? = some v → Value.okWide Try.prog W .any base t v := hval0
  have hW' := hW
  obtain ⟨p, q, hA0, hV, rfl, hfz, hnd⟩ := hW
  have hA : DataW.TrodAll enc Try.prog W 0 (fun _ => true) true Try.f6.params.toList args.toList ds p := hA0
  rw [Try.params6] at hA hval
  obtain ⟨v0, vs0, d0, ds0, p0, q0, hargs, rfl, rfl, h0, r0⟩ := trodAll_cons hA
  obtain ⟨rfl, rfl, rfl⟩ := trodAll_nil r0
  obtain rfl : args = #[v0] := by cases args; simp_all
  obtain ⟨rfl, rfl⟩ := trodVars_none hV
  obtain ⟨a0, rfl, rfl, rfl, w0⟩ := open_int Try.underlying3 (hval 0 3 v0 rfl rfl) h0
  clear hA0 hval0
  simp only [List.append_nil] at hW'
  refine (walk a0 w0 W).mono fun e W' ⟨he, hg⟩ => ?_
  subst he
  exact ⟨_, rfl, post_grew (pa := []) (pv := []) hW' (fun _ _ _ => (trodAll_cons_mk (shut_bool Try.underlying4 _) trodAll_mk0)) (fun sp _ => (trodAll_cons_mk (shut_int Try.underlying3 w0) trodAll_mk0)) (fun _ _ => rfl) rfl
    hg (ok_one (by kernel_rfl) rfl (okWide_bool_mk Try.underlying4 _))⟩

theorem over : Rows.fnExactSpreadOfWalksRow.holds Try.pinned (OpenSpec.ofChange Rows.fnExactSpreadOfWalksSpec) :=
  OpenClaim.holds_of_wide 6 Try.f6 rfl rfl rfl rfl rfl rfl rfl ⟨rfl, rfl, rfl, rfl, rfl⟩ rfl rfl rfl rfl rfl (by kernel_rfl) Try.func6 (by kernel_rfl)
    (of_decide_eq_true (by kernel_rfl)) (by unfold Func.isWrapper; first | (rw [if_pos (by decide +kernel)]; kernel_rfl) | (rw [if_neg (by decide +kernel)]; exact ⟨rfl, rfl⟩))
    (fun os started H enc _ => lifted os started H enc)

/-- ████ THE STATEMENT ████ -/
theorem proved : Rows.FnExactSpreadOfWalksSaid :=
  over
#print axioms proved
end Go.Proofs.Ytakadjhbomggbaa.fnExactSpreadOfWalks

