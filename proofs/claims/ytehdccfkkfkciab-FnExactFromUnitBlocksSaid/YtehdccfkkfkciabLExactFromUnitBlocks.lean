/-
  Proved: laws.FnExactFromUnitBlocks answers true at every input, and leaves its argument as it was.
  No condition: every value of the parameter's type. The frame is the guide's shell; the walk goes by the contracts of the functions called.
-/
import Derived.Test.YtehdccfkkfkciabRows
import Derived.Test.YtehdccfkkfkciabFubF
import Derived.Deep.Matrix
import Derived.WalkKit
import Derived.ProofKit
import Derived.OpenShut
import Derived.ShutString
import Derived.ChangeOld
import Derived.Below
namespace Go.Proofs.Ytehdccfkkfkciab.fnExactFromUnitBlocks
open Go.ChangeShapes Go.WideShapes Go.ChangeAt Go.RowKit
open Go.ChangeMaps (open_string shut_string)
set_option linter.unusedVariables false

theorem own : ownKnob Try.prog.godebug = none := by kernel_rfl
theorem laidOut : laidOutB Try.prog = true := by kernel_rfl

/-- WHAT THE WALK IS TOLD OF A SLICE OF INTEGERS THAT CAME IN: it is nil; or it leads to a row of 'cap' cells, the numbers 'zs' (the first 'len' are its elements, the rest its spare room), each fitting its kind. -/
def IsRow (k : IntKind) (w : World) (a : Option Addr) (len cap : Nat) (zs : List Int) : Prop :=
  (a = none ∧ len = 0 ∧ cap = 0 ∧ zs = []) ∨
  ∃ x, a = some x ∧ len ≤ cap ∧ cap ≤ maxLen ∧ zs.length = cap ∧ (∀ i, i < zs.length → w.cell? (x.add i) = some (.int k (zs.getD i 0))) ∧ ∀ n ∈ zs, (Lit.int k n).wf = true

/-! ### The walk -/
open Go.Proofs.Ytehdccfkkfkciab in
set_option maxHeartbeats 4000000 in
theorem walk (a0 : Option Addr) (len0 cap0 : Nat) (A0 : Nat → Option Addr) (L0 C0 : Nat → Nat) (Z0 : Nat → List Int) (w : World) (w0 : RawR w a0 len0 cap0 A0 L0 C0 Z0) (hm0 : len0 ≤ maxLen) :
    Calls Try.prog 5 #[.slice a0 len0 cap0] w fun e w' => e = .returned (.bool true) ∧ Below w.heap.size w w' := by
  have HSZ := hid (szIntSS_any a0 len0 cap0 A0 L0 C0 Z0 w w0 hm0)
  have HRW := hid (fun h1 h2 => hasR_of_raw w0 h1 h2)
  clear w0 hm0
  go_enter Try.func5, Try.ntmps5
  go_wp2_with fail
  refine HSZ.out.mono ?_
  rintro e _ ⟨rfl, ⟨v, rfl, hv⟩ | ⟨v, rfl, hl, hL⟩⟩
  · go_wp2_with fail
    go_ret
    exact ⟨rfl, Below.refl _ _⟩
  · obtain ⟨rs0, H0⟩ := HRW.out hl hL
    obtain ⟨bs, hbs⟩ : ∃ bs, numsOf rs0 = bs := ⟨_, rfl⟩
    have HBS := hid hbs
    obtain ⟨⟨y0, ok⟩, hr⟩ : ∃ r, fromUnit bs = r := ⟨_, rfl⟩
    have HR := hid hr
    have HH := hid H0
    have hok := neq_self_bool ok
    have hv0 : ¬ (v : Int) < 0 := by omega
    have hB : Below w.heap.size w w := Below.refl _ _
    clear hr hbs hL H0 HRW HSZ
    have k_t := hB.size
    go_wp2_with fail
    refine (toIntSS_any _ _ _ _ bs _ (HH.out.below hB (Nat.le_refl _)) HBS.out).mono ?_
    rintro e v1 ⟨a_t, c_t, rs_t, rfl, o_t, nn_t, st⟩
    replace hB := hB.trans (st.mono hB.size)
    clear st
    have N_t := hid nn_t
    clear nn_t
    go_wp2_with fail
    refine (specFrom_any _ _ _ _ _ o_t.has).mono ?_
    rw [N_t.out, HR.out]
    rintro e v2 ⟨a_r, n_r, c_r, rfl, o_r, st⟩
    replace o_t := o_t.below st (Nat.le_refl _)
    replace hB := hB.trans (st.mono hB.size)
    clear st
    clear o_t
    have lt_r_x := o_r.lt
    have k_x := hB.size
    go_wp2_with fail
    refine (toIntSS_any _ _ _ _ bs _ (HH.out.below hB (Nat.le_refl _)) HBS.out).mono ?_
    rintro e v3 ⟨a_x, c_x, rs_x, rfl, o_x, nn_x, st⟩
    have szx0 := st.size
    replace o_r := o_r.below st (Nat.le_refl _)
    replace hB := hB.trans (st.mono hB.size)
    clear st
    have N_x := hid nn_x
    clear nn_x
    have sz_x : v2.heap.size ≤ v3.heap.size := szx0
    have lt_x_g := o_x.lt
    have lt_r_g := o_r.lt
    have kg0 := hB.size
    go_wp2_with fail
    refine (implFrom_any _ _ _ _ _ o_x.has).mono ?_
    rw [N_x.out, HR.out]
    rintro e v4 ⟨a_g, n_g, c_g, rfl, o_g, st⟩
    replace o_r := o_r.below st (Nat.le_refl _)
    replace o_x := o_x.below st (Nat.le_refl _)
    replace sz_x := Nat.le_trans sz_x st.size
    replace hB := hB.trans (st.mono hB.size)
    clear st
    go_wp2_with fail
    refine (eqIntS_any _ _ _ _ _ _ _ _ _ o_g.has o_r.has).mono ?_
    rintro e v5 ⟨rfl, q⟩
    have st : Below v4.heap.size v4 v5 := q.below _
    replace o_r := o_r.below st (Nat.le_refl _)
    replace o_g := o_g.below st (Nat.le_refl _)
    replace o_x := o_x.below st (Nat.le_refl _)
    replace sz_x := Nat.le_trans sz_x st.size
    replace hB := hB.trans (st.mono hB.size)
    clear st
    clear q
    rw [same_self]
    have k_u := hB.size
    go_wp2_with fail
    refine (toIntSS_any _ _ _ _ bs _ (HH.out.below hB (Nat.le_refl _)) HBS.out).mono ?_
    rintro e v6 ⟨a_u, c_u, rs_u, rfl, o_u, nn_u, st⟩
    replace o_r := o_r.below st (Nat.le_refl _)
    replace o_g := o_g.below st (Nat.le_refl _)
    replace o_x := o_x.below st (Nat.le_refl _)
    replace sz_x := Nat.le_trans sz_x st.size
    replace hB := hB.trans (st.mono hB.size)
    clear st
    have N_u := hid nn_u
    clear nn_u
    go_wp2_with fail
    refine (eqIntSS_any _ _ _ _ _ _ _ _ _ o_x.has o_u.has).mono ?_
    rintro e v7 ⟨rfl, q⟩
    have st : Below v6.heap.size v6 v7 := q.below _
    replace o_r := o_r.below st (Nat.le_refl _)
    replace o_g := o_g.below st (Nat.le_refl _)
    replace o_x := o_x.below st (Nat.le_refl _)
    replace o_u := o_u.below st (Nat.le_refl _)
    replace sz_x := Nat.le_trans sz_x st.size
    replace hB := hB.trans (st.mono hB.size)
    clear st
    clear q
    rw [sameR_self' (N_x.out.trans N_u.out.symm)]
    clear o_u
    have hn_g := o_g.le
    have lx := o_x.len
    have hng : ¬ (1 : Int) + (sumLen rs_x len0 : Int) < 0 := by omega
    go_wp2_with fail
    refine (markIntSS_keep _ _ _ _ _ _ o_x sz_x _ _ _ _ _ o_g (fun i hi => lt_x_g.2 i (by omega))).mono ?_
    rintro e v8 ⟨rfl, -, og, hm⟩
    replace o_r := o_r.belowB hm lt_r_x
    replace hB := hB.trans (hm.mono k_x)
    clear hm o_x o_g sz_x
    have o_g := og
    clear og
    go_wp2_with fail
    refine (eqIntS_any _ _ _ _ _ _ _ _ _ o_g.has o_r.has).mono ?_
    rintro e v9 ⟨rfl, q⟩
    have st : Below v8.heap.size v8 v9 := q.below _
    replace o_r := o_r.below st (Nat.le_refl _)
    replace o_g := o_g.below st (Nat.le_refl _)
    replace hB := hB.trans (st.mono hB.size)
    clear st
    clear q
    rw [same_self]
    have k_g : w.heap.size ≤ w.heap.size := Nat.le_refl _
    have hmm : ((1 : Int) + (n_g : Int) != (1 : Int) + (n_g : Int)) = false := neq_self_int _
    go_wp2_with fail
    refine (markIntS_any _ _ _ _ _ _ _ o_g (by omega) (by omega)).mono ?_
    rintro e v10 ⟨rfl, om, hm⟩
    replace o_r := o_r.marked_lt hm lt_r_g o_g.ge
    replace hB := hB.trans (hm.below (o_g.ge.mono kg0) hB.size)
    clear hm o_g
    have o_g := om
    clear om
    go_wp2_with fail
    refine (heldIntS_any _ _ _ _ _ o_g.has (by omega) (by omega)).mono ?_
    rintro e _ ⟨rfl, rfl⟩
    have k_s := hB.size
    go_wp2_with fail
    refine (toIntSS_any _ _ _ _ bs _ (HH.out.below hB (Nat.le_refl _)) HBS.out).mono ?_
    rintro e v11 ⟨a_s, c_s, rs_s, rfl, o_s, nn_s, st⟩
    replace o_r := o_r.below st (Nat.le_refl _)
    replace o_g := o_g.below st (Nat.le_refl _)
    replace hB := hB.trans (st.mono hB.size)
    clear st
    have N_s := hid nn_s
    clear nn_s
    go_wp2_with fail
    refine (implFrom_any _ _ _ _ _ o_s.has).mono ?_
    rw [N_s.out, HR.out]
    rintro e v12 ⟨a_h, n_h, c_h, rfl, o_h, st⟩
    replace o_r := o_r.below st (Nat.le_refl _)
    replace o_g := o_g.below st (Nat.le_refl _)
    replace o_s := o_s.below st (Nat.le_refl _)
    replace hB := hB.trans (st.mono hB.size)
    clear st
    clear o_s
    go_wp2_with fail
    refine (eqIntS_any _ _ _ _ _ _ _ _ _ o_h.has o_r.has).mono ?_
    rintro e v13 ⟨rfl, q⟩
    have st : Below v12.heap.size v12 v13 := q.below _
    replace o_r := o_r.below st (Nat.le_refl _)
    replace o_g := o_g.below st (Nat.le_refl _)
    replace o_h := o_h.below st (Nat.le_refl _)
    replace hB := hB.trans (st.mono hB.size)
    clear st
    clear q
    rw [same_self]
    go_wp2_with fail
    refine (heldIntS_any _ _ _ _ _ o_g.has (by omega) (by omega)).mono ?_
    rintro e _ ⟨rfl, rfl⟩
    go_wp2_with fail
    go_ret
    exact ⟨rfl, hB⟩

/-! ### THE ROW's STEP: WRITTEN OUT: LEAVE IT -/
set_option maxRecDepth 100000 in
theorem lifted (os : Os) (started : os.Started) (H : Type) (enc : TypeId × Value → H) :
    ReturnsInHanded {} Try.checked os 5 .any (Rows.fnExactFromUnitBlocksSpec.pre6 enc Try.prog Try.f5 Rows.fnExactFromUnitBlocksRow.domain false) (Rows.fnExactFromUnitBlocksSpec.post enc Try.prog Try.f5 false true false false) := by
  refine returnsInHanded_of_change (C := Try.checked) own started (by kernel_rfl) Try.func5
    (ChangeSpec.witness6 (enc := enc) (C := Try.checked) false ⟨#[], #[.slice none 0 0], []⟩ 8 (by kernel_rfl) (by kernel_rfl) (by kernel_rfl) (by kernel_rfl)) ?_
  intro W base args ds gs before hval0 hW hcnd _
  have hval : ∀ (j : Nat) t v, Try.f5.params[j]? = some t → args[j]? = some v → Value.okWide Try.prog W .any base t v := hval0
  have hW' := hW
  obtain ⟨p, q, hA0, hV, rfl, hfz, hnd⟩ := hW
  have hA : DataW.TrodAll enc Try.prog W 0 (fun _ => true) true Try.f5.params.toList args.toList ds p := hA0
  rw [Try.params5] at hA hval
  obtain ⟨v0, vs0, d0, ds0, p0, q0, hargs, rfl, rfl, h0, r0⟩ := trodAll_cons hA
  obtain ⟨rfl, rfl, rfl⟩ := trodAll_nil r0
  obtain rfl : args = #[v0] := by cases args; simp_all
  obtain ⟨rfl, rfl⟩ := trodVars_none hV
  obtain ⟨a0, len0, cap0, rfl⟩ := okWide_slice Try.underlying26 (hval 0 26 v0 rfl rfl)
  have k0 := h0
  have lt0 : ∀ x ∈ p0, x.block < W.heap.size := by obtain ⟨m, hm⟩ := k0; exact DataW.trod_lt m _ _ _ hm
  obtain ⟨A0, L0, C0, Z0, w0, hm0⟩ : ∃ A L C Z, Ytehdccfkkfkciab.RawR W a0 len0 cap0 A L C Z ∧ len0 ≤ maxLen := by
    obtain ⟨fuel, hf⟩ := h0
    rcases Go.Deep.open_int_rows Try.underlying26 Try.underlying25 Try.underlying3 (by kernel_rfl) (by kernel_rfl) hf with ⟨hcs, _⟩ | ⟨x, l, c, A1, L1, C1, Z1, hcs, _, hl, hm, _, hr⟩
    · simp [Value.cells] at hcs
      obtain ⟨rfl, rfl, rfl⟩ := hcs
      exact ⟨fun _ => none, fun _ => 0, fun _ => 0, fun _ => [], .inl ⟨rfl, rfl, rfl⟩, by unfold maxLen; omega⟩
    · simp [Value.cells] at hcs
      obtain ⟨rfl, rfl, rfl⟩ := hcs
      refine ⟨A1, L1, C1, Z1, .inr ⟨_, rfl, hl, hm, fun r hr' => ?_⟩, Nat.le_trans hl hm⟩
      obtain ⟨k1, k2, k3, k4, k5, k6, k7⟩ := hr r hr'
      exact ⟨k1, k2, k3, k4, k5, k6, fun a' ha => (k7 a' ha).2⟩
  clear hA0 hval0
  refine (walk a0 len0 cap0 A0 L0 C0 Z0 W w0 hm0).mono fun e W' ⟨he, bel⟩ => ?_
  subst he
  exact ⟨_, rfl, _, _, _, [], _, [], hW', trodAll_mk1 (shut_bool Try.underlying4 _), (trodAll_cons_mk (Below.trod laidOut (by kernel_rfl) (of_decide_eq_true (by kernel_rfl)) k0 bel lt0) trodAll_mk0), rfl, bel.frame _, fun h => by cases h⟩

theorem over : Rows.fnExactFromUnitBlocksRow.holds Try.pinned (OpenSpec.ofChange Rows.fnExactFromUnitBlocksSpec) :=
  OpenClaim.holds_of_wide 5 Try.f5 rfl rfl rfl rfl rfl rfl rfl ⟨rfl, rfl, rfl, rfl, rfl⟩ rfl rfl rfl rfl rfl (by kernel_rfl) Try.func5 (by kernel_rfl)
    (of_decide_eq_true (by kernel_rfl)) (by unfold Func.isWrapper; first | (rw [if_pos (by decide +kernel)]; kernel_rfl) | (rw [if_neg (by decide +kernel)]; exact ⟨rfl, rfl⟩))
    (fun os started H enc _ => lifted os started H enc)

/-- ████ THE STATEMENT ████ -/
theorem proved : Rows.FnExactFromUnitBlocksSaid := over
#print axioms proved
end Go.Proofs.Ytehdccfkkfkciab.fnExactFromUnitBlocks
