/-
  Proved: laws.FnExactIsDesk answers true at every input, and leaves each argument as it was.
  No condition: every value of the parameters' types. The frame is the guide's shell; the walk goes by the contracts of the functions called.
-/
import Derived.Test.YtnddplldkgphnaaRows
import Derived.Test.YtnddplldkgphnaaLawKit
import Derived.Test.YtnddplldkgphnaaDsk
import Derived.WalkKit
import Derived.ProofKit
import Derived.OpenShut
import Derived.ShutString
import Derived.ChangeOld
import Derived.Below
import Derived.Deep.DeepCutAuto
import Derived.Deep.RegionWith
import Derived.Lib.SmallJoins
namespace Go.Proofs.Ytnddplldkgphnaa.fnExactIsDesk
open Go.ChangeShapes Go.WideShapes Go.ChangeAt Go.RowKit
open Go.ChangeMaps (open_string shut_string)
set_option linter.unusedVariables false

theorem own : ownKnob Try.prog.godebug = none := by kernel_rfl
theorem laidOut : laidOutB Try.prog = true := by kernel_rfl

/-- WHAT THE WALK IS TOLD OF A SLICE OF INTEGERS THAT CAME IN: it is nil; or it leads to a row of 'cap' cells, the numbers 'zs' (the first 'len' are its elements, the rest its spare room), each fitting its kind. -/
def IsRow (k : IntKind) (w : World) (a : Option Addr) (len cap : Nat) (zs : List Int) : Prop :=
  (a = none ∧ len = 0 ∧ cap = 0 ∧ zs = []) ∨
  ∃ x, a = some x ∧ len ≤ cap ∧ cap ≤ maxLen ∧ zs.length = cap ∧ (∀ i, i < zs.length → w.cell? (x.add i) = some (.int k (zs.getD i 0))) ∧ ∀ n ∈ zs, (Lit.int k n).wf = true

theorem cellsW : Try.prog.cellsOf 33 = 2 := by kernel_rfl
theorem cellsS : Try.prog.cellsOf 22 = 1 := by kernel_rfl
/-- A field that is a slice of integers. -/
theorem field_row {H : Type} {enc : TypeId × Value → H} {W : World} {base : Nat} {held : Bool} {m : Nat} {c : Value} {y : DataW H × List MemPlace} (h : DataW.trod enc Try.prog W base (fun _ => true) held m 22 [c] = some y) :
    ∃ a len cap zs, c = .slice a len cap ∧ IsRow .i64 W a len cap zs := by
  rcases open_ints Try.underlying22 Try.underlying3 (by kernel_rfl) h with ⟨hcs, _⟩ | ⟨x, l, cp, zs, hcs, _, hl, hm, hz, _, hcell, hwz⟩
  · simp at hcs
    subst hcs
    exact ⟨none, 0, 0, [], rfl, .inl ⟨rfl, rfl, rfl, rfl⟩⟩
  · simp at hcs
    subst hcs
    exact ⟨_, _, _, zs, rfl, .inr ⟨_, rfl, hl, hm, by simpa using hz, hcell, hwz⟩⟩

/-! ### STEP 1: THE WALK: the Go text returns true, AND WRITES NOTHING THAT WAS THERE: 'Below w.heap.size w w'' (Derived/Below.lean: '.refl', '.alloc', '.drew', '.setCell' at a new block, '.trans'). Open each 'IsRow' by 'rcases' AHEAD of 'go_enter'; part every test ahead of the walk. -/
set_option maxRecDepth 100000 in
set_option maxHeartbeats 4000000 in
theorem walk (a0 b0 : Option Addr) (len0 cap0 blen0 bcap0 : Nat) (z0 bz0 : List Int) (w : World) (w0 : IsRow .i64 w a0 len0 cap0 z0) (wb0 : IsRow .i64 w b0 blen0 bcap0 bz0) :
    Calls Try.prog 4 #[.agg #[.slice a0 len0 cap0, .slice b0 blen0 bcap0]] w fun e w' => e = .returned (.bool true) ∧ Below w.heap.size w w' := by
  by_cases hs : (len0 : Int) + (blen0 : Int) ≤ 1048576
  · obtain ⟨xs0, H0⟩ := has_of_row w0 (by omega)
    obtain ⟨ls0, H1⟩ := has_of_row wb0 (by omega)
    clear w0 wb0
    have HZ : Hid (szTwo len0 blen0 1048576 = 1048576 - (len0 : Int) - (blen0 : Int)) := hid (by unfold szTwo; rw [if_pos hs])
    have hz : ¬ (1048576 - (len0 : Int) - (blen0 : Int) < 0) := by omega
    obtain ⟨y0, hr⟩ : ∃ r, deskB xs0 ls0 = r := ⟨_, rfl⟩
    have HR := hid hr
    clear hr
    have hB : Below w.heap.size w w := Below.refl _ _
    have hy := neq_self_bool y0
    go_enter Try.func4, Try.ntmps4
    have st : Below w.heap.size w (w.alloc (.cells #[.slice a0 len0 cap0, .slice b0 blen0 bcap0] 33)) := (Below.refl _ _).alloc (Nat.le_refl _) _
    have X_a : BoxAt (w.alloc (.cells #[.slice a0 len0 cap0, .slice b0 blen0 bcap0] 33)) w.heap.size (.slice a0 len0 cap0) (.slice b0 blen0 bcap0) := boxAt_new _ _ _ _
    go_wp2_with fail
    generalize w.alloc (.cells #[.slice a0 len0 cap0, .slice b0 blen0 bcap0] 33) = v1 at *
    replace hB := hB.trans (st.mono hB.size)
    clear st
    obtain ⟨X_a_1, X_a_2, X_a_3, X_a_4⟩ := id X_a
    go_wp2_with fail
    refine (szDesk_any _ _ _ _ _ _ _ _ (by omega) (by omega) (by omega) (by omega)).mono ?_
    rw [HZ.out]
    rintro e v2 ⟨rfl, st⟩
    clear X_a_1 X_a_2 X_a_3 X_a_4
    replace X_a := X_a.below st (boxAt_lt X_a)
    replace hB := hB.trans (st.mono hB.size)
    clear st
    have bo_X_a_ta := X_a
    have k_ta := hB.size
    have bo_X_a_tb := X_a
    have k_tb := hB.size
    obtain ⟨X_a_1, X_a_2, X_a_3, X_a_4⟩ := id X_a
    go_wp2_with fail
    refine (toDesk_any _ _ _ _ _ _ _ _ _ (H0.beyond hB) (H1.beyond hB)).mono ?_
    rintro e v3 ⟨a_t, c_t, b_t, d_t, rfl, o_ta, o_tb, ap_ta_tb, st⟩
    clear X_a_1 X_a_2 X_a_3 X_a_4
    have nb_X_a_ta := box_new bo_X_a_ta o_ta.ge (Nat.le_refl _)
    clear bo_X_a_ta
    have nb_X_a_tb := box_new bo_X_a_tb o_tb.ge (Nat.le_refl _)
    clear bo_X_a_tb
    replace X_a := X_a.below st (boxAt_lt X_a)
    replace hB := hB.trans (st.mono hB.size)
    clear st
    obtain ⟨X_a_1, X_a_2, X_a_3, X_a_4⟩ := id X_a
    go_wp2_with fail
    refine (specIsDesk_any _ _ _ _ _ _ _ _ _ o_ta.has o_tb.has).mono ?_
    rw [HR.out]
    rintro e v4 ⟨rfl, st⟩
    clear X_a_1 X_a_2 X_a_3 X_a_4
    replace o_ta := o_ta.below st (Nat.le_refl _)
    replace o_tb := o_tb.below st (Nat.le_refl _)
    replace X_a := X_a.below st (boxAt_lt X_a)
    replace hB := hB.trans (st.mono hB.size)
    clear st
    clear o_ta
    clear o_tb
    have bo_X_a_xa := X_a
    have k_xa := hB.size
    have bo_X_a_xb := X_a
    have k_xb := hB.size
    obtain ⟨X_a_1, X_a_2, X_a_3, X_a_4⟩ := id X_a
    go_wp2_with fail
    refine (toDesk_any _ _ _ _ _ _ _ _ _ (H0.beyond hB) (H1.beyond hB)).mono ?_
    rintro e v5 ⟨a_x, c_x, b_x, d_x, rfl, o_xa, o_xb, ap_xa_xb, st⟩
    clear X_a_1 X_a_2 X_a_3 X_a_4
    have nb_X_a_xa := box_new bo_X_a_xa o_xa.ge (Nat.le_refl _)
    clear bo_X_a_xa
    have nb_X_a_xb := box_new bo_X_a_xb o_xb.ge (Nat.le_refl _)
    clear bo_X_a_xb
    replace X_a := X_a.below st (boxAt_lt X_a)
    replace hB := hB.trans (st.mono hB.size)
    clear st
    have st : Below v5.heap.size v5 (v5.alloc (.cells #[.slice a_x len0 c_x, .slice b_x blen0 d_x] 26)) := (Below.refl _ _).alloc (Nat.le_refl _) _
    have X_x : BoxAt (v5.alloc (.cells #[.slice a_x len0 c_x, .slice b_x blen0 d_x] 26)) v5.heap.size (.slice a_x len0 c_x) (.slice b_x blen0 d_x) := boxAt_new _ _ _ _
    have nb_X_x_xa := box_old o_xa.lt
    have nb_X_x_xb := box_old o_xb.lt
    obtain ⟨X_a_1, X_a_2, X_a_3, X_a_4⟩ := id X_a
    have X_a_n := X_a.below st (boxAt_lt X_a)
    obtain ⟨X_a_5, X_a_6, X_a_7, X_a_8⟩ := id X_a_n
    go_wp2_with fail
    clear X_a_1 X_a_2 X_a_3 X_a_4
    clear X_a_5 X_a_6 X_a_7 X_a_8
    clear X_a_n
    generalize v5.alloc (.cells #[.slice a_x len0 c_x, .slice b_x blen0 d_x] 26) = v6 at *
    replace o_xa := o_xa.below st (Nat.le_refl _)
    replace o_xb := o_xb.below st (Nat.le_refl _)
    replace X_a := X_a.below st (boxAt_lt X_a)
    replace hB := hB.trans (st.mono hB.size)
    clear st
    obtain ⟨X_a_1, X_a_2, X_a_3, X_a_4⟩ := id X_a
    obtain ⟨X_x_1, X_x_2, X_x_3, X_x_4⟩ := id X_x
    go_wp2_with fail
    refine (implIsDesk_any _ _ _ _ _ _ _ _ _ o_xa.has o_xb.has).mono ?_
    rw [HR.out]
    rintro e v7 ⟨rfl, st⟩
    clear X_a_1 X_a_2 X_a_3 X_a_4 X_x_1 X_x_2 X_x_3 X_x_4
    replace o_xa := o_xa.below st (Nat.le_refl _)
    replace o_xb := o_xb.below st (Nat.le_refl _)
    replace X_a := X_a.below st (boxAt_lt X_a)
    replace X_x := X_x.below st (boxAt_lt X_x)
    replace hB := hB.trans (st.mono hB.size)
    clear st
    obtain ⟨X_a_1, X_a_2, X_a_3, X_a_4⟩ := id X_a
    obtain ⟨X_x_1, X_x_2, X_x_3, X_x_4⟩ := id X_x
    go_upto_region 10 with fail
    go_cut [26] (fun c wx => c = .bool false ∧ Below v7.heap.size v7 wx)
    case first =>
      have std : Below v7.heap.size v7 v7.drew := (Below.refl _ _).drew
      have hBd := hB.drew
      have o_da := o_xa.below std (Nat.le_refl _)
      have o_db := o_xb.below std (Nat.le_refl _)
      have X_d := X_x.below std (boxAt_lt X_x)
      go_region_with (first | (go_at_call 12; refine (toDesk_any _ _ _ _ _ _ _ _ _ (H0.beyond hBd) (H1.beyond hBd)).mono ?_; rintro e wu ⟨a_u, c_u, b_u, d_u, rfl, o_ua, o_ub, ap_u, stu⟩; have o_ya := o_da.below stu (Nat.le_refl _); have o_yb := o_db.below stu (Nat.le_refl _); obtain ⟨y_1, y_2, y_3, y_4⟩ := X_d.below stu (boxAt_lt X_d)) | (go_at_call 7; refine (eqDesk_any _ _ _ _ _ _ _ _ _ _ _ _ _ _ _ _ _ o_ya.has o_yb.has o_ua.has o_ub.has).mono ?_; rintro e wz ⟨rfl, stz⟩; have stf := std.trans ((stu.trans (stz.mono stu.size)).mono std.size); rw [same_self, same_self]))
      all_goals (go_wp2_with fail; go_meet; exact ⟨rfl, stf⟩)
    case rest =>
      clear X_a_1 X_a_2 X_a_3 X_a_4 X_x_1 X_x_2 X_x_3 X_x_4
      obtain ⟨rfl, st⟩ := hcut
      replace o_xa := o_xa.below st (Nat.le_refl _)
      replace o_xb := o_xb.below st (Nat.le_refl _)
      replace X_a := X_a.below st (boxAt_lt X_a)
      replace X_x := X_x.below st (boxAt_lt X_x)
      replace hB := hB.trans (st.mono hB.size)
      clear st
      obtain ⟨X_a_1, X_a_2, X_a_3, X_a_4⟩ := id X_a
      obtain ⟨X_x_1, X_x_2, X_x_3, X_x_4⟩ := id X_x
      go_wp2_with fail
      go_ret
      exact ⟨rfl, hB⟩
  · have hla : (len0 : Int) ≤ 9223372036854775807 := row_len w0
    have hlb : (blen0 : Int) ≤ 9223372036854775807 := row_len wb0
    have HZ : Hid (szTwo len0 blen0 1048576 = -1) := hid (by unfold szTwo; rw [if_neg hs])
    have hB : Below w.heap.size w w := Below.refl _ _
    go_enter Try.func4, Try.ntmps4
    have st : Below w.heap.size w (w.alloc (.cells #[.slice a0 len0 cap0, .slice b0 blen0 bcap0] 33)) := (Below.refl _ _).alloc (Nat.le_refl _) _
    have X_a : BoxAt (w.alloc (.cells #[.slice a0 len0 cap0, .slice b0 blen0 bcap0] 33)) w.heap.size (.slice a0 len0 cap0) (.slice b0 blen0 bcap0) := boxAt_new _ _ _ _
    go_wp2_with fail
    generalize w.alloc (.cells #[.slice a0 len0 cap0, .slice b0 blen0 bcap0] 33) = v1 at *
    replace hB := hB.trans (st.mono hB.size)
    clear st
    obtain ⟨X_a_1, X_a_2, X_a_3, X_a_4⟩ := id X_a
    go_wp2_with fail
    refine (szDesk_any _ _ _ _ _ _ _ _ hla hlb (by omega) (by omega)).mono ?_
    rw [HZ.out]
    rintro e v2 ⟨rfl, st⟩
    clear X_a_1 X_a_2 X_a_3 X_a_4
    replace X_a := X_a.below st (boxAt_lt X_a)
    replace hB := hB.trans (st.mono hB.size)
    clear st
    obtain ⟨X_a_1, X_a_2, X_a_3, X_a_4⟩ := id X_a
    go_wp2_with fail
    go_ret
    exact ⟨rfl, hB⟩

/-! ### THE ROW's STEP: WRITTEN OUT: LEAVE IT -/
set_option maxRecDepth 100000 in
theorem lifted (os : Os) (started : os.Started) (H : Type) (enc : TypeId × Value → H) :
    ReturnsInHanded {} Try.checked os 4 .any (Rows.fnExactIsDeskSpec.pre6 enc Try.prog Try.f4 Rows.fnExactIsDeskRow.domain false) (Rows.fnExactIsDeskSpec.post enc Try.prog Try.f4 false true false false) := by
  refine returnsInHanded_of_change (C := Try.checked) own started (by kernel_rfl) Try.func4
    (ChangeSpec.witness6 (enc := enc) (C := Try.checked) false ⟨#[], #[.agg #[.slice none 0 0, .slice none 0 0]], []⟩ 8 (by kernel_rfl) (by kernel_rfl) (by kernel_rfl) (by kernel_rfl)) ?_
  intro W base args ds gs before hval0 hW hcnd _
  have hval : ∀ (j : Nat) t v, Try.f4.params[j]? = some t → args[j]? = some v → Value.okWide Try.prog W .any base t v := hval0
  have hW' := hW
  obtain ⟨p, q, hA0, hV, rfl, hfz, hnd⟩ := hW
  have hA : DataW.TrodAll enc Try.prog W 0 (fun _ => true) true Try.f4.params.toList args.toList ds p := hA0
  rw [Try.params4] at hA hval
  obtain ⟨v0, vs0, d0, ds0, p0, q0, hargs, rfl, rfl, h0, r0⟩ := trodAll_cons hA
  obtain ⟨rfl, rfl, rfl⟩ := trodAll_nil r0
  obtain rfl : args = #[v0] := by cases args; simp_all
  obtain ⟨rfl, rfl⟩ := trodVars_none hV
  have k0 := h0
  have lt0 : ∀ x ∈ p0, x.block < W.heap.size := by obtain ⟨m, hm⟩ := k0; exact DataW.trod_lt m _ _ _ hm
  obtain ⟨c0, c1, y0, y1, m0, rfl, rfl, rfl, hy0, hy1⟩ := Joins.open_agg2 Try.underlying33 (by kernel_rfl) cellsW (hval 0 33 v0 rfl rfl) h0
  obtain ⟨a0, len0, cap0, z0, rfl, w0⟩ := field_row hy0
  obtain ⟨yT, nT, hxT, _, hyT⟩ := trod_struct1 Try.underlying31 hy1
  obtain ⟨b0, blen0, bcap0, bz0, rfl, wb0⟩ := field_row (by simpa [Value.cells, cellsS] using hyT)
  clear hA0 hval0
  refine (walk a0 b0 len0 cap0 blen0 bcap0 z0 bz0 W w0 wb0).mono fun e W' ⟨he, bel⟩ => ?_
  subst he
  exact ⟨_, rfl, _, _, _, [], _, [], hW', trodAll_mk1 (shut_bool Try.underlying4 _), (trodAll_cons_mk (Below.trod laidOut (by kernel_rfl) (of_decide_eq_true (by kernel_rfl)) k0 bel lt0) trodAll_mk0), rfl, bel.frame _, fun h => by cases h⟩

theorem over : Rows.fnExactIsDeskRow.holds Try.pinned (OpenSpec.ofChange Rows.fnExactIsDeskSpec) :=
  OpenClaim.holds_of_wide 4 Try.f4 rfl rfl rfl rfl rfl rfl rfl ⟨rfl, rfl, rfl, rfl, rfl⟩ rfl rfl rfl rfl rfl (by kernel_rfl) Try.func4 (by kernel_rfl)
    (of_decide_eq_true (by kernel_rfl)) (by unfold Func.isWrapper; first | (rw [if_pos (by decide +kernel)]; kernel_rfl) | (rw [if_neg (by decide +kernel)]; exact ⟨rfl, rfl⟩))
    (fun os started H enc _ => lifted os started H enc)

/-- ████ THE STATEMENT ████ -/
theorem proved : Rows.FnExactIsDeskSaid := over
#print axioms proved
end Go.Proofs.Ytnddplldkgphnaa.fnExactIsDesk

