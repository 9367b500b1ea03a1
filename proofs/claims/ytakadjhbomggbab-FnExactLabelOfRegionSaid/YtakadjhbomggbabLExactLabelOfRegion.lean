/-
  Proved: laws.FnExactLabelOfRegion answers true at every input, and leaves each argument as it was.
  No condition: every value of the parameters' types. The frame is the guide's shell; the walk goes by the contracts of the functions called.
-/
import Derived.Test.YtakadjhbomggbabRows
import Derived.Test.YtakadjhbomggbabLawKit
import Derived.Test.YtakadjhbomggbabRowsX
import Derived.WalkKit
import Derived.ProofKit
import Derived.OpenShut
import Derived.ShutString
import Derived.ChangeOld
import Derived.Below
import Derived.Deep.DeepCutAuto
import Derived.Deep.RegionWith
import Derived.Lib.SmallJoins
namespace Go.Proofs.Ytakadjhbomggbab.fnExactLabelOfRegion
open Go.ChangeShapes Go.WideShapes Go.ChangeAt Go.RowKit
open Go.ChangeMaps (open_string shut_string)
set_option linter.unusedVariables false

theorem own : ownKnob Try.prog.godebug = none := by kernel_rfl
theorem laidOut : laidOutB Try.prog = true := by kernel_rfl

/-- WHAT THE WALK IS TOLD OF A SLICE OF INTEGERS THAT CAME IN: it is nil; or it leads to a row of 'cap' cells, the numbers 'zs' (the first 'len' are its elements, the rest its spare room), each fitting its kind. -/
def IsRow (k : IntKind) (w : World) (a : Option Addr) (len cap : Nat) (zs : List Int) : Prop :=
  (a = none ∧ len = 0 ∧ cap = 0 ∧ zs = []) ∨
  ∃ x, a = some x ∧ len ≤ cap ∧ cap ≤ maxLen ∧ zs.length = cap ∧ (∀ i, i < zs.length → w.cell? (x.add i) = some (.int k (zs.getD i 0))) ∧ ∀ n ∈ zs, (Lit.int k n).wf = true

theorem cellsW : Try.prog.cellsOf 33 = 2 := by kernel_rfl
/-- A field that is a slice of integers. -/
theorem field_row {H : Type} {enc : TypeId × Value → H} {W : World} {base : Nat} {held : Bool} {m : Nat} {c : Value} {y : DataW H × List MemPlace} (h : DataW.trod enc Try.prog W base (fun _ => true) held m 22 [c] = some y) :
    ∃ a len cap zs, c = .slice a len cap ∧ IsRow .i64 W a len cap zs := by
  rcases open_ints Try.underlying22 Try.underlying3 (by kernel_rfl) h with ⟨hcs, _⟩ | ⟨x, l, cp, zs, hcs, _, hl, hm, hz, _, hcell, hwz⟩
  · simp at hcs
    subst hcs
    exact ⟨none, 0, 0, [], rfl, .inl ⟨rfl, rfl, rfl, rfl⟩⟩
  · simp at hcs
    subst hcs
    exact ⟨_, _, _, zs, rfl, .inr ⟨_, rfl, hl, hm, by simpa using hz, hcell, hwz⟩⟩

/-! ### STEP 1: THE WALK: the Go text returns true, AND WRITES NOTHING THAT WAS THERE: 'Below w.heap.size w w'' (Derived/Below.lean: '.refl', '.alloc', '.drew', '.setCell' at a new block, '.trans'). Open each 'IsRow' by 'rcases' AHEAD of 'go_enter'; part every test ahead of the walk. -/
set_option maxRecDepth 100000 in
set_option maxHeartbeats 4000000 in
theorem walk (a0 b0 : Option Addr) (len0 cap0 blen0 bcap0 : Nat) (z0 bz0 : List Int) (w : World) (w0 : IsRow .i64 w a0 len0 cap0 z0) (wb0 : IsRow .i64 w b0 blen0 bcap0 bz0) :
    Calls Try.prog 4 #[.agg #[.slice a0 len0 cap0, .slice b0 blen0 bcap0]] w fun e w' => e = .returned (.bool true) ∧ Below w.heap.size w w' := by
  by_cases hs : (len0 : Int) + (blen0 : Int) ≤ 1048576
  · obtain ⟨xs0, H0⟩ := has_of_row w0 (by omega)
    obtain ⟨ls0, H1⟩ := has_of_row wb0 (by omega)
    clear w0 wb0
    have HZ : Hid (szTwo len0 blen0 1048576 = 1048576 - (len0 : Int) - (blen0 : Int)) := hid (by unfold szTwo; rw [if_pos hs])
    have hz : ¬ (1048576 - (len0 : Int) - (blen0 : Int) < 0) := by omega
    obtain ⟨⟨y0, ok⟩, hr⟩ : ∃ r, labelRgOf xs0 ls0 = r := ⟨_, rfl⟩
    have HR := hid hr
    clear hr
    have hB : Below w.heap.size w w := Below.refl _ _
    have hok := neq_self_bool ok
    go_enter Try.func4, Try.ntmps4
    have st : Below w.heap.size w (w.alloc (.cells #[.slice a0 len0 cap0, .slice b0 blen0 bcap0] 33)) := (Below.refl _ _).alloc (Nat.le_refl _) _
    have X_a : BoxAt (w.alloc (.cells #[.slice a0 len0 cap0, .slice b0 blen0 bcap0] 33)) w.heap.size (.slice a0 len0 cap0) (.slice b0 blen0 bcap0) := boxAt_new _ _ _ _
    go_wp2_with fail
    generalize w.alloc (.cells #[.slice a0 len0 cap0, .slice b0 blen0 bcap0] 33) = v1 at *
    replace hB := hB.trans (st.mono hB.size)
    clear st
    obtain ⟨X_a_1, X_a_2, X_a_3, X_a_4⟩ := id X_a
    go_wp2_with fail
    refine (szWalk_any _ _ _ _ _ _ _ _ (by omega) (by omega) (by omega) (by omega)).mono ?_
    rw [HZ.out]
    rintro e v2 ⟨rfl, st⟩
    clear X_a_1 X_a_2 X_a_3 X_a_4
    replace X_a := X_a.below st (boxAt_lt X_a)
    replace hB := hB.trans (st.mono hB.size)
    clear st
    have bo_X_a_ta := X_a
    have k_ta := hB.size
    have bo_X_a_tb := X_a
    have k_tb := hB.size
    obtain ⟨X_a_1, X_a_2, X_a_3, X_a_4⟩ := id X_a
    go_wp2_with fail
    refine (toWalk_any _ _ _ _ _ _ _ _ _ (H0.beyond hB) (H1.beyond hB)).mono ?_
    rintro e v3 ⟨a_t, c_t, b_t, d_t, rfl, o_ta, o_tb, ap_ta_tb, st⟩
    clear X_a_1 X_a_2 X_a_3 X_a_4
    have nb_X_a_ta := box_new bo_X_a_ta o_ta.ge (Nat.le_refl _)
    clear bo_X_a_ta
    have nb_X_a_tb := box_new bo_X_a_tb o_tb.ge (Nat.le_refl _)
    clear bo_X_a_tb
    replace X_a := X_a.below st (boxAt_lt X_a)
    replace hB := hB.trans (st.mono hB.size)
    clear st
    have lt_ta_r := o_ta.lt
    have lt_tb_r := o_tb.lt
    have bo_X_a_r := X_a
    have k_r := hB.size
    obtain ⟨X_a_1, X_a_2, X_a_3, X_a_4⟩ := id X_a
    go_wp2_with fail
    refine (specLabelRg_any _ _ _ _ _ _ _ _ _ o_ta.has o_tb.has).mono ?_
    rw [HR.out]
    rintro e v4 ⟨a_r, n_r, c_r, rfl, o_r, st⟩
    clear X_a_1 X_a_2 X_a_3 X_a_4
    have ap_ta_r : Apart2 a_t a_r := apart_lt lt_ta_r o_r.ge
    have ap_tb_r : Apart2 b_t a_r := apart_lt lt_tb_r o_r.ge
    have nb_X_a_r := box_new bo_X_a_r o_r.ge (Nat.le_refl _)
    clear bo_X_a_r
    replace o_ta := o_ta.below st (Nat.le_refl _)
    replace o_tb := o_tb.below st (Nat.le_refl _)
    replace X_a := X_a.below st (boxAt_lt X_a)
    replace hB := hB.trans (st.mono hB.size)
    clear st
    clear o_ta
    clear o_tb
    have lt_r_xa := o_r.lt
    have bo_X_a_xa := X_a
    have k_xa := hB.size
    have lt_r_xb := o_r.lt
    have bo_X_a_xb := X_a
    have k_xb := hB.size
    obtain ⟨X_a_1, X_a_2, X_a_3, X_a_4⟩ := id X_a
    go_wp2_with fail
    refine (toWalk_any _ _ _ _ _ _ _ _ _ (H0.beyond hB) (H1.beyond hB)).mono ?_
    rintro e v5 ⟨a_x, c_x, b_x, d_x, rfl, o_xa, o_xb, ap_xa_xb, st⟩
    clear X_a_1 X_a_2 X_a_3 X_a_4
    have ap_r_xa : Apart2 a_r a_x := apart_lt lt_r_xa o_xa.ge
    have nb_X_a_xa := box_new bo_X_a_xa o_xa.ge (Nat.le_refl _)
    clear bo_X_a_xa
    have ap_r_xb : Apart2 a_r b_x := apart_lt lt_r_xb o_xb.ge
    have nb_X_a_xb := box_new bo_X_a_xb o_xb.ge (Nat.le_refl _)
    clear bo_X_a_xb
    replace o_r := o_r.below st (Nat.le_refl _)
    replace X_a := X_a.below st (boxAt_lt X_a)
    replace hB := hB.trans (st.mono hB.size)
    clear st
    have st : Below v5.heap.size v5 (v5.alloc (.cells #[.slice a_x len0 c_x, .slice b_x blen0 d_x] 24)) := (Below.refl _ _).alloc (Nat.le_refl _) _
    have X_x : BoxAt (v5.alloc (.cells #[.slice a_x len0 c_x, .slice b_x blen0 d_x] 24)) v5.heap.size (.slice a_x len0 c_x) (.slice b_x blen0 d_x) := boxAt_new _ _ _ _
    have nb_X_x_r := box_old o_r.lt
    have nb_X_x_xa := box_old o_xa.lt
    have nb_X_x_xb := box_old o_xb.lt
    obtain ⟨X_a_1, X_a_2, X_a_3, X_a_4⟩ := id X_a
    have X_a_n := X_a.below st (boxAt_lt X_a)
    obtain ⟨X_a_5, X_a_6, X_a_7, X_a_8⟩ := id X_a_n
    go_wp2_with fail
    clear X_a_1 X_a_2 X_a_3 X_a_4
    clear X_a_5 X_a_6 X_a_7 X_a_8
    clear X_a_n
    generalize v5.alloc (.cells #[.slice a_x len0 c_x, .slice b_x blen0 d_x] 24) = v6 at *
    replace o_r := o_r.below st (Nat.le_refl _)
    replace o_xa := o_xa.below st (Nat.le_refl _)
    replace o_xb := o_xb.below st (Nat.le_refl _)
    replace X_a := X_a.below st (boxAt_lt X_a)
    replace hB := hB.trans (st.mono hB.size)
    clear st
    have lt_r_g := o_r.lt
    have lt_xa_g := o_xa.lt
    have lt_xb_g := o_xb.lt
    have bo_X_a_g := X_a
    have bo_X_x_g := X_x
    have k_g := hB.size
    obtain ⟨X_a_1, X_a_2, X_a_3, X_a_4⟩ := id X_a
    obtain ⟨X_x_1, X_x_2, X_x_3, X_x_4⟩ := id X_x
    go_wp2_with fail
    refine (implLabelRg_any _ _ _ _ _ _ _ _ _ o_xa.has o_xb.has).mono ?_
    rw [HR.out]
    rintro e v7 ⟨a_g, n_g, c_g, rfl, o_g, st⟩
    clear X_a_1 X_a_2 X_a_3 X_a_4 X_x_1 X_x_2 X_x_3 X_x_4
    have ap_r_g : Apart2 a_r a_g := apart_lt lt_r_g o_g.ge
    have ap_xa_g : Apart2 a_x a_g := apart_lt lt_xa_g o_g.ge
    have ap_xb_g : Apart2 b_x a_g := apart_lt lt_xb_g o_g.ge
    have nb_X_a_g := box_new bo_X_a_g o_g.ge (Nat.le_refl _)
    clear bo_X_a_g
    have nb_X_x_g := box_new bo_X_x_g o_g.ge (Nat.le_refl _)
    clear bo_X_x_g
    replace o_r := o_r.below st (Nat.le_refl _)
    replace o_xa := o_xa.below st (Nat.le_refl _)
    replace o_xb := o_xb.below st (Nat.le_refl _)
    replace X_a := X_a.below st (boxAt_lt X_a)
    replace X_x := X_x.below st (boxAt_lt X_x)
    replace hB := hB.trans (st.mono hB.size)
    clear st
    obtain ⟨X_a_1, X_a_2, X_a_3, X_a_4⟩ := id X_a
    obtain ⟨X_x_1, X_x_2, X_x_3, X_x_4⟩ := id X_x
    go_wp2_with fail
    refine (eqIntS_any _ _ _ _ _ _ _ _ _ o_g.has o_r.has).mono ?_
    rintro e v8 ⟨rfl, q⟩
    clear X_a_1 X_a_2 X_a_3 X_a_4 X_x_1 X_x_2 X_x_3 X_x_4
    have st : Below v7.heap.size v7 v8 := q.below _
    replace o_r := o_r.below st (Nat.le_refl _)
    replace o_xa := o_xa.below st (Nat.le_refl _)
    replace o_xb := o_xb.below st (Nat.le_refl _)
    replace o_g := o_g.below st (Nat.le_refl _)
    replace X_a := X_a.below st (boxAt_lt X_a)
    replace X_x := X_x.below st (boxAt_lt X_x)
    replace hB := hB.trans (st.mono hB.size)
    clear st
    clear q
    rw [same_self]
    obtain ⟨X_a_1, X_a_2, X_a_3, X_a_4⟩ := id X_a
    obtain ⟨X_x_1, X_x_2, X_x_3, X_x_4⟩ := id X_x
    go_upto_region 10 with fail
    go_cut [45] (fun c wx => c = .bool false ∧ Below v8.heap.size v8 wx)
    case first =>
      have std : Below v8.heap.size v8 v8.drew := (Below.refl _ _).drew
      have hBd := hB.drew
      have o_da := o_xa.below std (Nat.le_refl _)
      have o_db := o_xb.below std (Nat.le_refl _)
      have X_d := X_x.below std (boxAt_lt X_x)
      go_region_with (first | (go_at_call 18; refine (toWalk_any _ _ _ _ _ _ _ _ _ (H0.beyond hBd) (H1.beyond hBd)).mono ?_; rintro e wu ⟨a_u, c_u, b_u, d_u, rfl, o_ua, o_ub, ap_u, stu⟩; have o_ya := o_da.below stu (Nat.le_refl _); have o_yb := o_db.below stu (Nat.le_refl _); obtain ⟨y_1, y_2, y_3, y_4⟩ := X_d.below stu (boxAt_lt X_d)) | (go_at_call 11; refine (eqWalk_any _ _ _ _ _ _ _ _ _ _ _ _ _ _ _ _ _ o_ya.has o_yb.has o_ua.has o_ub.has).mono ?_; rintro e wz ⟨rfl, stz⟩; have stf := std.trans ((stu.trans (stz.mono stu.size)).mono std.size); rw [same_self, same_self]))
      all_goals (go_wp2_with fail; go_meet; exact ⟨rfl, stf⟩)
    case rest =>
      clear X_a_1 X_a_2 X_a_3 X_a_4 X_x_1 X_x_2 X_x_3 X_x_4
      obtain ⟨rfl, st⟩ := hcut
      replace o_r := o_r.below st (Nat.le_refl _)
      replace o_xa := o_xa.below st (Nat.le_refl _)
      replace o_xb := o_xb.below st (Nat.le_refl _)
      replace o_g := o_g.below st (Nat.le_refl _)
      replace X_a := X_a.below st (boxAt_lt X_a)
      replace X_x := X_x.below st (boxAt_lt X_x)
      replace hB := hB.trans (st.mono hB.size)
      clear st
      have hn_g := o_g.le
      obtain ⟨X_a_1, X_a_2, X_a_3, X_a_4⟩ := id X_a
      obtain ⟨X_x_1, X_x_2, X_x_3, X_x_4⟩ := id X_x
      go_wp2_with fail
      refine (markWalk_any _ _ _ _ _ _ _ _ _ _ _ (o_xa.mono k_xa) (o_xb.mono k_xb) ap_xa_xb (by omega) (by omega)).mono ?_
      rintro e v10 ⟨rfl, oma, omb, u1, u2, st, hma, hmb⟩
      clear X_a_1 X_a_2 X_a_3 X_a_4 X_x_1 X_x_2 X_x_3 X_x_4
      replace o_r := o_r.below st (Nat.le_refl _)
      replace o_xa := o_xa.below st (Nat.le_refl _)
      replace o_xb := o_xb.below st (Nat.le_refl _)
      replace o_g := o_g.below st (Nat.le_refl _)
      replace X_a := X_a.below st (boxAt_lt X_a)
      replace X_x := X_x.below st (boxAt_lt X_x)
      replace hB := hB.trans (st.mono hB.size)
      clear st
      replace o_r := o_r.unmarked hma ap_r_xa
      replace o_g := o_g.unmarked hma ap_xa_g.symm
      replace X_a := X_a.unmarked hma nb_X_a_xa
      replace X_x := X_x.unmarked hma nb_X_x_xa
      have ge_xa := o_xa.ge
      replace hB := hB.trans (hma.below (ge_xa.mono k_xa) hB.size)
      replace o_r := o_r.unmarked hmb ap_r_xb
      replace o_g := o_g.unmarked hmb ap_xb_g.symm
      replace X_a := X_a.unmarked hmb nb_X_a_xb
      replace X_x := X_x.unmarked hmb nb_X_x_xb
      have ge_xb := o_xb.ge
      replace hB := hB.trans (hmb.below (ge_xb.mono k_xb) hB.size)
      clear hma hmb o_xa o_xb
      have o_xa := oma
      have o_xb := omb
      clear oma omb
      have hk0 : ¬ ((1 : Int) + (len0 : Int) + (blen0 : Int) < 0) := by omega
      obtain ⟨X_a_1, X_a_2, X_a_3, X_a_4⟩ := id X_a
      obtain ⟨X_x_1, X_x_2, X_x_3, X_x_4⟩ := id X_x
      go_wp2_with fail
      refine (eqIntS_any _ _ _ _ _ _ _ _ _ o_g.has o_r.has).mono ?_
      rintro e v11 ⟨rfl, q⟩
      clear X_a_1 X_a_2 X_a_3 X_a_4 X_x_1 X_x_2 X_x_3 X_x_4
      have st : Below v10.heap.size v10 v11 := q.below _
      replace o_r := o_r.below st (Nat.le_refl _)
      replace o_xa := o_xa.below st (Nat.le_refl _)
      replace o_xb := o_xb.below st (Nat.le_refl _)
      replace o_g := o_g.below st (Nat.le_refl _)
      replace X_a := X_a.below st (boxAt_lt X_a)
      replace X_x := X_x.below st (boxAt_lt X_x)
      replace hB := hB.trans (st.mono hB.size)
      clear st
      clear q
      rw [same_self]
      have hmm : ((1 : Int) + (n_g : Int) != (1 : Int) + (n_g : Int)) = false := neq_self_int _
      obtain ⟨X_a_1, X_a_2, X_a_3, X_a_4⟩ := id X_a
      obtain ⟨X_x_1, X_x_2, X_x_3, X_x_4⟩ := id X_x
      go_wp2_with fail
      refine (markIntS_any _ _ _ _ _ _ _ o_g (by omega) (by omega)).mono ?_
      rintro e v12 ⟨rfl, om, hm⟩
      clear X_a_1 X_a_2 X_a_3 X_a_4 X_x_1 X_x_2 X_x_3 X_x_4
      replace o_r := o_r.unmarked hm ap_r_g
      replace o_xa := o_xa.unmarked hm ap_xa_g
      replace o_xb := o_xb.unmarked hm ap_xb_g
      replace X_a := X_a.unmarked hm nb_X_a_g
      replace X_x := X_x.unmarked hm nb_X_x_g
      replace hB := hB.trans (hm.below (o_g.ge.mono k_g) hB.size)
      clear hm o_g
      have o_g := om
      clear om
      obtain ⟨X_a_1, X_a_2, X_a_3, X_a_4⟩ := id X_a
      obtain ⟨X_x_1, X_x_2, X_x_3, X_x_4⟩ := id X_x
      go_wp2_with fail
      refine (heldIntS_any _ _ _ _ _ o_g.has (by omega) (by omega)).mono ?_
      rintro e _ ⟨rfl, rfl⟩
      clear X_a_1 X_a_2 X_a_3 X_a_4 X_x_1 X_x_2 X_x_3 X_x_4
      have lt_r_sa := o_r.lt
      have lt_xa_sa := o_xa.lt
      have lt_xb_sa := o_xb.lt
      have lt_g_sa := o_g.lt
      have bo_X_a_sa := X_a
      have bo_X_x_sa := X_x
      have k_sa := hB.size
      have lt_r_sb := o_r.lt
      have lt_xa_sb := o_xa.lt
      have lt_xb_sb := o_xb.lt
      have lt_g_sb := o_g.lt
      have bo_X_a_sb := X_a
      have bo_X_x_sb := X_x
      have k_sb := hB.size
      obtain ⟨X_a_1, X_a_2, X_a_3, X_a_4⟩ := id X_a
      obtain ⟨X_x_1, X_x_2, X_x_3, X_x_4⟩ := id X_x
      go_wp2_with fail
      refine (toWalk_any _ _ _ _ _ _ _ _ _ (H0.beyond hB) (H1.beyond hB)).mono ?_
      rintro e v13 ⟨a_s, c_s, b_s, d_s, rfl, o_sa, o_sb, ap_sa_sb, st⟩
      clear X_a_1 X_a_2 X_a_3 X_a_4 X_x_1 X_x_2 X_x_3 X_x_4
      have ap_r_sa : Apart2 a_r a_s := apart_lt lt_r_sa o_sa.ge
      have ap_xa_sa : Apart2 a_x a_s := apart_lt lt_xa_sa o_sa.ge
      have ap_xb_sa : Apart2 b_x a_s := apart_lt lt_xb_sa o_sa.ge
      have ap_g_sa : Apart2 a_g a_s := apart_lt lt_g_sa o_sa.ge
      have nb_X_a_sa := box_new bo_X_a_sa o_sa.ge (Nat.le_refl _)
      clear bo_X_a_sa
      have nb_X_x_sa := box_new bo_X_x_sa o_sa.ge (Nat.le_refl _)
      clear bo_X_x_sa
      have ap_r_sb : Apart2 a_r b_s := apart_lt lt_r_sb o_sb.ge
      have ap_xa_sb : Apart2 a_x b_s := apart_lt lt_xa_sb o_sb.ge
      have ap_xb_sb : Apart2 b_x b_s := apart_lt lt_xb_sb o_sb.ge
      have ap_g_sb : Apart2 a_g b_s := apart_lt lt_g_sb o_sb.ge
      have nb_X_a_sb := box_new bo_X_a_sb o_sb.ge (Nat.le_refl _)
      clear bo_X_a_sb
      have nb_X_x_sb := box_new bo_X_x_sb o_sb.ge (Nat.le_refl _)
      clear bo_X_x_sb
      replace o_r := o_r.below st (Nat.le_refl _)
      replace o_xa := o_xa.below st (Nat.le_refl _)
      replace o_xb := o_xb.below st (Nat.le_refl _)
      replace o_g := o_g.below st (Nat.le_refl _)
      replace X_a := X_a.below st (boxAt_lt X_a)
      replace X_x := X_x.below st (boxAt_lt X_x)
      replace hB := hB.trans (st.mono hB.size)
      clear st
      have lt_r_h := o_r.lt
      have lt_xa_h := o_xa.lt
      have lt_xb_h := o_xb.lt
      have lt_g_h := o_g.lt
      have lt_sa_h := o_sa.lt
      have lt_sb_h := o_sb.lt
      have bo_X_a_h := X_a
      have bo_X_x_h := X_x
      have k_h := hB.size
      obtain ⟨X_a_1, X_a_2, X_a_3, X_a_4⟩ := id X_a
      obtain ⟨X_x_1, X_x_2, X_x_3, X_x_4⟩ := id X_x
      go_wp2_with fail
      refine (implLabelRg_any _ _ _ _ _ _ _ _ _ o_sa.has o_sb.has).mono ?_
      rw [HR.out]
      rintro e v14 ⟨a_h, n_h, c_h, rfl, o_h, st⟩
      clear X_a_1 X_a_2 X_a_3 X_a_4 X_x_1 X_x_2 X_x_3 X_x_4
      have ap_r_h : Apart2 a_r a_h := apart_lt lt_r_h o_h.ge
      have ap_xa_h : Apart2 a_x a_h := apart_lt lt_xa_h o_h.ge
      have ap_xb_h : Apart2 b_x a_h := apart_lt lt_xb_h o_h.ge
      have ap_g_h : Apart2 a_g a_h := apart_lt lt_g_h o_h.ge
      have ap_sa_h : Apart2 a_s a_h := apart_lt lt_sa_h o_h.ge
      have ap_sb_h : Apart2 b_s a_h := apart_lt lt_sb_h o_h.ge
      have nb_X_a_h := box_new bo_X_a_h o_h.ge (Nat.le_refl _)
      clear bo_X_a_h
      have nb_X_x_h := box_new bo_X_x_h o_h.ge (Nat.le_refl _)
      clear bo_X_x_h
      replace o_r := o_r.below st (Nat.le_refl _)
      replace o_xa := o_xa.below st (Nat.le_refl _)
      replace o_xb := o_xb.below st (Nat.le_refl _)
      replace o_g := o_g.below st (Nat.le_refl _)
      replace o_sa := o_sa.below st (Nat.le_refl _)
      replace o_sb := o_sb.below st (Nat.le_refl _)
      replace X_a := X_a.below st (boxAt_lt X_a)
      replace X_x := X_x.below st (boxAt_lt X_x)
      replace hB := hB.trans (st.mono hB.size)
      clear st
      clear o_sa
      clear o_sb
      obtain ⟨X_a_1, X_a_2, X_a_3, X_a_4⟩ := id X_a
      obtain ⟨X_x_1, X_x_2, X_x_3, X_x_4⟩ := id X_x
      go_wp2_with fail
      refine (eqIntS_any _ _ _ _ _ _ _ _ _ o_h.has o_r.has).mono ?_
      rintro e v15 ⟨rfl, q⟩
      clear X_a_1 X_a_2 X_a_3 X_a_4 X_x_1 X_x_2 X_x_3 X_x_4
      have st : Below v14.heap.size v14 v15 := q.below _
      replace o_r := o_r.below st (Nat.le_refl _)
      replace o_xa := o_xa.below st (Nat.le_refl _)
      replace o_xb := o_xb.below st (Nat.le_refl _)
      replace o_g := o_g.below st (Nat.le_refl _)
      replace o_h := o_h.below st (Nat.le_refl _)
      replace X_a := X_a.below st (boxAt_lt X_a)
      replace X_x := X_x.below st (boxAt_lt X_x)
      replace hB := hB.trans (st.mono hB.size)
      clear st
      clear q
      rw [same_self]
      obtain ⟨X_a_1, X_a_2, X_a_3, X_a_4⟩ := id X_a
      obtain ⟨X_x_1, X_x_2, X_x_3, X_x_4⟩ := id X_x
      go_wp2_with fail
      refine (heldIntS_any _ _ _ _ _ o_g.has (by omega) (by omega)).mono ?_
      rintro e _ ⟨rfl, rfl⟩
      clear X_a_1 X_a_2 X_a_3 X_a_4 X_x_1 X_x_2 X_x_3 X_x_4
      obtain ⟨X_a_1, X_a_2, X_a_3, X_a_4⟩ := id X_a
      obtain ⟨X_x_1, X_x_2, X_x_3, X_x_4⟩ := id X_x
      go_wp2_with fail
      go_ret
      exact ⟨rfl, hB⟩
  · have hla : (len0 : Int) ≤ 9223372036854775807 := row_len w0
    have hlb : (blen0 : Int) ≤ 9223372036854775807 := row_len wb0
    have HZ : Hid (szTwo len0 blen0 1048576 = -1) := hid (by unfold szTwo; rw [if_neg hs])
    have hB : Below w.heap.size w w := Below.refl _ _
    go_enter Try.func4, Try.ntmps4
    have st : Below w.heap.size w (w.alloc (.cells #[.slice a0 len0 cap0, .slice b0 blen0 bcap0] 33)) := (Below.refl _ _).alloc (Nat.le_refl _) _
    have X_a : BoxAt (w.alloc (.cells #[.slice a0 len0 cap0, .slice b0 blen0 bcap0] 33)) w.heap.size (.slice a0 len0 cap0) (.slice b0 blen0 bcap0) := boxAt_new _ _ _ _
    go_wp2_with fail
    generalize w.alloc (.cells #[.slice a0 len0 cap0, .slice b0 blen0 bcap0] 33) = v1 at *
    replace hB := hB.trans (st.mono hB.size)
    clear st
    obtain ⟨X_a_1, X_a_2, X_a_3, X_a_4⟩ := id X_a
    go_wp2_with fail
    refine (szWalk_any _ _ _ _ _ _ _ _ hla hlb (by omega) (by omega)).mono ?_
    rw [HZ.out]
    rintro e v2 ⟨rfl, st⟩
    clear X_a_1 X_a_2 X_a_3 X_a_4
    replace X_a := X_a.below st (boxAt_lt X_a)
    replace hB := hB.trans (st.mono hB.size)
    clear st
    obtain ⟨X_a_1, X_a_2, X_a_3, X_a_4⟩ := id X_a
    go_wp2_with fail
    go_ret
    exact ⟨rfl, hB⟩

/-! ### THE ROW's STEP: WRITTEN OUT: LEAVE IT -/
set_option maxRecDepth 100000 in
theorem lifted (os : Os) (started : os.Started) (H : Type) (enc : TypeId × Value → H) :
    ReturnsInHanded {} Try.checked os 4 .any (Rows.fnExactLabelOfRegionSpec.pre6 enc Try.prog Try.f4 Rows.fnExactLabelOfRegionRow.domain false) (Rows.fnExactLabelOfRegionSpec.post enc Try.prog Try.f4 false true false false) := by
  refine returnsInHanded_of_change (C := Try.checked) own started (by kernel_rfl) Try.func4
    (ChangeSpec.witness6 (enc := enc) (C := Try.checked) false ⟨#[], #[.agg #[.slice none 0 0, .slice none 0 0]], []⟩ 8 (by kernel_rfl) (by kernel_rfl) (by kernel_rfl) (by kernel_rfl)) ?_
  intro W base args ds gs before hval0 hW hcnd _
  have hval : ∀ (j : Nat) t v, Try.f4.params[j]? = some t → args[j]? = some v → Value.okWide Try.prog W .any base t v := hval0
  have hW' := hW
  obtain ⟨p, q, hA0, hV, rfl, hfz, hnd⟩ := hW
  have hA : DataW.TrodAll enc Try.prog W 0 (fun _ => true) true Try.f4.params.toList args.toList ds p := hA0
  rw [Try.params4] at hA hval
  obtain ⟨v0, vs0, d0, ds0, p0, q0, hargs, rfl, rfl, h0, r0⟩ := trodAll_cons hA
  obtain ⟨rfl, rfl, rfl⟩ := trodAll_nil r0
  obtain rfl : args = #[v0] := by cases args; simp_all
  obtain ⟨rfl, rfl⟩ := trodVars_none hV
  have k0 := h0
  have lt0 : ∀ x ∈ p0, x.block < W.heap.size := by obtain ⟨m, hm⟩ := k0; exact DataW.trod_lt m _ _ _ hm
  obtain ⟨c0, c1, y0, y1, m0, rfl, rfl, rfl, hy0, hy1⟩ := Joins.open_agg2 Try.underlying33 (by kernel_rfl) cellsW (hval 0 33 v0 rfl rfl) h0
  obtain ⟨a0, len0, cap0, z0, rfl, w0⟩ := field_row hy0
  obtain ⟨b0, blen0, bcap0, bz0, rfl, wb0⟩ := field_row hy1
  clear hA0 hval0
  refine (walk a0 b0 len0 cap0 blen0 bcap0 z0 bz0 W w0 wb0).mono fun e W' ⟨he, bel⟩ => ?_
  subst he
  exact ⟨_, rfl, _, _, _, [], _, [], hW', trodAll_mk1 (shut_bool Try.underlying4 _), (trodAll_cons_mk (Below.trod laidOut (by kernel_rfl) (of_decide_eq_true (by kernel_rfl)) k0 bel lt0) trodAll_mk0), rfl, bel.frame _, fun h => by cases h⟩

theorem over : Rows.fnExactLabelOfRegionRow.holds Try.pinned (OpenSpec.ofChange Rows.fnExactLabelOfRegionSpec) :=
  OpenClaim.holds_of_wide 4 Try.f4 rfl rfl rfl rfl rfl rfl rfl ⟨rfl, rfl, rfl, rfl, rfl⟩ rfl rfl rfl rfl rfl (by kernel_rfl) Try.func4 (by kernel_rfl)
    (of_decide_eq_true (by kernel_rfl)) (by unfold Func.isWrapper; first | (rw [if_pos (by decide +kernel)]; kernel_rfl) | (rw [if_neg (by decide +kernel)]; exact ⟨rfl, rfl⟩))
    (fun os started H enc _ => lifted os started H enc)

/-- ████ THE STATEMENT ████ -/
theorem proved : Rows.FnExactLabelOfRegionSaid := over
#print axioms proved
end Go.Proofs.Ytakadjhbomggbab.fnExactLabelOfRegion

