/- The walk of laws.FnExactEmptyTable, by the contracts of the functions called. -/
import Derived.Test.YtbmghpgnakbnjaaRows
import Derived.Test.YtbmghpgnakbnjaaLawKit
import Derived.Test.YtbmghpgnakbnjaaTbl
import Derived.Test.YtbmghpgnakbnjaaImplEm
import Derived.WalkKit
import Derived.ProofKit
import Derived.OpenShut
import Derived.ShutString
namespace Go.Proofs.Ytbmghpgnakbnjaa.fnExactEmptyTable
open Go.ChangeShapes Go.WideShapes Go.ChangeAt Go.RowKit
open Go.ChangeMaps (open_string shut_string)
set_option linter.unusedVariables false      -- a walk need not use every 'w<i>' (that an integer argument fits its kind)

theorem own : ownKnob Try.prog.godebug = none := by kernel_rfl

/-! ### STEP 1: THE WALK: the Go text returns true. Part the cases AHEAD of 'go_enter' where a test parts the walk; take each callee by a contract of your own. -/
set_option maxRecDepth 100000 in
set_option maxHeartbeats 4000000 in
theorem walk (a0 : Int) (w0 : (Lit.int .i64 a0).wf = true) (w : World) :
    Calls Try.prog 4 #[.int .i64 a0] w fun e w' => e = .returned (.bool true) ∧ Below w.heap.size w w' := by
  obtain ⟨⟨y0, ok⟩, hr⟩ : ∃ r, emptyOf a0 = r := ⟨_, rfl⟩
  have HR := hid hr
  clear hr
  have hB : Below w.heap.size w w := Below.refl _ _
  have hok := neq_self_bool ok
  go_enter Try.func4, Try.ntmps4
  have k_r := hB.size
  go_wp2_with fail
  refine (specEmpty_any _ _).mono ?_
  rw [HR.out]
  rintro e v1 ⟨a_r, n_r, c_r, rfl, o_r, st⟩
  replace hB := hB.trans (st.mono hB.size)
  clear st
  have st : Below v1.heap.size v1 (v1.alloc (.cells #[.slice a_r n_r c_r] 27)) := (Below.refl _ _).alloc (Nat.le_refl _) _
  have X_r : CellAt (v1.alloc (.cells #[.slice a_r n_r c_r] 27)) v1.heap.size (.slice a_r n_r c_r) := cellAt_new _ _ _
  have nb_X_r_r := box_old o_r.lt
  go_wp2_with fail
  generalize v1.alloc (.cells #[.slice a_r n_r c_r] 27) = v2 at *
  replace o_r := o_r.below st (Nat.le_refl _)
  replace hB := hB.trans (st.mono hB.size)
  clear st
  have lt_r_g := o_r.lt
  have bo_X_r_g := X_r
  have k_g := hB.size
  obtain ⟨X_r_1, X_r_2⟩ := id X_r
  go_wp2_with fail
  refine (implEmpty_any _ _).mono ?_
  rw [HR.out]
  rintro e v3 ⟨a_g, n_g, c_g, rfl, o_g, st⟩
  clear X_r_1 X_r_2
  have ap_r_g : Apart2 a_r a_g := apart_lt lt_r_g o_g.ge
  have nb_X_r_g := cell_new bo_X_r_g o_g.ge (Nat.le_refl _)
  clear bo_X_r_g
  replace o_r := o_r.below st (Nat.le_refl _)
  replace X_r := X_r.below st X_r.lt
  replace hB := hB.trans (st.mono hB.size)
  clear st
  have st : Below v3.heap.size v3 (v3.alloc (.cells #[.slice a_g n_g c_g] 27)) := (Below.refl _ _).alloc (Nat.le_refl _) _
  have X_g : CellAt (v3.alloc (.cells #[.slice a_g n_g c_g] 27)) v3.heap.size (.slice a_g n_g c_g) := cellAt_new _ _ _
  have nb_X_g_r := box_old o_r.lt
  have nb_X_g_g := box_old o_g.lt
  obtain ⟨X_r_1, X_r_2⟩ := id X_r
  have X_r_n := X_r.below st X_r.lt
  obtain ⟨X_r_5, X_r_6⟩ := id X_r_n
  go_wp2_with fail
  clear X_r_1 X_r_2
  clear X_r_5 X_r_6
  clear X_r_n
  generalize v3.alloc (.cells #[.slice a_g n_g c_g] 27) = v4 at *
  replace o_r := o_r.below st (Nat.le_refl _)
  replace o_g := o_g.below st (Nat.le_refl _)
  replace X_r := X_r.below st X_r.lt
  replace hB := hB.trans (st.mono hB.size)
  clear st
  obtain ⟨X_r_1, X_r_2⟩ := id X_r
  obtain ⟨X_g_1, X_g_2⟩ := id X_g
  go_wp2_with fail
  refine (eqTable_any _ _ _ _ _ _ _ _ _ o_g.has o_r.has).mono ?_
  rintro e v5 ⟨rfl, st⟩
  clear X_r_1 X_r_2 X_g_1 X_g_2
  replace o_r := o_r.below st (Nat.le_refl _)
  replace o_g := o_g.below st (Nat.le_refl _)
  replace X_r := X_r.below st X_r.lt
  replace X_g := X_g.below st X_g.lt
  replace hB := hB.trans (st.mono hB.size)
  clear st
  rw [same_self]
  have hn_g := o_g.le
  have hmm : ((1 : Int) + (n_g : Int) != (1 : Int) + (n_g : Int)) = false := neq_self_int _
  have hnn : ¬ ((1 : Int) + (n_g : Int) < 0) := by omega
  obtain ⟨X_r_1, X_r_2⟩ := id X_r
  obtain ⟨X_g_1, X_g_2⟩ := id X_g
  go_wp2_with fail
  refine (markTable_any _ _ _ _ _ _ _ (o_g.mono k_g) (by omega) (by omega)).mono ?_
  rintro e v6 ⟨rfl, om, u1, st, hm⟩
  clear X_r_1 X_r_2 X_g_1 X_g_2
  replace o_r := o_r.below st (Nat.le_refl _)
  replace o_g := o_g.below st (Nat.le_refl _)
  replace X_r := X_r.below st X_r.lt
  replace X_g := X_g.below st X_g.lt
  replace hB := hB.trans (st.mono hB.size)
  clear st
  replace o_r := o_r.unmarked hm ap_r_g
  replace X_r := X_r.unmarked hm nb_X_r_g
  replace X_g := X_g.unmarked hm nb_X_g_g
  replace hB := hB.trans (hm.below (o_g.ge.mono k_g) hB.size)
  clear hm o_g
  have o_g := om
  clear om
  obtain ⟨X_r_1, X_r_2⟩ := id X_r
  obtain ⟨X_g_1, X_g_2⟩ := id X_g
  go_wp2_with fail
  refine (heldTable_any _ _ _ _ _ o_g.has (by omega) (by omega)).mono ?_
  rintro e v7 ⟨rfl, st⟩
  clear X_r_1 X_r_2 X_g_1 X_g_2
  replace o_r := o_r.below st (Nat.le_refl _)
  replace o_g := o_g.below st (Nat.le_refl _)
  replace X_r := X_r.below st X_r.lt
  replace X_g := X_g.below st X_g.lt
  replace hB := hB.trans (st.mono hB.size)
  clear st
  have lt_r_h := o_r.lt
  have lt_g_h := o_g.lt
  have bo_X_r_h := X_r
  have bo_X_g_h := X_g
  have k_h := hB.size
  obtain ⟨X_r_1, X_r_2⟩ := id X_r
  obtain ⟨X_g_1, X_g_2⟩ := id X_g
  go_wp2_with fail
  refine (implEmpty_any _ _).mono ?_
  rw [HR.out]
  rintro e v8 ⟨a_h, n_h, c_h, rfl, o_h, st⟩
  clear X_r_1 X_r_2 X_g_1 X_g_2
  have ap_r_h : Apart2 a_r a_h := apart_lt lt_r_h o_h.ge
  have ap_g_h : Apart2 a_g a_h := apart_lt lt_g_h o_h.ge
  have nb_X_r_h := cell_new bo_X_r_h o_h.ge (Nat.le_refl _)
  clear bo_X_r_h
  have nb_X_g_h := cell_new bo_X_g_h o_h.ge (Nat.le_refl _)
  clear bo_X_g_h
  replace o_r := o_r.below st (Nat.le_refl _)
  replace o_g := o_g.below st (Nat.le_refl _)
  replace X_r := X_r.below st X_r.lt
  replace X_g := X_g.below st X_g.lt
  replace hB := hB.trans (st.mono hB.size)
  clear st
  have st : Below v8.heap.size v8 (v8.alloc (.cells #[.slice a_h n_h c_h] 27)) := (Below.refl _ _).alloc (Nat.le_refl _) _
  have X_h : CellAt (v8.alloc (.cells #[.slice a_h n_h c_h] 27)) v8.heap.size (.slice a_h n_h c_h) := cellAt_new _ _ _
  have nb_X_h_r := box_old o_r.lt
  have nb_X_h_g := box_old o_g.lt
  have nb_X_h_h := box_old o_h.lt
  obtain ⟨X_r_1, X_r_2⟩ := id X_r
  obtain ⟨X_g_1, X_g_2⟩ := id X_g
  have X_r_n := X_r.below st X_r.lt
  obtain ⟨X_r_5, X_r_6⟩ := id X_r_n
  have X_g_n := X_g.below st X_g.lt
  obtain ⟨X_g_5, X_g_6⟩ := id X_g_n
  go_wp2_with fail
  clear X_r_1 X_r_2 X_g_1 X_g_2
  clear X_r_5 X_r_6 X_g_5 X_g_6
  clear X_r_n X_g_n
  generalize v8.alloc (.cells #[.slice a_h n_h c_h] 27) = v9 at *
  replace o_r := o_r.below st (Nat.le_refl _)
  replace o_g := o_g.below st (Nat.le_refl _)
  replace o_h := o_h.below st (Nat.le_refl _)
  replace X_r := X_r.below st X_r.lt
  replace X_g := X_g.below st X_g.lt
  replace hB := hB.trans (st.mono hB.size)
  clear st
  obtain ⟨X_r_1, X_r_2⟩ := id X_r
  obtain ⟨X_g_1, X_g_2⟩ := id X_g
  obtain ⟨X_h_1, X_h_2⟩ := id X_h
  go_wp2_with fail
  refine (eqTable_any _ _ _ _ _ _ _ _ _ o_h.has o_r.has).mono ?_
  rintro e v10 ⟨rfl, st⟩
  clear X_r_1 X_r_2 X_g_1 X_g_2 X_h_1 X_h_2
  replace o_r := o_r.below st (Nat.le_refl _)
  replace o_g := o_g.below st (Nat.le_refl _)
  replace o_h := o_h.below st (Nat.le_refl _)
  replace X_r := X_r.below st X_r.lt
  replace X_g := X_g.below st X_g.lt
  replace X_h := X_h.below st X_h.lt
  replace hB := hB.trans (st.mono hB.size)
  clear st
  rw [same_self]
  obtain ⟨X_r_1, X_r_2⟩ := id X_r
  obtain ⟨X_g_1, X_g_2⟩ := id X_g
  obtain ⟨X_h_1, X_h_2⟩ := id X_h
  go_wp2_with fail
  refine (heldTable_any _ _ _ _ _ o_g.has (by omega) (by omega)).mono ?_
  rintro e v11 ⟨rfl, st⟩
  clear X_r_1 X_r_2 X_g_1 X_g_2 X_h_1 X_h_2
  replace o_r := o_r.below st (Nat.le_refl _)
  replace o_g := o_g.below st (Nat.le_refl _)
  replace o_h := o_h.below st (Nat.le_refl _)
  replace X_r := X_r.below st X_r.lt
  replace X_g := X_g.below st X_g.lt
  replace X_h := X_h.below st X_h.lt
  replace hB := hB.trans (st.mono hB.size)
  clear st
  obtain ⟨X_r_1, X_r_2⟩ := id X_r
  obtain ⟨X_g_1, X_g_2⟩ := id X_g
  obtain ⟨X_h_1, X_h_2⟩ := id X_h
  go_wp2_with fail
  go_ret
  exact ⟨rfl, hB⟩
  -- go_enter Try.func4, Try.ntmps4
  -- go_wp2
  -- go_ret
  -- exact ⟨rfl, by repeat (first | exact Grown.refl _ | apply Grown.drew | apply Grown.alloc)⟩
end Go.Proofs.Ytbmghpgnakbnjaa.fnExactEmptyTable
