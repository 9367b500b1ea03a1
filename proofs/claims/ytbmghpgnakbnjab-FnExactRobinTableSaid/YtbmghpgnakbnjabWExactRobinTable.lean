/- The walk of laws.FnExactRobinTable, by the contracts of the functions called. -/
import Derived.Test.YtbmghpgnakbnjabRows
import Derived.Test.YtbmghpgnakbnjabLawKit
import Derived.Test.YtbmghpgnakbnjabTbl
import Derived.Test.YtbmghpgnakbnjabImplRt
import Derived.WalkKit
import Derived.ProofKit
import Derived.OpenShut
import Derived.ShutString
import Derived.ChangeOld
import Derived.Below
namespace Go.Proofs.Ytbmghpgnakbnjab.fnExactRobinTable
open Go.ChangeShapes Go.WideShapes Go.ChangeAt Go.RowKit
open Go.ChangeMaps (open_string shut_string)
set_option linter.unusedVariables false

theorem own : ownKnob Try.prog.godebug = none := by kernel_rfl
theorem laidOut : laidOutB Try.prog = true := by kernel_rfl

/-- WHAT THE WALK IS TOLD OF A SLICE OF INTEGERS THAT CAME IN: it is nil; or it leads to a row of 'cap' cells, the numbers 'zs' (the first 'len' are its elements, the rest its spare room), each fitting its kind. -/
def IsRow (k : IntKind) (w : World) (a : Option Addr) (len cap : Nat) (zs : List Int) : Prop :=
  (a = none ∧ len = 0 ∧ cap = 0 ∧ zs = []) ∨
  ∃ x, a = some x ∧ len ≤ cap ∧ cap ≤ maxLen ∧ zs.length = cap ∧ (∀ i, i < zs.length → w.cell? (x.add i) = some (.int k (zs.getD i 0))) ∧ ∀ n ∈ zs, (Lit.int k n).wf = true

/-! ### STEP 1: THE WALK: the Go text returns true, AND WRITES NOTHING THAT WAS THERE: 'Below w.heap.size w w'' (Derived/Below.lean: '.refl', '.alloc', '.drew', '.setCell' at a new block, '.trans'). Open each 'IsRow' by 'rcases' AHEAD of 'go_enter'; part every test ahead of the walk. -/
set_option maxRecDepth 100000 in
set_option maxHeartbeats 4000000 in
theorem walk (a0 : Int) (a1 : Option Addr) (len1 cap1 : Nat) (z1 : List Int) (w : World) (w0 : (Lit.int .i64 a0).wf = true) (w1 : IsRow .i64 w a1 len1 cap1 z1) :
    Calls Try.prog 8 #[.int .i64 a0, .slice a1 len1 cap1] w fun e w' => e = .returned (.bool true) ∧ Below w.heap.size w w' := by
  by_cases hs : (len1 : Int) ≤ 1048576
  · obtain ⟨xs1, H1⟩ := has_of_row w1 (by omega)
    clear w1
    obtain ⟨⟨y0, ok⟩, hr⟩ : ∃ r, robOf a0 xs1 = r := ⟨_, rfl⟩
    have HR := hid hr
    clear hr
    have hB : Below w.heap.size w w := Below.refl _ _
    have hok := neq_self_bool ok
    go_enter Try.func8, Try.ntmps8
    have k_t := hB.size
    go_wp2_with fail
    refine (toIntS_any _ _ _ _ _ (H1.beyond hB)).mono ?_
    rintro e v1 ⟨a_t, c_t, rfl, o_t, st⟩
    replace hB := hB.trans (st.mono hB.size)
    clear st
    have lt_t_r := o_t.lt
    have k_r := hB.size
    go_wp2_with fail
    refine (specRobinT_any _ _ _ _ _ _ o_t.has).mono ?_
    rw [HR.out]
    rintro e v2 ⟨a_r, n_r, c_r, rfl, o_r, st⟩
    have ap_t_r : Apart2 a_t a_r := apart_lt lt_t_r o_r.ge
    replace o_t := o_t.below st (Nat.le_refl _)
    replace hB := hB.trans (st.mono hB.size)
    clear st
    clear o_t
    have st : Below v2.heap.size v2 (v2.alloc (.cells #[.slice a_r n_r c_r] 28)) := (Below.refl _ _).alloc (Nat.le_refl _) _
    have X_r : CellAt (v2.alloc (.cells #[.slice a_r n_r c_r] 28)) v2.heap.size (.slice a_r n_r c_r) := cellAt_new _ _ _
    have nb_X_r_r := box_old o_r.lt
    go_wp2_with fail
    generalize v2.alloc (.cells #[.slice a_r n_r c_r] 28) = v3 at *
    replace o_r := o_r.below st (Nat.le_refl _)
    replace hB := hB.trans (st.mono hB.size)
    clear st
    have lt_r_x := o_r.lt
    have bo_X_r_x := X_r
    have k_x := hB.size
    obtain ⟨X_r_1, X_r_2⟩ := id X_r
    go_wp2_with fail
    refine (toIntS_any _ _ _ _ _ (H1.beyond hB)).mono ?_
    rintro e v4 ⟨a_x, c_x, rfl, o_x, st⟩
    clear X_r_1 X_r_2
    have ap_r_x : Apart2 a_r a_x := apart_lt lt_r_x o_x.ge
    have nb_X_r_x := cell_new bo_X_r_x o_x.ge (Nat.le_refl _)
    clear bo_X_r_x
    replace o_r := o_r.below st (Nat.le_refl _)
    replace X_r := X_r.below st X_r.lt
    replace hB := hB.trans (st.mono hB.size)
    clear st
    have lt_r_g := o_r.lt
    have lt_x_g := o_x.lt
    have bo_X_r_g := X_r
    have k_g := hB.size
    obtain ⟨X_r_1, X_r_2⟩ := id X_r
    go_wp2_with fail
    refine (implRobinT_any _ _ _ _ _ _ o_x.has).mono ?_
    rw [HR.out]
    rintro e v5 ⟨a_g, n_g, c_g, rfl, o_g, st⟩
    clear X_r_1 X_r_2
    have ap_r_g : Apart2 a_r a_g := apart_lt lt_r_g o_g.ge
    have ap_x_g : Apart2 a_x a_g := apart_lt lt_x_g o_g.ge
    have nb_X_r_g := cell_new bo_X_r_g o_g.ge (Nat.le_refl _)
    clear bo_X_r_g
    replace o_r := o_r.below st (Nat.le_refl _)
    replace o_x := o_x.below st (Nat.le_refl _)
    replace X_r := X_r.below st X_r.lt
    replace hB := hB.trans (st.mono hB.size)
    clear st
    have st : Below v5.heap.size v5 (v5.alloc (.cells #[.slice a_g n_g c_g] 28)) := (Below.refl _ _).alloc (Nat.le_refl _) _
    have X_g : CellAt (v5.alloc (.cells #[.slice a_g n_g c_g] 28)) v5.heap.size (.slice a_g n_g c_g) := cellAt_new _ _ _
    have nb_X_g_r := box_old o_r.lt
    have nb_X_g_x := box_old o_x.lt
    have nb_X_g_g := box_old o_g.lt
    obtain ⟨X_r_1, X_r_2⟩ := id X_r
    have X_r_n := X_r.below st X_r.lt
    obtain ⟨X_r_5, X_r_6⟩ := id X_r_n
    go_wp2_with fail
    clear X_r_1 X_r_2
    clear X_r_5 X_r_6
    clear X_r_n
    generalize v5.alloc (.cells #[.slice a_g n_g c_g] 28) = v6 at *
    replace o_r := o_r.below st (Nat.le_refl _)
    replace o_x := o_x.below st (Nat.le_refl _)
    replace o_g := o_g.below st (Nat.le_refl _)
    replace X_r := X_r.below st X_r.lt
    replace hB := hB.trans (st.mono hB.size)
    clear st
    obtain ⟨X_r_1, X_r_2⟩ := id X_r
    obtain ⟨X_g_1, X_g_2⟩ := id X_g
    go_wp2_with fail
    refine (eqTable_any _ _ _ _ _ _ _ _ _ o_g.has o_r.has).mono ?_
    rintro e v7 ⟨rfl, st⟩
    clear X_r_1 X_r_2 X_g_1 X_g_2
    replace o_r := o_r.below st (Nat.le_refl _)
    replace o_x := o_x.below st (Nat.le_refl _)
    replace o_g := o_g.below st (Nat.le_refl _)
    replace X_r := X_r.below st X_r.lt
    replace X_g := X_g.below st X_g.lt
    replace hB := hB.trans (st.mono hB.size)
    clear st
    rw [same_self]
    have lt_r_u := o_r.lt
    have lt_x_u := o_x.lt
    have lt_g_u := o_g.lt
    have bo_X_r_u := X_r
    have bo_X_g_u := X_g
    have k_u := hB.size
    obtain ⟨X_r_1, X_r_2⟩ := id X_r
    obtain ⟨X_g_1, X_g_2⟩ := id X_g
    go_wp2_with fail
    refine (toIntS_any _ _ _ _ _ (H1.beyond hB)).mono ?_
    rintro e v8 ⟨a_u, c_u, rfl, o_u, st⟩
    clear X_r_1 X_r_2 X_g_1 X_g_2
    have ap_r_u : Apart2 a_r a_u := apart_lt lt_r_u o_u.ge
    have ap_x_u : Apart2 a_x a_u := apart_lt lt_x_u o_u.ge
    have ap_g_u : Apart2 a_g a_u := apart_lt lt_g_u o_u.ge
    have nb_X_r_u := cell_new bo_X_r_u o_u.ge (Nat.le_refl _)
    clear bo_X_r_u
    have nb_X_g_u := cell_new bo_X_g_u o_u.ge (Nat.le_refl _)
    clear bo_X_g_u
    replace o_r := o_r.below st (Nat.le_refl _)
    replace o_x := o_x.below st (Nat.le_refl _)
    replace o_g := o_g.below st (Nat.le_refl _)
    replace X_r := X_r.below st X_r.lt
    replace X_g := X_g.below st X_g.lt
    replace hB := hB.trans (st.mono hB.size)
    clear st
    obtain ⟨X_r_1, X_r_2⟩ := id X_r
    obtain ⟨X_g_1, X_g_2⟩ := id X_g
    go_wp2_with fail
    refine (eqIntS_any _ _ _ _ _ _ _ _ _ o_x.has o_u.has).mono ?_
    rintro e v9 ⟨rfl, q⟩
    clear X_r_1 X_r_2 X_g_1 X_g_2
    have st : Below v8.heap.size v8 v9 := q.below _
    replace o_r := o_r.below st (Nat.le_refl _)
    replace o_x := o_x.below st (Nat.le_refl _)
    replace o_g := o_g.below st (Nat.le_refl _)
    replace o_u := o_u.below st (Nat.le_refl _)
    replace X_r := X_r.below st X_r.lt
    replace X_g := X_g.below st X_g.lt
    replace hB := hB.trans (st.mono hB.size)
    clear st
    clear q
    rw [same_self]
    clear o_u
    have hn_g := o_g.le
    obtain ⟨X_r_1, X_r_2⟩ := id X_r
    obtain ⟨X_g_1, X_g_2⟩ := id X_g
    go_wp2_with fail
    refine (markIntS_any _ _ _ _ _ _ _ o_x (by omega) (by omega)).mono ?_
    rintro e v10 ⟨rfl, om, hm⟩
    clear X_r_1 X_r_2 X_g_1 X_g_2
    replace o_r := o_r.unmarked hm ap_r_x
    replace o_g := o_g.unmarked hm ap_x_g.symm
    replace X_r := X_r.unmarked hm nb_X_r_x
    replace X_g := X_g.unmarked hm nb_X_g_x
    replace hB := hB.trans (hm.below (o_x.ge.mono k_x) hB.size)
    clear hm o_x
    have o_x := om
    clear om
    have hk0 : ¬ ((1 : Int) + (len1 : Int) < 0) := by omega
    obtain ⟨X_r_1, X_r_2⟩ := id X_r
    obtain ⟨X_g_1, X_g_2⟩ := id X_g
    go_wp2_with fail
    refine (eqTable_any _ _ _ _ _ _ _ _ _ o_g.has o_r.has).mono ?_
    rintro e v11 ⟨rfl, st⟩
    clear X_r_1 X_r_2 X_g_1 X_g_2
    replace o_r := o_r.below st (Nat.le_refl _)
    replace o_x := o_x.below st (Nat.le_refl _)
    replace o_g := o_g.below st (Nat.le_refl _)
    replace X_r := X_r.below st X_r.lt
    replace X_g := X_g.below st X_g.lt
    replace hB := hB.trans (st.mono hB.size)
    clear st
    rw [same_self]
    have hmm : ((1 : Int) + (n_g : Int) != (1 : Int) + (n_g : Int)) = false := neq_self_int _
    have hnn : ¬ ((1 : Int) + (n_g : Int) < 0) := by omega
    obtain ⟨X_r_1, X_r_2⟩ := id X_r
    obtain ⟨X_g_1, X_g_2⟩ := id X_g
    go_wp2_with fail
    refine (markTable_any _ _ _ _ _ _ _ (o_g.mono k_g) (by omega) (by omega)).mono ?_
    rintro e v12 ⟨rfl, om, u1, st, hm⟩
    clear X_r_1 X_r_2 X_g_1 X_g_2
    replace o_r := o_r.below st (Nat.le_refl _)
    replace o_x := o_x.below st (Nat.le_refl _)
    replace o_g := o_g.below st (Nat.le_refl _)
    replace X_r := X_r.below st X_r.lt
    replace X_g := X_g.below st X_g.lt
    replace hB := hB.trans (st.mono hB.size)
    clear st
    replace o_r := o_r.unmarked hm ap_r_g
    replace o_x := o_x.unmarked hm ap_x_g
    replace X_r := X_r.unmarked hm nb_X_r_g
    replace X_g := X_g.unmarked hm nb_X_g_g
    replace hB := hB.trans (hm.below (o_g.ge.mono k_g) hB.size)
    clear hm o_g
    have o_g := om
    clear om
    obtain ⟨X_r_1, X_r_2⟩ := id X_r
    obtain ⟨X_g_1, X_g_2⟩ := id X_g
    go_wp2_with fail
    refine (heldTable_any _ _ _ _ _ o_g.has (by omega) (by omega)).mono ?_
    rintro e v13 ⟨rfl, st⟩
    clear X_r_1 X_r_2 X_g_1 X_g_2
    replace o_r := o_r.below st (Nat.le_refl _)
    replace o_x := o_x.below st (Nat.le_refl _)
    replace o_g := o_g.below st (Nat.le_refl _)
    replace X_r := X_r.below st X_r.lt
    replace X_g := X_g.below st X_g.lt
    replace hB := hB.trans (st.mono hB.size)
    clear st
    have lt_r_s := o_r.lt
    have lt_x_s := o_x.lt
    have lt_g_s := o_g.lt
    have bo_X_r_s := X_r
    have bo_X_g_s := X_g
    have k_s := hB.size
    obtain ⟨X_r_1, X_r_2⟩ := id X_r
    obtain ⟨X_g_1, X_g_2⟩ := id X_g
    go_wp2_with fail
    refine (toIntS_any _ _ _ _ _ (H1.beyond hB)).mono ?_
    rintro e v14 ⟨a_s, c_s, rfl, o_s, st⟩
    clear X_r_1 X_r_2 X_g_1 X_g_2
    have ap_r_s : Apart2 a_r a_s := apart_lt lt_r_s o_s.ge
    have ap_x_s : Apart2 a_x a_s := apart_lt lt_x_s o_s.ge
    have ap_g_s : Apart2 a_g a_s := apart_lt lt_g_s o_s.ge
    have nb_X_r_s := cell_new bo_X_r_s o_s.ge (Nat.le_refl _)
    clear bo_X_r_s
    have nb_X_g_s := cell_new bo_X_g_s o_s.ge (Nat.le_refl _)
    clear bo_X_g_s
    replace o_r := o_r.below st (Nat.le_refl _)
    replace o_x := o_x.below st (Nat.le_refl _)
    replace o_g := o_g.below st (Nat.le_refl _)
    replace X_r := X_r.below st X_r.lt
    replace X_g := X_g.below st X_g.lt
    replace hB := hB.trans (st.mono hB.size)
    clear st
    have lt_r_h := o_r.lt
    have lt_x_h := o_x.lt
    have lt_g_h := o_g.lt
    have lt_s_h := o_s.lt
    have bo_X_r_h := X_r
    have bo_X_g_h := X_g
    have k_h := hB.size
    obtain ⟨X_r_1, X_r_2⟩ := id X_r
    obtain ⟨X_g_1, X_g_2⟩ := id X_g
    go_wp2_with fail
    refine (implRobinT_any _ _ _ _ _ _ o_s.has).mono ?_
    rw [HR.out]
    rintro e v15 ⟨a_h, n_h, c_h, rfl, o_h, st⟩
    clear X_r_1 X_r_2 X_g_1 X_g_2
    have ap_r_h : Apart2 a_r a_h := apart_lt lt_r_h o_h.ge
    have ap_x_h : Apart2 a_x a_h := apart_lt lt_x_h o_h.ge
    have ap_g_h : Apart2 a_g a_h := apart_lt lt_g_h o_h.ge
    have ap_s_h : Apart2 a_s a_h := apart_lt lt_s_h o_h.ge
    have nb_X_r_h := cell_new bo_X_r_h o_h.ge (Nat.le_refl _)
    clear bo_X_r_h
    have nb_X_g_h := cell_new bo_X_g_h o_h.ge (Nat.le_refl _)
    clear bo_X_g_h
    replace o_r := o_r.below st (Nat.le_refl _)
    replace o_x := o_x.below st (Nat.le_refl _)
    replace o_g := o_g.below st (Nat.le_refl _)
    replace o_s := o_s.below st (Nat.le_refl _)
    replace X_r := X_r.below st X_r.lt
    replace X_g := X_g.below st X_g.lt
    replace hB := hB.trans (st.mono hB.size)
    clear st
    clear o_s
    have st : Below v15.heap.size v15 (v15.alloc (.cells #[.slice a_h n_h c_h] 28)) := (Below.refl _ _).alloc (Nat.le_refl _) _
    have X_h : CellAt (v15.alloc (.cells #[.slice a_h n_h c_h] 28)) v15.heap.size (.slice a_h n_h c_h) := cellAt_new _ _ _
    have nb_X_h_r := box_old o_r.lt
    have nb_X_h_x := box_old o_x.lt
    have nb_X_h_g := box_old o_g.lt
    have nb_X_h_h := box_old o_h.lt
    obtain ⟨X_r_1, X_r_2⟩ := id X_r
    obtain ⟨X_g_1, X_g_2⟩ := id X_g
    have X_r_n := X_r.below st X_r.lt
    obtain ⟨X_r_5, X_r_6⟩ := id X_r_n
    have X_g_n := X_g.below st X_g.lt
    obtain ⟨X_g_5, X_g_6⟩ := id X_g_n
    go_wp2_with fail
    clear X_r_1 X_r_2 X_g_1 X_g_2
    clear X_r_5 X_r_6 X_g_5 X_g_6
    clear X_r_n X_g_n
    generalize v15.alloc (.cells #[.slice a_h n_h c_h] 28) = v16 at *
    replace o_r := o_r.below st (Nat.le_refl _)
    replace o_x := o_x.below st (Nat.le_refl _)
    replace o_g := o_g.below st (Nat.le_refl _)
    replace o_h := o_h.below st (Nat.le_refl _)
    replace X_r := X_r.below st X_r.lt
    replace X_g := X_g.below st X_g.lt
    replace hB := hB.trans (st.mono hB.size)
    clear st
    obtain ⟨X_r_1, X_r_2⟩ := id X_r
    obtain ⟨X_g_1, X_g_2⟩ := id X_g
    obtain ⟨X_h_1, X_h_2⟩ := id X_h
    go_wp2_with fail
    refine (eqTable_any _ _ _ _ _ _ _ _ _ o_h.has o_r.has).mono ?_
    rintro e v17 ⟨rfl, st⟩
    clear X_r_1 X_r_2 X_g_1 X_g_2 X_h_1 X_h_2
    replace o_r := o_r.below st (Nat.le_refl _)
    replace o_x := o_x.below st (Nat.le_refl _)
    replace o_g := o_g.below st (Nat.le_refl _)
    replace o_h := o_h.below st (Nat.le_refl _)
    replace X_r := X_r.below st X_r.lt
    replace X_g := X_g.below st X_g.lt
    replace X_h := X_h.below st X_h.lt
    replace hB := hB.trans (st.mono hB.size)
    clear st
    rw [same_self]
    obtain ⟨X_r_1, X_r_2⟩ := id X_r
    obtain ⟨X_g_1, X_g_2⟩ := id X_g
    obtain ⟨X_h_1, X_h_2⟩ := id X_h
    go_wp2_with fail
    refine (heldTable_any _ _ _ _ _ o_g.has (by omega) (by omega)).mono ?_
    rintro e v18 ⟨rfl, st⟩
    clear X_r_1 X_r_2 X_g_1 X_g_2 X_h_1 X_h_2
    replace o_r := o_r.below st (Nat.le_refl _)
    replace o_x := o_x.below st (Nat.le_refl _)
    replace o_g := o_g.below st (Nat.le_refl _)
    replace o_h := o_h.below st (Nat.le_refl _)
    replace X_r := X_r.below st X_r.lt
    replace X_g := X_g.below st X_g.lt
    replace X_h := X_h.below st X_h.lt
    replace hB := hB.trans (st.mono hB.size)
    clear st
    obtain ⟨X_r_1, X_r_2⟩ := id X_r
    obtain ⟨X_g_1, X_g_2⟩ := id X_g
    obtain ⟨X_h_1, X_h_2⟩ := id X_h
    go_wp2_with fail
    go_ret
    exact ⟨rfl, hB⟩
  · go_enter Try.func8, Try.ntmps8
    go_wp2_with fail
    go_ret
    exact ⟨rfl, Below.refl _ _⟩
end Go.Proofs.Ytbmghpgnakbnjab.fnExactRobinTable
