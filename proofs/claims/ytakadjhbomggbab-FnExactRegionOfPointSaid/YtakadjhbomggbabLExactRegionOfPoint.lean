/-
  Proved: laws.FnExactRegionOfPoint answers true at every input, and leaves each argument as it was.
  No condition: every value of the parameters' types. The frame is the guide's shell; the walk goes by the contracts of the functions called.
-/
import Derived.Test.YtakadjhbomggbabRows
import Derived.Test.YtakadjhbomggbabLawKit
import Derived.Test.YtakadjhbomggbabSpecOr
import Derived.WalkKit
import Derived.ProofKit
import Derived.OpenShut
import Derived.ShutString
import Derived.ChangeOld
import Derived.Below
namespace Go.Proofs.Ytakadjhbomggbab.fnExactRegionOfPoint
open Go.ChangeShapes Go.WideShapes Go.ChangeAt Go.RowKit
open Go.ChangeMaps (open_string shut_string)
set_option linter.unusedVariables false

theorem own : ownKnob Try.prog.godebug = none := by kernel_rfl
theorem laidOut : laidOutB Try.prog = true := by kernel_rfl

/-- WHAT THE WALK IS TOLD OF A SLICE OF INTEGERS THAT CAME IN: it is nil; or it leads to a row of 'cap' cells, the numbers 'zs' (the first 'len' are its elements, the rest its spare room), each fitting its kind. -/
def IsRow (k : IntKind) (w : World) (a : Option Addr) (len cap : Nat) (zs : List Int) : Prop :=
  (a = none ∧ len = 0 ∧ cap = 0 ∧ zs = []) ∨
  ∃ x, a = some x ∧ len ≤ cap ∧ cap ≤ maxLen ∧ zs.length = cap ∧ (∀ i, i < zs.length → w.cell? (x.add i) = some (.int k (zs.getD i 0))) ∧ ∀ n ∈ zs, (Lit.int k n).wf = true

/-! ### STEP 1: THE WALK: the Go text returns true, AND WRITES NOTHING THAT WAS THERE: 'Below w.heap.size w w'' (Derived/Below.lean: '.refl', '.alloc', '.drew', '.setCell' at a new block, '.trans'). Open each 'IsRow' by 'rcases' AHEAD of 'go_enter'; part every test ahead of the walk. -/
set_option maxRecDepth 100000 in
set_option maxHeartbeats 4000000 in
theorem walk (a0 : Option Addr) (len0 cap0 : Nat) (z0 : List Int) (w : World) (w0 : IsRow .i64 w a0 len0 cap0 z0) :
    Calls Try.prog 3 #[.slice a0 len0 cap0] w fun e w' => e = .returned (.bool true) ∧ Below w.heap.size w w' := by
  by_cases hs0 : len0 ≤ 1048576
  · obtain ⟨xs0, H0⟩ := has_of_row w0 hs0
    clear w0
    obtain ⟨⟨⟨y0, z0⟩, ok⟩, hr⟩ : ∃ r, regX xs0 = r := ⟨_, rfl⟩
    have HR := hid hr
    clear hr
    have hB : Below w.heap.size w w := Below.refl _ _
    have hok := neq_self_bool ok
    go_enter Try.func3, Try.ntmps3
    have k_t0 := hB.size
    go_wp2_with fail
    refine (toIntS_any _ _ _ _ _ (H0.beyond hB)).mono ?_
    rintro e v1 ⟨a_t0, c_t0, rfl, o_t0, st⟩
    replace hB := hB.trans (st.mono hB.size)
    clear st
    have lt_t0_ra := o_t0.lt
    have k_ra := hB.size
    have lt_t0_rb := o_t0.lt
    have k_rb := hB.size
    go_wp2_with fail
    refine (specRegPt_any _ _ _ _ _ o_t0.has).mono ?_
    rw [HR.out]
    rintro e v2 ⟨a_r, n_r, c_r, b_r, m_r, d_r, rfl, o_ra, o_rb, ap_ra_rb, st⟩
    have ap_t0_ra : Apart2 a_t0 a_r := apart_lt lt_t0_ra o_ra.ge
    have ap_t0_rb : Apart2 a_t0 b_r := apart_lt lt_t0_rb o_rb.ge
    replace o_t0 := o_t0.below st (Nat.le_refl _)
    replace hB := hB.trans (st.mono hB.size)
    clear st
    clear o_t0
    have st : Below v2.heap.size v2 (v2.alloc (.cells #[.slice a_r n_r c_r, .slice b_r m_r d_r] 24)) := (Below.refl _ _).alloc (Nat.le_refl _) _
    have X_r : BoxAt (v2.alloc (.cells #[.slice a_r n_r c_r, .slice b_r m_r d_r] 24)) v2.heap.size (.slice a_r n_r c_r) (.slice b_r m_r d_r) := boxAt_new _ _ _ _
    have nb_X_r_ra := box_old o_ra.lt
    have nb_X_r_rb := box_old o_rb.lt
    go_wp2_with fail
    generalize v2.alloc (.cells #[.slice a_r n_r c_r, .slice b_r m_r d_r] 24) = v3 at *
    replace o_ra := o_ra.below st (Nat.le_refl _)
    replace o_rb := o_rb.below st (Nat.le_refl _)
    replace hB := hB.trans (st.mono hB.size)
    clear st
    have lt_ra_x0 := o_ra.lt
    have lt_rb_x0 := o_rb.lt
    have bo_X_r_x0 := X_r
    have k_x0 := hB.size
    obtain ⟨X_r_1, X_r_2, X_r_3, X_r_4⟩ := id X_r
    go_wp2_with fail
    refine (toIntS_any _ _ _ _ _ (H0.beyond hB)).mono ?_
    rintro e v4 ⟨a_x0, c_x0, rfl, o_x0, st⟩
    clear X_r_1 X_r_2 X_r_3 X_r_4
    have ap_ra_x0 : Apart2 a_r a_x0 := apart_lt lt_ra_x0 o_x0.ge
    have ap_rb_x0 : Apart2 b_r a_x0 := apart_lt lt_rb_x0 o_x0.ge
    have nb_X_r_x0 := box_new bo_X_r_x0 o_x0.ge (Nat.le_refl _)
    clear bo_X_r_x0
    replace o_ra := o_ra.below st (Nat.le_refl _)
    replace o_rb := o_rb.below st (Nat.le_refl _)
    replace X_r := X_r.below st (boxAt_lt X_r)
    replace hB := hB.trans (st.mono hB.size)
    clear st
    have lt_ra_ga := o_ra.lt
    have lt_rb_ga := o_rb.lt
    have lt_x0_ga := o_x0.lt
    have bo_X_r_ga := X_r
    have k_ga := hB.size
    have lt_ra_gb := o_ra.lt
    have lt_rb_gb := o_rb.lt
    have lt_x0_gb := o_x0.lt
    have bo_X_r_gb := X_r
    have k_gb := hB.size
    obtain ⟨X_r_1, X_r_2, X_r_3, X_r_4⟩ := id X_r
    go_wp2_with fail
    refine (implRegPt_any _ _ _ _ _ o_x0.has).mono ?_
    rw [HR.out]
    rintro e v5 ⟨a_g, n_g, c_g, b_g, m_g, d_g, rfl, o_ga, o_gb, ap_ga_gb, st⟩
    clear X_r_1 X_r_2 X_r_3 X_r_4
    have ap_ra_ga : Apart2 a_r a_g := apart_lt lt_ra_ga o_ga.ge
    have ap_rb_ga : Apart2 b_r a_g := apart_lt lt_rb_ga o_ga.ge
    have ap_x0_ga : Apart2 a_x0 a_g := apart_lt lt_x0_ga o_ga.ge
    have nb_X_r_ga := box_new bo_X_r_ga o_ga.ge (Nat.le_refl _)
    clear bo_X_r_ga
    have ap_ra_gb : Apart2 a_r b_g := apart_lt lt_ra_gb o_gb.ge
    have ap_rb_gb : Apart2 b_r b_g := apart_lt lt_rb_gb o_gb.ge
    have ap_x0_gb : Apart2 a_x0 b_g := apart_lt lt_x0_gb o_gb.ge
    have nb_X_r_gb := box_new bo_X_r_gb o_gb.ge (Nat.le_refl _)
    clear bo_X_r_gb
    replace o_ra := o_ra.below st (Nat.le_refl _)
    replace o_rb := o_rb.below st (Nat.le_refl _)
    replace o_x0 := o_x0.below st (Nat.le_refl _)
    replace X_r := X_r.below st (boxAt_lt X_r)
    replace hB := hB.trans (st.mono hB.size)
    clear st
    have st : Below v5.heap.size v5 (v5.alloc (.cells #[.slice a_g n_g c_g, .slice b_g m_g d_g] 24)) := (Below.refl _ _).alloc (Nat.le_refl _) _
    have X_g : BoxAt (v5.alloc (.cells #[.slice a_g n_g c_g, .slice b_g m_g d_g] 24)) v5.heap.size (.slice a_g n_g c_g) (.slice b_g m_g d_g) := boxAt_new _ _ _ _
    have nb_X_g_ra := box_old o_ra.lt
    have nb_X_g_rb := box_old o_rb.lt
    have nb_X_g_x0 := box_old o_x0.lt
    have nb_X_g_ga := box_old o_ga.lt
    have nb_X_g_gb := box_old o_gb.lt
    obtain ⟨X_r_1, X_r_2, X_r_3, X_r_4⟩ := id X_r
    have X_r_n := X_r.below st (boxAt_lt X_r)
    obtain ⟨X_r_5, X_r_6, X_r_7, X_r_8⟩ := id X_r_n
    go_wp2_with fail
    clear X_r_1 X_r_2 X_r_3 X_r_4
    clear X_r_5 X_r_6 X_r_7 X_r_8
    clear X_r_n
    generalize v5.alloc (.cells #[.slice a_g n_g c_g, .slice b_g m_g d_g] 24) = v6 at *
    replace o_ra := o_ra.below st (Nat.le_refl _)
    replace o_rb := o_rb.below st (Nat.le_refl _)
    replace o_x0 := o_x0.below st (Nat.le_refl _)
    replace o_ga := o_ga.below st (Nat.le_refl _)
    replace o_gb := o_gb.below st (Nat.le_refl _)
    replace X_r := X_r.below st (boxAt_lt X_r)
    replace hB := hB.trans (st.mono hB.size)
    clear st
    obtain ⟨X_r_1, X_r_2, X_r_3, X_r_4⟩ := id X_r
    obtain ⟨X_g_1, X_g_2, X_g_3, X_g_4⟩ := id X_g
    go_wp2_with fail
    refine (eqWalk_any _ _ _ _ _ _ _ _ _ _ _ _ _ _ _ _ _ o_ga.has o_gb.has o_ra.has o_rb.has).mono ?_
    rintro e v7 ⟨rfl, st⟩
    clear X_r_1 X_r_2 X_r_3 X_r_4 X_g_1 X_g_2 X_g_3 X_g_4
    replace o_ra := o_ra.below st (Nat.le_refl _)
    replace o_rb := o_rb.below st (Nat.le_refl _)
    replace o_x0 := o_x0.below st (Nat.le_refl _)
    replace o_ga := o_ga.below st (Nat.le_refl _)
    replace o_gb := o_gb.below st (Nat.le_refl _)
    replace X_r := X_r.below st (boxAt_lt X_r)
    replace X_g := X_g.below st (boxAt_lt X_g)
    replace hB := hB.trans (st.mono hB.size)
    clear st
    rw [same_self, same_self]
    have lt_ra_u0 := o_ra.lt
    have lt_rb_u0 := o_rb.lt
    have lt_x0_u0 := o_x0.lt
    have lt_ga_u0 := o_ga.lt
    have lt_gb_u0 := o_gb.lt
    have bo_X_r_u0 := X_r
    have bo_X_g_u0 := X_g
    have k_u0 := hB.size
    obtain ⟨X_r_1, X_r_2, X_r_3, X_r_4⟩ := id X_r
    obtain ⟨X_g_1, X_g_2, X_g_3, X_g_4⟩ := id X_g
    go_wp2_with fail
    refine (toIntS_any _ _ _ _ _ (H0.beyond hB)).mono ?_
    rintro e v8 ⟨a_u0, c_u0, rfl, o_u0, st⟩
    clear X_r_1 X_r_2 X_r_3 X_r_4 X_g_1 X_g_2 X_g_3 X_g_4
    have ap_ra_u0 : Apart2 a_r a_u0 := apart_lt lt_ra_u0 o_u0.ge
    have ap_rb_u0 : Apart2 b_r a_u0 := apart_lt lt_rb_u0 o_u0.ge
    have ap_x0_u0 : Apart2 a_x0 a_u0 := apart_lt lt_x0_u0 o_u0.ge
    have ap_ga_u0 : Apart2 a_g a_u0 := apart_lt lt_ga_u0 o_u0.ge
    have ap_gb_u0 : Apart2 b_g a_u0 := apart_lt lt_gb_u0 o_u0.ge
    have nb_X_r_u0 := box_new bo_X_r_u0 o_u0.ge (Nat.le_refl _)
    clear bo_X_r_u0
    have nb_X_g_u0 := box_new bo_X_g_u0 o_u0.ge (Nat.le_refl _)
    clear bo_X_g_u0
    replace o_ra := o_ra.below st (Nat.le_refl _)
    replace o_rb := o_rb.below st (Nat.le_refl _)
    replace o_x0 := o_x0.below st (Nat.le_refl _)
    replace o_ga := o_ga.below st (Nat.le_refl _)
    replace o_gb := o_gb.below st (Nat.le_refl _)
    replace X_r := X_r.below st (boxAt_lt X_r)
    replace X_g := X_g.below st (boxAt_lt X_g)
    replace hB := hB.trans (st.mono hB.size)
    clear st
    obtain ⟨X_r_1, X_r_2, X_r_3, X_r_4⟩ := id X_r
    obtain ⟨X_g_1, X_g_2, X_g_3, X_g_4⟩ := id X_g
    go_wp2_with fail
    refine (eqIntS_any _ _ _ _ _ _ _ _ _ o_x0.has o_u0.has).mono ?_
    rintro e v9 ⟨rfl, q⟩
    clear X_r_1 X_r_2 X_r_3 X_r_4 X_g_1 X_g_2 X_g_3 X_g_4
    have st : Below v8.heap.size v8 v9 := q.below _
    replace o_ra := o_ra.below st (Nat.le_refl _)
    replace o_rb := o_rb.below st (Nat.le_refl _)
    replace o_x0 := o_x0.below st (Nat.le_refl _)
    replace o_ga := o_ga.below st (Nat.le_refl _)
    replace o_gb := o_gb.below st (Nat.le_refl _)
    replace o_u0 := o_u0.below st (Nat.le_refl _)
    replace X_r := X_r.below st (boxAt_lt X_r)
    replace X_g := X_g.below st (boxAt_lt X_g)
    replace hB := hB.trans (st.mono hB.size)
    clear st
    clear q
    rw [same_self]
    clear o_u0
    have hn_g := o_ga.le
    have hm_g := o_gb.le
    obtain ⟨X_r_1, X_r_2, X_r_3, X_r_4⟩ := id X_r
    obtain ⟨X_g_1, X_g_2, X_g_3, X_g_4⟩ := id X_g
    go_wp2_with fail
    refine (markIntS_any _ _ _ _ _ _ _ o_x0 (by omega) (by omega)).mono ?_
    rintro e v10 ⟨rfl, om, hm⟩
    clear X_r_1 X_r_2 X_r_3 X_r_4 X_g_1 X_g_2 X_g_3 X_g_4
    replace o_ra := o_ra.unmarked hm ap_ra_x0
    replace o_rb := o_rb.unmarked hm ap_rb_x0
    replace o_ga := o_ga.unmarked hm ap_x0_ga.symm
    replace o_gb := o_gb.unmarked hm ap_x0_gb.symm
    replace X_r := X_r.unmarked hm nb_X_r_x0
    replace X_g := X_g.unmarked hm nb_X_g_x0
    replace hB := hB.trans (hm.below (o_x0.ge.mono k_x0) hB.size)
    clear hm o_x0
    have o_x0 := om
    clear om
    obtain ⟨X_r_1, X_r_2, X_r_3, X_r_4⟩ := id X_r
    obtain ⟨X_g_1, X_g_2, X_g_3, X_g_4⟩ := id X_g
    go_wp2_with fail
    refine (eqWalk_any _ _ _ _ _ _ _ _ _ _ _ _ _ _ _ _ _ o_ga.has o_gb.has o_ra.has o_rb.has).mono ?_
    rintro e v11 ⟨rfl, st⟩
    clear X_r_1 X_r_2 X_r_3 X_r_4 X_g_1 X_g_2 X_g_3 X_g_4
    replace o_ra := o_ra.below st (Nat.le_refl _)
    replace o_rb := o_rb.below st (Nat.le_refl _)
    replace o_x0 := o_x0.below st (Nat.le_refl _)
    replace o_ga := o_ga.below st (Nat.le_refl _)
    replace o_gb := o_gb.below st (Nat.le_refl _)
    replace X_r := X_r.below st (boxAt_lt X_r)
    replace X_g := X_g.below st (boxAt_lt X_g)
    replace hB := hB.trans (st.mono hB.size)
    clear st
    rw [same_self, same_self]
    have hmm : ((1 : Int) + (n_g : Int) + (m_g : Int) != (1 : Int) + (n_g : Int) + (m_g : Int)) = false := neq_self_int _
    have hnn : ¬ ((1 : Int) + (n_g : Int) + (m_g : Int) < 0) := by omega
    obtain ⟨X_r_1, X_r_2, X_r_3, X_r_4⟩ := id X_r
    obtain ⟨X_g_1, X_g_2, X_g_3, X_g_4⟩ := id X_g
    go_wp2_with fail
    refine (markWalk_any _ _ _ _ _ _ _ _ _ _ _ (o_ga.mono k_ga) (o_gb.mono k_gb) ap_ga_gb (by omega) (by omega)).mono ?_
    rintro e v12 ⟨rfl, oma, omb, u1, u2, st, hma, hmb⟩
    clear X_r_1 X_r_2 X_r_3 X_r_4 X_g_1 X_g_2 X_g_3 X_g_4
    replace o_ra := o_ra.below st (Nat.le_refl _)
    replace o_rb := o_rb.below st (Nat.le_refl _)
    replace o_x0 := o_x0.below st (Nat.le_refl _)
    replace o_ga := o_ga.below st (Nat.le_refl _)
    replace o_gb := o_gb.below st (Nat.le_refl _)
    replace X_r := X_r.below st (boxAt_lt X_r)
    replace X_g := X_g.below st (boxAt_lt X_g)
    replace hB := hB.trans (st.mono hB.size)
    clear st
    replace o_ra := o_ra.unmarked hma ap_ra_ga
    replace o_rb := o_rb.unmarked hma ap_rb_ga
    replace o_x0 := o_x0.unmarked hma ap_x0_ga
    replace X_r := X_r.unmarked hma nb_X_r_ga
    replace X_g := X_g.unmarked hma nb_X_g_ga
    have ge_ga := o_ga.ge
    replace hB := hB.trans (hma.below (ge_ga.mono k_ga) hB.size)
    replace o_ra := o_ra.unmarked hmb ap_ra_gb
    replace o_rb := o_rb.unmarked hmb ap_rb_gb
    replace o_x0 := o_x0.unmarked hmb ap_x0_gb
    replace X_r := X_r.unmarked hmb nb_X_r_gb
    replace X_g := X_g.unmarked hmb nb_X_g_gb
    have ge_gb := o_gb.ge
    replace hB := hB.trans (hmb.below (ge_gb.mono k_gb) hB.size)
    clear hma hmb o_ga o_gb
    have o_ga := oma
    have o_gb := omb
    clear oma omb
    obtain ⟨X_r_1, X_r_2, X_r_3, X_r_4⟩ := id X_r
    obtain ⟨X_g_1, X_g_2, X_g_3, X_g_4⟩ := id X_g
    go_wp2_with fail
    refine (heldWalk_any _ _ _ _ _ _ _ _ o_ga.has o_gb.has (by omega) (by omega)).mono ?_
    rintro e v13 ⟨rfl, st⟩
    clear X_r_1 X_r_2 X_r_3 X_r_4 X_g_1 X_g_2 X_g_3 X_g_4
    replace o_ra := o_ra.below st (Nat.le_refl _)
    replace o_rb := o_rb.below st (Nat.le_refl _)
    replace o_x0 := o_x0.below st (Nat.le_refl _)
    replace o_ga := o_ga.below st (Nat.le_refl _)
    replace o_gb := o_gb.below st (Nat.le_refl _)
    replace X_r := X_r.below st (boxAt_lt X_r)
    replace X_g := X_g.below st (boxAt_lt X_g)
    replace hB := hB.trans (st.mono hB.size)
    clear st
    have lt_ra_s0 := o_ra.lt
    have lt_rb_s0 := o_rb.lt
    have lt_x0_s0 := o_x0.lt
    have lt_ga_s0 := o_ga.lt
    have lt_gb_s0 := o_gb.lt
    have bo_X_r_s0 := X_r
    have bo_X_g_s0 := X_g
    have k_s0 := hB.size
    obtain ⟨X_r_1, X_r_2, X_r_3, X_r_4⟩ := id X_r
    obtain ⟨X_g_1, X_g_2, X_g_3, X_g_4⟩ := id X_g
    go_wp2_with fail
    refine (toIntS_any _ _ _ _ _ (H0.beyond hB)).mono ?_
    rintro e v14 ⟨a_s0, c_s0, rfl, o_s0, st⟩
    clear X_r_1 X_r_2 X_r_3 X_r_4 X_g_1 X_g_2 X_g_3 X_g_4
    have ap_ra_s0 : Apart2 a_r a_s0 := apart_lt lt_ra_s0 o_s0.ge
    have ap_rb_s0 : Apart2 b_r a_s0 := apart_lt lt_rb_s0 o_s0.ge
    have ap_x0_s0 : Apart2 a_x0 a_s0 := apart_lt lt_x0_s0 o_s0.ge
    have ap_ga_s0 : Apart2 a_g a_s0 := apart_lt lt_ga_s0 o_s0.ge
    have ap_gb_s0 : Apart2 b_g a_s0 := apart_lt lt_gb_s0 o_s0.ge
    have nb_X_r_s0 := box_new bo_X_r_s0 o_s0.ge (Nat.le_refl _)
    clear bo_X_r_s0
    have nb_X_g_s0 := box_new bo_X_g_s0 o_s0.ge (Nat.le_refl _)
    clear bo_X_g_s0
    replace o_ra := o_ra.below st (Nat.le_refl _)
    replace o_rb := o_rb.below st (Nat.le_refl _)
    replace o_x0 := o_x0.below st (Nat.le_refl _)
    replace o_ga := o_ga.below st (Nat.le_refl _)
    replace o_gb := o_gb.below st (Nat.le_refl _)
    replace X_r := X_r.below st (boxAt_lt X_r)
    replace X_g := X_g.below st (boxAt_lt X_g)
    replace hB := hB.trans (st.mono hB.size)
    clear st
    have lt_ra_ha := o_ra.lt
    have lt_rb_ha := o_rb.lt
    have lt_x0_ha := o_x0.lt
    have lt_ga_ha := o_ga.lt
    have lt_gb_ha := o_gb.lt
    have lt_s0_ha := o_s0.lt
    have bo_X_r_ha := X_r
    have bo_X_g_ha := X_g
    have k_ha := hB.size
    have lt_ra_hb := o_ra.lt
    have lt_rb_hb := o_rb.lt
    have lt_x0_hb := o_x0.lt
    have lt_ga_hb := o_ga.lt
    have lt_gb_hb := o_gb.lt
    have lt_s0_hb := o_s0.lt
    have bo_X_r_hb := X_r
    have bo_X_g_hb := X_g
    have k_hb := hB.size
    obtain ⟨X_r_1, X_r_2, X_r_3, X_r_4⟩ := id X_r
    obtain ⟨X_g_1, X_g_2, X_g_3, X_g_4⟩ := id X_g
    go_wp2_with fail
    refine (implRegPt_any _ _ _ _ _ o_s0.has).mono ?_
    rw [HR.out]
    rintro e v15 ⟨a_h, n_h, c_h, b_h, m_h, d_h, rfl, o_ha, o_hb, ap_ha_hb, st⟩
    clear X_r_1 X_r_2 X_r_3 X_r_4 X_g_1 X_g_2 X_g_3 X_g_4
    have ap_ra_ha : Apart2 a_r a_h := apart_lt lt_ra_ha o_ha.ge
    have ap_rb_ha : Apart2 b_r a_h := apart_lt lt_rb_ha o_ha.ge
    have ap_x0_ha : Apart2 a_x0 a_h := apart_lt lt_x0_ha o_ha.ge
    have ap_ga_ha : Apart2 a_g a_h := apart_lt lt_ga_ha o_ha.ge
    have ap_gb_ha : Apart2 b_g a_h := apart_lt lt_gb_ha o_ha.ge
    have ap_s0_ha : Apart2 a_s0 a_h := apart_lt lt_s0_ha o_ha.ge
    have nb_X_r_ha := box_new bo_X_r_ha o_ha.ge (Nat.le_refl _)
    clear bo_X_r_ha
    have nb_X_g_ha := box_new bo_X_g_ha o_ha.ge (Nat.le_refl _)
    clear bo_X_g_ha
    have ap_ra_hb : Apart2 a_r b_h := apart_lt lt_ra_hb o_hb.ge
    have ap_rb_hb : Apart2 b_r b_h := apart_lt lt_rb_hb o_hb.ge
    have ap_x0_hb : Apart2 a_x0 b_h := apart_lt lt_x0_hb o_hb.ge
    have ap_ga_hb : Apart2 a_g b_h := apart_lt lt_ga_hb o_hb.ge
    have ap_gb_hb : Apart2 b_g b_h := apart_lt lt_gb_hb o_hb.ge
    have ap_s0_hb : Apart2 a_s0 b_h := apart_lt lt_s0_hb o_hb.ge
    have nb_X_r_hb := box_new bo_X_r_hb o_hb.ge (Nat.le_refl _)
    clear bo_X_r_hb
    have nb_X_g_hb := box_new bo_X_g_hb o_hb.ge (Nat.le_refl _)
    clear bo_X_g_hb
    replace o_ra := o_ra.below st (Nat.le_refl _)
    replace o_rb := o_rb.below st (Nat.le_refl _)
    replace o_x0 := o_x0.below st (Nat.le_refl _)
    replace o_ga := o_ga.below st (Nat.le_refl _)
    replace o_gb := o_gb.below st (Nat.le_refl _)
    replace o_s0 := o_s0.below st (Nat.le_refl _)
    replace X_r := X_r.below st (boxAt_lt X_r)
    replace X_g := X_g.below st (boxAt_lt X_g)
    replace hB := hB.trans (st.mono hB.size)
    clear st
    clear o_s0
    have st : Below v15.heap.size v15 (v15.alloc (.cells #[.slice a_h n_h c_h, .slice b_h m_h d_h] 24)) := (Below.refl _ _).alloc (Nat.le_refl _) _
    have X_h : BoxAt (v15.alloc (.cells #[.slice a_h n_h c_h, .slice b_h m_h d_h] 24)) v15.heap.size (.slice a_h n_h c_h) (.slice b_h m_h d_h) := boxAt_new _ _ _ _
    have nb_X_h_ra := box_old o_ra.lt
    have nb_X_h_rb := box_old o_rb.lt
    have nb_X_h_x0 := box_old o_x0.lt
    have nb_X_h_ga := box_old o_ga.lt
    have nb_X_h_gb := box_old o_gb.lt
    have nb_X_h_ha := box_old o_ha.lt
    have nb_X_h_hb := box_old o_hb.lt
    obtain ⟨X_r_1, X_r_2, X_r_3, X_r_4⟩ := id X_r
    obtain ⟨X_g_1, X_g_2, X_g_3, X_g_4⟩ := id X_g
    have X_r_n := X_r.below st (boxAt_lt X_r)
    obtain ⟨X_r_5, X_r_6, X_r_7, X_r_8⟩ := id X_r_n
    have X_g_n := X_g.below st (boxAt_lt X_g)
    obtain ⟨X_g_5, X_g_6, X_g_7, X_g_8⟩ := id X_g_n
    go_wp2_with fail
    clear X_r_1 X_r_2 X_r_3 X_r_4 X_g_1 X_g_2 X_g_3 X_g_4
    clear X_r_5 X_r_6 X_r_7 X_r_8 X_g_5 X_g_6 X_g_7 X_g_8
    clear X_r_n X_g_n
    generalize v15.alloc (.cells #[.slice a_h n_h c_h, .slice b_h m_h d_h] 24) = v16 at *
    replace o_ra := o_ra.below st (Nat.le_refl _)
    replace o_rb := o_rb.below st (Nat.le_refl _)
    replace o_x0 := o_x0.below st (Nat.le_refl _)
    replace o_ga := o_ga.below st (Nat.le_refl _)
    replace o_gb := o_gb.below st (Nat.le_refl _)
    replace o_ha := o_ha.below st (Nat.le_refl _)
    replace o_hb := o_hb.below st (Nat.le_refl _)
    replace X_r := X_r.below st (boxAt_lt X_r)
    replace X_g := X_g.below st (boxAt_lt X_g)
    replace hB := hB.trans (st.mono hB.size)
    clear st
    obtain ⟨X_r_1, X_r_2, X_r_3, X_r_4⟩ := id X_r
    obtain ⟨X_g_1, X_g_2, X_g_3, X_g_4⟩ := id X_g
    obtain ⟨X_h_1, X_h_2, X_h_3, X_h_4⟩ := id X_h
    go_wp2_with fail
    refine (eqWalk_any _ _ _ _ _ _ _ _ _ _ _ _ _ _ _ _ _ o_ha.has o_hb.has o_ra.has o_rb.has).mono ?_
    rintro e v17 ⟨rfl, st⟩
    clear X_r_1 X_r_2 X_r_3 X_r_4 X_g_1 X_g_2 X_g_3 X_g_4 X_h_1 X_h_2 X_h_3 X_h_4
    replace o_ra := o_ra.below st (Nat.le_refl _)
    replace o_rb := o_rb.below st (Nat.le_refl _)
    replace o_x0 := o_x0.below st (Nat.le_refl _)
    replace o_ga := o_ga.below st (Nat.le_refl _)
    replace o_gb := o_gb.below st (Nat.le_refl _)
    replace o_ha := o_ha.below st (Nat.le_refl _)
    replace o_hb := o_hb.below st (Nat.le_refl _)
    replace X_r := X_r.below st (boxAt_lt X_r)
    replace X_g := X_g.below st (boxAt_lt X_g)
    replace X_h := X_h.below st (boxAt_lt X_h)
    replace hB := hB.trans (st.mono hB.size)
    clear st
    rw [same_self, same_self]
    obtain ⟨X_r_1, X_r_2, X_r_3, X_r_4⟩ := id X_r
    obtain ⟨X_g_1, X_g_2, X_g_3, X_g_4⟩ := id X_g
    obtain ⟨X_h_1, X_h_2, X_h_3, X_h_4⟩ := id X_h
    go_wp2_with fail
    refine (heldWalk_any _ _ _ _ _ _ _ _ o_ga.has o_gb.has (by omega) (by omega)).mono ?_
    rintro e v18 ⟨rfl, st⟩
    clear X_r_1 X_r_2 X_r_3 X_r_4 X_g_1 X_g_2 X_g_3 X_g_4 X_h_1 X_h_2 X_h_3 X_h_4
    replace o_ra := o_ra.below st (Nat.le_refl _)
    replace o_rb := o_rb.below st (Nat.le_refl _)
    replace o_x0 := o_x0.below st (Nat.le_refl _)
    replace o_ga := o_ga.below st (Nat.le_refl _)
    replace o_gb := o_gb.below st (Nat.le_refl _)
    replace o_ha := o_ha.below st (Nat.le_refl _)
    replace o_hb := o_hb.below st (Nat.le_refl _)
    replace X_r := X_r.below st (boxAt_lt X_r)
    replace X_g := X_g.below st (boxAt_lt X_g)
    replace X_h := X_h.below st (boxAt_lt X_h)
    replace hB := hB.trans (st.mono hB.size)
    clear st
    obtain ⟨X_r_1, X_r_2, X_r_3, X_r_4⟩ := id X_r
    obtain ⟨X_g_1, X_g_2, X_g_3, X_g_4⟩ := id X_g
    obtain ⟨X_h_1, X_h_2, X_h_3, X_h_4⟩ := id X_h
    go_wp2_with fail
    go_ret
    exact ⟨rfl, hB⟩
  · go_enter Try.func3, Try.ntmps3
    go_wp2_with fail
    go_ret
    exact ⟨rfl, Below.refl _ _⟩

/-! ### THE ROW's STEP: WRITTEN OUT: LEAVE IT -/
set_option maxRecDepth 100000 in
theorem lifted (os : Os) (started : os.Started) (H : Type) (enc : TypeId × Value → H) :
    ReturnsInHanded {} Try.checked os 3 .any (Rows.fnExactRegionOfPointSpec.pre6 enc Try.prog Try.f3 Rows.fnExactRegionOfPointRow.domain false) (Rows.fnExactRegionOfPointSpec.post enc Try.prog Try.f3 false true false false) := by
  refine returnsInHanded_of_change (C := Try.checked) own started (by kernel_rfl) Try.func3
    (ChangeSpec.witness6 (enc := enc) (C := Try.checked) false ⟨#[], #[.slice none 0 0], []⟩ 8 (by kernel_rfl) (by kernel_rfl) (by kernel_rfl) (by kernel_rfl)) ?_
  intro W base args ds gs before hval0 hW hcnd _
  have hval : ∀ (j : Nat) t v, Try.f3.params[j]? = some t → args[j]? = some v → Value.okWide Try.prog W .any base t v := hval0
  have hW' := hW
  obtain ⟨p, q, hA0, hV, rfl, hfz, hnd⟩ := hW
  have hA : DataW.TrodAll enc Try.prog W 0 (fun _ => true) true Try.f3.params.toList args.toList ds p := hA0
  rw [Try.params3] at hA hval
  obtain ⟨v0, vs0, d0, ds0, p0, q0, hargs, rfl, rfl, h0, r0⟩ := trodAll_cons hA
  obtain ⟨rfl, rfl, rfl⟩ := trodAll_nil r0
  obtain rfl : args = #[v0] := by cases args; simp_all
  obtain ⟨rfl, rfl⟩ := trodVars_none hV
  obtain ⟨a0, len0, cap0, rfl⟩ := okWide_slice Try.underlying22 (hval 0 22 v0 rfl rfl)
  have k0 := h0
  have lt0 : ∀ x ∈ p0, x.block < W.heap.size := by obtain ⟨m, hm⟩ := k0; exact DataW.trod_lt m _ _ _ hm
  obtain ⟨z0, w0⟩ : ∃ zs, IsRow .i64 W a0 len0 cap0 zs := by
    obtain ⟨fuel, hf⟩ := h0
    rcases open_ints Try.underlying22 Try.underlying3 (by kernel_rfl) hf with ⟨hcs, _⟩ | ⟨x, l, c, zs, hcs, _, hl, hm, hz, _, hcell, hwz⟩
    · simp [Value.cells] at hcs
      obtain ⟨rfl, rfl, rfl⟩ := hcs
      exact ⟨[], .inl ⟨rfl, rfl, rfl, rfl⟩⟩
    · simp [Value.cells] at hcs
      obtain ⟨rfl, rfl, rfl⟩ := hcs
      exact ⟨zs, .inr ⟨_, rfl, hl, hm, by simpa using hz, hcell, hwz⟩⟩
  clear hA0 hval0
  refine (walk a0 len0 cap0 z0 W w0).mono fun e W' ⟨he, bel⟩ => ?_
  subst he
  exact ⟨_, rfl, _, _, _, [], _, [], hW', trodAll_mk1 (shut_bool Try.underlying4 _), (trodAll_cons_mk (Below.trod laidOut (by kernel_rfl) (of_decide_eq_true (by kernel_rfl)) k0 bel lt0) trodAll_mk0), rfl, bel.frame _, fun h => by cases h⟩

theorem over : Rows.fnExactRegionOfPointRow.holds Try.pinned (OpenSpec.ofChange Rows.fnExactRegionOfPointSpec) :=
  OpenClaim.holds_of_wide 3 Try.f3 rfl rfl rfl rfl rfl rfl rfl ⟨rfl, rfl, rfl, rfl, rfl⟩ rfl rfl rfl rfl rfl (by kernel_rfl) Try.func3 (by kernel_rfl)
    (of_decide_eq_true (by kernel_rfl)) (by unfold Func.isWrapper; first | (rw [if_pos (by decide +kernel)]; kernel_rfl) | (rw [if_neg (by decide +kernel)]; exact ⟨rfl, rfl⟩))
    (fun os started H enc _ => lifted os started H enc)

/-- ████ THE STATEMENT ████ -/
theorem proved : Rows.FnExactRegionOfPointSaid := over
#print axioms proved
end Go.Proofs.Ytakadjhbomggbab.fnExactRegionOfPoint

