/- The walk of laws.FnExactStreetOf, by the contracts of the functions called. -/
import Derived.Test.YtadcmghjhgjeeabRows
import Derived.Test.YtadcmghjhgjeeabLawKit
import Derived.Test.YtadcmghjhgjeeabTbl
import Derived.Test.YtadcmghjhgjeeabSpecSn
import Derived.Test.YtadcmghjhgjeeabImplSn
import Derived.WalkKit
import Derived.ProofKit
import Derived.OpenShut
import Derived.ShutString
import Derived.ChangeOld
import Derived.Below
import Derived.Lib.SmallJoins
import Derived.Deep.DeepCutAuto
import Derived.Deep.RegionWith
namespace Go.Proofs.Ytadcmghjhgjeeab.fnExactStreetOf
open Go.ChangeShapes Go.WideShapes Go.ChangeAt Go.RowKit
open Go.ChangeMaps (open_string shut_string)
set_option linter.unusedVariables false

theorem own : ownKnob Try.prog.godebug = none := by kernel_rfl
theorem laidOut : laidOutB Try.prog = true := by kernel_rfl

/-- WHAT THE WALK IS TOLD OF A SLICE OF INTEGERS THAT CAME IN: it is nil; or it leads to a row of 'cap' cells, the numbers 'zs' (the first 'len' are its elements, the rest its spare room), each fitting its kind. -/
def IsRow (k : IntKind) (w : World) (a : Option Addr) (len cap : Nat) (zs : List Int) : Prop :=
  (a = none ∧ len = 0 ∧ cap = 0 ∧ zs = []) ∨
  ∃ x, a = some x ∧ len ≤ cap ∧ cap ≤ maxLen ∧ zs.length = cap ∧ (∀ i, i < zs.length → w.cell? (x.add i) = some (.int k (zs.getD i 0))) ∧ ∀ n ∈ zs, (Lit.int k n).wf = true

theorem cellsW : Try.prog.cellsOf 32 = 1 := by kernel_rfl
theorem cellsS : Try.prog.cellsOf 22 = 1 := by kernel_rfl
/-- A field that is a slice of integers. -/
theorem field_row {H : Type} {enc : TypeId × Value → H} {W : World} {base : Nat} {held : Bool} {m : Nat} {c : Value} {y : DataW H × List MemPlace} (h : DataW.trod enc Try.prog W base (fun _ => true) held m 22 [c] = some y) :
    ∃ a len cap zs, c = .slice a len cap ∧ IsRow .i64 W a len cap zs := by
  rcases open_ints Try.underlying22 Try.underlying3 (by kernel_rfl) h with ⟨hcs, _⟩ | ⟨x, l, cp, zs, hcs, _, hl, hm, hz, _, hcell, hwz⟩
  · simp at hcs
    subst hcs
    exact ⟨none, 0, 0, [], rfl, .inl ⟨rfl, rfl, rfl, rfl⟩⟩
  · simp at hcs
    subst hcs
    exact ⟨_, _, _, zs, rfl, .inr ⟨_, rfl, hl, hm, by simpa using hz, hcell, hwz⟩⟩

/-! ### STEP 1: THE WALK: the Go text returns true, AND WRITES NOTHING THAT WAS THERE: 'Below w.heap.size w w'' (Derived/Below.lean: '.refl', '.alloc', '.drew', '.setCell' at a new block, '.trans'). Open each 'IsRow' by 'rcases' AHEAD of 'go_enter'; part every test ahead of the walk. -/
set_option maxRecDepth 100000 in
set_option maxHeartbeats 4000000 in
theorem walk (a0 : Option Addr) (len0 cap0 : Nat) (z0 : List Int) (w : World) (w0 : IsRow .i64 w a0 len0 cap0 z0) :
    Calls Try.prog 7 #[.agg #[.slice a0 len0 cap0]] w fun e w' => e = .returned (.bool true) ∧ Below w.heap.size w w' := by
  by_cases hs : (len0 : Int) ≤ 1048576
  · obtain ⟨xs0, H0⟩ := has_of_row w0 (by omega)
    clear w0
    have HZ : Hid (szLeft len0 1048576 = 1048576 - (len0 : Int)) := hid (by unfold szLeft; rw [if_pos hs])
    have hz : ¬ (1048576 - (len0 : Int) < 0) := by omega
    obtain ⟨⟨y0, z0, ok⟩, hr⟩ : ∃ r, streetOf xs0 = r := ⟨_, rfl⟩
    have HR := hid hr
    clear hr
    have hB : Below w.heap.size w w := Below.refl _ _
    have hyz := neq_self_int z0
    have hok := neq_self_bool ok
    go_enter Try.func7, Try.ntmps7
    have st : Below w.heap.size w (w.alloc (.cells #[.slice a0 len0 cap0] 32)) := (Below.refl _ _).alloc (Nat.le_refl _) _
    have X_a : CellAt (w.alloc (.cells #[.slice a0 len0 cap0] 32)) w.heap.size (.slice a0 len0 cap0) := cellAt_new _ _ _
    go_wp2_with fail
    generalize w.alloc (.cells #[.slice a0 len0 cap0] 32) = v1 at *
    replace hB := hB.trans (st.mono hB.size)
    clear st
    obtain ⟨X_a_1, X_a_2⟩ := id X_a
    go_wp2_with fail
    refine (szTable_any _ _ _ _ _ (by omega) (by omega) (by omega)).mono ?_
    rw [HZ.out]
    rintro e v2 ⟨rfl, st⟩
    clear X_a_1 X_a_2
    replace X_a := X_a.below st X_a.lt
    replace hB := hB.trans (st.mono hB.size)
    clear st
    have bo_X_a_t := X_a
    have k_t := hB.size
    obtain ⟨X_a_1, X_a_2⟩ := id X_a
    go_wp2_with fail
    refine (toTable_any _ _ _ _ _ (H0.beyond hB)).mono ?_
    rintro e v3 ⟨a_t, c_t, rfl, o_t, st⟩
    clear X_a_1 X_a_2
    have nb_X_a_t := cell_new bo_X_a_t o_t.ge (Nat.le_refl _)
    clear bo_X_a_t
    replace X_a := X_a.below st X_a.lt
    replace hB := hB.trans (st.mono hB.size)
    clear st
    have lt_t_r := o_t.lt
    have bo_X_a_r := X_a
    have k_r := hB.size
    obtain ⟨X_a_1, X_a_2⟩ := id X_a
    go_wp2_with fail
    refine (specStreet_any _ _ _ _ _ o_t.has).mono ?_
    rw [HR.out]
    rintro e v4 ⟨a_r, n_r, c_r, rfl, o_r, st⟩
    clear X_a_1 X_a_2
    have ap_t_r : Apart2 a_t a_r := apart_lt lt_t_r o_r.ge
    have nb_X_a_r := cell_new bo_X_a_r o_r.ge (Nat.le_refl _)
    clear bo_X_a_r
    replace o_t := o_t.below st (Nat.le_refl _)
    replace X_a := X_a.below st X_a.lt
    replace hB := hB.trans (st.mono hB.size)
    clear st
    clear o_t
    have lt_r_x := o_r.lt
    have bo_X_a_x := X_a
    have k_x := hB.size
    obtain ⟨X_a_1, X_a_2⟩ := id X_a
    go_wp2_with fail
    refine (toTable_any _ _ _ _ _ (H0.beyond hB)).mono ?_
    rintro e v5 ⟨a_x, c_x, rfl, o_x, st⟩
    clear X_a_1 X_a_2
    have ap_r_x : Apart2 a_r a_x := apart_lt lt_r_x o_x.ge
    have nb_X_a_x := cell_new bo_X_a_x o_x.ge (Nat.le_refl _)
    clear bo_X_a_x
    replace o_r := o_r.below st (Nat.le_refl _)
    replace X_a := X_a.below st X_a.lt
    replace hB := hB.trans (st.mono hB.size)
    clear st
    have st : Below v5.heap.size v5 (v5.alloc (.cells #[.slice a_x len0 c_x] 35)) := (Below.refl _ _).alloc (Nat.le_refl _) _
    have X_x : CellAt (v5.alloc (.cells #[.slice a_x len0 c_x] 35)) v5.heap.size (.slice a_x len0 c_x) := cellAt_new _ _ _
    have nb_X_x_r := box_old o_r.lt
    have nb_X_x_x := box_old o_x.lt
    obtain ⟨X_a_1, X_a_2⟩ := id X_a
    have X_a_n := X_a.below st X_a.lt
    obtain ⟨X_a_5, X_a_6⟩ := id X_a_n
    go_wp2_with fail
    clear X_a_1 X_a_2
    clear X_a_5 X_a_6
    clear X_a_n
    generalize v5.alloc (.cells #[.slice a_x len0 c_x] 35) = v6 at *
    replace o_r := o_r.below st (Nat.le_refl _)
    replace o_x := o_x.below st (Nat.le_refl _)
    replace X_a := X_a.below st X_a.lt
    replace hB := hB.trans (st.mono hB.size)
    clear st
    have lt_r_g := o_r.lt
    have lt_x_g := o_x.lt
    have bo_X_a_g := X_a
    have bo_X_x_g := X_x
    have k_g := hB.size
    obtain ⟨X_a_1, X_a_2⟩ := id X_a
    obtain ⟨X_x_1, X_x_2⟩ := id X_x
    go_wp2_with fail
    refine (implStreet_any _ _ _ _ _ o_x.has).mono ?_
    rw [HR.out]
    rintro e v7 ⟨a_g, n_g, c_g, rfl, o_g, st⟩
    clear X_a_1 X_a_2 X_x_1 X_x_2
    have ap_r_g : Apart2 a_r a_g := apart_lt lt_r_g o_g.ge
    have ap_x_g : Apart2 a_x a_g := apart_lt lt_x_g o_g.ge
    have nb_X_a_g := cell_new bo_X_a_g o_g.ge (Nat.le_refl _)
    clear bo_X_a_g
    have nb_X_x_g := cell_new bo_X_x_g o_g.ge (Nat.le_refl _)
    clear bo_X_x_g
    replace o_r := o_r.below st (Nat.le_refl _)
    replace o_x := o_x.below st (Nat.le_refl _)
    replace X_a := X_a.below st X_a.lt
    replace X_x := X_x.below st X_x.lt
    replace hB := hB.trans (st.mono hB.size)
    clear st
    obtain ⟨X_a_1, X_a_2⟩ := id X_a
    obtain ⟨X_x_1, X_x_2⟩ := id X_x
    go_wp2_with fail
    refine (eqIntS_any _ _ _ _ _ _ _ _ _ o_g.has o_r.has).mono ?_
    rintro e v8 ⟨rfl, q⟩
    clear X_a_1 X_a_2 X_x_1 X_x_2
    have st : Below v7.heap.size v7 v8 := q.below _
    replace o_r := o_r.below st (Nat.le_refl _)
    replace o_x := o_x.below st (Nat.le_refl _)
    replace o_g := o_g.below st (Nat.le_refl _)
    replace X_a := X_a.below st X_a.lt
    replace X_x := X_x.below st X_x.lt
    replace hB := hB.trans (st.mono hB.size)
    clear st
    clear q
    rw [same_self]
    obtain ⟨X_a_1, X_a_2⟩ := id X_a
    obtain ⟨X_x_1, X_x_2⟩ := id X_x
    go_upto_region 10 with fail
    go_cut [55] (fun c wx => c = .bool false ∧ Below v8.heap.size v8 wx)
    case first =>
      have std : Below v8.heap.size v8 v8.drew := (Below.refl _ _).drew
      have hBd := hB.drew
      have o_d := o_x.below std (Nat.le_refl _)
      have X_d := X_x.below std X_x.lt
      go_region_with (first | (go_at_call 21; refine (toTable_any _ _ _ _ _ (H0.beyond hBd)).mono ?_; rintro e wu ⟨a_u, c_u, rfl, o_u, stu⟩; have o_y := o_d.below stu (Nat.le_refl _); obtain ⟨y_1, y_2⟩ := X_d.below stu X_d.lt) | (go_at_call 23; refine (eqTable_any _ _ _ _ _ _ _ _ _ o_y.has o_u.has).mono ?_; rintro e wz ⟨rfl, stz⟩; have stf := std.trans ((stu.trans (stz.mono stu.size)).mono std.size); rw [same_self]))
      all_goals (go_wp2_with fail; go_meet; exact ⟨rfl, stf⟩)
    case rest =>
      clear X_a_1 X_a_2 X_x_1 X_x_2
      obtain ⟨rfl, st⟩ := hcut
      replace o_r := o_r.below st (Nat.le_refl _)
      replace o_x := o_x.below st (Nat.le_refl _)
      replace o_g := o_g.below st (Nat.le_refl _)
      replace X_a := X_a.below st X_a.lt
      replace X_x := X_x.below st X_x.lt
      replace hB := hB.trans (st.mono hB.size)
      clear st
      have hn_g := o_g.le
      obtain ⟨X_a_1, X_a_2⟩ := id X_a
      obtain ⟨X_x_1, X_x_2⟩ := id X_x
      go_wp2_with fail
      refine (markTable_any _ _ _ _ _ _ _ (o_x.mono k_x) (by omega) (by omega)).mono ?_
      rintro e v9 ⟨rfl, om, u1, st, hm⟩
      clear X_a_1 X_a_2 X_x_1 X_x_2
      replace o_r := o_r.below st (Nat.le_refl _)
      replace o_x := o_x.below st (Nat.le_refl _)
      replace o_g := o_g.below st (Nat.le_refl _)
      replace X_a := X_a.below st X_a.lt
      replace X_x := X_x.below st X_x.lt
      replace hB := hB.trans (st.mono hB.size)
      clear st
      replace o_r := o_r.unmarked hm ap_r_x
      replace o_g := o_g.unmarked hm ap_x_g.symm
      replace X_a := X_a.unmarked hm nb_X_a_x
      replace X_x := X_x.unmarked hm nb_X_x_x
      replace hB := hB.trans (hm.below (o_x.ge.mono k_x) hB.size)
      clear hm o_x
      have o_x := om
      clear om
      have hk0 : ¬ ((1 : Int) + (len0 : Int) < 0) := by omega
      obtain ⟨X_a_1, X_a_2⟩ := id X_a
      obtain ⟨X_x_1, X_x_2⟩ := id X_x
      go_wp2_with fail
      refine (eqIntS_any _ _ _ _ _ _ _ _ _ o_g.has o_r.has).mono ?_
      rintro e v10 ⟨rfl, q⟩
      clear X_a_1 X_a_2 X_x_1 X_x_2
      have st : Below v9.heap.size v9 v10 := q.below _
      replace o_r := o_r.below st (Nat.le_refl _)
      replace o_x := o_x.below st (Nat.le_refl _)
      replace o_g := o_g.below st (Nat.le_refl _)
      replace X_a := X_a.below st X_a.lt
      replace X_x := X_x.below st X_x.lt
      replace hB := hB.trans (st.mono hB.size)
      clear st
      clear q
      rw [same_self]
      have hmm : ((1 : Int) + (n_g : Int) != (1 : Int) + (n_g : Int)) = false := neq_self_int _
      have hnn : ¬ ((1 : Int) + (n_g : Int) < 0) := by omega
      obtain ⟨X_a_1, X_a_2⟩ := id X_a
      obtain ⟨X_x_1, X_x_2⟩ := id X_x
      go_wp2_with fail
      refine (markIntS_any _ _ _ _ _ _ _ o_g (by omega) (by omega)).mono ?_
      rintro e v11 ⟨rfl, om, hm⟩
      clear X_a_1 X_a_2 X_x_1 X_x_2
      replace o_r := o_r.unmarked hm ap_r_g
      replace o_x := o_x.unmarked hm ap_x_g
      replace X_a := X_a.unmarked hm nb_X_a_g
      replace X_x := X_x.unmarked hm nb_X_x_g
      replace hB := hB.trans (hm.below (o_g.ge.mono k_g) hB.size)
      clear hm o_g
      have o_g := om
      clear om
      obtain ⟨X_a_1, X_a_2⟩ := id X_a
      obtain ⟨X_x_1, X_x_2⟩ := id X_x
      go_wp2_with fail
      refine (heldIntS_any _ _ _ _ _ o_g.has (by omega) (by omega)).mono ?_
      rintro e _ ⟨rfl, rfl⟩
      clear X_a_1 X_a_2 X_x_1 X_x_2
      have lt_r_s := o_r.lt
      have lt_x_s := o_x.lt
      have lt_g_s := o_g.lt
      have bo_X_a_s := X_a
      have bo_X_x_s := X_x
      have k_s := hB.size
      obtain ⟨X_a_1, X_a_2⟩ := id X_a
      obtain ⟨X_x_1, X_x_2⟩ := id X_x
      go_wp2_with fail
      refine (toTable_any _ _ _ _ _ (H0.beyond hB)).mono ?_
      rintro e v12 ⟨a_s, c_s, rfl, o_s, st⟩
      clear X_a_1 X_a_2 X_x_1 X_x_2
      have ap_r_s : Apart2 a_r a_s := apart_lt lt_r_s o_s.ge
      have ap_x_s : Apart2 a_x a_s := apart_lt lt_x_s o_s.ge
      have ap_g_s : Apart2 a_g a_s := apart_lt lt_g_s o_s.ge
      have nb_X_a_s := cell_new bo_X_a_s o_s.ge (Nat.le_refl _)
      clear bo_X_a_s
      have nb_X_x_s := cell_new bo_X_x_s o_s.ge (Nat.le_refl _)
      clear bo_X_x_s
      replace o_r := o_r.below st (Nat.le_refl _)
      replace o_x := o_x.below st (Nat.le_refl _)
      replace o_g := o_g.below st (Nat.le_refl _)
      replace X_a := X_a.below st X_a.lt
      replace X_x := X_x.below st X_x.lt
      replace hB := hB.trans (st.mono hB.size)
      clear st
      have lt_r_h := o_r.lt
      have lt_x_h := o_x.lt
      have lt_g_h := o_g.lt
      have lt_s_h := o_s.lt
      have bo_X_a_h := X_a
      have bo_X_x_h := X_x
      have k_h := hB.size
      obtain ⟨X_a_1, X_a_2⟩ := id X_a
      obtain ⟨X_x_1, X_x_2⟩ := id X_x
      go_wp2_with fail
      refine (implStreet_any _ _ _ _ _ o_s.has).mono ?_
      rw [HR.out]
      rintro e v13 ⟨a_h, n_h, c_h, rfl, o_h, st⟩
      clear X_a_1 X_a_2 X_x_1 X_x_2
      have ap_r_h : Apart2 a_r a_h := apart_lt lt_r_h o_h.ge
      have ap_x_h : Apart2 a_x a_h := apart_lt lt_x_h o_h.ge
      have ap_g_h : Apart2 a_g a_h := apart_lt lt_g_h o_h.ge
      have ap_s_h : Apart2 a_s a_h := apart_lt lt_s_h o_h.ge
      have nb_X_a_h := cell_new bo_X_a_h o_h.ge (Nat.le_refl _)
      clear bo_X_a_h
      have nb_X_x_h := cell_new bo_X_x_h o_h.ge (Nat.le_refl _)
      clear bo_X_x_h
      replace o_r := o_r.below st (Nat.le_refl _)
      replace o_x := o_x.below st (Nat.le_refl _)
      replace o_g := o_g.below st (Nat.le_refl _)
      replace o_s := o_s.below st (Nat.le_refl _)
      replace X_a := X_a.below st X_a.lt
      replace X_x := X_x.below st X_x.lt
      replace hB := hB.trans (st.mono hB.size)
      clear st
      clear o_s
      obtain ⟨X_a_1, X_a_2⟩ := id X_a
      obtain ⟨X_x_1, X_x_2⟩ := id X_x
      go_wp2_with fail
      refine (eqIntS_any _ _ _ _ _ _ _ _ _ o_h.has o_r.has).mono ?_
      rintro e v14 ⟨rfl, q⟩
      clear X_a_1 X_a_2 X_x_1 X_x_2
      have st : Below v13.heap.size v13 v14 := q.below _
      replace o_r := o_r.below st (Nat.le_refl _)
      replace o_x := o_x.below st (Nat.le_refl _)
      replace o_g := o_g.below st (Nat.le_refl _)
      replace o_h := o_h.below st (Nat.le_refl _)
      replace X_a := X_a.below st X_a.lt
      replace X_x := X_x.below st X_x.lt
      replace hB := hB.trans (st.mono hB.size)
      clear st
      clear q
      rw [same_self]
      obtain ⟨X_a_1, X_a_2⟩ := id X_a
      obtain ⟨X_x_1, X_x_2⟩ := id X_x
      go_wp2_with fail
      refine (heldIntS_any _ _ _ _ _ o_g.has (by omega) (by omega)).mono ?_
      rintro e _ ⟨rfl, rfl⟩
      clear X_a_1 X_a_2 X_x_1 X_x_2
      obtain ⟨X_a_1, X_a_2⟩ := id X_a
      obtain ⟨X_x_1, X_x_2⟩ := id X_x
      go_wp2_with fail
      go_ret
      exact ⟨rfl, hB⟩
  · have hla : (len0 : Int) ≤ 9223372036854775807 := row_len w0
    have HZ : Hid (szLeft len0 1048576 = -1) := hid (by unfold szLeft; rw [if_neg hs])
    have hB : Below w.heap.size w w := Below.refl _ _
    go_enter Try.func7, Try.ntmps7
    have st : Below w.heap.size w (w.alloc (.cells #[.slice a0 len0 cap0] 32)) := (Below.refl _ _).alloc (Nat.le_refl _) _
    have X_a : CellAt (w.alloc (.cells #[.slice a0 len0 cap0] 32)) w.heap.size (.slice a0 len0 cap0) := cellAt_new _ _ _
    go_wp2_with fail
    generalize w.alloc (.cells #[.slice a0 len0 cap0] 32) = v1 at *
    replace hB := hB.trans (st.mono hB.size)
    clear st
    obtain ⟨X_a_1, X_a_2⟩ := id X_a
    go_wp2_with fail
    refine (szTable_any _ _ _ _ _ hla (by omega) (by omega)).mono ?_
    rw [HZ.out]
    rintro e v2 ⟨rfl, st⟩
    clear X_a_1 X_a_2
    replace X_a := X_a.below st X_a.lt
    replace hB := hB.trans (st.mono hB.size)
    clear st
    obtain ⟨X_a_1, X_a_2⟩ := id X_a
    go_wp2_with fail
    go_ret
    exact ⟨rfl, hB⟩
end Go.Proofs.Ytadcmghjhgjeeab.fnExactStreetOf
