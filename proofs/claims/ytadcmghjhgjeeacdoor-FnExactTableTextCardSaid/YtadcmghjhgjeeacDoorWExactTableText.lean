/- The walk of laws.FnExactTableText, by the contracts of the functions called. -/
import Derived.Test.YtadcmghjhgjeeacDoorRows
import Derived.Test.YtadcmghjhgjeeacDoorTie
import Derived.Test.YtadcmghjhgjeeacDoorCards
import Derived.LaidMore
import Derived.Lay
import Derived.Stop.Joined
import Derived.SevenTiedAt
import Derived.Test.YtadcmghjhgjeeacDoorLawKit
import Derived.Test.YtadcmghjhgjeeacDoorTbl
import Derived.Test.YtadcmghjhgjeeacDoorImplTx
import Derived.WalkKit
import Derived.ProofKit
import Derived.OpenShut
import Derived.ShutString
import Derived.ChangeOld
import Derived.Below
import Derived.Lib.SmallJoins
import Derived.Deep.DeepCutAuto
import Derived.Deep.RegionWith
namespace Go.Proofs.YtadcmghjhgjeeacDoor.fnExactTableText
open Go.ChangeShapes Go.WideShapes Go.ChangeAt Go.RowKit
open Go.ChangeMaps (open_string shut_string)
set_option linter.unusedVariables false

theorem own : ownKnob Tryd.prog.godebug = none := by kernel_rfl
theorem laidOut : laidOutB Tryd.prog = true := by kernel_rfl

/-- WHAT THE WALK IS TOLD OF A SLICE OF INTEGERS THAT CAME IN: it is nil; or it leads to a row of 'cap' cells, the numbers 'zs' (the first 'len' are its elements, the rest its spare room), each fitting its kind. -/
def IsRow (k : IntKind) (w : World) (a : Option Addr) (len cap : Nat) (zs : List Int) : Prop :=
  (a = none ∧ len = 0 ∧ cap = 0 ∧ zs = []) ∨
  ∃ x, a = some x ∧ len ≤ cap ∧ cap ≤ maxLen ∧ zs.length = cap ∧ (∀ i, i < zs.length → w.cell? (x.add i) = some (.int k (zs.getD i 0))) ∧ ∀ n ∈ zs, (Lit.int k n).wf = true

theorem cellsW : Tryd.prog.cellsOf 24 = 1 := by kernel_rfl
theorem cellsS : Tryd.prog.cellsOf 22 = 1 := by kernel_rfl
/-- A field that is a slice of integers. -/
theorem field_row {H : Type} {enc : TypeId × Value → H} {W : World} {base : Nat} {held : Bool} {m : Nat} {c : Value} {y : DataW H × List MemPlace} (h : DataW.trod enc Tryd.prog W base (fun _ => true) held m 22 [c] = some y) :
    ∃ a len cap zs, c = .slice a len cap ∧ IsRow .i64 W a len cap zs := by
  rcases open_ints Tryd.underlying22 Tryd.underlying3 (by kernel_rfl) h with ⟨hcs, _⟩ | ⟨x, l, cp, zs, hcs, _, hl, hm, hz, _, hcell, hwz⟩
  · simp at hcs
    subst hcs
    exact ⟨none, 0, 0, [], rfl, .inl ⟨rfl, rfl, rfl, rfl⟩⟩
  · simp at hcs
    subst hcs
    exact ⟨_, _, _, zs, rfl, .inr ⟨_, rfl, hl, hm, by simpa using hz, hcell, hwz⟩⟩

/-! ### STEP 1: THE WALK: the Go text returns true, AND WRITES NOTHING THAT WAS THERE: 'Below w.heap.size w w'' (Derived/Below.lean: '.refl', '.alloc', '.drew', '.setCell' at a new block, '.trans'). Open each 'IsRow' by 'rcases' AHEAD of 'go_enter'; part every test ahead of the walk. -/
set_option maxRecDepth 100000 in
set_option maxHeartbeats 4000000 in
theorem walk (a0 : Option Addr) (len0 cap0 : Nat) (z0 : List Int) (w : World) (w0 : IsRow .i64 w a0 len0 cap0 z0) (hl : TabAt w) :
    Calls Tryd.prog 3 #[.agg #[.slice a0 len0 cap0]] w fun e w' => e = .returned (.bool true) ∧ Below w.heap.size w w' := by
  by_cases hs : (len0 : Int) ≤ 1048576
  · obtain ⟨xs0, H0⟩ := has_of_row w0 (by omega)
    clear w0
    have HZ : Hid (szLeft len0 1048576 = 1048576 - (len0 : Int)) := hid (by unfold szLeft; rw [if_pos hs])
    have hz : ¬ (1048576 - (len0 : Int) < 0) := by omega
    obtain ⟨⟨y0, ok⟩, hr⟩ : ∃ r, tableTxt xs0 = r := ⟨_, rfl⟩
    have HR := hid hr
    clear hr
    have hB : Below w.heap.size w w := Below.refl _ _
    have hy := neq_self_text y0
    have hok := neq_self_bool ok
    go_enter Tryd.func3, Tryd.ntmps3
    have st : Below w.heap.size w (w.alloc (.cells #[.slice a0 len0 cap0] 24)) := (Below.refl _ _).alloc (Nat.le_refl _) _
    have X_a : CellAt (w.alloc (.cells #[.slice a0 len0 cap0] 24)) w.heap.size (.slice a0 len0 cap0) := cellAt_new _ _ _
    go_wp2_with fail
    generalize w.alloc (.cells #[.slice a0 len0 cap0] 24) = v1 at *
    replace hB := hB.trans (st.mono hB.size)
    clear st
    obtain ⟨X_a_1, X_a_2⟩ := id X_a
    go_wp2_with fail
    refine (szTable_any _ _ _ _ _ (by omega) (by omega) (by omega)).mono ?_
    rw [HZ.out]
    rintro e v2 ⟨rfl, st⟩
    clear X_a_1 X_a_2
    replace X_a := X_a.below st X_a.lt
    replace hB := hB.trans (st.mono hB.size)
    clear st
    have bo_X_a_t := X_a
    have k_t := hB.size
    obtain ⟨X_a_1, X_a_2⟩ := id X_a
    go_wp2_with fail
    refine (toTable_any _ _ _ _ _ (H0.beyond hB)).mono ?_
    rintro e v3 ⟨a_t, c_t, rfl, o_t, st⟩
    clear X_a_1 X_a_2
    have nb_X_a_t := cell_new bo_X_a_t o_t.ge (Nat.le_refl _)
    clear bo_X_a_t
    replace X_a := X_a.below st X_a.lt
    replace hB := hB.trans (st.mono hB.size)
    clear st
    obtain ⟨X_a_1, X_a_2⟩ := id X_a
    go_wp2_with fail
    refine (specTableText_any _ _ _ _ _ o_t.has).mono ?_
    rw [HR.out]
    rintro e v4 ⟨rfl, st⟩
    clear X_a_1 X_a_2
    replace o_t := o_t.below st (Nat.le_refl _)
    replace X_a := X_a.below st X_a.lt
    replace hB := hB.trans (st.mono hB.size)
    clear st
    clear o_t
    have bo_X_a_x := X_a
    have k_x := hB.size
    obtain ⟨X_a_1, X_a_2⟩ := id X_a
    go_wp2_with fail
    refine (toTable_any _ _ _ _ _ (H0.beyond hB)).mono ?_
    rintro e v5 ⟨a_x, c_x, rfl, o_x, st⟩
    clear X_a_1 X_a_2
    have nb_X_a_x := cell_new bo_X_a_x o_x.ge (Nat.le_refl _)
    clear bo_X_a_x
    replace X_a := X_a.below st X_a.lt
    replace hB := hB.trans (st.mono hB.size)
    clear st
    have st : Below v5.heap.size v5 (v5.alloc (.cells #[.slice a_x len0 c_x] 28)) := (Below.refl _ _).alloc (Nat.le_refl _) _
    have X_x : CellAt (v5.alloc (.cells #[.slice a_x len0 c_x] 28)) v5.heap.size (.slice a_x len0 c_x) := cellAt_new _ _ _
    have nb_X_x_x := box_old o_x.lt
    obtain ⟨X_a_1, X_a_2⟩ := id X_a
    have X_a_n := X_a.below st X_a.lt
    obtain ⟨X_a_5, X_a_6⟩ := id X_a_n
    go_wp2_with fail
    clear X_a_1 X_a_2
    clear X_a_5 X_a_6
    clear X_a_n
    generalize v5.alloc (.cells #[.slice a_x len0 c_x] 28) = v6 at *
    replace o_x := o_x.below st (Nat.le_refl _)
    replace X_a := X_a.below st X_a.lt
    replace hB := hB.trans (st.mono hB.size)
    clear st
    obtain ⟨X_a_1, X_a_2⟩ := id X_a
    obtain ⟨X_x_1, X_x_2⟩ := id X_x
    go_wp2_with fail
    refine (implTableText_any _ _ _ _ _ o_x.has (hl.below hB (Nat.le_refl _))).mono ?_
    rw [HR.out]
    rintro e v7 ⟨rfl, st⟩
    clear X_a_1 X_a_2 X_x_1 X_x_2
    replace o_x := o_x.below st (Nat.le_refl _)
    replace X_a := X_a.below st X_a.lt
    replace X_x := X_x.below st X_x.lt
    replace hB := hB.trans (st.mono hB.size)
    clear st
    obtain ⟨X_a_1, X_a_2⟩ := id X_a
    obtain ⟨X_x_1, X_x_2⟩ := id X_x
    go_upto_region 10 with fail
    go_cut [39] (fun c wx => c = .bool false ∧ Below v7.heap.size v7 wx)
    case first =>
      have std : Below v7.heap.size v7 v7.drew := (Below.refl _ _).drew
      have hBd := hB.drew
      have o_d := o_x.below std (Nat.le_refl _)
      have X_d := X_x.below std X_x.lt
      go_region_with (first | (go_at_call 7; refine (toTable_any _ _ _ _ _ (H0.beyond hBd)).mono ?_; rintro e wu ⟨a_u, c_u, rfl, o_u, stu⟩; have o_y := o_d.below stu (Nat.le_refl _); obtain ⟨y_1, y_2⟩ := X_d.below stu X_d.lt) | (go_at_call 9; refine (eqTable_any _ _ _ _ _ _ _ _ _ o_y.has o_u.has).mono ?_; rintro e wz ⟨rfl, stz⟩; have stf := std.trans ((stu.trans (stz.mono stu.size)).mono std.size); rw [same_self]))
      all_goals (go_wp2_with fail; go_meet; exact ⟨rfl, stf⟩)
    case rest =>
      clear X_a_1 X_a_2 X_x_1 X_x_2
      obtain ⟨rfl, st⟩ := hcut
      replace o_x := o_x.below st (Nat.le_refl _)
      replace X_a := X_a.below st X_a.lt
      replace X_x := X_x.below st X_x.lt
      replace hB := hB.trans (st.mono hB.size)
      clear st
      obtain ⟨X_a_1, X_a_2⟩ := id X_a
      obtain ⟨X_x_1, X_x_2⟩ := id X_x
      go_wp2_with fail
      go_ret
      exact ⟨rfl, hB⟩
  · have hla : (len0 : Int) ≤ 9223372036854775807 := row_len w0
    have HZ : Hid (szLeft len0 1048576 = -1) := hid (by unfold szLeft; rw [if_neg hs])
    have hB : Below w.heap.size w w := Below.refl _ _
    go_enter Tryd.func3, Tryd.ntmps3
    have st : Below w.heap.size w (w.alloc (.cells #[.slice a0 len0 cap0] 24)) := (Below.refl _ _).alloc (Nat.le_refl _) _
    have X_a : CellAt (w.alloc (.cells #[.slice a0 len0 cap0] 24)) w.heap.size (.slice a0 len0 cap0) := cellAt_new _ _ _
    go_wp2_with fail
    generalize w.alloc (.cells #[.slice a0 len0 cap0] 24) = v1 at *
    replace hB := hB.trans (st.mono hB.size)
    clear st
    obtain ⟨X_a_1, X_a_2⟩ := id X_a
    go_wp2_with fail
    refine (szTable_any _ _ _ _ _ hla (by omega) (by omega)).mono ?_
    rw [HZ.out]
    rintro e v2 ⟨rfl, st⟩
    clear X_a_1 X_a_2
    replace X_a := X_a.below st X_a.lt
    replace hB := hB.trans (st.mono hB.size)
    clear st
    obtain ⟨X_a_1, X_a_2⟩ := id X_a
    go_wp2_with fail
    go_ret
    exact ⟨rfl, hB⟩
end Go.Proofs.YtadcmghjhgjeeacDoor.fnExactTableText
