/-
  Proved: laws.FnExactParseTree answers true at every input, and leaves each argument as it was.
  No condition: every value of the parameters' types. The frame is the guide's shell; the walk goes by the contracts of the functions called.
-/
import Derived.Test.YtpjgidjkpcbniacDoorRows
import Derived.Test.YtpjgidjkpcbniacDoorTie
import Derived.Test.YtpjgidjkpcbniacDoorCards
import Derived.LaidMore
import Derived.Lay
import Derived.Stop.Joined
import Derived.SevenTiedAt
import Derived.Test.YtpjgidjkpcbniacDoorLawKit
import Derived.Test.YtpjgidjkpcbniacDoorImplPa
import Derived.Test.YtpjgidjkpcbniacDoorLib
import Derived.WalkKit
import Derived.ProofKit
import Derived.OpenShut
import Derived.ShutString
namespace Go.Proofs.YtpjgidjkpcbniacDoor.fnExactParseTree
open Go.ChangeShapes Go.WideShapes Go.ChangeAt Go.RowKit
open Go.ChangeMaps (open_string shut_string)
set_option linter.unusedVariables false      -- a walk need not use every 'w<i>' (that an integer argument fits its kind)

theorem own : ownKnob Tryd.prog.godebug = none := by kernel_rfl

/-! ### STEP 1: THE WALK: the Go text returns true. Part the cases AHEAD of 'go_enter' where a test parts the walk; take each callee by a contract of your own. -/
set_option maxHeartbeats 2000000 in
theorem walk (a0 : ByteArray) (w0 : a0.size ≤ maxLen) (w : World) (hl : LibAt w) :
    Calls Tryd.prog 6 #[.string a0] w fun e w' => e = .returned (.bool true) ∧ Below w.heap.size w w' := by
  by_cases hs : a0.size ≤ 1048576
  · have hlib := hl
    obtain ⟨⟨y0, ok⟩, hr⟩ : ∃ r, treeRead a0 = r := ⟨_, rfl⟩
    have HR := hid hr
    clear hr
    have hB : Below w.heap.size w w := Below.refl _ _
    have hok := neq_self_bool ok
    go_enter Tryd.func6, Tryd.ntmps6
    have k_r := hB.size
    go_wp2_with fail
    refine (specParseTree_any _ _ hs).mono ?_
    rw [HR.out]
    rintro e v1 ⟨a_r, n_r, c_r, rfl, o_r, st⟩
    replace hB := hB.trans (st.mono hB.size)
    clear st
    have lt_r_g := o_r.lt
    have k_g := hB.size
    go_wp2_with fail
    refine (implParseTree_any _ _ (hlib.below hB (Nat.le_refl _)) hs).mono ?_
    rw [HR.out]
    rintro e v2 ⟨a_g, n_g, c_g, rfl, o_g, st⟩
    replace o_r := o_r.below st (Nat.le_refl _)
    replace hB := hB.trans (st.mono hB.size)
    clear st
    go_wp2_with fail
    refine (eqIntS_any _ _ _ _ _ _ _ _ _ o_g.has o_r.has).mono ?_
    rintro e v3 ⟨rfl, q⟩
    have st : Below v2.heap.size v2 v3 := q.below _
    replace o_r := o_r.below st (Nat.le_refl _)
    replace o_g := o_g.below st (Nat.le_refl _)
    replace hB := hB.trans (st.mono hB.size)
    clear st
    clear q
    rw [same_self]
    have hn_g := o_g.le
    have hmm : ((1 : Int) + (n_g : Int) != (1 : Int) + (n_g : Int)) = false := neq_self_int _
    go_wp2_with fail
    refine (markIntS_any _ _ _ _ _ _ _ o_g (by omega) (by omega)).mono ?_
    rintro e v4 ⟨rfl, om, hm⟩
    replace o_r := o_r.marked_lt hm lt_r_g o_g.ge
    replace hB := hB.trans (hm.below (o_g.ge.mono k_g) hB.size)
    clear hm o_g
    have o_g := om
    clear om
    go_wp2_with fail
    refine (heldIntS_any _ _ _ _ _ o_g.has (by omega) (by omega)).mono ?_
    rintro e _ ⟨rfl, rfl⟩
    have lt_r_h := o_r.lt
    have lt_g_h := o_g.lt
    have k_h := hB.size
    go_wp2_with fail
    refine (implParseTree_any _ _ (hlib.below hB (Nat.le_refl _)) hs).mono ?_
    rw [HR.out]
    rintro e v5 ⟨a_h, n_h, c_h, rfl, o_h, st⟩
    replace o_r := o_r.below st (Nat.le_refl _)
    replace o_g := o_g.below st (Nat.le_refl _)
    replace hB := hB.trans (st.mono hB.size)
    clear st
    go_wp2_with fail
    refine (eqIntS_any _ _ _ _ _ _ _ _ _ o_h.has o_r.has).mono ?_
    rintro e v6 ⟨rfl, q⟩
    have st : Below v5.heap.size v5 v6 := q.below _
    replace o_r := o_r.below st (Nat.le_refl _)
    replace o_g := o_g.below st (Nat.le_refl _)
    replace o_h := o_h.below st (Nat.le_refl _)
    replace hB := hB.trans (st.mono hB.size)
    clear st
    clear q
    rw [same_self]
    go_wp2_with fail
    refine (heldIntS_any _ _ _ _ _ o_g.has (by omega) (by omega)).mono ?_
    rintro e _ ⟨rfl, rfl⟩
    go_wp2_with fail
    go_ret
    exact ⟨rfl, hB⟩
  · go_enter Tryd.func6, Tryd.ntmps6
    go_wp2_with fail
    go_ret
    exact ⟨rfl, Below.refl _ _⟩
  -- go_enter Tryd.func6, Tryd.ntmps6
  -- go_wp2
  -- go_ret
  -- exact ⟨rfl, by repeat (first | exact Grown.refl _ | apply Grown.drew | apply Grown.alloc)⟩

/-! ### THE ROW's STEP: WRITTEN OUT: LEAVE IT -/
set_option maxRecDepth 100000 in
theorem lifted (os : Os) (started : os.Started) (H : Type) (enc : TypeId × Value → H) :
    ReturnsInHanded {} Tryd.checked os 6 .any (fun w args => (Rows.fnExactParseTreeSpec.pre enc Tryd.prog Tryd.f6 [] false w args ∧ laidMetH Tryd.prog Rows.fnExactParseTreeRow.laid w) ∧ sizedMet enc Tryd.prog Tryd.f6 (OpenSpec.ofChange Rows.fnExactParseTreeSpec) false w args) (Rows.fnExactParseTreeSpec.post enc Tryd.prog Tryd.f6 false true false false) := by
  refine handed_and_shaped (C := Tryd.checked) (X := fun w _ => laidMetH Tryd.prog Rows.fnExactParseTreeRow.laid w) (fun _ _ _ hh h => h.of_heap hh) own started (by kernel_rfl) Tryd.func6
    (ChangeSpec.witness_shaped (enc := enc) (C := Tryd.checked) (os := os) (X := fun w _ => laidMetH Tryd.prog Rows.fnExactParseTreeRow.laid w) false (World.laidAll Tryd.prog os Rows.fnExactParseTreeRow.laid) #[.string ByteArray.empty] 8 (World.laidAll_os _ _ _) (World.shaped_of_ZipB (by kernel_rfl) (by kernel_rfl)) (by kernel_rfl) (by kernel_rfl) (by kernel_rfl) (by rw [MakeChecks.laidMetH_plain _ _ _ (by kernel_rfl)]; exact laidMet_laidAll _ (by kernel_rfl) (by kernel_rfl))) ?_
  intro W base args ds gs before hval0 hW hL hsh
  have hval : ∀ (j : Nat) t v, Tryd.f6.params[j]? = some t → args[j]? = some v → Value.okWide Tryd.prog W .any base t v := hval0
  have hW' := hW
  obtain ⟨p, q, hA0, hV, rfl, hfz, hnd⟩ := hW
  have hA : DataW.TrodAll enc Tryd.prog W 0 (fun _ => true) true Tryd.f6.params.toList args.toList ds p := hA0
  rw [Tryd.params6] at hA hval
  obtain ⟨v0, vs0, d0, ds0, p0, q0, hargs, rfl, rfl, h0, r0⟩ := trodAll_cons hA
  obtain ⟨rfl, rfl, rfl⟩ := trodAll_nil r0
  obtain rfl : args = #[v0] := by cases args; simp_all
  obtain ⟨rfl, rfl⟩ := trodVars_none hV
  obtain ⟨a0, rfl, rfl, rfl, w0⟩ := open_string Tryd.underlying9 (hval 0 9 v0 rfl rfl) h0
  clear hA0 hval0
  simp only [List.append_nil] at hW'
  refine (walk a0 w0 W (libAt_of hL hsh (by kernel_rfl) (by kernel_rfl) (by kernel_rfl))).mono fun e W' ⟨he, hg⟩ => ?_
  subst he
  exact ⟨_, rfl, post_grew (pa := []) (pv := []) hW' (fun _ _ _ => (trodAll_cons_mk (shut_bool Tryd.underlying4 _) trodAll_mk0)) (fun sp _ => (trodAll_cons_mk (shut_string Tryd.underlying9 w0) trodAll_mk0)) (fun _ _ => rfl) rfl
    hg (ok_one (by kernel_rfl) rfl (okWide_bool_mk Tryd.underlying4 _))⟩

theorem over : Rows.fnExactParseTreeRow.holds Tryd.pinned (OpenSpec.ofChange Rows.fnExactParseTreeSpec) :=
  OpenClaim.holds_of_wide 6 Tryd.f6 rfl rfl rfl rfl rfl rfl rfl ⟨rfl, rfl, rfl, rfl, rfl⟩ rfl rfl rfl rfl rfl (by kernel_rfl) Tryd.func6 (by kernel_rfl)
    (of_decide_eq_true (by kernel_rfl)) (by unfold Func.isWrapper; first | (rw [if_pos (by decide +kernel)]; kernel_rfl) | (rw [if_neg (by decide +kernel)]; exact ⟨rfl, rfl⟩))
    (fun os started H enc _ => lifted os started H enc)

/-- The tied card. -/
theorem proved : Rows.FnExactParseTreeCardSaid :=
  Claim7.holds_tied_plain_at .later [] [.data, .data, .data, .data, .sentinel, .sentinel, .pinned] true (true, "d18238e4250c3fb077006c7c928bf99f1a2850753c88019ea8b58096adf350c0") true
    over (fun _ h => by cases h) (by kernel_rfl) (fun _ h => by cases h) fnExactParseTree_row_tie rfl ⟨rfl, rfl⟩ (by kernel_rfl) rfl
    (fun f fn hf hfn => by
      obtain rfl : f = 6 := Option.some.inj ((show Tryd.prog.funcNamed "loop.example/g01115/laws.FnExactParseTree" = some 6 by kernel_rfl).symm.trans hf) |>.symm
      obtain rfl : fn = Tryd.f6 := (Option.some.inj (Tryd.func6.symm.trans hfn)).symm
      exact ⟨by kernel_rfl, fun j t ht => by
        rw [Tryd.params6] at ht
        have hm : t ∈ [9] := by simpa using Array.mem_of_getElem? ht
        have hall : ([9].all fun u => !Tryd.prog.wantsStandIn u) = true := by kernel_rfl
        exact (show Tryd.prog.wantsStandIn t = false by simpa using List.all_eq_true.1 hall t hm)⟩)
    (by kernel_rfl)
#print axioms proved
end Go.Proofs.YtpjgidjkpcbniacDoor.fnExactParseTree

