/-
  Proved: laws.FnExactParseWalk answers true at every input, and leaves each argument as it was.
  No condition: every value of the parameters' types. The frame is the guide's shell; the walk goes by the contracts of the functions called.
-/
import Derived.Test.YtakadjhbomggbabDoorRows
import Derived.Test.YtakadjhbomggbabDoorTie
import Derived.Test.YtakadjhbomggbabDoorCards
import Derived.LaidMore
import Derived.Lay
import Derived.Stop.Joined
import Derived.SevenTiedAt
import Derived.Test.YtakadjhbomggbabDoorLawKit
import Derived.Test.YtakadjhbomggbabDoorWkZ2F
import Derived.Test.YtakadjhbomggbabDoorLib
import Derived.WalkKit
import Derived.ProofKit
import Derived.OpenShut
import Derived.ShutString
namespace Go.Proofs.YtakadjhbomggbabDoor.fnExactParseWalk
open Go.ChangeShapes Go.WideShapes Go.ChangeAt Go.RowKit
open Go.ChangeMaps (open_string shut_string)
set_option linter.unusedVariables false      -- a walk need not use every 'w<i>' (that an integer argument fits its kind)

theorem own : ownKnob Tryd.prog.godebug = none := by kernel_rfl

/-! ### STEP 1: THE WALK: the Go text returns true. Part the cases AHEAD of 'go_enter' where a test parts the walk; take each callee by a contract of your own. -/
set_option maxRecDepth 100000 in
set_option maxHeartbeats 4000000 in
theorem walk (a0 : ByteArray) (w0 : a0.size ≤ maxLen) (w : World) (hl : LibAt w) :
    Calls Tryd.prog 3 #[.string a0] w fun e w' => e = .returned (.bool true) ∧ Below w.heap.size w w' := by
  by_cases hs : a0.size ≤ 1048576
  · have hlib := hl
    obtain ⟨⟨⟨y0, z0⟩, ok⟩, hr⟩ : ∃ r, walkRd a0 = r := ⟨_, rfl⟩
    have HR := hid hr
    clear hr
    have hB : Below w.heap.size w w := Below.refl _ _
    have hok := neq_self_bool ok
    go_enter Tryd.func3, Tryd.ntmps3
    have k_ra := hB.size
    have k_rb := hB.size
    go_wp2_with fail
    refine (specParseWalk_any _ _ hs).mono ?_
    rw [HR.out]
    rintro e v1 ⟨a_r, n_r, c_r, b_r, m_r, d_r, rfl, o_ra, o_rb, ap_ra_rb, st⟩
    replace hB := hB.trans (st.mono hB.size)
    clear st
    have st : Below v1.heap.size v1 (v1.alloc (.cells #[.slice a_r n_r c_r, .slice b_r m_r d_r] 24)) := (Below.refl _ _).alloc (Nat.le_refl _) _
    have X_r : BoxAt (v1.alloc (.cells #[.slice a_r n_r c_r, .slice b_r m_r d_r] 24)) v1.heap.size (.slice a_r n_r c_r) (.slice b_r m_r d_r) := boxAt_new _ _ _ _
    have nb_X_r_ra := box_old o_ra.lt
    have nb_X_r_rb := box_old o_rb.lt
    go_wp2_with fail
    generalize v1.alloc (.cells #[.slice a_r n_r c_r, .slice b_r m_r d_r] 24) = v2 at *
    replace o_ra := o_ra.below st (Nat.le_refl _)
    replace o_rb := o_rb.below st (Nat.le_refl _)
    replace hB := hB.trans (st.mono hB.size)
    clear st
    have lt_ra_ga := o_ra.lt
    have lt_rb_ga := o_rb.lt
    have bo_X_r_ga := X_r
    have k_ga := hB.size
    have lt_ra_gb := o_ra.lt
    have lt_rb_gb := o_rb.lt
    have bo_X_r_gb := X_r
    have k_gb := hB.size
    obtain ⟨X_r_1, X_r_2, X_r_3, X_r_4⟩ := id X_r
    go_wp2_with fail
    refine (implParseWalkR_any _ _ (hlib.below hB (Nat.le_refl _)) hs).mono ?_
    rw [HR.out]
    rintro e v3 ⟨a_g, n_g, c_g, b_g, m_g, d_g, rfl, o_ga, o_gb, ap_ga_gb, st⟩
    clear X_r_1 X_r_2 X_r_3 X_r_4
    have ap_ra_ga : Apart2 a_r a_g := apart_lt lt_ra_ga o_ga.ge
    have ap_rb_ga : Apart2 b_r a_g := apart_lt lt_rb_ga o_ga.ge
    have nb_X_r_ga := box_new bo_X_r_ga o_ga.ge (Nat.le_refl _)
    clear bo_X_r_ga
    have ap_ra_gb : Apart2 a_r b_g := apart_lt lt_ra_gb o_gb.ge
    have ap_rb_gb : Apart2 b_r b_g := apart_lt lt_rb_gb o_gb.ge
    have nb_X_r_gb := box_new bo_X_r_gb o_gb.ge (Nat.le_refl _)
    clear bo_X_r_gb
    replace o_ra := o_ra.below st (Nat.le_refl _)
    replace o_rb := o_rb.below st (Nat.le_refl _)
    replace X_r := X_r.below st (boxAt_lt X_r)
    replace hB := hB.trans (st.mono hB.size)
    clear st
    have st : Below v3.heap.size v3 (v3.alloc (.cells #[.slice a_g n_g c_g, .slice b_g m_g d_g] 24)) := (Below.refl _ _).alloc (Nat.le_refl _) _
    have X_g : BoxAt (v3.alloc (.cells #[.slice a_g n_g c_g, .slice b_g m_g d_g] 24)) v3.heap.size (.slice a_g n_g c_g) (.slice b_g m_g d_g) := boxAt_new _ _ _ _
    have nb_X_g_ra := box_old o_ra.lt
    have nb_X_g_rb := box_old o_rb.lt
    have nb_X_g_ga := box_old o_ga.lt
    have nb_X_g_gb := box_old o_gb.lt
    obtain ⟨X_r_1, X_r_2, X_r_3, X_r_4⟩ := id X_r
    have X_r_n := X_r.below st (boxAt_lt X_r)
    obtain ⟨X_r_5, X_r_6, X_r_7, X_r_8⟩ := id X_r_n
    go_wp2_with fail
    clear X_r_1 X_r_2 X_r_3 X_r_4
    clear X_r_5 X_r_6 X_r_7 X_r_8
    clear X_r_n
    generalize v3.alloc (.cells #[.slice a_g n_g c_g, .slice b_g m_g d_g] 24) = v4 at *
    replace o_ra := o_ra.below st (Nat.le_refl _)
    replace o_rb := o_rb.below st (Nat.le_refl _)
    replace o_ga := o_ga.below st (Nat.le_refl _)
    replace o_gb := o_gb.below st (Nat.le_refl _)
    replace X_r := X_r.below st (boxAt_lt X_r)
    replace hB := hB.trans (st.mono hB.size)
    clear st
    obtain ⟨X_r_1, X_r_2, X_r_3, X_r_4⟩ := id X_r
    obtain ⟨X_g_1, X_g_2, X_g_3, X_g_4⟩ := id X_g
    go_wp2_with fail
    refine (eqWalk_any _ _ _ _ _ _ _ _ _ _ _ _ _ _ _ _ _ o_ga.has o_gb.has o_ra.has o_rb.has).mono ?_
    rintro e v5 ⟨rfl, st⟩
    clear X_r_1 X_r_2 X_r_3 X_r_4 X_g_1 X_g_2 X_g_3 X_g_4
    replace o_ra := o_ra.below st (Nat.le_refl _)
    replace o_rb := o_rb.below st (Nat.le_refl _)
    replace o_ga := o_ga.below st (Nat.le_refl _)
    replace o_gb := o_gb.below st (Nat.le_refl _)
    replace X_r := X_r.below st (boxAt_lt X_r)
    replace X_g := X_g.below st (boxAt_lt X_g)
    replace hB := hB.trans (st.mono hB.size)
    clear st
    rw [same_self, same_self]
    have hn_g := o_ga.le
    have hm_g := o_gb.le
    have hmm : ((1 : Int) + (n_g : Int) + (m_g : Int) != (1 : Int) + (n_g : Int) + (m_g : Int)) = false := neq_self_int _
    have hnn : ¬ ((1 : Int) + (n_g : Int) + (m_g : Int) < 0) := by omega
    obtain ⟨X_r_1, X_r_2, X_r_3, X_r_4⟩ := id X_r
    obtain ⟨X_g_1, X_g_2, X_g_3, X_g_4⟩ := id X_g
    go_wp2_with fail
    refine (markWalk_any _ _ _ _ _ _ _ _ _ _ _ (o_ga.mono k_ga) (o_gb.mono k_gb) ap_ga_gb (by omega) (by omega)).mono ?_
    rintro e v6 ⟨rfl, oma, omb, u1, u2, st, hma, hmb⟩
    clear X_r_1 X_r_2 X_r_3 X_r_4 X_g_1 X_g_2 X_g_3 X_g_4
    replace o_ra := o_ra.below st (Nat.le_refl _)
    replace o_rb := o_rb.below st (Nat.le_refl _)
    replace o_ga := o_ga.below st (Nat.le_refl _)
    replace o_gb := o_gb.below st (Nat.le_refl _)
    replace X_r := X_r.below st (boxAt_lt X_r)
    replace X_g := X_g.below st (boxAt_lt X_g)
    replace hB := hB.trans (st.mono hB.size)
    clear st
    replace o_ra := o_ra.unmarked hma ap_ra_ga
    replace o_rb := o_rb.unmarked hma ap_rb_ga
    replace X_r := X_r.unmarked hma nb_X_r_ga
    replace X_g := X_g.unmarked hma nb_X_g_ga
    have ge_ga := o_ga.ge
    replace hB := hB.trans (hma.below (ge_ga.mono k_ga) hB.size)
    replace o_ra := o_ra.unmarked hmb ap_ra_gb
    replace o_rb := o_rb.unmarked hmb ap_rb_gb
    replace X_r := X_r.unmarked hmb nb_X_r_gb
    replace X_g := X_g.unmarked hmb nb_X_g_gb
    have ge_gb := o_gb.ge
    replace hB := hB.trans (hmb.below (ge_gb.mono k_gb) hB.size)
    clear hma hmb o_ga o_gb
    have o_ga := oma
    have o_gb := omb
    clear oma omb
    obtain ⟨X_r_1, X_r_2, X_r_3, X_r_4⟩ := id X_r
    obtain ⟨X_g_1, X_g_2, X_g_3, X_g_4⟩ := id X_g
    go_wp2_with fail
    refine (heldWalk_any _ _ _ _ _ _ _ _ o_ga.has o_gb.has (by omega) (by omega)).mono ?_
    rintro e v7 ⟨rfl, st⟩
    clear X_r_1 X_r_2 X_r_3 X_r_4 X_g_1 X_g_2 X_g_3 X_g_4
    replace o_ra := o_ra.below st (Nat.le_refl _)
    replace o_rb := o_rb.below st (Nat.le_refl _)
    replace o_ga := o_ga.below st (Nat.le_refl _)
    replace o_gb := o_gb.below st (Nat.le_refl _)
    replace X_r := X_r.below st (boxAt_lt X_r)
    replace X_g := X_g.below st (boxAt_lt X_g)
    replace hB := hB.trans (st.mono hB.size)
    clear st
    have lt_ra_ha := o_ra.lt
    have lt_rb_ha := o_rb.lt
    have lt_ga_ha := o_ga.lt
    have lt_gb_ha := o_gb.lt
    have bo_X_r_ha := X_r
    have bo_X_g_ha := X_g
    have k_ha := hB.size
    have lt_ra_hb := o_ra.lt
    have lt_rb_hb := o_rb.lt
    have lt_ga_hb := o_ga.lt
    have lt_gb_hb := o_gb.lt
    have bo_X_r_hb := X_r
    have bo_X_g_hb := X_g
    have k_hb := hB.size
    obtain ⟨X_r_1, X_r_2, X_r_3, X_r_4⟩ := id X_r
    obtain ⟨X_g_1, X_g_2, X_g_3, X_g_4⟩ := id X_g
    go_wp2_with fail
    refine (implParseWalkR_any _ _ (hlib.below hB (Nat.le_refl _)) hs).mono ?_
    rw [HR.out]
    rintro e v8 ⟨a_h, n_h, c_h, b_h, m_h, d_h, rfl, o_ha, o_hb, ap_ha_hb, st⟩
    clear X_r_1 X_r_2 X_r_3 X_r_4 X_g_1 X_g_2 X_g_3 X_g_4
    have ap_ra_ha : Apart2 a_r a_h := apart_lt lt_ra_ha o_ha.ge
    have ap_rb_ha : Apart2 b_r a_h := apart_lt lt_rb_ha o_ha.ge
    have ap_ga_ha : Apart2 a_g a_h := apart_lt lt_ga_ha o_ha.ge
    have ap_gb_ha : Apart2 b_g a_h := apart_lt lt_gb_ha o_ha.ge
    have nb_X_r_ha := box_new bo_X_r_ha o_ha.ge (Nat.le_refl _)
    clear bo_X_r_ha
    have nb_X_g_ha := box_new bo_X_g_ha o_ha.ge (Nat.le_refl _)
    clear bo_X_g_ha
    have ap_ra_hb : Apart2 a_r b_h := apart_lt lt_ra_hb o_hb.ge
    have ap_rb_hb : Apart2 b_r b_h := apart_lt lt_rb_hb o_hb.ge
    have ap_ga_hb : Apart2 a_g b_h := apart_lt lt_ga_hb o_hb.ge
    have ap_gb_hb : Apart2 b_g b_h := apart_lt lt_gb_hb o_hb.ge
    have nb_X_r_hb := box_new bo_X_r_hb o_hb.ge (Nat.le_refl _)
    clear bo_X_r_hb
    have nb_X_g_hb := box_new bo_X_g_hb o_hb.ge (Nat.le_refl _)
    clear bo_X_g_hb
    replace o_ra := o_ra.below st (Nat.le_refl _)
    replace o_rb := o_rb.below st (Nat.le_refl _)
    replace o_ga := o_ga.below st (Nat.le_refl _)
    replace o_gb := o_gb.below st (Nat.le_refl _)
    replace X_r := X_r.below st (boxAt_lt X_r)
    replace X_g := X_g.below st (boxAt_lt X_g)
    replace hB := hB.trans (st.mono hB.size)
    clear st
    have st : Below v8.heap.size v8 (v8.alloc (.cells #[.slice a_h n_h c_h, .slice b_h m_h d_h] 24)) := (Below.refl _ _).alloc (Nat.le_refl _) _
    have X_h : BoxAt (v8.alloc (.cells #[.slice a_h n_h c_h, .slice b_h m_h d_h] 24)) v8.heap.size (.slice a_h n_h c_h) (.slice b_h m_h d_h) := boxAt_new _ _ _ _
    have nb_X_h_ra := box_old o_ra.lt
    have nb_X_h_rb := box_old o_rb.lt
    have nb_X_h_ga := box_old o_ga.lt
    have nb_X_h_gb := box_old o_gb.lt
    have nb_X_h_ha := box_old o_ha.lt
    have nb_X_h_hb := box_old o_hb.lt
    obtain ⟨X_r_1, X_r_2, X_r_3, X_r_4⟩ := id X_r
    obtain ⟨X_g_1, X_g_2, X_g_3, X_g_4⟩ := id X_g
    have X_r_n := X_r.below st (boxAt_lt X_r)
    obtain ⟨X_r_5, X_r_6, X_r_7, X_r_8⟩ := id X_r_n
    have X_g_n := X_g.below st (boxAt_lt X_g)
    obtain ⟨X_g_5, X_g_6, X_g_7, X_g_8⟩ := id X_g_n
    go_wp2_with fail
    clear X_r_1 X_r_2 X_r_3 X_r_4 X_g_1 X_g_2 X_g_3 X_g_4
    clear X_r_5 X_r_6 X_r_7 X_r_8 X_g_5 X_g_6 X_g_7 X_g_8
    clear X_r_n X_g_n
    generalize v8.alloc (.cells #[.slice a_h n_h c_h, .slice b_h m_h d_h] 24) = v9 at *
    replace o_ra := o_ra.below st (Nat.le_refl _)
    replace o_rb := o_rb.below st (Nat.le_refl _)
    replace o_ga := o_ga.below st (Nat.le_refl _)
    replace o_gb := o_gb.below st (Nat.le_refl _)
    replace o_ha := o_ha.below st (Nat.le_refl _)
    replace o_hb := o_hb.below st (Nat.le_refl _)
    replace X_r := X_r.below st (boxAt_lt X_r)
    replace X_g := X_g.below st (boxAt_lt X_g)
    replace hB := hB.trans (st.mono hB.size)
    clear st
    obtain ⟨X_r_1, X_r_2, X_r_3, X_r_4⟩ := id X_r
    obtain ⟨X_g_1, X_g_2, X_g_3, X_g_4⟩ := id X_g
    obtain ⟨X_h_1, X_h_2, X_h_3, X_h_4⟩ := id X_h
    go_wp2_with fail
    refine (eqWalk_any _ _ _ _ _ _ _ _ _ _ _ _ _ _ _ _ _ o_ha.has o_hb.has o_ra.has o_rb.has).mono ?_
    rintro e v10 ⟨rfl, st⟩
    clear X_r_1 X_r_2 X_r_3 X_r_4 X_g_1 X_g_2 X_g_3 X_g_4 X_h_1 X_h_2 X_h_3 X_h_4
    replace o_ra := o_ra.below st (Nat.le_refl _)
    replace o_rb := o_rb.below st (Nat.le_refl _)
    replace o_ga := o_ga.below st (Nat.le_refl _)
    replace o_gb := o_gb.below st (Nat.le_refl _)
    replace o_ha := o_ha.below st (Nat.le_refl _)
    replace o_hb := o_hb.below st (Nat.le_refl _)
    replace X_r := X_r.below st (boxAt_lt X_r)
    replace X_g := X_g.below st (boxAt_lt X_g)
    replace X_h := X_h.below st (boxAt_lt X_h)
    replace hB := hB.trans (st.mono hB.size)
    clear st
    rw [same_self, same_self]
    obtain ⟨X_r_1, X_r_2, X_r_3, X_r_4⟩ := id X_r
    obtain ⟨X_g_1, X_g_2, X_g_3, X_g_4⟩ := id X_g
    obtain ⟨X_h_1, X_h_2, X_h_3, X_h_4⟩ := id X_h
    go_wp2_with fail
    refine (heldWalk_any _ _ _ _ _ _ _ _ o_ga.has o_gb.has (by omega) (by omega)).mono ?_
    rintro e v11 ⟨rfl, st⟩
    clear X_r_1 X_r_2 X_r_3 X_r_4 X_g_1 X_g_2 X_g_3 X_g_4 X_h_1 X_h_2 X_h_3 X_h_4
    replace o_ra := o_ra.below st (Nat.le_refl _)
    replace o_rb := o_rb.below st (Nat.le_refl _)
    replace o_ga := o_ga.below st (Nat.le_refl _)
    replace o_gb := o_gb.below st (Nat.le_refl _)
    replace o_ha := o_ha.below st (Nat.le_refl _)
    replace o_hb := o_hb.below st (Nat.le_refl _)
    replace X_r := X_r.below st (boxAt_lt X_r)
    replace X_g := X_g.below st (boxAt_lt X_g)
    replace X_h := X_h.below st (boxAt_lt X_h)
    replace hB := hB.trans (st.mono hB.size)
    clear st
    obtain ⟨X_r_1, X_r_2, X_r_3, X_r_4⟩ := id X_r
    obtain ⟨X_g_1, X_g_2, X_g_3, X_g_4⟩ := id X_g
    obtain ⟨X_h_1, X_h_2, X_h_3, X_h_4⟩ := id X_h
    go_wp2_with fail
    go_ret
    exact ⟨rfl, hB⟩
  · go_enter Tryd.func3, Tryd.ntmps3
    go_wp2_with fail
    go_ret
    exact ⟨rfl, Below.refl _ _⟩
  -- go_enter Tryd.func3, Tryd.ntmps3
  -- go_wp2
  -- go_ret
  -- exact ⟨rfl, by repeat (first | exact Grown.refl _ | apply Grown.drew | apply Grown.alloc)⟩

/-! ### THE ROW's STEP: WRITTEN OUT: LEAVE IT -/
set_option maxRecDepth 100000 in
theorem lifted (os : Os) (started : os.Started) (H : Type) (enc : TypeId × Value → H) :
    ReturnsInHanded {} Tryd.checked os 3 .any (fun w args => (Rows.fnExactParseWalkSpec.pre enc Tryd.prog Tryd.f3 [] false w args ∧ laidMetH Tryd.prog Rows.fnExactParseWalkRow.laid w) ∧ sizedMet enc Tryd.prog Tryd.f3 (OpenSpec.ofChange Rows.fnExactParseWalkSpec) false w args) (Rows.fnExactParseWalkSpec.post enc Tryd.prog Tryd.f3 false true false false) := by
  refine handed_and_shaped (C := Tryd.checked) (X := fun w _ => laidMetH Tryd.prog Rows.fnExactParseWalkRow.laid w) (fun _ _ _ hh h => h.of_heap hh) own started (by kernel_rfl) Tryd.func3
    (ChangeSpec.witness_shaped (enc := enc) (C := Tryd.checked) (os := os) (X := fun w _ => laidMetH Tryd.prog Rows.fnExactParseWalkRow.laid w) false (World.laidAll Tryd.prog os Rows.fnExactParseWalkRow.laid) #[.string ByteArray.empty] 8 (World.laidAll_os _ _ _) (World.shaped_of_ZipB (by kernel_rfl) (by kernel_rfl)) (by kernel_rfl) (by kernel_rfl) (by kernel_rfl) (by rw [MakeChecks.laidMetH_plain _ _ _ (by kernel_rfl)]; exact laidMet_laidAll _ (by kernel_rfl) (by kernel_rfl))) ?_
  intro W base args ds gs before hval0 hW hL hsh
  have hval : ∀ (j : Nat) t v, Tryd.f3.params[j]? = some t → args[j]? = some v → Value.okWide Tryd.prog W .any base t v := hval0
  have hW' := hW
  obtain ⟨p, q, hA0, hV, rfl, hfz, hnd⟩ := hW
  have hA : DataW.TrodAll enc Tryd.prog W 0 (fun _ => true) true Tryd.f3.params.toList args.toList ds p := hA0
  rw [Tryd.params3] at hA hval
  obtain ⟨v0, vs0, d0, ds0, p0, q0, hargs, rfl, rfl, h0, r0⟩ := trodAll_cons hA
  obtain ⟨rfl, rfl, rfl⟩ := trodAll_nil r0
  obtain rfl : args = #[v0] := by cases args; simp_all
  obtain ⟨rfl, rfl⟩ := trodVars_none hV
  obtain ⟨a0, rfl, rfl, rfl, w0⟩ := open_string Tryd.underlying9 (hval 0 9 v0 rfl rfl) h0
  clear hA0 hval0
  simp only [List.append_nil] at hW'
  refine (walk a0 w0 W (libAt_of hL hsh (by kernel_rfl) (by kernel_rfl) (by kernel_rfl))).mono fun e W' ⟨he, hg⟩ => ?_
  subst he
  exact ⟨_, rfl, post_grew (pa := []) (pv := []) hW' (fun _ _ _ => (trodAll_cons_mk (shut_bool Tryd.underlying4 _) trodAll_mk0)) (fun sp _ => (trodAll_cons_mk (shut_string Tryd.underlying9 w0) trodAll_mk0)) (fun _ _ => rfl) rfl
    hg (ok_one (by kernel_rfl) rfl (okWide_bool_mk Tryd.underlying4 _))⟩

theorem over : Rows.fnExactParseWalkRow.holds Tryd.pinned (OpenSpec.ofChange Rows.fnExactParseWalkSpec) :=
  OpenClaim.holds_of_wide 3 Tryd.f3 rfl rfl rfl rfl rfl rfl rfl ⟨rfl, rfl, rfl, rfl, rfl⟩ rfl rfl rfl rfl rfl (by kernel_rfl) Tryd.func3 (by kernel_rfl)
    (of_decide_eq_true (by kernel_rfl)) (by unfold Func.isWrapper; first | (rw [if_pos (by decide +kernel)]; kernel_rfl) | (rw [if_neg (by decide +kernel)]; exact ⟨rfl, rfl⟩))
    (fun os started H enc _ => lifted os started H enc)

/-- The tied card. -/
theorem proved : Rows.FnExactParseWalkCardSaid :=
  Claim7.holds_tied_plain_at .later [] [.data, .data, .data, .data, .sentinel, .sentinel, .pinned] true (true, "d76c6e8814f54d53eab04bda75513d15be1b77cc23176af0a91e8294e0752302") true
    over (fun _ h => by cases h) (by kernel_rfl) (fun _ h => by cases h) fnExactParseWalk_row_tie rfl ⟨rfl, rfl⟩ (by kernel_rfl) rfl
    (fun f fn hf hfn => by
      obtain rfl : f = 3 := Option.some.inj ((show Tryd.prog.funcNamed "loop.example/g01115/laws.FnExactParseWalk" = some 3 by kernel_rfl).symm.trans hf) |>.symm
      obtain rfl : fn = Tryd.f3 := (Option.some.inj (Tryd.func3.symm.trans hfn)).symm
      exact ⟨by kernel_rfl, fun j t ht => by
        rw [Tryd.params3] at ht
        have hm : t ∈ [9] := by simpa using Array.mem_of_getElem? ht
        have hall : ([9].all fun u => !Tryd.prog.wantsStandIn u) = true := by kernel_rfl
        exact (show Tryd.prog.wantsStandIn t = false by simpa using List.all_eq_true.1 hall t hm)⟩)
    (by kernel_rfl)
#print axioms proved
end Go.Proofs.YtakadjhbomggbabDoor.fnExactParseWalk

