/- EmptyTable: the model's and the program's function. -/
import Derived.Test.YtnddplldkgphnaaImplTt
import Derived.Test.YtnddplldkgphnaaSpecPt
import Derived.Test.YtnddplldkgphnaaImplRh
namespace Go.Proofs.Ytnddplldkgphnaa
open Go.RowKit

def emptyOf (n : Int) : List Int × Bool := if inB n 2 12 then (emptyL n.toNat, true) else ([], false)
theorem postTab {w w' : World} {r : List Int × Bool} {ys : List Int} {ok : Bool} {a : Option Addr} {m cap : Nat} (hr : r = (ys, ok)) (h : Own w' w.heap.size a m cap ys) (hb : Below w.heap.size w w') : PostTab w r (.returned (.tuple #[.agg #[.slice a m cap], .bool ok])) w' := by subst hr; exact ⟨_, _, _, rfl, h, hb⟩
theorem postTab_no {w w' : World} {r : List Int × Bool} (hr : r = ([], false)) (hb : Below w.heap.size w w') : PostTab w r (.returned (.tuple #[.agg #[.slice none 0 0], .bool false])) w' := postTab hr (Own.nil _ _) hb
theorem emptyL_snoc (k : Nat) : emptyL (k + 1) = emptyL k ++ [-1] := by simp [emptyL, List.replicate_succ']
/-- Results of which the first is a table in a variable. -/
theorem results_tab1 {fn : Func} {p : Tmp} (h : fn.results = #[.cell p 24]) (tmps : Array Value) (w : World) (g : Nat) (v : Value) (hp : tmps.getD p undef = .pointer (some ⟨g, 0, none⟩)) (R : CellAt w g v) :
    (results fn tmps).run Try.prog w = .ok (.agg #[v]) w := by
  have hp' : tmps[p]?.getD undef = .pointer (some ⟨g, 0, none⟩) := by simpa using hp
  obtain ⟨r1, r2⟩ := R
  simp [results, h, hp', go_sem, r1]
theorem results_tab2 {fn : Func} {p q : Tmp} (h : fn.results = #[.cell p 24, .tmp q]) (tmps : Array Value) (w : World) (g : Nat) (v u : Value) (hp : tmps.getD p undef = .pointer (some ⟨g, 0, none⟩)) (hq : tmps.getD q undef = u) (R : CellAt w g v) :
    (results fn tmps).run Try.prog w = .ok (.tuple #[.agg #[v], u]) w := by
  have hp' : tmps[p]?.getD undef = .pointer (some ⟨g, 0, none⟩) := by simpa using hp
  have hq' : tmps[q]?.getD undef = u := by simpa using hq
  obtain ⟨r1, r2⟩ := R
  simp [results, h, hp', hq', go_sem, r1]
theorem results_tab3 {fn : Func} {p q r : Tmp} (h : fn.results = #[.cell p 24, .tmp q, .tmp r]) (tmps : Array Value) (w : World) (g : Nat) (v u z : Value) (hp : tmps.getD p undef = .pointer (some ⟨g, 0, none⟩)) (hq : tmps.getD q undef = u) (hr : tmps.getD r undef = z) (R : CellAt w g v) :
    (results fn tmps).run Try.prog w = .ok (.tuple #[.agg #[v], u, z]) w := by
  have hp' : tmps[p]?.getD undef = .pointer (some ⟨g, 0, none⟩) := by simpa using hp
  have hq' : tmps[q]?.getD undef = u := by simpa using hq
  have hr' : tmps[r]?.getD undef = z := by simpa using hr
  obtain ⟨r1, r2⟩ := R
  simp [results, h, hp', hq', hr', go_sem, r1]

set_option maxRecDepth 100000 in
set_option maxHeartbeats 2000000 in
theorem prEmpty_any (n : Nat) (w : World) (hn : n ≤ 12) :
    Calls Try.prog 14 #[.int .i64 (n : Int)] w fun e w' => ∃ a' cap', e = .returned (.agg #[.slice a' n cap']) ∧ Own w' w.heap.size a' n cap' (emptyL n) ∧ Below w.heap.size w w' := by
  obtain ⟨W, hW, C1, C2, hbW, hsW⟩ : ∃ W, (w.alloc (.cells #[.slice none 0 0] 24)).alloc (.cells #[.slice none 0 0] 24) = W ∧ CellAt W w.heap.size (.slice none 0 0) ∧ CellAt W (w.heap.size + 1) (.slice none 0 0) ∧ Below w.heap.size w W ∧ W.heap.size = w.heap.size + 2 := by
    refine ⟨_, rfl, (cellAt_new _ _ _).alloc _, ?_, ((Below.refl _ w).alloc (Nat.le_refl _) _).alloc (by simp) _, by simp⟩
    have := cellAt_new (w.alloc (.cells #[.slice none 0 0] 24)) (.slice none 0 0) 24
    simpa using this
  have C2' := C2.set (z := .slice none 0 0)
  have C1' := C1.setOther' (g' := w.heap.size + 1) (i := 0) (z := .slice none 0 0) (by omega)
  have hb' := hbW.setCell (p := ⟨w.heap.size + 1, 0, none⟩) (by simp) (.slice none 0 0)
  have hs' : (W.setCell ⟨w.heap.size + 1, 0, none⟩ (.slice none 0 0)).heap.size = w.heap.size + 2 := by simp [hsW]
  obtain ⟨y1, y2⟩ := id C2
  go_enter Try.func14, Try.ntmps14
  go_wp2_with fail
  clear hW y1 y2 C1 C2 hbW hsW
  go_loopw [4] (fun i wr => ∃ (k : Nat) (a' : Option Addr) (cap' : Nat), i = .int .i64 k ∧ k ≤ n ∧ Own wr (w.heap.size + 2) a' k cap' (emptyL k) ∧ CellAt wr (w.heap.size + 1) (.slice a' k cap') ∧ CellAt wr w.heap.size (.slice none 0 0) ∧ Below w.heap.size w wr ∧ w.heap.size + 2 ≤ wr.heap.size) (fun i _ => n - (intOf i).toNat)
  case atStart => exact ⟨0, none, 0, rfl, by omega, Own.nil _ _, C2', C1', hb', by omega⟩
  case round =>
    clear C1' C2' hb' hs'
    obtain ⟨k, a', cap', rfl, hk, own, C2, C1, hb, hs⟩ := hrel
    by_cases hlt : k < n
    · have HE := hid (emptyL_snoc k)
      obtain ⟨y1, y2⟩ := id C2
      go_wp2_with (at_builtin; refine wpList_append_int _ rfl _ _ rfl (w.heap.size + 2) _ _ _ _ _ rfl rfl own (by omega) hs ?_; intro a2 cap2 w2 own2 hb2; have D2 := C2.below hb2 (by omega); have D1 := C1.below hb2 (by omega); obtain ⟨z1, z2⟩ := id D2)
      go_roundw
      case rel => exact ⟨k + 1, a2, cap2, by go_num, by omega, by rw [HE.out]; exact own2.cellSet (by omega) _, D2.set, D1.setOther' (by omega), (hb.trans (hb2.mono (by omega))).setCell (by simp) _, by have := hb2.size; simp; omega⟩
      case measure => simp [intOf]; omega
    · obtain rfl : k = n := by omega
      obtain ⟨y1, y2⟩ := id C2
      obtain ⟨x1, x2⟩ := id C1
      go_wp2_with fail
      refine bodyPost_ret (v := .agg #[.slice a' k cap']) (results_tab1 rfl _ _ _ _ rfl (C1.set (z := .slice a' k cap'))) rfl ⟨_, _, rfl, (own.cellSet (by omega) _).mono (by omega), hb.setCell (by simp) _⟩

theorem newOf_emptyL {n : Int} (h : inB n 2 12 = true) : newOf n = (ringL (emptyL n.toNat), true) := by unfold newOf; rw [if_pos h]
theorem newOf_no {n : Int} (h : inB n 2 12 = false) : newOf n = (zeroR, false) := by unfold newOf; rw [h]; rfl
theorem rg_empty {m : Nat} (h1 : 1 ≤ m) (h2 : m ≤ 12) : Rg (emptyL m) := ⟨by rw [length_emptyL]; exact h1, by rw [length_emptyL]; exact h2⟩
set_option maxRecDepth 100000 in
set_option maxHeartbeats 1000000 in
theorem implEmpty_any (n : Int) (w : World) : Calls Try.prog 15 #[.int .i64 n] w (PostTab w (emptyOf n)) := by
  obtain ⟨W, hW, C, hbW, hsW⟩ := boxed w (.slice none 0 0) 24
  by_cases hn : inB n 2 12 = true
  · have HNR := hid (newOf_emptyL hn)
    have h2 := inB_iff.1 hn
    obtain ⟨m, rfl⟩ : ∃ m : Nat, n = (m : Int) := ⟨n.toNat, by omega⟩
    have HR : Hid (emptyOf (m : Int) = (emptyL m, true)) := hid (by unfold emptyOf; rw [if_pos hn, Int.toNat_natCast])
    rw [Int.toNat_natCast] at HNR
    have hrg := rg_empty (m := m) (by omega) (by omega)
    have HV := hid hrg.all
    clear hn
    go_enter Try.func15, Try.ntmps15
    go_wp2_with fail
    refine (newRing_any _ _).mono ?_
    rintro e w1 ⟨rfl, st⟩
    rw [HNR.out]
    have s1 := st.size
    obtain ⟨V, hV, RV, hbV, hsV⟩ := ring_stored w1 HV.out
    have Zn := ringAt_zero w1
    have C2 := (C.below st (by omega)).below hbV (by omega)
    have hb2 := (hbW.trans (st.mono (by omega))).trans (hbV.mono (by omega))
    have hVs := hb2.size
    have hlC := C2.lt
    clear st hbV hbW hW C
    go_wp2_with (first | (refine wpList_store_ring rfl _ _ rfl _ _ _ rfl rfl Zn HV.out ?_) | (refine wpList_load_ring rfl _ rfl _ _ rfl RV ?_) | (go_at_call 30; refine (table_any (emptyL m) _ hrg).mono ?_; rintro e w' ⟨a1, cap1, rfl, own, st⟩; have C3 := C2.below st hlC; have hb3 := hb2.trans (st.mono hVs); obtain ⟨y1, y2⟩ := id C3))
    refine bodyPost_ret (v := .tuple #[.agg #[.slice a1 (emptyL m).length cap1], .bool true]) (results_tab2 rfl _ _ _ _ _ rfl rfl (C3.set (z := .slice a1 (emptyL m).length cap1))) rfl (postTab HR.out ((own.cellSet hlC _).mono hVs) (hb3.setCell (by simp) _))
  · have HNR := hid (newOf_no (Bool.eq_false_iff.2 hn))
    have HR : Hid (emptyOf n = ([], false)) := hid (by unfold emptyOf; rw [if_neg hn])
    clear hn
    go_enter Try.func15, Try.ntmps15
    go_wp2_with fail
    refine (newRing_any _ _).mono ?_
    rintro e w1 ⟨rfl, st⟩
    rw [HNR.out]
    have s1 := st.size
    obtain ⟨V, hV, RV, hbV, hsV⟩ := ring_stored w1 (xs := zeroR) rfl
    have Zn := ringAt_zero w1
    have C2 := (C.below st (by omega)).below hbV (by omega)
    have hb2 := (hbW.trans (st.mono (by omega))).trans (hbV.mono (by omega))
    obtain ⟨y1, y2⟩ := id C2
    clear st hbV hbW hW C
    go_wp2_with (refine wpList_store_ring rfl _ _ rfl _ _ _ rfl rfl Zn rfl ?_)
    refine bodyPost_ret (v := .tuple #[.agg #[.slice none 0 0], .bool false]) (results_tab2 rfl _ _ _ _ _ rfl rfl (C2.set (z := .slice none 0 0))) rfl (postTab_no HR.out (hb2.setCell (by simp) _))
end Go.Proofs.Ytnddplldkgphnaa
