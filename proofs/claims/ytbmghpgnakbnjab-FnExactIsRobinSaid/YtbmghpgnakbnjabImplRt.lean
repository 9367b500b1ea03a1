/- RobinTable: the model's and the program's function. -/
import Derived.Test.YtbmghpgnakbnjabSpecRo
namespace Go.Proofs.Ytbmghpgnakbnjab
open Go.RowKit

def robOf (n : Int) (keys : List Int) : List Int × Bool := if keysB n keys then (robL n.toNat keys, true) else ([], false)
theorem wayIn_robin : WayIn 55 robIn where
  ent := fun args w => by go_simp
  len := length_robIn
  pt := fun n cs done x hp hl _ hx => hp.rob hl hx
  call := fun cs key q w hr h0 hq _ hb => robin_any cs key q w hr h0 hq hb
theorem filled_rob {n : Nat} {ks : List Int} (h : keysB n ks = true) : filledOf robIn n ks = (ringL (robL n ks), true) := by
  unfold filledOf
  rw [if_pos h, Int.toNat_natCast]
  rfl
theorem length_robL {n : Nat} {ks : List Int} (h : keysB n ks = true) : (robL n ks).length = n := by
  have := (pt_rob h ks.length (Nat.le_refl _)).len
  rwa [List.take_length] at this

theorem specRobinT_any (p : Int) (a : Option Addr) (n cap : Nat) (ks : List Int) (w : World) (h : Has w a n cap ks) :
    Calls Try.prog 28 #[.int .i64 p, .slice a n cap] w (PostTab w (robOf p ks)) := by
  obtain ⟨W, hW, C, hbW, hsW⟩ := boxed w (.slice none 0 0) 28
  have hH := h.below hbW (Nat.le_refl _)
  obtain ⟨y1, y2⟩ := id C
  by_cases hk : keysB p ks = true
  · have h2 := (keysB_iff.1 hk).1
    obtain ⟨m, rfl⟩ : ∃ m : Nat, p = (m : Int) := ⟨p.toNat, by omega⟩
    have HR : Hid (robOf (m : Int) ks = (robL m ks, true)) := hid (by unfold robOf; rw [if_pos hk, Int.toNat_natCast])
    have HK := hid hk
    clear hk
    go_enter Try.func28, Try.ntmps28
    go_wp2_with (first | (go_at_call 52; refine (prKeys_any _ _ _ _ _ _ hH).mono ?_; rintro e w' ⟨rfl, rfl⟩; rw [HK.out]) | (go_at_call 53; refine (prRobin_any _ _ _ _ _ _ hH HK.out).mono ?_; rintro e w' ⟨a1, cap1, rfl, own, st⟩; have C2 := C.below st (by omega); have hb2 := hbW.trans (st.mono (by omega)); clear y1 y2; obtain ⟨y1, y2⟩ := id C2))
    refine bodyPost_ret (v := .tuple #[.agg #[.slice a1 m cap1], .bool true]) (results_tab2 rfl _ _ _ _ _ rfl rfl (C2.set (z := .slice a1 m cap1))) rfl (postTab HR.out ((own.cellSet (by omega) _).mono (by omega)) (hb2.setCell (by simp) _))
  · have HK := hid (Bool.eq_false_iff.2 hk)
    have HR : Hid (robOf p ks = ([], false)) := hid (by unfold robOf; rw [if_neg hk])
    clear hk
    go_enter Try.func28, Try.ntmps28
    go_wp2_with (go_at_call 52; refine (prKeys_any _ _ _ _ _ _ hH).mono ?_; rintro e w' ⟨rfl, rfl⟩; rw [HK.out])
    refine bodyPost_ret (v := .tuple #[.agg #[.slice none 0 0], .bool false]) (results_tab2 rfl _ _ _ _ _ rfl rfl (C.set (z := .slice none 0 0))) rfl (postTab_no HR.out (hbW.setCell (by simp) _))

set_option maxRecDepth 100000 in
set_option maxHeartbeats 1000000 in
theorem implRobinT_any (p : Int) (a : Option Addr) (n cap : Nat) (ks : List Int) (w : World) (h : Has w a n cap ks) :
    Calls Try.prog 30 #[.int .i64 p, .slice a n cap] w (PostTab w (robOf p ks)) := by
  obtain ⟨W, hW, C, hbW, hsW⟩ := boxed w (.slice none 0 0) 28
  have hH := h.below hbW (Nat.le_refl _)
  by_cases hk : keysB p ks = true
  · have h2 := (keysB_iff.1 hk).1
    obtain ⟨m, rfl⟩ : ∃ m : Nat, p = (m : Int) := ⟨p.toNat, by omega⟩
    have HR : Hid (robOf (m : Int) ks = (robL m ks, true)) := hid (by unfold robOf; rw [if_pos hk, Int.toNat_natCast])
    have HF := hid (filled_rob hk)
    have hlen := length_robL hk
    have hrg : Rg (robL m ks) := ⟨by omega, by omega⟩
    have HV := hid hrg.all
    have HLN := hid hlen
    clear hk hlen
    go_enter Try.func30, Try.ntmps30
    go_wp2_with fail
    refine (filled_any _ _ wayIn_robin _ _ _ _ _ _ hH).mono ?_
    rintro e w1 ⟨rfl, st⟩
    rw [HF.out]
    have s1 := st.size
    obtain ⟨V, hV, RV, hbV, hsV⟩ := ring_stored w1 HV.out
    have Zn := ringAt_zero w1
    have C2 := (C.below st (by omega)).below hbV (by omega)
    have hb2 := (hbW.trans (st.mono (by omega))).trans (hbV.mono (by omega))
    have hVs := hb2.size
    have hlC := C2.lt
    clear st hbV hbW hW C
    go_wp2_with (first | (refine wpList_store_ring rfl _ _ rfl _ _ _ rfl rfl Zn HV.out ?_) | (refine wpList_load_ring rfl _ rfl _ _ rfl RV ?_) | (go_at_call 56; refine (table_any (robL m ks) _ hrg).mono ?_; rintro e w' ⟨a1, cap1, rfl, own, st⟩; have C3 := C2.below st hlC; have hb3 := hb2.trans (st.mono hVs); obtain ⟨y1, y2⟩ := id C3))
    refine bodyPost_ret (v := .tuple #[.agg #[.slice a1 (robL m ks).length cap1], .bool true]) (results_tab2 rfl _ _ _ _ _ rfl rfl (C3.set (z := .slice a1 (robL m ks).length cap1))) rfl (postTab HR.out ((own.cellSet hlC _).mono hVs) (hb3.setCell (by simp) _))
  · have HF := hid (filled_no (step := robIn) (Bool.eq_false_iff.2 hk))
    have HR : Hid (robOf p ks = ([], false)) := hid (by unfold robOf; rw [if_neg hk])
    clear hk
    go_enter Try.func30, Try.ntmps30
    go_wp2_with fail
    refine (filled_any _ _ wayIn_robin _ _ _ _ _ _ hH).mono ?_
    rintro e w1 ⟨rfl, st⟩
    rw [HF.out]
    have s1 := st.size
    obtain ⟨V, hV, RV, hbV, hsV⟩ := ring_stored w1 (xs := zeroR) rfl
    have Zn := ringAt_zero w1
    have C2 := (C.below st (by omega)).below hbV (by omega)
    have hb2 := (hbW.trans (st.mono (by omega))).trans (hbV.mono (by omega))
    obtain ⟨y1, y2⟩ := id C2
    clear st hbV hbW hW C
    go_wp2_with (refine wpList_store_ring rfl _ _ rfl _ _ _ rfl rfl Zn rfl ?_)
    refine bodyPost_ret (v := .tuple #[.agg #[.slice none 0 0], .bool false]) (results_tab2 rfl _ _ _ _ _ rfl rfl (C2.set (z := .slice none 0 0))) rfl (postTab_no HR.out (hb2.setCell (by simp) _))
end Go.Proofs.Ytbmghpgnakbnjab
