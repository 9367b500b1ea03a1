/- Chapter 9: the cars of each part, by the contracts of the functions. -/
import Derived.Test.YtnddplldkgphnaaGreatMapP
import Derived.Test.YtnddplldkgphnaaGreatMathVp
import Derived.Test.YtnddplldkgphnaaGreatCb
namespace Go.Proofs.YtnddplldkgphnaaGreat
open Go.RowKit Go.Maps

set_option maxHeartbeats 400000 in
theorem partBegin_any (a : Option Addr) (n cap : Nat) (xs : List Int) (x : Nat) (w : World) (h : Has w a n cap xs) (h0 : ∀ v ∈ xs, 0 ≤ v) (hx : x ≤ 100) :
    Calls Tryz.prog 53 #[.slice a n cap, .int .i64 (x : Int)] w fun e w' => e = .returned (.int .i64 (begF xs x : Int)) ∧ w = w' := by
  have H0 := hid h0
  clear h0
  go_enter Tryz.func53, Tryz.ntmps53
  go_wp2_with fail
  go_loop [5] (fun i => ∃ b : Nat, b ≤ x ∧ i = .int .i64 (b : Int) ∧ Hid (begF xs b = begF xs x)) (fun i => (intOf i).toNat)
  case atStart => exact ⟨x, Nat.le_refl _, rfl, hid rfl⟩
  case round =>
    obtain ⟨b, hb, rfl, HB⟩ := hrel
    by_cases hlt : b < below xs (b : Int)
    · obtain ⟨hb0, e⟩ := begF_go hlt H0.out
      have HE : Hid (begF xs (b - 1) = begF xs x) := hid (by rw [← e]; exact HB.out)
      clear e
      have z1 : (b : Int) < (below xs (b : Int) : Int) := by omega
      have hw : IntKind.i64.wrap ((b : Int) - 1) = ((b - 1 : Nat) : Int) := by rw [IntKind.wrap_i64]; omega
      have he : (b : Int) - 1 = ((b - 1 : Nat) : Int) := by omega
      go_wp2_with (go_at_call 72; refine (cBelow_any _ _ _ _ _ _ h).mono ?_; rintro e w' ⟨rfl, rfl⟩)
      go_round
      case rel => exact ⟨b - 1, by omega, by first | rfl | go_num, HE⟩
      case measure => simp [intOf]; omega
    · have HE : Hid (b = begF xs x) := hid (by rw [← HB.out, begF_stop hlt])
      have z1 : ¬ (b : Int) < (below xs (b : Int) : Int) := by omega
      go_wp2_with (go_at_call 72; refine (cBelow_any _ _ _ _ _ _ h).mono ?_; rintro e w' ⟨rfl, rfl⟩)
      go_ret
      exact ⟨ret_int (by rw [HE.out]), rfl⟩

theorem grp_step {xs cs : List Int} {k c : Nat} (hk : k < cs.length) (hc : nth cs k = (c : Int)) (x : Nat) : grp xs (cs.take (k + 1)) x = upd (fun x => grp xs (cs.take k) x) (begC xs c) (grp xs (cs.take k) (begC xs c) ++ [(c : Int)]) x := by
  rw [take_succ_nth hk, hc, grp_snoc]
  unfold upd
  by_cases e : begC xs (c : Int) = x
  · rw [if_pos e, if_pos e.symm, e]
  · rw [if_neg e, if_neg (fun h => e h.symm)]
set_option maxHeartbeats 2000000 in
theorem partsOf_any (a b : Option Addr) (n m cap cap' : Nat) (xs cs : List Int) (w : World) (h : Has w a n cap xs) (h' : Has w b m cap' cs) (hxs : ∀ i, i < n → 0 ≤ nth xs i ∧ nth xs i < 8) (hcs : ∀ i, i < m → ∃ c : Nat, c < n ∧ nth cs i = (c : Int)) :
    Calls Tryz.prog 23 #[.slice a n cap, .slice b m cap'] w fun e w' => e = .returned (.map (some w.heap.size)) ∧ (∃ r, PartsR w' w.heap.size (w.heap.size + 1) (fun x => grp xs cs x) r) ∧ Below w.heap.size w w' := by
  have HX := hid hxs
  have HC := hid hcs
  have HLX := hid h.len
  have HLC := hid h'.len
  have hle := h'.le
  have HV : Hid (∀ v ∈ xs, 0 ≤ v) := hid (fun v hv => by
    obtain ⟨i, hi, rfl⟩ := mem_nth hv
    exact (HX.out i (by rw [← HLX.out]; exact hi)).1)
  have hmm := @run_makeMap Tryz.prog
  have hp0 := parts_made w
  clear hxs hcs
  go_enter Tryz.func23, Tryz.ntmps23
  go_wp2_with fail
  go_loopw [12] (fun i wr => ∃ (k : Nat) (r : Nat → Rw), k ≤ m ∧ i = .int .i64 (k : Int) ∧ PartsR wr w.heap.size (w.heap.size + 1) (fun x => grp xs (cs.take k) x) r ∧ w.heap.size + 1 ≤ wr.heap.size ∧ Below w.heap.size w wr) (fun i _ => m - (intOf i).toNat)
  case atStart => exact ⟨0, _, Nat.zero_le _, rfl, hp0, by simp, (Below.refl _ w).alloc (Nat.le_refl _) _⟩
  case round =>
    clear hp0
    obtain ⟨k, r, hk, rfl, hp, hsz, hb⟩ := hrel
    by_cases hlt : k < m
    · obtain ⟨c, hc1, hc2⟩ := HC.out k hlt
      obtain ⟨x0, x8⟩ := HX.out c hc1
      have hval : nth xs c = (((nth xs c).toNat : Nat) : Int) := by omega
      have HS := hid (fun x => grp_step (xs := xs) (cs := cs) (k := k) (c := c) (by rw [HLC.out]; exact hlt) hc2 x)
      have HBC : Hid (begF xs (nth xs c).toNat = begC xs (c : Int)) := hid (by unfold begC; rw [Int.toNat_natCast])
      have hbl : begC xs (c : Int) < 8 := by have := begF_le xs (nth xs c).toNat; rw [HBC.out] at this; omega
      obtain ⟨b1, off1, rfl, hbb1, hx1⟩ := h.2.2.2.2 (by omega)
      obtain ⟨b2, off2, rfl, hbb2, hx2⟩ := h'.2.2.2.2 (by omega)
      have hck : wr.cell? ⟨b1, off1 + c, none⟩ = some (.int .i64 (((nth xs c).toNat : Nat) : Int)) := by rw [hb.cell (p := ⟨b1, off1 + c, none⟩) hbb1, hx1 c hc1, ← hval]
      have hdk : wr.cell? ⟨b2, off2 + k, none⟩ = some (.int .i64 (c : Int)) := by rw [hb.cell (p := ⟨b2, off2 + k, none⟩) hbb2, hx2 k hlt, hc2]
      have z1 : (c : Int) < (n : Int) := by omega
      have z0 : (0 : Int) ≤ (c : Int) := by omega
      have hn8 : (nth xs c).toNat ≤ 100 := by omega
      have HGL : Hid (∀ x, (grp xs (cs.take k) x).length ≤ k) := hid (fun x => Nat.le_trans (List.length_filter_le _ _) (by simp; omega))
      clear hx1 hx2 hc2 hval x0 x8
      generalize (nth xs c).toNat = xv at *
      generalize begC xs (c : Int) = bc at *
      go_wp2_with (first | (go_at_call 53; refine (partBegin_any _ _ _ _ _ _ (h.below hb (Nat.le_refl _)) HV.out hn8).mono ?_; rintro e w' ⟨rfl, rfl⟩; rw [HBC.out]) | (at_lookup; refine wpList_lookup_parts _ rfl _ _ rfl _ _ _ r bc hbl rfl rfl hp ?_; intro a1 n1 c1 ho1 hback1) | (at_builtin; refine wpList_append_int_at _ rfl _ _ rfl (w.heap.size + 1) _ _ _ _ _ rfl rfl ho1 (by have := ho1.len; have := HGL.out bc; omega) hsz ?_; intro a2 c2 w2 hown2 hgr2 hloc2) | (at_mapUpdate; refine wpList_mapUpdate_parts _ rfl _ _ _ rfl hback1 rfl rfl rfl hgr2 hown2 (by simp) hloc2 ?_; rintro w3 ⟨r3, hp3⟩ hgr3))
      go_roundw
      case rel =>
        refine ⟨k + 1, r3, by omega, by go_num, ?_, Nat.le_trans hsz (Nat.le_trans hgr2.size hgr3.size), (hb.grown hgr2 (by omega) ?_).grown hgr3 (Nat.le_trans (by omega) hgr2.size) (fun j hj => by cases hj; exact Nat.le_refl _)⟩
        · rw [show (fun x => grp xs (cs.take (k + 1)) x) = _ from funext HS.out]
          exact hp3
        · intro j hj
          have := (ho1.1.lt j hj).1
          omega
      case measure => simp [intOf]; omega
    · obtain rfl : k = m := by omega
      have HT : Hid (cs.take k = cs) := hid (List.take_of_length_le (by rw [HLC.out]; exact Nat.le_refl _))
      rw [HT.out] at hp
      go_wp2_with fail
      go_ret
      exact ⟨rfl, ⟨r, hp⟩, hb⟩
end Go.Proofs.YtnddplldkgphnaaGreat
