/- The program's trees of words, by their contracts. -/
import Derived.Test.YtlfbmpgjhnpceabImplTp
import Derived.Test.YtlfbmpgjhnpceabSpecTq
namespace Go.Proofs.Ytlfbmpgjhnpceab
open Go.RowKit

set_option maxHeartbeats 2000000 in
theorem treeOfWord_any (a : Option Addr) (m cap : Nat) (ws : List Int) (w : World) (h : Has w a m cap ws) (hw : Word ws (m + 1)) :
    Calls Try.prog 170 #[.slice a m cap] w fun e w' => ∃ a' cap', e = .returned (.slice a' (m + 1) cap') ∧ Own w' w.heap.size a' (m + 1) cap' (unOf ws) ∧ Below w.heap.size w w' := by
  have HW := hid hw
  have h8 : m ≤ 7 := by have := hw.le; omega
  have HL := hid h.len
  have HB : Hid (∀ i, i < m + 1 → 0 ≤ nth (ws ++ [0]) i ∧ nth (ws ++ [0]) i ≤ ((m + 1 : Nat) : Int)) := hid (fun i hi => by
    by_cases e : i < m
    · rw [nth_left (by rw [HL.out]; exact e)]
      exact hw.nthB i (by rw [HL.out]; exact e)
    · have hm : i = ws.length := by rw [HL.out]; omega
      rw [hm, nth_append_at]; omega)
  have HC : Hid ((m : Int) + 1 = ((m + 1 : Nat) : Int)) := hid (by omega)
  have h8' : m + 1 ≤ 8 := by omega
  clear hw
  go_enter Try.func170, Try.ntmps170
  go_wp2_with fail
  refine (cloneT_any _ _ _ _ _ h).mono ?_
  rintro e w1 ⟨a1, cap1, rfl, hown1, hb1⟩
  have hs1 := hb1.size
  go_wp2_with (first | (go_at_call 192; refine (degreesOf_any _ _ _ _ _ hown2.has h8' HB.out).mono ?_; rintro e w3 ⟨a3, cap3, rfl, hown3, hb3⟩) | (at_make; refine wpList_make_ints _ rfl _ _ rfl (m + 1) (by rw [← HC.out]; rfl) (by rw [← HC.out]; rfl) (by omega) ?_; intro a4 cap4 w4 hown4 hb4) | (at_builtin; refine wpList_append_int _ rfl _ _ rfl w.heap.size _ _ _ _ _ rfl rfl hown1 (by omega) hs1 ?_; intro a2 cap2 w2 hown2 hb2))
  have hs2 := (hb1.trans hb2).size
  have hs3 := hb3.size
  have hs4 := hb4.size
  obtain ⟨g2, rfl, hg21, hg22, hg23, hg24⟩ := hown3.opened (by omega)
  have hownD := hown3.below hb4 (Nat.le_refl _)
  have hbx := ((hb1.trans hb2).trans (hb3.mono hs2)).trans (hb4.mono (by omega))
  have HLX : Hid ((ws ++ [0]).length = m + 1) := hid (by simp [HL.out])
  clear hg23 hg24 hown3
  go_loopw [18] (fun i wr => ∃ (k : Nat) (ds : List Int), k ≤ m ∧ i = .int .i64 k ∧ Own wr w2.heap.size (some ⟨g2, 0, none⟩) (m + 1 + 1) cap3 ds ∧ Own wr w3.heap.size a4 (m + 1) cap4 (unTo ws k) ∧ Degs ds (degW ws (untG ws k) k) (m + 1) ∧ Below w.heap.size w wr) (fun i _ => m - (intOf i).toNat)
  case atStart => exact ⟨0, _, by omega, rfl, hownD, by have : unTo ws 0 = List.replicate (m + 1) 0 := by { show List.replicate (ws.length + 1) 0 = _; rw [HL.out] }
                                                        rw [this]; exact hown4, (degL_degs _ HLX.out).congr (fun v _ => degW_nil ws v), hbx⟩
  case round =>
    clear hownD hown4 hbx
    obtain ⟨k, ds, hk, rfl, hD, hY, hds, hb⟩ := hrel
    have HDS := hid hds
    clear hds
    by_cases hlt : k < m
    · have HG2 := hid (untG_is HW.out k (by rw [HL.out]; omega))
      obtain ⟨x, x1, x2, x3, x4, x5, x6⟩ := unG_step HW.out HG2.out (by rw [HL.out]; exact hlt)
      have X3 := hid x3
      have HG1 : Hid (untG ws (k + 1) = untG ws k ++ [(x : Int)]) := hid (by simp only [untG]; rw [HL.out, x4])
      have HU1 : Hid (unTo ws (k + 1) = (unTo ws k).set (x - 1) (nth ws k)) := hid (by simp only [unTo]; rw [HL.out, x4, Int.toNat_natCast])
      have HDX : Hid (degW ws (untG ws k) k x = 1) := hid ((degW_leaf x1).2 x3)
      have HD2 : Hid (∀ v, x < v → v ≤ m + 1 → degW ws (untG ws k) k v ≠ 1) := hid (fun v h1 h2 e => by
        have := (degW_leaf (w := ws) (g := untG ws k) (k := k) (v := v) (by omega)).1 e
        rw [x5 v h1 h2] at this
        cases this)
      obtain ⟨t, rfl⟩ : ∃ t : Nat, x = t + 1 := ⟨x - 1, by omega⟩
      have hbt := HW.out.nthB k (by rw [HL.out]; exact hlt)
      obtain ⟨p, hp⟩ : ∃ p : Nat, nth ws k = (p : Int) := ⟨(nth ws k).toNat, by omega⟩
      have HP := hid hp
      obtain ⟨p1, p2, p3⟩ := degW_pos HW.out HG2.out (by rw [HL.out]; exact hlt) X3.out hp
      have P1 := hid p1
      clear x3 x4 x5 x6 p1 hbt
      have hsz := hb.size
      obtain ⟨b, off, rfl, hbb, hc⟩ := (h.below hb (Nat.le_refl _)).2.2.2.2 (by omega)
      have hct := hc k hlt
      rw [hp] at hct
      clear hc
      go_wp2_with fail
      refine (cutLeaf_any _ _ _ _ _ _ (t + 1) _ hD HDS.out h8' x2 HDX.out HD2.out).mono ?_
      rintro e w5 ⟨rfl, hD4, hgr⟩
      have hY4 := hY.kept hgr (.inl (by omega))
      have hb4 : Below w.heap.size w w5 := hb.trans (below_grown hgr hsz (by intro j hj; cases hj; omega))
      obtain ⟨g3, rfl, hh1, hh2, hh3, hh4⟩ := hY4.opened (by omega)
      have htm : t < m + 1 := by omega
      have hyk := hh3 t htm
      have hyf := hh4 t
      obtain ⟨y1, y2⟩ := hY4.set t (p : Int)
      have hD5 := hD4.kept y2 (.inr (fun q hq => by cases hq; show g2 ≠ g3; omega))
      obtain ⟨_, hgg, gg1, gg2, gg3, gg4⟩ := hD5.opened (by omega)
      cases hgg
      have hdp := gg3 p (by omega)
      have hdf := gg4 p
      have DC := HDS.out.cut x2
      have hpx : ¬ p = t + 1 := p2
      have DV : Hid (nth (ds.set (t + 1) 0) p = (degW ws (untG ws k) k p : Int)) := hid (by rw [DC.2 p p3]; show ((if p = t + 1 then 0 else degW ws (untG ws k) k p : Nat) : Int) = _; rw [if_neg hpx])
      have hd9 : degW ws (untG ws k) k p ≤ 9 := degW_le HW.out
      obtain ⟨z1, z2⟩ := hD5.set p (nth (ds.set (t + 1) 0) p - 1)
      have hY6 := y1.kept z2 (.inl (by omega))
      have DL := DC.less (p := p) p3 (by show 1 ≤ if p = t + 1 then 0 else degW ws (untG ws k) k p; rw [if_neg hpx]; exact P1.out)
      have HDL : Hid (Degs ((ds.set (t + 1) 0).set p (nth (ds.set (t + 1) 0) p - 1)) (degW ws (untG ws (k + 1)) (k + 1)) (m + 1)) := hid (DL.congr (fun v hv => by
        show _ = if v = p then (if p = t + 1 then 0 else degW ws (untG ws k) k p) - 1 else (if v = t + 1 then 0 else degW ws (untG ws k) k v)
        rw [HG1.out, degW_step HG2.out (by rw [HL.out]; exact hlt) x1 X3.out HP.out, if_neg hpx]))
      rw [DV.out] at hdp z1 z2 HDL hY6
      have HU2 : Hid ((unTo ws k).set t (p : Int) = unTo ws (k + 1)) := hid (by rw [HU1.out, HP.out, Nat.add_sub_cancel])
      have hb6 := (hb4.setCell (p := ⟨g3, t, none⟩) (by simp; omega) (.int .i64 (p : Int))).setCell (p := ⟨g2, p, none⟩) (by simp; omega) (.int .i64 ((degW ws (untG ws k) k p : Int) - 1))
      clear hh3 hh4 gg3 gg4 DC DL hD4 hD5 y1 y2 hY4 hY hD hp
      go_wp2_with fail
      go_roundw
      case rel => exact ⟨k + 1, _, by omega, by go_num, z1, by rw [← HU2.out]; exact hY6, HDL.out, hb6⟩
      case measure => simp [intOf]; omega
    · obtain rfl : k = m := by omega
      have HE : Hid (unTo ws k = unOf ws) := hid (by unfold unOf; rw [HL.out])
      go_wp2_with fail
      go_ret
      exact ⟨_, _, rfl, by rw [← HE.out]; exact hY.mono (by omega), hb⟩

end Go.Proofs.Ytlfbmpgjhnpceab
