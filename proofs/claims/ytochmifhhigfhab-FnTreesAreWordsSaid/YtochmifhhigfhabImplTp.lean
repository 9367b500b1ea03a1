/- The program's words of trees, by their contracts. -/
import Derived.Test.YtochmifhhigfhabImplTs
import Derived.Test.YtochmifhhigfhabSpecTw
import Derived.Test.YtochmifhhigfhabSpecTp
namespace Go.Proofs.Ytochmifhhigfhab
open Go.RowKit

/-- The degrees as a list. -/
def Degs (ds : List Int) (f : Nat → Nat) (n : Nat) : Prop := ds.length = n + 1 ∧ ∀ v : Nat, v ≤ n → nth ds v = (f v : Int)
theorem Degs.cut {ds : List Int} {f : Nat → Nat} {n x : Nat} (h : Degs ds f n) (hx : x ≤ n) : Degs (ds.set x 0) (fun v => if v = x then 0 else f v) n :=
  ⟨by simp [h.1], fun v hv => by
    show nth (ds.set x 0) v = ((if v = x then 0 else f v : Nat) : Int)
    rw [nth_set (by rw [h.1]; omega)]
    by_cases e : x = v
    · subst e; rw [if_pos rfl, if_pos rfl]; rfl
    · rw [if_neg e, if_neg (fun hh => e hh.symm), h.2 v hv]⟩
theorem Degs.less {ds : List Int} {f : Nat → Nat} {n p : Nat} (h : Degs ds f n) (hp : p ≤ n) (h1 : 1 ≤ f p) : Degs (ds.set p (nth ds p - 1)) (fun v => if v = p then f p - 1 else f v) n :=
  ⟨by simp [h.1], fun v hv => by
    show nth (ds.set p (nth ds p - 1)) v = ((if v = p then f p - 1 else f v : Nat) : Int)
    rw [nth_set (by rw [h.1]; omega)]
    by_cases e : p = v
    · subst e; rw [if_pos rfl, if_pos rfl, h.2 p hp]; omega
    · rw [if_neg e, if_neg (fun hh => e hh.symm), h.2 v hv]⟩

set_option maxHeartbeats 400000 in
theorem cutLeaf_any (B : Nat) (g : Nat) (n cap : Nat) (ds : List Int) (f : Nat → Nat) (x : Nat) (w : World) (h : Own w B (some ⟨g, 0, none⟩) (n + 1) cap ds) (hd : Degs ds f n) (h8 : n ≤ 8) (hxn : x ≤ n) (h1 : f x = 1) (h2 : ∀ v, x < v → v ≤ n → f v ≠ 1) :
    Calls Try.prog 65 #[.slice (some ⟨g, 0, none⟩) (n + 1) cap] w fun e w' => e = .returned (.int .i64 (x : Int)) ∧ Own w' B (some ⟨g, 0, none⟩) (n + 1) cap (ds.set x 0) ∧ w.grownBy w' (some g) := by
  obtain ⟨g', hgg, hg1, hg2, hg3, hg4⟩ := h.opened (by omega)
  cases hgg
  have HD := hid hd
  have H2 := hid h2
  have H1 := hid h1
  clear hd h2 h1
  go_enter Try.func65, Try.ntmps65
  go_wp2_with fail
  go_loop [3] (fun i => ∃ j : Nat, x ≤ j ∧ j ≤ n ∧ i = .int .i64 j) (fun i => (intOf i).toNat)
  case atStart => exact ⟨n, hxn, Nat.le_refl _, by go_num⟩
  case round =>
    obtain ⟨j, hj1, hj2, rfl⟩ := hrel
    have hgj := hg3 j (by omega)
    have hgx := hg3 x (by omega)
    have hgf := hg4 x
    have HV : Hid (nth ds j = (f j : Int)) := hid (HD.out.2 j hj2)
    rw [HV.out] at hgj
    have hjn : j < n + 1 := by omega
    by_cases hjx : j = x
    · rw [hjx, H1.out] at hgj
      have HX := hid hjx
      subst hjx
      clear hg3 hg4
      go_wp2_with fail
      go_ret
      obtain ⟨s1, s2⟩ := h.set j 0
      exact ⟨rfl, s1, s2⟩
    · have hne : ¬ f j = 1 := H2.out j (by omega) hj2
      have hbe : ((f j : Int) != 1) = true := by simp; omega
      clear hg3 hg4 hgx
      go_wp2_with fail
      go_round
      case rel => exact ⟨j - 1, by omega, by omega, by go_num⟩
      case measure => simp [intOf]; omega

theorem degL_degs (xs : List Int) {n : Nat} (h : xs.length = n) : Degs (degL xs) (deg xs) n := by
  subst h
  exact ⟨length_degL xs, fun v hv => nth_degL hv⟩
theorem Degs.congr {ds : List Int} {f g : Nat → Nat} {n : Nat} (h : Degs ds f n) (he : ∀ v, v ≤ n → g v = f v) : Degs ds g n := ⟨h.1, fun v hv => by rw [he v hv]; exact h.2 v hv⟩

set_option maxHeartbeats 2000000 in
theorem implPrufer_any (a : Option Addr) (n cap : Nat) (xs : List Int) (w : World) (h : Has w a n cap xs) :
    Calls Try.prog 29 #[.slice a n cap] w (PostInts w (pruB xs)) := by
  have HL := hid h.len
  by_cases hg : treeB xs = true
  · have HT := hid (tree_of hg h.len)
    have h8 := HT.out.le
    by_cases hn : n = 0
    · have HR : Hid (pruB xs = ([], false)) := hid (pruB_no (.inr (by rw [HL.out]; exact hn)))
      have HG := hid hg
      clear hg
      have hbe : ((n : Int) == 0) = true := by simp [hn]
      have HN := hid hn
      clear hn
      go_enter Try.func29, Try.ntmps29
      go_wp2_with (go_at_call 35; refine (isTree_any _ _ _ _ _ h).mono ?_; rintro e w1 ⟨rfl, hb1⟩; rw [HG.out])
      go_ret2
      exact postInts_no HR.out hb1
    · have HR : Hid (pruB xs = (pruOf xs, true)) := hid (pruB_yes hg (by rw [HL.out]; omega))
      have HG := hid hg
      clear hg
      have hbe : ((n : Int) == 0) = false := by simp; omega
      have HC : Hid ((n : Int) - 1 = ((n - 1 : Nat) : Int)) := hid (by omega)
      have HB := hid HT.out.nthB
      go_enter Try.func29, Try.ntmps29
      go_wp2_with (first | (go_at_call 35; refine (isTree_any _ _ _ _ _ h).mono ?_; rintro e w1 ⟨rfl, hb1⟩; rw [HG.out]) | (go_at_call 64; refine (degreesOf_any _ _ _ _ _ (h.below hb1 (Nat.le_refl _)) h8 HB.out).mono ?_; rintro e w2 ⟨a2, cap2, rfl, hown2, hb2⟩) | (at_make; refine wpList_make_ints _ rfl _ _ rfl (n - 1) (by rw [← HC.out]; rfl) (by rw [← HC.out]; rfl) (by omega) ?_; intro a3 cap3 w3 hown3 hb3))
      have hs1 := hb1.size
      have hs2 := hb2.size
      have hs3 := hb3.size
      obtain ⟨g2, rfl, hg21, hg22, hg23, hg24⟩ := hown2.opened (by omega)
      have hownD := hown2.below hb3 (Nat.le_refl _)
      have hbx := (hb1.trans (hb2.mono hs1)).trans (hb3.mono (by omega))
      have hx2 := ((h.below hb1 (Nat.le_refl _)).below hb2 (Nat.le_refl _))
      clear hg23 hg24 hown2
      go_loopw [23] (fun i wr => ∃ (k : Nat) (ds ys : List Int), k ≤ n - 1 ∧ i = .int .i64 k ∧ Own wr w1.heap.size (some ⟨g2, 0, none⟩) (n + 1) cap2 ds ∧ Own wr w2.heap.size a3 (n - 1) cap3 ys ∧ Degs ds (degAt xs (pruG xs k)) n ∧ FromTo (pruOf xs) ys k ∧ Below w.heap.size w wr) (fun i _ => n - 1 - (intOf i).toNat)
      case atStart => exact ⟨0, _, _, by omega, rfl, hownD, hown3, (degL_degs xs HL.out).congr (fun v _ => degAt_nil xs v), fun i hi => by omega, hbx⟩
      case round =>
        clear hownD hown3 hbx
        obtain ⟨k, ds, ys, hk, rfl, hD, hY, hds, hft, hb⟩ := hrel
        have HDS := hid hds
        have HFT := hid hft
        clear hds hft
        by_cases hlt : k < n - 1
        · have HG2 := hid (pruG_gone HT.out k (by omega))
          obtain ⟨x, x1, x2, x3, x4, x5, x6⟩ := gone_step HT.out HG2.out (by omega)
          have X3 := hid x3
          have HG1 : Hid (pruG xs (k + 1) = pruG xs k ++ [(x : Int)]) := hid (by simp only [pruG]; rw [HL.out, x4])
          have HDX : Hid (degAt xs (pruG xs k) x = 1) := hid ((degAt_leaf x1).2 x3)
          have HD2 : Hid (∀ v, x < v → v ≤ n → degAt xs (pruG xs k) v ≠ 1) := hid (fun v h1 h2 e => by
            have := (degAt_leaf (ps := xs) (g := pruG xs k) (v := v) (by omega)).1 e
            rw [x5 v h1 h2] at this
            cases this)
          obtain ⟨t, rfl⟩ : ∃ t : Nat, x = t + 1 := ⟨x - 1, by omega⟩
          have hbt := HB.out t (by omega)
          obtain ⟨p, hp⟩ : ∃ p : Nat, nth xs t = (p : Int) := ⟨(nth xs t).toNat, by omega⟩
          have HP : Hid (par xs ((t + 1 : Nat) : Int) = (p : Int)) := hid (by unfold par; rw [show ((t + 1 : Nat) : Int).toNat - 1 = t by omega]; exact hp)
          obtain ⟨p1, p2, p3⟩ := degAt_pos HT.out HG2.out x1 x2 X3.out HP.out
          have P1 := hid p1
          clear x3 x4 x5 x6 p1 hbt
          have hsz := hb.size
          go_wp2_with fail
          refine (cutLeaf_any _ _ _ _ _ _ (t + 1) _ hD HDS.out h8 x2 HDX.out HD2.out).mono ?_
          rintro e w4 ⟨rfl, hD4, hgr⟩
          have hY4 := hY.kept hgr (.inl (by omega))
          have hb4 : Below w.heap.size w w4 := hb.trans (below_grown hgr hsz (by intro j hj; cases hj; omega))
          obtain ⟨b, off, rfl, hbb, hc⟩ := (h.below hb4 (Nat.le_refl _)).2.2.2.2 (by omega)
          have hct := hc t (by omega)
          rw [hp] at hct
          obtain ⟨g3, rfl, hh1, hh2, hh3, hh4⟩ := hY4.opened (by omega)
          have hyk := hh3 k hlt
          have hyf := hh4 k
          obtain ⟨y1, y2⟩ := hY4.set k (p : Int)
          have hD5 := hD4.kept y2 (.inr (fun q hq => by cases hq; show g2 ≠ g3; omega))
          obtain ⟨_, hgg, gg1, gg2, gg3, gg4⟩ := hD5.opened (by omega)
          cases hgg
          have hdp := gg3 p (by omega)
          have hdf := gg4 p
          obtain ⟨_, hgg, ff1, ff2, ff3, ff4⟩ := y1.opened (by omega)
          cases hgg
          have hyk2 := ff3 k hlt
          rw [nth_set (by rw [hY4.len]; exact hlt), if_pos rfl] at hyk2
          have DC := HDS.out.cut x2
          have hpx : ¬ p = t + 1 := p2
          have DV : Hid (nth (ds.set (t + 1) 0) p = (degAt xs (pruG xs k) p : Int)) := hid (by rw [DC.2 p p3]; show ((if p = t + 1 then 0 else degAt xs (pruG xs k) p : Nat) : Int) = _; rw [if_neg hpx])
          have hd9 : degAt xs (pruG xs k) p ≤ 9 := degAt_le (by rw [HL.out]; exact h8)
          obtain ⟨z1, z2⟩ := hD5.set p (nth (ds.set (t + 1) 0) p - 1)
          have hY6 := y1.kept z2 (.inl (by omega))
          have DL := DC.less (p := p) p3 (by show 1 ≤ if p = t + 1 then 0 else degAt xs (pruG xs k) p; rw [if_neg hpx]; exact P1.out)
          have HDL : Hid (Degs ((ds.set (t + 1) 0).set p (nth (ds.set (t + 1) 0) p - 1)) (degAt xs (pruG xs (k + 1))) n) := hid (DL.congr (fun v hv => by
            show _ = if v = p then (if p = t + 1 then 0 else degAt xs (pruG xs k) p) - 1 else (if v = t + 1 then 0 else degAt xs (pruG xs k) v)
            rw [HG1.out, degAt_step HT.out HG2.out x1 x2 X3.out HP.out, if_neg hpx]))
          have HF2 : Hid (FromTo (pruOf xs) (ys.set k (p : Int)) (k + 1)) := hid (fun i hi => by
            rw [nth_set (by rw [hY.len]; exact hlt)]
            by_cases e : k = i
            · subst e
              rw [if_pos rfl]
              have hpl : (pruOf xs).length = n - 1 := by unfold pruOf; rw [length_pruW, HL.out]
              have hg : ∀ m, k < m → nth (pruW xs m) k = nth (pruW xs (k + 1)) k := by
                intro m
                induction m with
                | zero => intro hm; omega
                | succ m ih =>
                  intro hm
                  by_cases e2 : k = m
                  · subst e2; rfl
                  · rw [pruW_succ, nth_left (by rw [length_pruW]; omega)]
                    exact ih (by omega)
              have e3 : nth (pruOf xs) k = nth (pruW xs (k + 1)) k := by unfold pruOf; exact hg _ (by rw [HL.out]; exact hlt)
              have e4 : pruW xs (k + 1) = pruW xs k ++ [(p : Int)] := by unfold pruW; rw [HG1.out, List.map_append, List.map_singleton, HP.out]
              have e5 := nth_append_at (xs := pruW xs k) (y := (p : Int))
              rw [length_pruW] at e5
              rw [e3, e4, e5]
            · rw [if_neg e]; exact HFT.out i (by omega))
          rw [DV.out] at hdp z1 z2 HDL hY6
          have hb6 := (hb4.setCell (p := ⟨g3, k, none⟩) (by simp; omega) (.int .i64 (p : Int))).setCell (p := ⟨g2, p, none⟩) (by simp; omega) (.int .i64 ((degAt xs (pruG xs k) p : Int) - 1))
          clear hc hh3 hh4 gg3 gg4 ff3 ff4 DC DL hD4 hD5 y1 y2 hY4 hY hD hp
          go_wp2_with fail
          go_roundw
          case rel => exact ⟨k + 1, _, _, by omega, by go_num, z1, hY6, HDL.out, HF2.out, hb6⟩
          case measure => simp [intOf]; omega
        · obtain rfl : k = n - 1 := by omega
          have HE : Hid (ys = pruOf xs) := hid (ext_nth (by rw [hY.len]; unfold pruOf; rw [length_pruW, HL.out]) (fun i hi => HFT.out i (by rw [hY.len] at hi; exact hi)))
          go_wp2_with fail
          go_ret2
          exact postInts HR.out (by rw [← HE.out]; exact hY.mono (by omega)) hb
  · have HR : Hid (pruB xs = ([], false)) := hid (pruB_no (.inl (Bool.eq_false_iff.2 hg)))
    have HG := hid (Bool.eq_false_iff.2 hg)
    clear hg
    go_enter Try.func29, Try.ntmps29
    go_wp2_with (go_at_call 35; refine (isTree_any _ _ _ _ _ h).mono ?_; rintro e w1 ⟨rfl, hb1⟩; rw [HG.out])
    go_ret2
    exact postInts_no HR.out hb1
end Go.Proofs.Ytochmifhhigfhab
