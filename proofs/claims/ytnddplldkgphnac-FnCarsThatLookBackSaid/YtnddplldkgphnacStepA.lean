/- One step to the next list between two, where the three lists lie apart. -/
import Derived.Test.YtnddplldkgphnacOutL
namespace Go.Proofs.Ytnddplldkgphnac
open Go.RowKit

set_option maxHeartbeats 2000000 in
theorem stepApart_any (B : Nat) (a al ah : Option Addr) (n cap capl caph : Nat) (ys ls hs : List Int) (w : World) (h : Own w B a n cap ys) (hl : Has w al n capl ls) (hh : Has w ah n caph hs)
    (hal : ∀ g, a = some ⟨g, 0, none⟩ → ∀ q, al = some q → q.block ≠ g) (hah : ∀ g, a = some ⟨g, 0, none⟩ → ∀ q, ah = some q → q.block ≠ g) (hbd : ∀ i, i < n → nth hs i ≤ 1000) (hys : ∀ i, i < n → 0 ≤ nth ys i) :
    Calls Try.prog 104 #[.slice a n cap, .slice al n capl, .slice ah n caph] w fun e w' => e = .returned (.tuple #[]) ∧ Own w' B a n cap (stepC ys ls hs).1 ∧ Marked w w' a := by
  have hn := h.le
  have HLY := hid h.len
  have HLL := hid hl.len
  have HLH := hid hh.len
  by_cases h0 : n = 0
  · have hn0 : n ≤ 0 := by omega
    have HR : Hid ((stepC ys ls hs).1 = ys) := hid (by
      have : ys = [] := List.eq_nil_of_length_eq_zero (by rw [HLY.out]; omega)
      subst this
      simp [stepC])
    clear h0
    go_enter Try.func104, Try.ntmps104
    go_wp2_with fail
    refine wp_loop_rounds 1 ?_
    rw [rounds_succ]
    go_wp2_with fail
    go_end0
    exact ⟨rfl, by rw [HR.out]; exact h, ⟨none, World.grownBy.refl _ _, by simp⟩⟩
  · obtain ⟨g, rfl, hg1, hg2, hg3, hg4⟩ := h.opened (by omega)
    obtain ⟨bl, ol, rfl, hbl, hcl⟩ := hl.2.2.2.2 (by omega)
    obtain ⟨bh, oh, rfl, hbh, hch⟩ := hh.2.2.2.2 (by omega)
    have hl1 : bl ≠ g := hal _ rfl _ rfl
    have hh1 : bh ≠ g := hah _ rfl _ rfl
    clear hg3 hg4 hal hah
    go_enter Try.func104, Try.ntmps104
    go_wp2_with fail
    go_loopw [6] (fun i wr => ∃ (k : Nat), k ≤ n ∧ i = .int .i64 ((k : Int) - 1) ∧ Own wr B (some ⟨g, 0, none⟩) n cap (midStep ys ls hs k) ∧ Hid ((stepC (ys.drop k) (ls.drop k) (hs.drop k)).2 = true) ∧ w.grownBy wr (some g)) (fun i _ => (intOf i + 1).toNat)
    case atStart =>
      refine ⟨n, Nat.le_refl _, rfl, ?_, hid ?_, World.grownBy.refl _ _⟩
      · unfold midStep
        rw [List.drop_eq_nil_of_le (by rw [HLY.out]; omega), List.take_of_length_le (by rw [HLY.out]; omega)]
        simpa [stepC] using h
      · rw [List.drop_eq_nil_of_le (by rw [HLY.out]; omega)]; simp [stepC]
    case round =>
      obtain ⟨k, hk, rfl, hown, HC, hgr⟩ := hrel
      match k, hk, HC, hown with
      | 0, hk, HC, hown =>
        go_wp2_with fail
        go_end0
        refine ⟨rfl, ?_, ⟨some g, hgr, fun g' hg' => ⟨_, rfl, by simpa using hg'⟩⟩⟩
        simpa [midStep] using hown
      | j + 1, hk, HC, hown =>
        have e : ((j + 1 : Nat) : Int) - 1 = (j : Int) := by omega
        rw [e]
        clear e
        obtain ⟨g', hga, hg1', hg2', hg3', hg4'⟩ := hown.opened (by omega)
        cases hga
        have hcy := hg3' j (by omega)
        have hfy := hg4' j
        have e1 : nth (midStep ys ls hs (j + 1)) j = nth ys j := by
          unfold midStep
          rw [nth_append_left (by simp; rw [HLY.out]; omega), nth_take (by omega)]
        rw [e1] at hcy
        have hcl' : wr.cell? ⟨bl, ol + j, none⟩ = some (.int .i64 (nth ls j)) := grown_cell hgr (hcl j (by omega)) (by omega)
        have hch' : wr.cell? ⟨bh, oh + j, none⟩ = some (.int .i64 (nth hs j)) := grown_cell hgr (hch j (by omega)) (by omega)
        have hb1000 := hbd j (by omega)
        have hy0 := hys j (by omega)
        have hjn : (j : Int) < (n : Int) := by omega
        have hjz : (0 : Int) ≤ (j : Int) := by omega
        have HE := hid (stepC_at (ys := ys) (ls := ls) (hs := hs) (j := j) (by rw [HLY.out]; omega) (by rw [HLL.out]; omega) (by rw [HLH.out]; omega))
        have hset : ∀ z : Int, (midStep ys ls hs (j + 1)).set j z = ys.take j ++ z :: (stepC (ys.drop (j + 1)) (ls.drop (j + 1)) (hs.drop (j + 1))).1 := by
          intro z
          unfold midStep
          rw [take_succ_nth (by rw [HLY.out]; omega), List.append_assoc]
          have hlj : (ys.take j).length = j := by simp; rw [HLY.out]; omega
          rw [List.set_append_right _ _ (by omega), hlj, Nat.sub_self]
          rfl
        have HSET := hid hset
        clear hcl hch hg3' hg4' e1 hset hbd hys hg2' hg1'
        by_cases hlt : nth ys j < nth hs j
        · have htd : decide (nth ys j < nth hs j) = true := by simpa using hlt
          have HR : Hid ((midStep ys ls hs (j + 1)).set j (nth ys j + 1) = (stepC ys ls hs).1) := hid (by
            have he := HE.out
            simp only [HC.out, if_true, if_pos hlt] at he
            rw [HSET.out, stepC_done (ys := ys) (ls := ls) (hs := hs) j (by rw [HLY.out]; omega) (by rw [HLY.out, HLL.out]) (by rw [HLY.out, HLH.out]) (by rw [he]), he])
          go_wp2_with fail
          go_quiet (fail)
          go_wp2_with fail
          refine bodyPost_ret (results_none rfl _ _ _) rfl ?_
          have hd : Own (wr.drewN nq) B (some ⟨g, 0, none⟩) n cap (midStep ys ls hs (j + 1)) := hown
          obtain ⟨s1, s2⟩ := hd.set j (nth ys j + 1)
          rw [HR.out] at s1
          exact ⟨rfl, s1, ⟨some g, grown_trans (grown_drewN hgr nq) s2, fun g' hg' => ⟨_, rfl, by simpa using hg'⟩⟩⟩
        · have htd : decide (nth ys j < nth hs j) = false := by simp; omega
          have HR : Hid ((midStep ys ls hs (j + 1)).set j (nth ls j) = midStep ys ls hs j ∧ (stepC (ys.drop j) (ls.drop j) (hs.drop j)).2 = true) := hid (by
            have he := HE.out
            simp only [HC.out, if_true, if_neg hlt] at he
            refine ⟨?_, by rw [he]⟩
            rw [HSET.out]
            unfold midStep
            rw [he])
          go_wp2_with fail
          go_quiet (fail)
          go_wp2_with fail
          go_roundw
          case rel =>
            have hd : Own (wr.drewN nq) B (some ⟨g, 0, none⟩) n cap (midStep ys ls hs (j + 1)) := hown
            obtain ⟨s1, s2⟩ := hd.set j (nth ls j)
            rw [HR.out.1] at s1
            exact ⟨j, by omega, by go_num, s1, hid HR.out.2, grown_trans (grown_drewN hgr nq) s2⟩
          case measure => simp [intOf]

end Go.Proofs.Ytnddplldkgphnac
