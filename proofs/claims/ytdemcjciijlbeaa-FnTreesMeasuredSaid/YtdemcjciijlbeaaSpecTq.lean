/- The model's trees of words, by their contracts. -/
import Derived.Test.YtdemcjciijlbeaaSpecTp
import Derived.BigQuiet
namespace Go.Proofs.Ytdemcjciijlbeaa
open Go.RowKit

set_option maxRecDepth 10000 in
set_option maxHeartbeats 4000000 in
theorem trEdges_any (a b0 : Option Addr) (n cap cap2 : Nat) (N : Int) (ps es os : List Int) (w : World) (hN : N = (n : Int)) (h : Has w a n cap es) (h' : Has w b0 n cap2 os) (he : Edges ps es os n) (h8 : n ≤ 8) :
    Calls Try.prog 41 #[.int .i64 N, .slice a n cap, .slice b0 n cap2] w fun e w' => ∃ a' cap', e = .returned (.slice a' n cap') ∧ Own w' w.heap.size a' n cap' ps ∧ Below w.heap.size w w' := by
  subst hN
  have HE := hid he
  clear he
  go_enter Try.func41, Try.ntmps41
  go_wp2_with (at_make; refine wpList_make_ints _ rfl _ _ rfl n rfl rfl (by omega) ?_; intro a1 cap1 w1 hown1 hb1)
  have hs1 := hb1.size
  have ho0 := own_lit1 w1 w1.heap.size 0 (Nat.le_refl _)
  have hbl : Below w1.heap.size w1 (w1.alloc (.cells #[.int .i64 0] 3)) := (Below.refl _ _).alloc (Nat.le_refl _) _
  have hb0 : Below w.heap.size w (w1.alloc (.cells #[.int .i64 0] 3)) := hb1.trans (hbl.mono hs1)
  have hy0 := hown1.below hbl (Nat.le_refl _)
  have hlt2 : ∀ p, a1 = some p → p.block < w1.heap.size := fun p hp => by subst hp; exact (hown1.1.lt p.block rfl).2
  have HLT := hid hlt2
  clear hbl hlt2 hown1 hb1
  go_loopw [8, 9] (fun o i wr => ∃ (k m : Nat) (a' : Option Addr) (cap' : Nat) (R ys : List Int), k ≤ m ∧ i = .int .i64 k ∧ o = .slice a' m cap' ∧ Own wr w1.heap.size a' m cap' R ∧ Own wr w.heap.size a1 n cap1 ys ∧ Rch ps es os R ys n k 0 ∧ Below w.heap.size w wr) (fun _ i _ => n + 2 - (intOf i).toNat)
  case atStart => exact ⟨0, 1, _, 1, _, _, by omega, rfl, rfl, ho0, hy0, rch_zero, hb0⟩
  case round =>
    obtain ⟨k, m, a', cap', R, ys, hkm, rfl, rfl, hown, hy, hr, hb⟩ := hrel
    clear ho0 hy0 hb0
    have hmn : m ≤ n + 1 := by have := (rch_len hr).1; rw [hown.len] at this; exact this
    have HR := hid hr
    clear hr
    by_cases hlt : k < m
    · go_wp2_with fail
      go_loopw [8, 24] (fun o i wr => ∃ (j q : Nat) (a' : Option Addr) (cap' : Nat) (R ys : List Int), j ≤ n ∧ i = .int .i64 j ∧ o = .slice a' q cap' ∧ k < q ∧ Own wr w1.heap.size a' q cap' R ∧ Own wr w.heap.size a1 n cap1 ys ∧ Rch ps es os R ys n k j ∧ Below w.heap.size w wr) (fun _ i _ => n - (intOf i).toNat)
      case atStart => exact ⟨0, m, a', cap', R, ys, by omega, rfl, rfl, hlt, hown, hy, HR.out, hb⟩
      case round =>
        clear hown hb hy HR
        obtain ⟨j, q, a3, cap3, R, ys, hj, rfl, rfl, hkq, hown, hy, hr, hb⟩ := hrel
        have hqn : q ≤ n + 1 := by have := (rch_len hr).1; rw [hown.len] at this; exact this
        have HR := hid hr
        have HRL := hid hown.len
        clear hr
        by_cases hjl : j < n
        · obtain ⟨b, off, rfl, hbb, hc⟩ := h.2.2.2.2 (by omega)
          have hck : wr.cell? ⟨b, off + j, none⟩ = some (.int .i64 (nth es j)) := by rw [hb.cell (p := ⟨b, off + j, none⟩) hbb]; exact hc j hjl
          obtain ⟨b', off', rfl, hbb', hc'⟩ := h'.2.2.2.2 (by omega)
          have hck' : wr.cell? ⟨b', off' + j, none⟩ = some (.int .i64 (nth os j)) := by rw [hb.cell (p := ⟨b', off' + j, none⟩) hbb']; exact hc' j hjl
          obtain ⟨g, rfl, hg1, hg2, hg3, hg4⟩ := hown.opened (by omega)
          obtain ⟨g2, rfl, hh1, hh2, hh3, hh4⟩ := hy.opened (by omega)
          have hgl := HLT.out _ rfl
          have hgk := hg3 k hkq
          have hem := HE.out.mem j hjl
          obtain ⟨t, ht⟩ : ∃ t : Nat, nth es j = (t : Int) + 1 := ⟨(nth es j).toNat - 1, by omega⟩
          rw [ht] at hck
          have htn : t < n := by omega
          have hht := hh3 t htn
          have hhf := hh4 t
          have hjj : (j : Int) < (n : Int) := by omega
          have hjz : (0 : Int) ≤ (j : Int) := by omega
          have hq8 : q ≤ 9 := by omega
          clear hc hc' hg3 hg4 hh3 hh4 hem
          by_cases ho : nth os j = nth R k
          · have HO := hid ho
            rw [ho] at hck'
            have hbe : (nth R k == nth R k) = true := by simp
            clear ho
            by_cases hin : hasB R ((t : Int) + 1) = true
            · have HIN := hid hin
              have HN : Hid (Rch ps es os R ys n k (j + 1)) := hid (rch_old HR.out (fun _ => by rw [ht]; exact hasB_iff.1 HIN.out))
              have HT := hid ht
              clear hin ht
              go_wp2_with fail
              go_quiet (fail)
              have hownD : Own (wr.drewN nq) w1.heap.size (some ⟨g, 0, none⟩) q cap3 R := hown
              have hyD : Own (wr.drewN nq) w.heap.size (some ⟨g2, 0, none⟩) n cap1 ys := hy
              have hbD : Below w.heap.size w (wr.drewN nq) := below_drewN hb _
              have hgkD : (wr.drewN nq).cell? ⟨g, k, none⟩ = some (.int .i64 (nth R k)) := hgk
              have hhtD : (wr.drewN nq).cell? ⟨g2, t, none⟩ = some (.int .i64 (nth ys t)) := hht
              have hhfD : (wr.drewN nq).frozen? ⟨g2, t, none⟩ = false := hhf
              have hszD : w1.heap.size < (wr.drewN nq).heap.size := Nat.lt_of_le_of_lt hg1 hg2
              clear hown hy hb hgk hht hhf hck hck'
              generalize wr.drewN nq = wd at *
              go_wp2_with (go_at_call 38; refine (l1Has_any _ _ _ _ _ _ hownD.has).mono ?_; rintro e w' ⟨rfl, rfl⟩; rw [HIN.out])
              go_roundw
              case rel => exact ⟨j + 1, q, _, cap3, R, ys, by omega, by go_num, rfl, hkq, hownD, hyD, HN.out, hbD⟩
              case measure => simp [intOf]; omega
            · have HIN := hid (Bool.eq_false_iff.2 hin)
              have HN := hid (rch_new HE.out HR.out hjl (by rw [HRL.out]; exact hkq) HO.out (by rw [ht]; exact hasB_not.1 HIN.out))
              rw [ht, show ((t : Int) + 1).toNat - 1 = t by omega] at HN
              have HT := hid ht
              clear hin ht
              go_wp2_with fail
              go_quiet (fail)
              have hownD : Own (wr.drewN nq) w1.heap.size (some ⟨g, 0, none⟩) q cap3 R := hown
              have hyD : Own (wr.drewN nq) w.heap.size (some ⟨g2, 0, none⟩) n cap1 ys := hy
              have hbD : Below w.heap.size w (wr.drewN nq) := below_drewN hb _
              have hgkD : (wr.drewN nq).cell? ⟨g, k, none⟩ = some (.int .i64 (nth R k)) := hgk
              have hhtD : (wr.drewN nq).cell? ⟨g2, t, none⟩ = some (.int .i64 (nth ys t)) := hht
              have hhfD : (wr.drewN nq).frozen? ⟨g2, t, none⟩ = false := hhf
              have hszD : w1.heap.size < (wr.drewN nq).heap.size := Nat.lt_of_le_of_lt hg1 hg2
              clear hown hy hb hgk hht hhf hck hck'
              generalize wr.drewN nq = wd at *
              obtain ⟨y1, y2⟩ := hyD.set t (nth R k)
              have hownE := hownD.kept y2 (.inl hgl)
              have hbE := hbD.setCell (p := ⟨g2, t, none⟩) (by simp; omega) (.int .i64 (nth R k))
              have hsz : (wd.setCell ⟨g2, t, none⟩ (.int .i64 (nth R k))).heap.size = wd.heap.size := by simp
              have hle4 : w1.heap.size ≤ (wd.setCell ⟨g2, t, none⟩ (.int .i64 (nth R k))).heap.size := by omega
              have HSZ := hid hsz
              clear hsz
              go_wp2_with (first | (go_at_call 38; refine (l1Has_any _ _ _ _ _ _ hownD.has).mono ?_; rintro e w' ⟨rfl, rfl⟩; rw [HIN.out]) | (at_builtin; rw [← HSZ.out]; refine wpList_append_int _ rfl _ _ rfl w1.heap.size _ _ _ _ _ rfl rfl hownE (by omega) hle4 ?_; intro a4 cap4 w4 hown4 hb4))
              go_roundw
              case rel => exact ⟨j + 1, q + 1, a4, cap4, _, _, by omega, by go_num, rfl, by omega, hown4, own_kept y1 hb4 hgl, HN.out, hbE.trans (hb4.mono hs1)⟩
              case measure => simp [intOf]; omega
          · have hbe : (nth os j == nth R k) = false := by simp [ho]
            have HO := hid ho
            clear ho
            by_cases hE : (t : Int) + 1 = nth R k
            · have HIN : Hid (hasB R (nth os j) = true) := hid (hasB_iff.2 (by
                have h1 := HR.out.closed _ (nth_mem (xs := R) (i := k) (by rw [HRL.out]; exact hkq))
                rw [← hE] at h1
                rcases h1 with h1 | h1
                · omega
                · rw [HE.out.up j hjl, ht]; exact h1))
              have HN : Hid (Rch ps es os R ys n k (j + 1)) := hid (rch_old HR.out (fun hh => absurd hh HO.out))
              rw [← hE] at hgk
              have hbe2 : ((t : Int) + 1 == (t : Int) + 1) = true := by simp
              rw [← hE] at hbe
              have HE2 := hid hE
              have HT := hid ht
              clear hE ht
              go_wp2_with fail
              go_quiet (fail)
              have hownD : Own (wr.drewN nq) w1.heap.size (some ⟨g, 0, none⟩) q cap3 R := hown
              have hyD : Own (wr.drewN nq) w.heap.size (some ⟨g2, 0, none⟩) n cap1 ys := hy
              have hbD : Below w.heap.size w (wr.drewN nq) := below_drewN hb _
              have hgkD : (wr.drewN nq).cell? ⟨g, k, none⟩ = some (.int .i64 ((t : Int) + 1)) := hgk
              have hhtD : (wr.drewN nq).cell? ⟨g2, t, none⟩ = some (.int .i64 (nth ys t)) := hht
              have hhfD : (wr.drewN nq).frozen? ⟨g2, t, none⟩ = false := hhf
              have hszD : w1.heap.size < (wr.drewN nq).heap.size := Nat.lt_of_le_of_lt hg1 hg2
              clear hown hy hb hgk hht hhf hck hck'
              generalize wr.drewN nq = wd at *
              go_wp2_with (go_at_call 38; refine (l1Has_any _ _ _ _ _ _ hownD.has).mono ?_; rintro e w' ⟨rfl, rfl⟩; rw [HIN.out])
              go_roundw
              case rel => exact ⟨j + 1, q, _, cap3, R, ys, by omega, by go_num, rfl, hkq, hownD, hyD, HN.out, hbD⟩
              case measure => simp [intOf]; omega
            · have hbe2 : ((t : Int) + 1 == nth R k) = false := by simp [hE]
              have HN : Hid (Rch ps es os R ys n k (j + 1)) := hid (rch_old HR.out (fun hh => absurd hh HO.out))
              have HT := hid ht
              clear hE ht
              go_wp2_with fail
              go_quiet (fail)
              have hownD : Own (wr.drewN nq) w1.heap.size (some ⟨g, 0, none⟩) q cap3 R := hown
              have hyD : Own (wr.drewN nq) w.heap.size (some ⟨g2, 0, none⟩) n cap1 ys := hy
              have hbD : Below w.heap.size w (wr.drewN nq) := below_drewN hb _
              have hgkD : (wr.drewN nq).cell? ⟨g, k, none⟩ = some (.int .i64 (nth R k)) := hgk
              have hhtD : (wr.drewN nq).cell? ⟨g2, t, none⟩ = some (.int .i64 (nth ys t)) := hht
              have hhfD : (wr.drewN nq).frozen? ⟨g2, t, none⟩ = false := hhf
              have hszD : w1.heap.size < (wr.drewN nq).heap.size := Nat.lt_of_le_of_lt hg1 hg2
              clear hown hy hb hgk hht hhf hck hck'
              generalize wr.drewN nq = wd at *
              go_wp2_with fail
              go_roundw
              case rel => exact ⟨j + 1, q, _, cap3, R, ys, by omega, by go_num, rfl, hkq, hownD, hyD, HN.out, hbD⟩
              case measure => simp [intOf]; omega
        · obtain rfl : j = n := by omega
          have HN := hid (rch_next HR.out (by rw [HRL.out]; exact hkq))
          go_wp2_with fail
          go_roundw
          case rel => exact ⟨k + 1, q, a3, cap3, R, ys, by omega, by go_num, rfl, hown, hy, HN.out, hb⟩
          case measure => simp [intOf]; omega
    · have HF : Hid (ys = ps) := hid (rch_all HE.out HR.out (by rw [hown.len]; omega))
      go_wp2_with fail
      go_ret
      exact ⟨_, _, rfl, by rw [← HF.out]; exact hy, hb⟩

def unB (ws : List Int) : List Int × Bool := if decide (ws.length < 8) && allB ws 0 ((ws.length : Int) + 1) then (unOf ws, true) else ([], false)
theorem unB_yes {ws : List Int} {m : Nat} (hl : ws.length = m) (h8 : m < 8) (hb : allB ws 0 ((m : Int) + 1) = true) : unB ws = (unOf ws, true) ∧ Word ws (m + 1) := by
  subst hl
  refine ⟨by simp [unB, h8, hb], ⟨rfl, by omega, fun i hi => ?_⟩⟩
  have := allB_nth hb hi
  omega
theorem unB_no {ws : List Int} {m : Nat} (hl : ws.length = m) (h : ¬ m < 8 ∨ allB ws 0 ((m : Int) + 1) = false) : unB ws = ([], false) := by
  subst hl
  unfold unB
  rcases h with h | h <;> simp [h]

set_option maxRecDepth 10000 in
set_option maxHeartbeats 4000000 in
theorem trOf_any (a : Option Addr) (m cap : Nat) (ws : List Int) (w : World) (h : Has w a m cap ws) (hw : Word ws (m + 1)) :
    Calls Try.prog 28 #[.slice a m cap] w fun e w' => ∃ a' cap', e = .returned (.slice a' (m + 1) cap') ∧ Own w' w.heap.size a' (m + 1) cap' (unOf ws) ∧ Below w.heap.size w w' := by
  have HW := hid hw
  have h8 : m ≤ 7 := by have := hw.le; omega
  have HL := hid h.len
  have hcapm : m ≤ cap := h.2.1
  clear hw
  go_enter Try.func28, Try.ntmps28
  go_wp2_with fail
  go_loopw [4, 5, 15] (fun gn ot i wr => ∃ (k : Nat) (a1 : Option Addr) (c1 : Nat) (a2 : Option Addr) (c2 : Nat), k ≤ m ∧ i = .int .i64 k ∧ gn = .slice a1 k c1 ∧ ot = .slice a2 k c2 ∧ Own wr w.heap.size a1 k c1 (untG ws k) ∧ Own wr w.heap.size a2 k c2 (ws.take k) ∧ Apart a1 a2 ∧ Below w.heap.size w wr) (fun _ _ i _ => m - (intOf i).toNat)
  case atStart => exact ⟨0, none, 0, none, 0, by omega, rfl, rfl, rfl, Own.nil _ _, Own.nil _ _, Apart.noneL _, Below.refl _ _⟩
  case round =>
    obtain ⟨k, a1, c1, a2, c2, hk, rfl, rfl, rfl, hown1, hown2, hap, hb⟩ := hrel
    have hsz := hb.size
    by_cases hlt : k < m
    · have HG := hid (untG_is HW.out k (by rw [HL.out]; omega))
      obtain ⟨x, x1, x2, x3, x4, x5, x6⟩ := unG_step HW.out HG.out (by rw [HL.out]; exact hlt)
      have X3 := hid (uf_iff.1 x3)
      have X5 := hid x5
      have HG1 : Hid (untG ws (k + 1) = untG ws k ++ [(x : Int)]) := hid (by simp only [untG]; rw [HL.out, x4])
      have HT1 := hid (take_succ_nth (xs := ws) (k := k) (by rw [HL.out]; exact hlt))
      obtain ⟨b, off, rfl, hbb, hc⟩ := h.2.2.2.2 (by omega)
      have hck : wr.cell? ⟨b, off + k, none⟩ = some (.int .i64 (nth ws k)) := by rw [hb.cell (p := ⟨b, off + k, none⟩) hbb]; exact hc k hlt
      have hdr := (h.drop (k := k) (by omega)).below hb (Nat.le_refl _)
      have hcj : ¬ cap = k := by omega
      have hcj' : ¬ (cap : Int) = (k : Int) := by omega
      clear hc x3 x4 x5 x6
      go_wp2_with fail
      go_loopw [8] (fun nd wq => wq = wr ∧ ∃ j : Nat, x ≤ j ∧ j ≤ m + 1 ∧ nd = .int .i64 j) (fun nd _ => (intOf nd).toNat)
      case atStart => exact ⟨rfl, m + 1, x2, Nat.le_refl _, by go_num⟩
      case round =>
        obtain ⟨rfl, j, hxj, hjm, rfl⟩ := hrel
        by_cases hjx : j = x
        · have H1 : Hid (hasB (untG ws k) x = false) := hid (hasB_not.2 X3.out.1)
          have H2 : Hid (hasB (ws.drop k) x = false) := hid (hasB_not.2 X3.out.2)
          rw [hjx]
          have HJ := hid hjx
          clear hjx
          have hk8 : k ≤ 8 := by omega
          have hA := hown1.has
          go_wp2_with (first | (go_at_call 38; refine (l1Has_any _ _ _ _ _ _ hA).mono ?_; clear hA; rintro e w' ⟨rfl, rfl⟩; rw [H1.out]) | (go_at_call 38; refine (l1Has_any _ _ _ _ _ _ hdr).mono ?_; clear hdr; rintro e w' ⟨rfl, rfl⟩; rw [H2.out]) | (at_builtin; refine wpList_append_two _ rfl _ _ rfl w.heap.size _ _ _ _ _ rfl rfl hown1 (by omega) hsz w.heap.size _ _ _ _ hown2 hap ?_; intro a5 c5 w5 hown5 hg5 hap5 hb5; have hsz5 := (hb.trans hb5).size; clear hown1 hown2) | (at_builtin; refine wpList_append_two _ rfl _ _ rfl w.heap.size _ _ _ _ _ rfl rfl hg5 (by omega) hsz5 w.heap.size _ _ _ _ hown5 hap5.symm ?_; intro a6 c6 w6 hown6 hw6 hap6 hb6))
          go_roundw
          case rel => exact ⟨k + 1, a5, c5, a6, c6, by omega, by go_num, rfl, rfl, by rw [HG1.out]; exact hw6, by rw [HT1.out]; exact hown6, hap6.symm, (hb.trans hb5).trans hb6⟩
          case measure => simp [intOf]; omega
        · have HU : Hid (uf ws (untG ws k) k j = false) := hid (X5.out j (by omega) hjm)
          by_cases hh : hasB (untG ws k) j = true
          · have HH := hid hh
            clear hh
            go_wp2_with (go_at_call 38; refine (l1Has_any _ _ _ _ _ _ hown1.has).mono ?_; rintro e w' ⟨rfl, rfl⟩; rw [HH.out])
            go_roundw
            case rel => exact ⟨by first | trivial | rfl, j - 1, by omega, by omega, by go_num⟩
            case measure => simp [intOf]; omega
          · have H1 := hid (Bool.eq_false_iff.2 hh)
            have H2 : Hid (hasB (ws.drop k) j = true) := hid (by
              have := HU.out
              unfold uf at this
              rw [H1.out] at this
              simpa using this)
            clear hh
            have hA := hown1.has
            go_wp2_with (first | (go_at_call 38; refine (l1Has_any _ _ _ _ _ _ hA).mono ?_; clear hA; rintro e w' ⟨rfl, rfl⟩; rw [H1.out]) | (go_at_call 38; refine (l1Has_any _ _ _ _ _ _ hdr).mono ?_; clear hdr; rintro e w' ⟨rfl, rfl⟩; rw [H2.out]))
            go_roundw
            case rel => exact ⟨by first | trivial | rfl, j - 1, by omega, by omega, by go_num⟩
            case measure => simp [intOf]; omega
    · obtain rfl : k = m := by omega
      obtain ⟨v, v1, v2, v3⟩ := left_ex (n := k + 1) (g := untG ws k) (by rw [length_untG]; omega)
      have V3 := hid v3
      clear v3
      have hown2' : Own wr w.heap.size a2 k c2 ws := by rw [List.take_of_length_le (by rw [HL.out]; omega)] at hown2; exact hown2
      clear hown2
      go_wp2_with fail
      obtain ⟨wo, rfl⟩ : ∃ wo : World, wo = wr := ⟨_, rfl⟩
      go_loopg [4, 5, 9] (k + 2) (fun q gn ot nd wq => wq = wo ∧ ∃ j : Nat, gn = .slice a1 k c1 ∧ ot = .slice a2 k c2 ∧ 1 ≤ j ∧ j ≤ v ∧ j + q = k + 3 ∧ nd = .int .i64 j)
      case atStart => exact ⟨rfl, 1, rfl, rfl, Nat.le_refl _, v1, by omega, rfl⟩
      case round =>
        obtain ⟨rfl, j, rfl, rfl, hj1, hjv, hjq, rfl⟩ := hrel
        have hjk : (j : Int) ≤ (k : Int) + 1 := by omega
        by_cases hh : hasB (untG ws k) j = true
        · have HH := hid hh
          have hjne : j ≠ v := fun e => by
            subst e
            exact V3.out (hasB_iff.1 HH.out)
          clear hh
          go_wp2_with (go_at_call 38; refine (l1Has_any _ _ _ _ _ _ hown1.has).mono ?_; rintro e w' ⟨rfl, rfl⟩; rw [HH.out])
          go_roundg (gk - 1)
          case rel => exact ⟨by first | trivial | rfl, j + 1, rfl, rfl, by omega, by omega, by omega, by go_num⟩
          case measure => omega
        · have HH := hid (Bool.eq_false_iff.2 hh)
          have HED : Hid (Edges (unOf ws) (untG ws k ++ [(j : Int)]) (ws ++ [0]) (k + 1)) := hid (by
            have := edges_of HW.out (last := (j : Int)) (by omega) (by omega) (by rw [HL.out]; exact hasB_not.1 HH.out)
            rwa [HL.out] at this)
          clear hh
          go_wp2_with (first | (go_at_call 38; refine (l1Has_any _ _ _ _ _ _ hown1.has).mono ?_; rintro e w' ⟨rfl, rfl⟩; rw [HH.out]) | (at_builtin; refine wpList_append_two _ rfl _ _ rfl w.heap.size _ _ _ _ _ rfl rfl hown1 (by omega) hsz w.heap.size _ _ _ _ hown2' hap ?_; intro a5 c5 w5 hown5 hg5 hap5 hb5; have hsz5 := (hb.trans hb5).size; clear hown1 hown2') | (at_builtin; refine wpList_append_two _ rfl _ _ rfl w.heap.size _ _ _ _ _ rfl rfl hg5 (by omega) hsz5 w.heap.size _ _ _ _ hown5 hap5.symm ?_; intro a6 c6 w6 hown6 hw6 hap6 hb6))
          refine (trEdges_any _ _ (k + 1) _ _ _ _ _ _ _ (by omega) hw6.has hown6.has HED.out (by omega)).mono ?_
          rintro e w7 ⟨a7, c7, rfl, hown7, hb7⟩
          have hbb := (hb.trans hb5).trans hb6
          go_wp2_with fail
          go_ret
          exact ⟨_, _, rfl, hown7.mono hbb.size, hbb.trans (hb7.mono hbb.size)⟩

end Go.Proofs.Ytdemcjciijlbeaa
