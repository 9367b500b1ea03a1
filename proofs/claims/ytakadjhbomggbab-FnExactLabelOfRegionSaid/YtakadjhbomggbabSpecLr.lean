/- Labels of regions: the model's side. -/
import Derived.Test.YtakadjhbomggbabMathLr
import Derived.Test.YtakadjhbomggbabSpecRi
import Derived.Test.YtakadjhbomggbabRgn
import Derived.StillTailTactics
namespace Go.Proofs.Ytakadjhbomggbab
open Go.RowKit

theorem cnt_nextL {os : List Int} {i : Int} {f k : Nat} (h : k < os.length) : cntF i (os.take (k + 1)) f = cntF i (os.take k) f + (if i < nth os k ∨ k < f then 1 else 0) := by
  rw [take_succ_nth h, cntF_snoc, List.length_take, Nat.min_eq_left (by omega)]
set_option maxHeartbeats 400000 in
theorem reCountL_any (a : Option Addr) (n cap : Nat) (os : List Int) (i : Int) (f : Nat) (w : World) (h : Has w a n cap os) (h8 : n ≤ 8) :
    Calls Try.prog 83 #[.slice a n cap, .int .i64 (f : Int), .int .i64 i] w fun e w' => e = .returned (.int .i64 (cntF i os f : Int)) ∧ w = w' := by
  have HL := hid h.len
  have HC := hid (fun k => cntF_le i (os.take k) f)
  go_enter Try.func83, Try.ntmps83
  go_wp2_with fail
  go_loop [7, 12] (fun c x => ∃ (k v : Nat), k ≤ n ∧ x = .int .i64 (k : Int) ∧ c = .int .i64 (v : Int) ∧ Hid (v = cntF i (os.take k) f)) (fun _ x => n - (intOf x).toNat)
  case atStart => exact ⟨0, 0, by omega, rfl, rfl, hid rfl⟩
  case round =>
    obtain ⟨k, v, hk, rfl, rfl, HV⟩ := hrel
    by_cases hlt : k < n
    · obtain ⟨b0, off, rfl, hbb, hc⟩ := h.2.2.2.2 (by omega)
      have hck := hc k hlt
      have HS := hid (cnt_nextL (os := os) (i := i) (f := f) (k := k) (by rw [HL.out]; exact hlt))
      have hv8 : v ≤ 8 := by have := HC.out k; rw [← HV.out, List.length_take] at this; omega
      clear hc
      by_cases h1 : i < nth os k
      · have HN : Hid (v + 1 = cntF i (os.take (k + 1)) f) := hid (by rw [HS.out, if_pos (.inl h1), HV.out])
        go_wp2_with fail
        go_round
        case rel => exact ⟨k + 1, v + 1, by omega, by go_num, by go_num, HN⟩
        case measure => simp [intOf]; omega
      · by_cases h2 : k < f
        · have HN : Hid (v + 1 = cntF i (os.take (k + 1)) f) := hid (by rw [HS.out, if_pos (.inr h2), HV.out])
          go_wp2_with fail
          go_round
          case rel => exact ⟨k + 1, v + 1, by omega, by go_num, by go_num, HN⟩
          case measure => simp [intOf]; omega
        · have HN : Hid (v = cntF i (os.take (k + 1)) f) := hid (by rw [HS.out, if_neg (by omega), HV.out]; rfl)
          go_wp2_with fail
          go_round
          case rel => exact ⟨k + 1, v, by omega, by go_num, rfl, HN⟩
          case measure => simp [intOf]; omega
    · obtain rfl : k = n := by omega
      have HR : Hid ((v : Int) = (cntF i os f : Int)) := hid (by rw [HV.out, List.take_of_length_le (by rw [HL.out]; omega)])
      go_wp2_with fail
      go_ret
      exact ⟨ret_int HR.out, rfl⟩


theorem reg_facts {os fs : List Int} {n : Nat} (h : regB os fs = true) (hl : os.length = n) : n ≤ 8 ∧ fs.length = n ∧ outB os = true ∧ ∀ p, p < n → 0 ≤ nth fs p ∧ nth fs p ≤ (p : Int) := by
  unfold regB at h
  simp only [Bool.and_eq_true, decide_eq_true_eq] at h
  obtain ⟨⟨h1, h2⟩, h3⟩ := h
  have h4 : ∀ p, p < n → 0 ≤ nth fs p ∧ nth fs p ≤ (p : Int) := by
    intro p
    induction p with
    | zero =>
      intro hp
      have := farTo_at h3 0 (by omega)
      unfold stepB at this
      simp only [Bool.and_eq_true] at this
      have := inB_iff.1 this.1
      simp only [lastF, if_true] at this
      exact ⟨this.1, this.2⟩
    | succ p ih =>
      intro hp
      have h5 := ih (by omega)
      have := farTo_at h3 (p + 1) (by omega)
      unfold stepB at this
      simp only [Bool.and_eq_true] at this
      have := inB_iff.1 this.1
      simp only [lastF, if_neg (Nat.succ_ne_zero p), Nat.add_sub_cancel] at this
      omega
  exact ⟨by have := out_le h1; omega, by omega, h1, h4⟩
def LrAt (os fs ys : List Int) (k : Nat) : Prop := ∀ q, q < k → nth ys (nth os q).toNat = (cntF (nth os q) (os.take q) (nth fs q).toNat : Int)
theorem lra_all {os fs ys : List Int} {n : Nat} (h : regB os fs = true) (hl : os.length = n) (hy : ys.length = n) (hs : LrAt os fs ys n) : ys = labRg os fs := by
  obtain ⟨h8, hfl, ho, hf⟩ := reg_facts h hl
  subst hl
  refine ext_nth (by simp [labRg, hy]) fun c hc => ?_
  obtain ⟨q, hq, e⟩ := mem_nth (out_all ho (z := c) (by omega))
  have h1 := hs q hq
  have h2 := lab_cnt ho hf hq
  rw [e, Int.toNat_natCast] at h1 h2
  rw [h1, ← h2]
  simp [labRg, nth, show c < os.length by omega]
theorem lra_step {os fs ys : List Int} {n k c f : Nat} (ho : outB os = true) (hl : os.length = n) (hy : ys.length = n) (hk : k < n) (hc : nth os k = (c : Int)) (hf : nth fs k = (f : Int)) (hs : LrAt os fs ys k) : LrAt os fs (ys.set c (cntF (c : Int) (os.take k) f : Int)) (k + 1) := fun q hq => by
  have hcn : c < n := by have := out_nth ho (i := k) (by omega); omega
  rw [nth_set (by omega)]
  by_cases e : q = k
  · subst e
    rw [hc, hf, Int.toNat_natCast, Int.toNat_natCast, if_pos rfl]
  · have hne : c ≠ (nth os q).toNat := fun h2 => e (out_inj ho (by omega) (by omega) (by have := out_nth ho (i := q) (by omega); omega))
    rw [if_neg hne]
    exact hs q (by omega)

set_option maxRecDepth 100000 in
set_option maxHeartbeats 4000000 in
theorem reLabelOf_any (a b : Option Addr) (n cap m capb : Nat) (os fs : List Int) (w : World) (h : Has w a n cap os) (h' : Has w b m capb fs) (hr : regB os fs = true) :
    Calls Try.prog 51 #[.agg #[.slice a n cap, .slice b m capb]] w fun e w' => ∃ a' c', e = .returned (.slice a' n c') ∧ Own w' w.heap.size a' n c' (labRg os fs) ∧ Below w.heap.size w w' := by
  obtain ⟨h8, hfl, ho, hf⟩ := reg_facts hr h.len
  have hmn : m = n := by have := h'.len; omega
  subst hmn
  have HRG := hid hr
  have HL := hid h.len
  have HO := hid ho
  have HF := hid hf
  have BX := boxAt_new w (.slice a m cap) (.slice b m capb) 24
  have hbW : Below w.heap.size w (w.alloc (.cells #[.slice a m cap, .slice b m capb] 24)) := (Below.refl _ _).alloc (Nat.le_refl _) _
  have hsW : (w.alloc (.cells #[.slice a m cap, .slice b m capb] 24)).heap.size = w.heap.size + 1 := by simp
  clear hr ho hf hfl
  obtain ⟨y1, y2, y3, y4⟩ := id BX
  go_enter Try.func51, Try.ntmps51
  go_wp2_with (at_make; refine wpList_make_ints _ rfl _ _ rfl m rfl rfl (by omega) ?_; intro a1 c1 w1 own1 hb1; have BX1 := BX.below hb1 (by rw [hsW]; exact Nat.lt_succ_self _); obtain ⟨z1, z2, z3, z4⟩ := id BX1)
  have hs1 := hb1.size
  rw [hsW] at hs1
  have hb2 := hbW.trans (hb1.mono (by rw [hsW]; omega))
  rw [hsW] at own1
  clear y1 y2 y3 y4 z1 z2 z3 z4 BX hbW hb1
  go_loopw [13] (fun i wr => ∃ (k : Nat) (ys : List Int), k ≤ m ∧ i = .int .i64 (k : Int) ∧ Own wr (w.heap.size + 1) a1 m c1 ys ∧ Hid (LrAt os fs ys k) ∧ BoxAt wr w.heap.size (.slice a m cap) (.slice b m capb) ∧ Below w.heap.size w wr) (fun i _ => m - (intOf i).toNat)
  case atStart => exact ⟨0, _, Nat.zero_le _, rfl, own1, hid (fun q hq => by omega), BX1, hb2⟩
  case round =>
    obtain ⟨k, ys, hk, rfl, own, HA, BX, hb⟩ := hrel
    clear own1 BX1 hb2
    by_cases hlt : k < m
    · have h1 := h.below hb (Nat.le_refl _)
      have h2 := h'.below hb (Nat.le_refl _)
      obtain ⟨c, hc⟩ : ∃ c : Nat, nth os k = (c : Int) := ⟨(nth os k).toNat, by have := out_nth HO.out (i := k) (by rw [HL.out]; exact hlt); omega⟩
      obtain ⟨f, hf⟩ : ∃ f : Nat, nth fs k = (f : Int) := ⟨(nth fs k).toNat, by have := HF.out k hlt; omega⟩
      have hcn : c < m := by have := out_nth HO.out (i := k) (by rw [HL.out]; exact hlt); rw [HL.out] at this; omega
      have HA2 := hid (lra_step HO.out HL.out own.len hlt hc hf HA.out)
      obtain ⟨ba, oa, rfl, hba, ca⟩ := h1.2.2.2.2 (by omega)
      obtain ⟨bb, ob, rfl, hbb, cb⟩ := h2.2.2.2.2 (by omega)
      have k1 := ca k hlt
      have k2 := cb k hlt
      rw [hc] at k1
      rw [hf] at k2
      obtain ⟨g, rfl, r1, r2, r3, r4⟩ := own.opened (by omega)
      have k3 := r3 c hcn
      have z3 := r4 c
      have htk := h1.take (k := k) (by omega)
      have hkc : k ≤ cap := by have := h1.2.1; omega
      have hcm := h1.2.2.1
      have hki : (k : Int) < (m : Int) := by omega
      have hci : (c : Int) < (m : Int) := by omega
      have hk0 : (0 : Int) ≤ (k : Int) := by omega
      have hc0 : (0 : Int) ≤ (c : Int) := by omega
      obtain ⟨s1, -⟩ := own.set c (cntF (c : Int) (os.take k) f : Int)
      have hb3 := (hb.setCell (p := ⟨g, c, none⟩) (show w.heap.size ≤ g by omega) (.int .i64 (cntF (c : Int) (os.take k) f : Int)))
      have BX3 := BX.apart (g' := g) (i := c) (z := .int .i64 (cntF (c : Int) (os.take k) f : Int)) (by omega)
      obtain ⟨x1, x2, x3, x4⟩ := id BX
      clear ca cb r3 r4 hc hf
      go_wp2_with fail
      go_still_tail 14, (by kernel_rfl)
      still_call ((reCountL_any _ _ _ _ (c : Int) f wr.drew (show Has wr.drew _ _ _ _ from htk) (by omega)).mono (fun e w'' ⟨q1, q2⟩ => ⟨q1, q2.symm⟩))
      repeat still_step
      refine wpStill_nil ?_
      change wpList _ _ _ _ _ wr.drew
      go_wp2_with fail
      go_roundw
      case rel => exact ⟨k + 1, _, by omega, by go_num, s1, HA2, ⟨BX3.c0, BX3.c1, BX3.f0, BX3.f1⟩, hb3.drew⟩
      case measure => simp [intOf]; omega
    · obtain rfl : k = m := by omega
      have HE := hid (lra_all HRG.out HL.out own.len HA.out)
      go_wp2_with fail
      go_ret
      exact ⟨_, _, rfl, by rw [← HE.out]; exact own.mono (Nat.le_succ _), hb⟩

set_option maxHeartbeats 1000000 in
theorem specLabelRg_any (a b : Option Addr) (n cap m capb : Nat) (os fs : List Int) (w : World) (h : Has w a n cap os) (h' : Has w b m capb fs) :
    Calls Try.prog 17 #[.agg #[.slice a n cap, .slice b m capb]] w (PostInts w (labelRgOf os fs)) := by
  have BX := boxAt_new w (.slice a n cap) (.slice b m capb) 24
  have hbW : Below w.heap.size w (w.alloc (.cells #[.slice a n cap, .slice b m capb] 24)) := (Below.refl _ _).alloc (Nat.le_refl _) _
  have hsW : (w.alloc (.cells #[.slice a n cap, .slice b m capb] 24)).heap.size = w.heap.size + 1 := by simp
  have h1 := h.below hbW (Nat.le_refl _)
  have h2 := h'.below hbW (Nat.le_refl _)
  obtain ⟨y1, y2, y3, y4⟩ := id BX
  go_enter Try.func17, Try.ntmps17
  go_wp2_with fail
  refine (reGood_any _ _ _ _ _ _ _ _ _ h1 h2).mono ?_
  rintro e w1 ⟨rfl, hb1⟩
  have BX1 := BX.below hb1 (by rw [hsW]; exact Nat.lt_succ_self _)
  have g1 := h1.below hb1 (Nat.le_refl _)
  have g2 := h2.below hb1 (Nat.le_refl _)
  have hb2 := hbW.trans (hb1.mono (by rw [hsW]; exact Nat.le_succ _))
  clear y1 y2 y3 y4 BX h1 h2 hbW hb1
  by_cases hr : regB os fs = true
  · rw [hr]
    have HR : Hid (labelRgOf os fs = (labRg os fs, true)) := hid (by unfold labelRgOf; rw [if_pos hr])
    have HG := hid hr
    obtain ⟨y1, y2, y3, y4⟩ := id BX1
    clear hr
    go_wp2_with fail
    refine (reLabelOf_any _ _ _ _ _ _ _ _ _ g1 g2 HG.out).mono ?_
    rintro e w2 ⟨a2, c2, rfl, o2, hb3⟩
    go_wp2_with fail
    go_ret2
    exact postInts HR.out (o2.mono hb2.size) (hb2.trans (hb3.mono hb2.size))
  · rw [Bool.eq_false_iff.2 hr]
    have HR : Hid (labelRgOf os fs = ([], false)) := hid (by unfold labelRgOf; rw [if_neg hr])
    clear hr
    go_wp2_with fail
    go_ret2
    exact postInts HR.out (Own.nil _ _) hb2
end Go.Proofs.Ytakadjhbomggbab
