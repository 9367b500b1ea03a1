/- FirstInsertion: the model's function. -/
import Derived.Test.YtadcmghjhgjeeabSpecFi
import Derived.Test.YtadcmghjhgjeeabApp2
import Derived.Deep.RegionWith
import Derived.Deep.DeepCutAuto
namespace Go.Proofs.Ytadcmghjhgjeeab
open Go.RowKit

@[go_sem] theorem field_tableF (a : Option Addr) (n cap : Nat) (w : World) : (Instr.field 35 (.agg #[.slice a n cap]) 0).run Try.prog w = .ok (.slice a n cap) w := by
  simp [Instr.field, part, isAgg, asAgg, run_underlying Try.underlying22, run_underlying Try.underlying35]

theorem own_cell0 {w : World} {B g n cap x : Nat} {xs : List Int} (h : Own w B (some ⟨g, 0, none⟩) n cap xs) (hx : x < n) : w.cell? ⟨g, x, none⟩ = some (.int .i64 (nth xs x)) ∧ w.frozen? ⟨g, x, none⟩ = false := by
  obtain ⟨g', hg, -, -, h3, h4⟩ := h.opened (by omega)
  simp at hg
  subst hg
  exact ⟨h3 x hx, h4 x⟩
/-- What a round of inserting wants. -/
structure FirAt (cs part os : List Int) (f : Nat) : Prop where
  sub : Sub cs part
  miss : missN cs part ≤ f
  eq : firL cs = os ++ firGo cs f part
  cnt : os.length + missN cs part ≤ 12
theorem firAt_start {cs : List Int} (ht : Tb cs) : FirAt cs (emptyL cs.length) [] cs.length := by
  have hu : usedN cs ≤ cs.length := by unfold usedN; exact List.countP_le_length
  have h12 := ht.hi
  exact ⟨sub_empty cs, by unfold missN; omega, by simp [firL], by simp; unfold missN; omega⟩
theorem FirAt.end {cs part os : List Int} {f : Nat} (h : FirAt cs part os f) (he : rdyL cs part = []) : firL cs = os := by
  rw [h.eq]
  cases f with
  | zero => simp [firGo]
  | succ f => simp only [firGo, he, List.append_nil]
theorem FirAt.next {cs part os rest : List Int} {f : Nat} {key : Int} (ht : Tb cs) (h : FirAt cs part os f) (he : rdyL cs part = key :: rest) : 0 < f ∧ FirAt cs (part.set (findL cs key) key) (os ++ [key]) (f - 1) := by
  have hm : key ∈ rdyL cs part := by rw [he]; simp
  obtain ⟨r1, r2, r3, r4⟩ := rdy_cell ht h.sub hm
  have hp := miss_put h.sub r1 r2 r4
  have hf := h.miss
  have hc := h.cnt
  obtain ⟨g, rfl⟩ : ∃ g, f = g + 1 := ⟨f - 1, by omega⟩
  refine ⟨by omega, h.sub.put r1, by simp; omega, ?_, by simp; omega⟩
  rw [h.eq]
  simp only [firGo, he, Nat.add_sub_cancel]
  simp
theorem head_of {l : List Int} (h : 0 < l.length) : ∃ rest, l = nth l 0 :: rest := by
  cases l with
  | nil => simp at h
  | cons x l => exact ⟨l, rfl⟩

set_option maxRecDepth 100000 in
set_option maxHeartbeats 4000000 in
theorem prFirst_any (a : Option Addr) (n cap : Nat) (cs : List Int) (w : World) (h : Has w a n cap cs) (ht : Tb cs) :
    Calls Try.prog 53 #[.agg #[.slice a n cap]] w fun e w' => ∃ a' q cap', e = .returned (.slice a' q cap') ∧ Own w' w.heap.size a' q cap' (firL cs) ∧ Below w.heap.size w w' := by
  obtain rfl := h.len
  obtain ⟨W, hW, C, hbW, hsW⟩ := boxed w (.slice a cs.length cap) 35
  have hH := h.below hbW (Nat.le_refl _)
  obtain ⟨y1, y2⟩ := id C
  have h12 := ht.hi
  have hlo := ht.lo
  have HTB := hid ht
  have hrl : ∀ part, (rdyL cs part).length ≤ 12 := fun part => by
    have h1 : (rdyL cs part).length ≤ (keysL cs).length := List.length_filter_le _ _
    have h2 : (keysL cs).length = usedN cs := by
      unfold keysL
      rw [length_insSort, ← length_usedL]
      exact length_collE _ _ _ _
    have h3 : usedN cs ≤ cs.length := by unfold usedN; exact List.countP_le_length
    omega
  have HRL := hid hrl
  clear hrl
  go_enter Try.func53, Try.ntmps53
  go_wp2_with (first | (go_at_call 58; refine (prEmpty_any cs.length _ (by omega)).mono ?_; rintro e w' ⟨ap, capp, rfl, op, hb1⟩; have C1 := C.below hb1 (by omega); obtain ⟨z1, z2⟩ := id C1; have hH1 := hH.below hb1 (Nat.le_refl _)) | (go_at_call 85; refine (prReady_any _ _ _ _ _ _ _ _ _ hH1 op.has ht (sub_empty cs)).mono ?_; rintro e w' ⟨ar, qr, capr, rfl, or_, hb2⟩; have C2 := C1.below hb2 (by have := hb1.size; omega); obtain ⟨x1, x2⟩ := id C2))
  have hs1 := hb1.size
  have hs2 := hb2.size
  have op2 := op.below hb2 (Nat.le_refl _)
  have lp := op.lt
  have gp := op.ge
  have hb12 := hbW.trans ((hb1.trans (hb2.mono hs1)).mono (by omega))
  have hsz : W.heap.size ≤ w'.heap.size := by omega
  obtain ⟨V1, hV1⟩ : ∃ v : Nat, v = (rdyL cs (emptyL cs.length)).length := ⟨_, rfl⟩
  have FA := firAt_start ht
  clear hV1 V1 hW y1 y2 z1 z2 x1 x2 op C C1 hH1
  go_loopg [4, 5] cs.length (fun f o rd wr => ∃ (part os : List Int) (k qr : Nat) (ao ar : Option Addr) (co cr : Nat), o = .slice ao k co ∧ rd = .slice ar qr cr ∧ Own wr W.heap.size ap cs.length capp part ∧ Own wr W.heap.size ao k co os ∧ Own wr W.heap.size ar qr cr (rdyL cs part) ∧ Apart ap ao ∧ Apart ap ar ∧ CellAt wr w.heap.size (.slice a cs.length cap) ∧ FirAt cs part os f ∧ Below w.heap.size w wr ∧ W.heap.size ≤ wr.heap.size)
  case atStart => exact ⟨_, [], 0, qr, none, ar, 0, capr, rfl, rfl, op2, Own.nil _ _, or_.mono (by omega), Apart.noneR _, apart_of lp or_.ge, C2, FA, hb12, hsz⟩
  case round =>
    clear op2 or_ C2 FA hb12 hsz hb1 hb2 hs1 hs2 lp
    obtain ⟨part, os, k, qr, ao, ar, co, cr, rfl, rfl, op, oo, orr, apo, apr, C, F, hb, hsz⟩ := hrel
    have hqr : qr ≤ 12 := by rw [← orr.len]; exact HRL.out part
    have hk12 : k ≤ 12 := by have := F.cnt; have := oo.len; omega
    by_cases hq : 0 < qr
    · obtain ⟨rest, he⟩ := head_of (l := rdyL cs part) (by rw [orr.len]; exact hq)
      obtain ⟨key, hkey⟩ : ∃ key, nth (rdyL cs part) 0 = key := ⟨_, rfl⟩
      rw [hkey] at he
      have hm : key ∈ rdyL cs part := by rw [he]; simp
      obtain ⟨r1, r2, r3, r4⟩ := rdy_cell HTB.out F.sub hm
      obtain ⟨f0, FN⟩ := F.next HTB.out he
      obtain ⟨f1, f2, f3⟩ := findL_spec r1
      have HPI := hid (placeI_yes r1)
      obtain ⟨c, hc⟩ : ∃ c, findL cs key = c := ⟨_, rfl⟩
      rw [hc] at HPI f1 FN
      obtain ⟨gr, rfl, gr1, gr2, -, -⟩ := orr.opened hq
      obtain ⟨gq, rfl, gq1, gq2, -, -⟩ := op.opened (by omega)
      have hhw := h.below hb (Nat.le_refl _)
      -- the drawn region's worlds
      have DD : Below wr.heap.size wr wr.drew := (Below.refl _ _).drew
      have hrd := own_cell0 orr hq
      rw [hkey] at hrd
      have KD := hid (And.intro hkey he)
      clear hkey he r1 r2 r3 r4 f2 f3 hm F
      have hq0 : (0 : Int) < (qr : Int) := by omega
      have hc1 : (c : Int) < (cs.length : Int) := by omega
      have hc0 : (0 : Int) ≤ (c : Int) := by omega
      have HC := hid hc
      clear hc hrd
      go_upto_region 6 with fail
      go_cut [29] (fun _ wx => ∃ wq, Below wr.heap.size wr wq ∧ wx = wq.setCell ⟨gq, c, none⟩ (.int .i64 key))
      case first =>
        have C' := C.below DD (by omega)
        obtain ⟨q1, q2⟩ := id C'
        have op' := op.below DD (Nat.le_refl _)
        have or' := orr.below DD (Nat.le_refl _)
        have hh' := hhw.below DD (Nat.le_refl _)
        obtain ⟨r1, r2⟩ := own_cell0 or' hq
        rw [KD.out.1] at r1
        first | (go_region_with (go_at_call 86; refine (prPlace_any _ _ _ _ _ _ hh').mono ?_; rintro e w5 ⟨rfl, hb5⟩; rw [HPI.out]; have or5 := or'.below hb5 (Nat.le_refl _); have op5 := op'.below hb5 (Nat.le_refl _); obtain ⟨s1, s2⟩ := own_cell0 or5 hq; rw [KD.out.1] at s1; obtain ⟨p1, p2⟩ := own_cell0 op5 f1)) | fail
        all_goals
          go_wp2_with fail
          go_meet
          exact ⟨_, DD.trans (hb5.mono DD.size), rfl⟩
      case rest =>
        obtain ⟨wq, hbq, rfl⟩ := hcut
        have opq := op.below hbq (Nat.le_refl _)
        have oV := opq.set c key
        have opV := oV.1
        have ooV := (oo.below hbq (Nat.le_refl _)).kept oV.2 (.inr fun p hp e => apo _ p rfl hp e.symm)
        have CV := (C.below hbq (by omega)).setOther' (g' := gq) (i := c) (z := .int .i64 key) (by omega)
        have hbV := (hb.trans (hbq.mono hb.size)).setCell (p := ⟨gq, c, none⟩) (show w.heap.size ≤ gq by omega) (.int .i64 key)
        have hszV : W.heap.size ≤ (wq.setCell ⟨gq, c, none⟩ (.int .i64 key)).heap.size := by have := hbq.size; simp; omega
        have hhV := h.below hbV (Nat.le_refl _)
        have orq := (orr.below hbq (Nat.le_refl _)).kept oV.2 (.inr fun p hp e => apr _ p rfl hp e.symm)
        obtain ⟨s1, s2⟩ := own_cell0 orq hq
        rw [KD.out.1] at s1
        generalize wq.setCell ⟨gq, c, none⟩ (.int .i64 key) = V at *
        clear oV opq oo op orr C hb hbq DD hsz hhw orq
        obtain ⟨q1, q2⟩ := id CV
        go_wp2_with (first | (at_builtin; refine wpList_append_two _ rfl _ _ rfl W.heap.size _ _ _ _ _ rfl rfl ooV (by omega) hszV W.heap.size _ _ _ _ opV apo.symm ?_; intro a8 cap8 w8 oo8 op8 ap8 hb8; have C8 := CV.below hb8 (by omega); obtain ⟨x1, x2⟩ := id C8; have hs8 := hb8.size; have hbw8 := hbV.trans (hb8.mono (by omega)); have hh8 := h.below hbw8 (Nat.le_refl _)) | (go_at_call 85; refine (prReady_any _ _ _ _ _ _ _ _ _ hh8 op8.has HTB.out FN.sub).mono ?_; rintro e w' ⟨a9, q9, cap9, rfl, or9, hb9⟩; skip))
        have hs9 := hb9.size
        go_roundg (gk - 1)
        case measure => omega
        case rel => exact ⟨_, _, _, _, _, _, _, _, rfl, rfl, op8.below hb9 (Nat.le_refl _), oo8.below hb9 (Nat.le_refl _), or9.mono (by omega), ap8.symm, apart_of op8.lt or9.ge, C8.below hb9 (by omega), FN, hbw8.trans (hb9.mono (by omega)), by omega⟩
    · obtain rfl : qr = 0 := by omega
      have he : rdyL cs part = [] := List.eq_nil_of_length_eq_zero orr.len
      have HE := hid (F.end he)
      clear he
      go_wp2_with fail
      go_ret
      exact ⟨_, _, _, rfl, by rw [HE.out]; exact oo.mono (by omega), hb⟩
end Go.Proofs.Ytadcmghjhgjeeab
