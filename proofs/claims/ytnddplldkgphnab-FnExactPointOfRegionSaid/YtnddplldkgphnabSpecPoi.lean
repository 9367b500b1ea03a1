/- The point of a Region: the model's numbers, by contract. -/
import Derived.Test.YtnddplldkgphnabSpecRi
import Derived.Test.YtnddplldkgphnabMathPq
import Derived.Deep.LoopGhost
namespace Go.Proofs.Ytnddplldkgphnab
open Go.RowKit

theorem own_drewN {w : World} {B : Nat} {a : Option Addr} {n cap : Nat} {xs : List Int} (h : Own w B a n cap xs) (k : Nat) : Own (w.drewN k) B a n cap xs := h
theorem BoxAt.drewN {w : World} {g : Nat} {x y : Value} (h : BoxAt w g x y) (k : Nat) : BoxAt (w.drewN k) g x y := ⟨h.c0, h.c1, h.f0, h.f1⟩
/-- How much the numbers may still grow. -/
def pot (s y : List Int) : Nat → Nat
  | 0 => 0
  | k + 1 => pot s y k + (nth s k - nth y k).toNat
theorem pot_le {s y z : List Int} (h : LeL y z) : ∀ k, pot s z k ≤ pot s y k
  | 0 => Nat.le_refl _
  | k + 1 => by
    have := pot_le (s := s) h k
    have := h.2 k
    simp only [pot]
    omega
theorem pot_lt {s y z : List Int} (h : LeL y z) (hs : LeL z s) : ∀ k i, i < k → nth y i < nth z i → pot s z k < pot s y k
  | 0, i, hi, _ => by omega
  | k + 1, i, hi, hlt => by
    have h1 := pot_le (s := s) h k
    have h2 := h.2 k
    simp only [pot]
    by_cases e : i = k
    · subst e
      have := hs.2 i
      omega
    · have := pot_lt h hs k i (by omega) hlt
      omega
theorem Mid.set {fs y : List Int} {n i : Nat} {v : Int} (h : Mid fs y n) (hi : i < n) (h1 : nth y i ≤ v) (h2 : v ≤ nth (solL fs) i) (h3 : v ≤ 12120) : Mid fs (y.set i v) n ∧ LeL y (y.set i v) := by
  have hl := h.len
  have e : ∀ j, nth (y.set i v) j = if i = j then v else nth y j := fun j => nth_set (by omega)
  refine ⟨⟨by simp [hl], fun j => ?_, fun j => ?_, ⟨by simp [h.le.1], fun j => ?_⟩⟩, ⟨by simp, fun j => ?_⟩⟩
  · rw [e]; have := h.lo i; have := h.lo j; split <;> omega
  · rw [e]; have := h.hi j; split <;> omega
  · rw [e]; have := h.le.2 j; split
    · rename_i e2; subst e2; exact h2
    · exact this
  · rw [e]; split
    · rename_i e2; subst e2; exact h1
    · exact Int.le_refl _
/-- What the least numbers keep at a place. -/
structure Keeps (fs y : List Int) (p : Nat) : Prop where
  one : 0 < p → nth y (p - 1) + 1 ≤ nth y p
  far : 0 < farAt fs p → nth y (farAt fs p - 1) + 101 ≤ nth y p
  near : farAt fs p < p → nth y p - 99 ≤ nth y (farAt fs p)
theorem sol_keeps {os fs : List Int} {n : Nat} (hn : fs.length = n) (h8 : n ≤ 8) (h : regB os fs = true) : ∀ p, p < n → Keeps fs (solL fs) p := by
  have hh := sol_holds h (by omega)
  rw [hn] at hh
  intro p hp
  refine ⟨fun h0 => ?_, fun h0 => ?_, fun h0 => ?_⟩
  · have := hh (p, p - 1, 1) (modR_mem.2 ⟨p, hp, by simp only [modS, List.mem_append]; left; left; rw [if_pos h0]; simp⟩)
    exact this
  · have := hh (p, farAt fs p - 1, 101) (modR_mem.2 ⟨p, hp, by simp only [modS, List.mem_append]; left; right; rw [if_pos h0]; simp⟩)
    exact this
  · have := hh (farAt fs p, p, -99) (modR_mem.2 ⟨p, hp, by simp only [modS, List.mem_append]; right; rw [if_pos h0]; simp⟩)
    simp only at this
    omega
theorem keeps_sol {fs y : List Int} {n : Nat} (hn : fs.length = n) (M : Mid fs y n) (hk : ∀ p, p < n → Keeps fs y p) : y = solL fs := by
  refine stable_sol hn M.lo M.le (fun r hr => ?_)
  obtain ⟨p, hp, hr⟩ := modR_mem.1 hr
  have K := hk p hp
  simp only [modS, List.mem_append] at hr
  rcases hr with (hr | hr) | hr
  · split at hr <;> simp at hr
    subst hr
    exact K.one (by assumption)
  · split at hr <;> simp at hr
    subst hr
    exact K.far (by assumption)
  · split at hr <;> simp at hr
    subst hr
    have := K.near (by assumption)
    simp only
    omega
/-- Part-way through a round from y0: nothing has changed so far, or some number has grown. -/
structure Rnd (fs y0 y : List Int) (n p : Nat) (ch : Bool) : Prop where
  mid : Mid fs y n
  le : LeL y0 y
  no : ch = false → y = y0 ∧ ∀ q, q < p → Keeps fs y q
  yes : ch = true → ∃ i, i < n ∧ nth y0 i < nth y i
theorem Rnd.up {fs y0 y : List Int} {n p i : Nat} {ch : Bool} {v : Int} (h : Rnd fs y0 y n p ch) (hi : i < n) (h1 : nth y i < v) (h2 : v ≤ nth (solL fs) i) (h3 : v ≤ 12120) (q : Nat) : Rnd fs y0 (y.set i v) n q true := by
  obtain ⟨m1, m2⟩ := h.mid.set hi (Int.le_of_lt h1) h2 h3
  refine ⟨m1, h.le.trans m2, by simp, fun _ => ⟨i, hi, ?_⟩⟩
  rw [nth_set (by rw [h.mid.len]; exact hi), if_pos rfl]
  have := h.le.2 i
  omega
theorem Rnd.next {fs y0 y : List Int} {n p : Nat} {ch : Bool} (h : Rnd fs y0 y n p ch) (hk : Keeps fs y p) : Rnd fs y0 y n (p + 1) ch :=
  ⟨h.mid, h.le, fun e => ⟨(h.no e).1, fun q hq => by
    by_cases e2 : q = p
    · subst e2; exact hk
    · exact (h.no e).2 q (by omega)⟩, h.yes⟩
theorem Rnd.any {fs y0 y : List Int} {n p : Nat} (h : Rnd fs y0 y n p true) (q : Nat) : Rnd fs y0 y n q true := ⟨h.mid, h.le, by simp, h.yes⟩
set_option maxRecDepth 100000 in
set_option maxHeartbeats 4000000 in
theorem reDepths_any (a b : Option Addr) (n cap capb : Nat) (os fs : List Int) (w : World) (h : Has w a n cap os) (h' : Has w b n capb fs) (hr : regB os fs = true) (h8 : n ≤ 8) :
    Calls Try.prog 68 #[.agg #[.slice a n cap, .slice b n capb]] w fun e w' => ∃ a' c', e = .returned (.slice a' n c') ∧ Own w' w.heap.size a' n c' (solL fs) ∧ Below w.heap.size w w' := by
  have hL := h'.len
  have HF := hid (far_le hL hr)
  have HK := hid (sol_keeps hL h8 hr)
  have HKS := hid (fun (y : List Int) (M : Mid fs y n) (hk : ∀ p, p < n → Keeps fs y p) => keeps_sol hL M hk)
  have M0 : Mid fs (List.replicate n 0) n := by
    have hz := zero_sol fs
    rw [hL] at hz
    exact ⟨by simp, fun i => by rw [nth_rep0]; exact Int.le_refl _, fun i => by rw [nth_rep0]; omega, hz.1⟩
  have HSB := hid (fun i => sol_bounds hL h8 i)
  have BX := boxAt_new w (.slice a n cap) (.slice b n capb) 24
  have hbW : Below w.heap.size w (w.alloc (.cells #[.slice a n cap, .slice b n capb] 24)) := (Below.refl _ _).alloc (Nat.le_refl _) _
  have hsW : (w.alloc (.cells #[.slice a n cap, .slice b n capb] 24)).heap.size = w.heap.size + 1 := by simp
  have h1 := h'.below hbW (Nat.le_refl _)
  obtain ⟨y1, y2, y3, y4⟩ := id BX
  clear hr hL
  go_enter Try.func68, Try.ntmps68
  go_wp2_with (at_make; refine wpList_make_ints _ rfl _ _ rfl n rfl rfl (by omega) ?_; intro a1 c1 w1 own1 hb1)
  have BX1 := BX.below hb1 (by rw [hsW]; exact Nat.lt_succ_self _)
  have hb2 : Below w.heap.size w w1 := hbW.trans (hb1.mono (by rw [hsW]; exact Nat.le_succ _))
  have own2 := own1.mono (B' := w.heap.size + 1) (by rw [hsW]; exact Nat.le_refl _)
  clear y1 y2 y3 y4 BX own1 hb1 hbW hsW h1
  go_loopg [4] (pot (solL fs) (List.replicate n 0) n + 1) (fun q c wr => ∃ (ch : Bool) (y : List Int), c = .bool ch ∧ q = (if ch then pot (solL fs) y n + 1 else 0) ∧ Own wr (w.heap.size + 1) a1 n c1 y ∧ Mid fs y n ∧ (ch = false → y = solL fs) ∧ BoxAt wr w.heap.size (.slice a n cap) (.slice b n capb) ∧ Below w.heap.size w wr)
  case atStart => exact ⟨true, _, rfl, rfl, own2, M0, by simp, BX1, hb2⟩
  case round =>
    obtain ⟨ch, y0, rfl, hq, o1, M, hfin, B1, hb⟩ := hrel
    clear own2 M0 BX1 hb2
    cases ch with
    | false =>
      have e := hfin rfl
      subst e
      go_wp2_with fail
      go_ret
      exact ⟨_, _, rfl, o1.mono (Nat.le_succ _), hb⟩
    | true =>
      have R0 : Rnd fs y0 y0 n 0 false := ⟨M, LeL.refl _, fun _ => ⟨rfl, fun q hq => by omega⟩, by simp⟩
      have HQ := hid hq
      obtain ⟨z1, z2, z3, z4⟩ := id B1
      clear hq hfin M
      go_wp2_with fail
      go_loopw [4, 16] (fun c i wr => ∃ (p : Nat) (ch : Bool) (y : List Int), p ≤ n ∧ i = .int .i64 (p : Int) ∧ c = .bool ch ∧ Own wr (w.heap.size + 1) a1 n c1 y ∧ Rnd fs y0 y n p ch ∧ BoxAt wr w.heap.size (.slice a n cap) (.slice b n capb) ∧ Below w.heap.size w wr) (fun _ i _ => n - (intOf i).toNat)
      case atStart => exact ⟨0, false, y0, by omega, rfl, rfl, o1, R0, B1, hb⟩
      case round =>
        clear o1 R0 B1 hb z1 z2 z3 z4
        obtain ⟨p, ch, y, hp, rfl, rfl, o1, R, B1, hb⟩ := hrel
        by_cases hpn : p < n
        · skip
          obtain ⟨b2, off2, rfl, hbb2, hcc2⟩ := h'.2.2.2.2 (by omega)
          have hfc : wr.cell? ⟨b2, off2 + p, none⟩ = some (.int .i64 (nth fs p)) := by rw [hb.cell (p := ⟨b2, off2 + p, none⟩) hbb2]; exact hcc2 p hpn
          obtain ⟨e2, e1, -⟩ := HF.out p hpn
          rw [e1] at hfc
          have K := HK.out p hpn
          obtain ⟨f, hfa⟩ : ∃ f, farAt fs p = f := ⟨_, rfl⟩
          rw [hfa] at hfc e2
          have HE1 := hid e1
          clear hcc2 e1
          obtain ⟨g, rfl, hg1, hg2, hg3, hg4⟩ := o1.opened (by omega)
          have hcp0 := hg3 p hpn
          have hg0 : w.heap.size ≤ g := by omega
          have hfp0 := hg4 p
          obtain ⟨z1, z2, z3, z4⟩ := id B1
          have hpn2 : (p : Int) < (n : Int) := by omega
          have hp0 : (0 : Int) ≤ (p : Int) := by omega
          obtain ⟨yp, hyp⟩ : ∃ yp, nth y p = yp := ⟨_, rfl⟩
          rw [hyp] at hcp0
          have hpl := R.mid.lo p
          have hph := R.mid.hi p
          rw [hyp] at hpl hph
          obtain ⟨yf, hyf⟩ : ∃ yf, nth y f = yf := ⟨_, rfl⟩
          have hfl := R.mid.lo f
          have hfh := R.mid.hi f
          rw [hyf] at hfl hfh
          by_cases hpz : p = 0
          · subst hpz
            obtain rfl : f = 0 := by omega
            have hd0 : ¬ yp < 0 := by omega
            have hd1 : decide (yp < 0) = false := decide_eq_false hd0
            have R2 := R.next ⟨fun hh => by omega, fun hh => by rw [hfa] at hh; omega, fun hh => by rw [hfa] at hh; omega⟩
            have hdf : decide ((0 : Int) < (0 : Int)) = false := by decide
            replace hfc : wr.cell? ⟨b2, off2, none⟩ = some (.int .i64 0) := hfc
            clear hg3 hg4 K
            go_wp2_with fail
            go_quiet (fail)
            go_wp2_with fail
            go_roundw
            case rel => exact ⟨1, ch, y, by omega, by go_num, rfl, own_drewN o1 _, R2, B1.drewN _, below_drewN hb _⟩
            case measure => simp [intOf]; omega
          · obtain ⟨u, rfl⟩ : ∃ u, p = u + 1 := ⟨p - 1, by omega⟩
            have hcu := hg3 u (by omega)
            obtain ⟨yu, hyu⟩ : ∃ yu, nth y u = yu := ⟨_, rfl⟩
            rw [hyu] at hcu
            have hul := R.mid.lo u
            have huh := R.mid.hi u
            rw [hyu] at hul huh
            have hwp : IntKind.i64.wrap (((u + 1 : Nat) : Int) - 1) = (u : Int) := by rw [IntKind.wrap_i64]; omega
            have hup : (0 : Int) < ((u + 1 : Nat) : Int) := by omega
            have hun : (u : Int) < (n : Int) := by omega
            have hu0 : (0 : Int) ≤ (u : Int) := by omega
            have hwu : IntKind.i64.wrap (yu + 1) = yu + 1 := IntWalk.i64_in _ (by omega)
            by_cases hfz : f = 0
            · subst hfz
              have HCT := hid hp0
              replace hfc : wr.cell? ⟨b2, off2 + (u + 1), none⟩ = some (.int .i64 0) := hfc
              clear hg3 hg4
              obtain ⟨L, hL⟩ : ∃ L : Int, yu + 1 = L := ⟨_, rfl⟩
              have hLb : 0 ≤ L ∧ L ≤ 12120 ∧ L ≤ nth (solL fs) (u + 1) := by
                have k1 := K.one (by omega)
                have := R.mid.le.2 u
                have := (HSB.out (u + 1)).2
                simp only [Nat.add_sub_cancel] at k1
                omega
              have HLL := hid hL
              by_cases hA : yp < L
              · skip
                have hdA : decide (yp < L) = true := decide_eq_true hA
                have R1 := R.up (i := u + 1) (v := L) hpn (by rw [hyp]; exact hA) hLb.2.2 (by have := (HSB.out (u + 1)).2; omega) (u + 1)
                have o2 := (o1.set (u + 1) L).1
                have hnp : nth (y.set (u + 1) L) (u + 1) = L := by rw [nth_set (by rw [R.mid.len]; exact hpn), if_pos rfl]
                have hnf : u + 1 ≠ 0 → nth (y.set (u + 1) L) 0 = yf := fun hne => by rw [nth_set (by rw [R.mid.len]; exact hpn), if_neg hne]; exact hyf
                have B2 := B1.apart (g' := g) (i := u + 1) (z := .int .i64 L) (by omega)
                have hb2 := hb.setCell (p := ⟨g, u + 1, none⟩) hg0 (.int .i64 L)
                go_wp2_with fail
                generalize wr.setCell ⟨g, u + 1, none⟩ (.int .i64 L) = V at *
                clear hdA B1 hb o1 z1 z2 z3 z4 hcp0 hcu hfp0 HCT
                obtain ⟨z1, z2, z3, z4⟩ := id B2
                have hnf := hnf (by omega)
                have hq3 := o2.opened (by omega)
                obtain ⟨g', hgg, -, -, hc3, hc4⟩ := hq3
                cases hgg
                have hcf := hc3 0 (by omega)
                have hcp := hc3 (u + 1) hpn
                have hff := hc4 0
                rw [hnf] at hcf
                rw [hnp] at hcp
                have w1 : IntKind.i64.wrap (L - 100) = L - 100 := IntWalk.i64_in _ (by omega)
                have w2 : IntKind.i64.wrap (L - 100 + 1) = L - 100 + 1 := IntWalk.i64_in _ (by omega)
                clear hc3 hc4
                have hlt0 : (0 : Int) < ((u + 1 : Nat) : Int) := by omega
                have hdf : decide ((0 : Int) < ((u + 1 : Nat) : Int)) = true := decide_eq_true hlt0
                by_cases hB : yf < L - 100 + 1
                · skip
                  have hd1 : decide (yf < L - 100 + 1) = true := decide_eq_true hB
                  have R2 := (R1.up (i := 0) (v := L - 100 + 1) (by omega) (by rw [hnf]; exact hB) (by have := K.near (by rw [hfa]; omega); rw [hfa] at this; have := R1.mid.le.2 (u + 1); rw [hnp] at this; omega) (by omega) (u + 2))
                  have o3 := fun k => ((own_drewN o2 k).set 0 (L - 100 + 1)).1
                  have B3 := fun k => (B2.drewN k).apart (g' := g) (i := 0) (z := .int .i64 (L - 100 + 1)) (by omega)
                  have hb3 := fun k => (below_drewN hb2 k).setCell (p := ⟨g, 0, none⟩) hg0 (.int .i64 (L - 100 + 1))
                  go_wp2_with fail
                  go_quiet (fail)
                  go_wp2_with fail
                  go_roundw
                  case rel => exact ⟨u + 2, true, _, by omega, by go_num, rfl, o3 _, R2, B3 _, hb3 _⟩
                  case measure => simp [intOf]; omega
                · have hd1 : decide (yf < L - 100 + 1) = false := decide_eq_false hB
                  have R2 := (R1.any (u + 2))
                  go_wp2_with fail
                  go_quiet (fail)
                  go_wp2_with fail
                  go_roundw
                  case rel => exact ⟨u + 2, true, _, by omega, by go_num, rfl, own_drewN o2 _, R2, B2.drewN _, below_drewN hb2 _⟩
                  case measure => simp [intOf]; omega
              · skip
                have hdA : decide (yp < L) = false := decide_eq_false hA
                have R1 := R
                have o2 := o1
                have hnp : nth y (u + 1) = yp := hyp
                have hnf : u + 1 ≠ 0 → nth y 0 = yf := fun _ => hyf
                have B2 := B1
                have hb2 := hb
                go_wp2_with fail
                clear hdA B1 hb o1 hcp0 hcu hfp0 HCT
                generalize wr = V at *
                have hnf := hnf (by omega)
                have hq3 := o2.opened (by omega)
                obtain ⟨g', hgg, -, -, hc3, hc4⟩ := hq3
                cases hgg
                have hcf := hc3 0 (by omega)
                have hcp := hc3 (u + 1) hpn
                have hff := hc4 0
                rw [hnf] at hcf
                rw [hnp] at hcp
                have w1 : IntKind.i64.wrap (yp - 100) = yp - 100 := IntWalk.i64_in _ (by omega)
                have w2 : IntKind.i64.wrap (yp - 100 + 1) = yp - 100 + 1 := IntWalk.i64_in _ (by omega)
                clear hc3 hc4
                have hlt0 : (0 : Int) < ((u + 1 : Nat) : Int) := by omega
                have hdf : decide ((0 : Int) < ((u + 1 : Nat) : Int)) = true := decide_eq_true hlt0
                by_cases hB : yf < yp - 100 + 1
                · skip
                  have hd1 : decide (yf < yp - 100 + 1) = true := decide_eq_true hB
                  have R2 := (R1.up (i := 0) (v := yp - 100 + 1) (by omega) (by rw [hnf]; exact hB) (by have := K.near (by rw [hfa]; omega); rw [hfa] at this; have := R1.mid.le.2 (u + 1); rw [hnp] at this; omega) (by omega) (u + 2))
                  have o3 := fun k => ((own_drewN o2 k).set 0 (yp - 100 + 1)).1
                  have B3 := fun k => (B2.drewN k).apart (g' := g) (i := 0) (z := .int .i64 (yp - 100 + 1)) (by omega)
                  have hb3 := fun k => (below_drewN hb2 k).setCell (p := ⟨g, 0, none⟩) hg0 (.int .i64 (yp - 100 + 1))
                  go_wp2_with fail
                  go_quiet (fail)
                  go_wp2_with fail
                  go_roundw
                  case rel => exact ⟨u + 2, true, _, by omega, by go_num, rfl, o3 _, R2, B3 _, hb3 _⟩
                  case measure => simp [intOf]; omega
                · have hd1 : decide (yf < yp - 100 + 1) = false := decide_eq_false hB
                  have R2 := (R1.next ⟨fun _ => by simp only [Nat.add_sub_cancel]; omega, fun hh => by rw [hfa] at hh ⊢; omega, fun hh => by rw [hfa] at hh ⊢; omega⟩)
                  go_wp2_with fail
                  go_quiet (fail)
                  go_wp2_with fail
                  go_roundw
                  case rel => exact ⟨u + 2, ch, _, by omega, by go_num, rfl, own_drewN o2 _, R2, B2.drewN _, below_drewN hb2 _⟩
                  case measure => simp [intOf]; omega
            · obtain ⟨t, rfl⟩ : ∃ t, f = t + 1 := ⟨f - 1, by omega⟩
              have hct := hg3 t (by omega)
              obtain ⟨yt, hyt⟩ : ∃ yt, nth y t = yt := ⟨_, rfl⟩
              rw [hyt] at hct
              have htl := R.mid.lo t
              have hth := R.mid.hi t
              rw [hyt] at htl hth
              have hwt : IntKind.i64.wrap (((t + 1 : Nat) : Int) - 1) = (t : Int) := by rw [IntKind.wrap_i64]; omega
              have hft : (0 : Int) < ((t + 1 : Nat) : Int) := by omega
              have htn : (t : Int) < (n : Int) := by omega
              have ht0 : (0 : Int) ≤ (t : Int) := by omega
              have hwt1 : IntKind.i64.wrap (yt + 100) = yt + 100 := IntWalk.i64_in _ (by omega)
              have hwt2 : IntKind.i64.wrap (yt + 100 + 1) = yt + 100 + 1 := IntWalk.i64_in _ (by omega)
              have HCT := hid hp0
              clear hg3 hg4
              obtain ⟨L, hL⟩ : ∃ L : Int, max (yu + 1) (yt + 100 + 1) = L := ⟨_, rfl⟩
              have hLb : 0 ≤ L ∧ L ≤ 12120 ∧ L ≤ nth (solL fs) (u + 1) := by
                have k1 := K.one (by omega)
                have := R.mid.le.2 u
                have := (HSB.out (u + 1)).2
                simp only [Nat.add_sub_cancel] at k1
                have k2 := K.far (by rw [hfa]; omega)
                have := R.mid.le.2 t
                rw [hfa] at k2
                simp only [Nat.add_sub_cancel] at k2
                omega
              have HLL := hid hL
              by_cases hA : yp < L
              · skip
                have hdA : decide (yp < L) = true := decide_eq_true hA
                have R1 := R.up (i := u + 1) (v := L) hpn (by rw [hyp]; exact hA) hLb.2.2 (by have := (HSB.out (u + 1)).2; omega) (u + 1)
                have o2 := (o1.set (u + 1) L).1
                have hnp : nth (y.set (u + 1) L) (u + 1) = L := by rw [nth_set (by rw [R.mid.len]; exact hpn), if_pos rfl]
                have hnf : u + 1 ≠ (t + 1) → nth (y.set (u + 1) L) (t + 1) = yf := fun hne => by rw [nth_set (by rw [R.mid.len]; exact hpn), if_neg hne]; exact hyf
                have B2 := B1.apart (g' := g) (i := u + 1) (z := .int .i64 L) (by omega)
                have hb2 := hb.setCell (p := ⟨g, u + 1, none⟩) hg0 (.int .i64 L)
                go_wp2_with (go_at_call 71; refine (l1Most_any _ _ _).mono ?_; rintro e w' ⟨rfl, rfl⟩; rw [HLL.out])
                generalize wr.setCell ⟨g, u + 1, none⟩ (.int .i64 L) = V at *
                clear hdA B1 hb o1 z1 z2 z3 z4 hcp0 hcu hct hfp0 HCT
                obtain ⟨z1, z2, z3, z4⟩ := id B2
                by_cases hfp : t + 1 < u + 1
                · have hdf : decide (((t + 1 : Nat) : Int) < ((u + 1 : Nat) : Int)) = true := decide_eq_true (by omega)
                  have hfq : t < u := by omega
                  have hnf := hnf (by omega)
                  have hq3 := o2.opened (by omega)
                  obtain ⟨g', hgg, -, -, hc3, hc4⟩ := hq3
                  cases hgg
                  have hcf := hc3 (t + 1) (by omega)
                  have hcp := hc3 (u + 1) hpn
                  have hff := hc4 (t + 1)
                  rw [hnf] at hcf
                  rw [hnp] at hcp
                  have w1 : IntKind.i64.wrap (L - 100) = L - 100 := IntWalk.i64_in _ (by omega)
                  have w2 : IntKind.i64.wrap (L - 100 + 1) = L - 100 + 1 := IntWalk.i64_in _ (by omega)
                  clear hc3 hc4
                  by_cases hB : yf < L - 100 + 1
                  · skip
                    have hd1 : decide (yf < L - 100 + 1) = true := decide_eq_true hB
                    have R2 := (R1.up (i := (t + 1)) (v := L - 100 + 1) (by omega) (by rw [hnf]; exact hB) (by have := K.near (by rw [hfa]; omega); rw [hfa] at this; have := R1.mid.le.2 (u + 1); rw [hnp] at this; omega) (by omega) (u + 2))
                    have o3 := fun k => ((own_drewN o2 k).set (t + 1) (L - 100 + 1)).1
                    have B3 := fun k => (B2.drewN k).apart (g' := g) (i := (t + 1)) (z := .int .i64 (L - 100 + 1)) (by omega)
                    have hb3 := fun k => (below_drewN hb2 k).setCell (p := ⟨g, (t + 1), none⟩) hg0 (.int .i64 (L - 100 + 1))
                    go_wp2_with fail
                    go_quiet (fail)
                    go_wp2_with fail
                    go_roundw
                    case rel => exact ⟨u + 2, true, _, by omega, by go_num, rfl, o3 _, R2, B3 _, hb3 _⟩
                    case measure => simp [intOf]; omega
                  · have hd1 : decide (yf < L - 100 + 1) = false := decide_eq_false hB
                    have R2 := (R1.any (u + 2))
                    go_wp2_with fail
                    go_quiet (fail)
                    go_wp2_with fail
                    go_roundw
                    case rel => exact ⟨u + 2, true, _, by omega, by go_num, rfl, own_drewN o2 _, R2, B2.drewN _, below_drewN hb2 _⟩
                    case measure => simp [intOf]; omega
                · have hdf : decide (((t + 1 : Nat) : Int) < ((u + 1 : Nat) : Int)) = false := decide_eq_false (by omega)
                  have hfq : ¬ t < u := by omega
                  have hfr : u ≤ t := by omega
                  have R2 := (R1.any (u + 2))
                  go_wp2_with fail
                  go_quiet (fail)
                  go_wp2_with fail
                  go_roundw
                  case rel => exact ⟨u + 2, true, _, by omega, by go_num, rfl, own_drewN o2 _, R2, B2.drewN _, below_drewN hb2 _⟩
                  case measure => simp [intOf]; omega
              · skip
                have hdA : decide (yp < L) = false := decide_eq_false hA
                have R1 := R
                have o2 := o1
                have hnp : nth y (u + 1) = yp := hyp
                have hnf : u + 1 ≠ (t + 1) → nth y (t + 1) = yf := fun _ => hyf
                have B2 := B1
                have hb2 := hb
                go_wp2_with (go_at_call 71; refine (l1Most_any _ _ _).mono ?_; rintro e w' ⟨rfl, rfl⟩; rw [HLL.out])
                clear hdA B1 hb o1 hcp0 hcu hct hfp0 HCT
                generalize wr = V at *
                by_cases hfp : t + 1 < u + 1
                · have hdf : decide (((t + 1 : Nat) : Int) < ((u + 1 : Nat) : Int)) = true := decide_eq_true (by omega)
                  have hfq : t < u := by omega
                  have hnf := hnf (by omega)
                  have hq3 := o2.opened (by omega)
                  obtain ⟨g', hgg, -, -, hc3, hc4⟩ := hq3
                  cases hgg
                  have hcf := hc3 (t + 1) (by omega)
                  have hcp := hc3 (u + 1) hpn
                  have hff := hc4 (t + 1)
                  rw [hnf] at hcf
                  rw [hnp] at hcp
                  have w1 : IntKind.i64.wrap (yp - 100) = yp - 100 := IntWalk.i64_in _ (by omega)
                  have w2 : IntKind.i64.wrap (yp - 100 + 1) = yp - 100 + 1 := IntWalk.i64_in _ (by omega)
                  clear hc3 hc4
                  by_cases hB : yf < yp - 100 + 1
                  · skip
                    have hd1 : decide (yf < yp - 100 + 1) = true := decide_eq_true hB
                    have R2 := (R1.up (i := (t + 1)) (v := yp - 100 + 1) (by omega) (by rw [hnf]; exact hB) (by have := K.near (by rw [hfa]; omega); rw [hfa] at this; have := R1.mid.le.2 (u + 1); rw [hnp] at this; omega) (by omega) (u + 2))
                    have o3 := fun k => ((own_drewN o2 k).set (t + 1) (yp - 100 + 1)).1
                    have B3 := fun k => (B2.drewN k).apart (g' := g) (i := (t + 1)) (z := .int .i64 (yp - 100 + 1)) (by omega)
                    have hb3 := fun k => (below_drewN hb2 k).setCell (p := ⟨g, (t + 1), none⟩) hg0 (.int .i64 (yp - 100 + 1))
                    go_wp2_with fail
                    go_quiet (fail)
                    go_wp2_with fail
                    go_roundw
                    case rel => exact ⟨u + 2, true, _, by omega, by go_num, rfl, o3 _, R2, B3 _, hb3 _⟩
                    case measure => simp [intOf]; omega
                  · have hd1 : decide (yf < yp - 100 + 1) = false := decide_eq_false hB
                    have R2 := (R1.next ⟨fun _ => by simp only [Nat.add_sub_cancel]; omega, fun hh => by rw [hfa] at hh ⊢; simp only [Nat.add_sub_cancel]; omega, fun hh => by rw [hfa] at hh ⊢; omega⟩)
                    go_wp2_with fail
                    go_quiet (fail)
                    go_wp2_with fail
                    go_roundw
                    case rel => exact ⟨u + 2, ch, _, by omega, by go_num, rfl, own_drewN o2 _, R2, B2.drewN _, below_drewN hb2 _⟩
                    case measure => simp [intOf]; omega
                · have hdf : decide (((t + 1 : Nat) : Int) < ((u + 1 : Nat) : Int)) = false := decide_eq_false (by omega)
                  have hfq : ¬ t < u := by omega
                  have hfr : u ≤ t := by omega
                  have R2 := (R1.next ⟨fun _ => by simp only [Nat.add_sub_cancel]; omega, fun hh => by rw [hfa] at hh ⊢; simp only [Nat.add_sub_cancel]; omega, fun hh => by rw [hfa] at hh ⊢; omega⟩)
                  go_wp2_with fail
                  go_quiet (fail)
                  go_wp2_with fail
                  go_roundw
                  case rel => exact ⟨u + 2, ch, _, by omega, by go_num, rfl, own_drewN o2 _, R2, B2.drewN _, below_drewN hb2 _⟩
                  case measure => simp [intOf]; omega
        · obtain rfl : p = n := by omega
          cases ch with
          | false =>
            obtain ⟨e1, e2⟩ := R.no rfl
            subst e1
            have e3 := HKS.out _ R.mid e2
            go_wp2_with fail
            go_roundg 0
            case rel => exact ⟨false, _, rfl, rfl, o1, R.mid, fun _ => e3, B1, hb⟩
            case measure => have := HQ.out; simp at this; omega
          | true =>
            obtain ⟨i, i1, i2⟩ := R.yes rfl
            have hlt := pot_lt R.le R.mid.le p i i1 i2
            go_wp2_with fail
            go_roundg (pot (solL fs) y p + 1)
            case rel => exact ⟨true, _, rfl, rfl, o1, R.mid, by simp, B1, hb⟩
            case measure => have := HQ.out; simp at this; omega
end Go.Proofs.Ytnddplldkgphnab
