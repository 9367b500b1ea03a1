/- PlanesBetween: both sides, by contract. -/
import Derived.Test.YtnddplldkgphnacImplGrx
import Derived.Test.YtnddplldkgphnacMathPb
import Derived.Deep.RegionHeld3
namespace Go.Proofs.Ytnddplldkgphnac
open Go.RowKit

theorem between_yes {xs ys : List Int} {n : Nat} (hn : xs.length = n) (h1 : pointB xs = true) (h2 : pointB ys = true) (h3 : ys.length = n) : betweenOf xs ys = ((allC xs ys n : Int), true) := by
  subst hn
  unfold betweenOf
  rw [h1, h2, decide_eq_true h3.symm]
  rfl
theorem between_no1 {xs ys : List Int} (h : pointB xs = false) : betweenOf xs ys = (0, false) := by simp [betweenOf, h]
theorem between_no2 {xs ys : List Int} (h : pointB ys = false) : betweenOf xs ys = (0, false) := by simp [betweenOf, h]
theorem between_no3 {xs ys : List Int} {n m : Nat} (h1 : xs.length = n) (h2 : ys.length = m) (h : ¬ n = m) : betweenOf xs ys = (0, false) := by
  have : ¬ xs.length = ys.length := by omega
  simp [betweenOf, this]
/-- The cells that the comparison reads. -/
structure CoS (V : World) (gx gy gp : Nat) (x y : Value) (i s c : Int) (w : World) : Prop where
  st : Below V.heap.size V w
  lx : gx < V.heap.size
  ly : gy < V.heap.size
  lp : gp < V.heap.size
  b0 : w.cell? ⟨gx, 0, none⟩ = some x
  b1 : w.cell? ⟨gy, 0, none⟩ = some y
  k0 : w.cell? ⟨gp, 0, none⟩ = some (.int .i64 i)
  k1 : w.cell? ⟨gp, 1, none⟩ = some (.int .i64 s)
  k2 : w.cell? ⟨gp, 2, none⟩ = some (.int .i64 c)
def CoX (V : World) (gx gy gp : Nat) (x y : Value) (i s c : Int) (w : World) : Prop := CoS V gx gy gp x y i s c w
theorem CoS.first {V : World} {gx gy gp : Nat} {x y : Value} {i s c : Int} (h : CoS V gx gy gp x y i s c V) : CoX V gx gy gp x y i s c V.drew ∧ V.drew.cell? ⟨gx, 0, none⟩ = some x ∧ V.drew.cell? ⟨gy, 0, none⟩ = some y ∧ V.drew.cell? ⟨gp, 0, none⟩ = some (.int .i64 i) ∧ V.drew.cell? ⟨gp, 1, none⟩ = some (.int .i64 s) ∧ V.drew.cell? ⟨gp, 2, none⟩ = some (.int .i64 c) :=
  ⟨⟨h.st.drew, h.lx, h.ly, h.lp, h.b0, h.b1, h.k0, h.k1, h.k2⟩, h.b0, h.b1, h.k0, h.k1, h.k2⟩
theorem CoS.next {V w w' : World} {gx gy gp : Nat} {x y : Value} {i s c : Int} (h : CoX V gx gy gp x y i s c w ∧ w.cell? ⟨gx, 0, none⟩ = some x ∧ w.cell? ⟨gy, 0, none⟩ = some y ∧ w.cell? ⟨gp, 0, none⟩ = some (.int .i64 i) ∧ w.cell? ⟨gp, 1, none⟩ = some (.int .i64 s) ∧ w.cell? ⟨gp, 2, none⟩ = some (.int .i64 c)) (hb : Below w.heap.size w w') :
    CoX V gx gy gp x y i s c w' ∧ w'.cell? ⟨gx, 0, none⟩ = some x ∧ w'.cell? ⟨gy, 0, none⟩ = some y ∧ w'.cell? ⟨gp, 0, none⟩ = some (.int .i64 i) ∧ w'.cell? ⟨gp, 1, none⟩ = some (.int .i64 s) ∧ w'.cell? ⟨gp, 2, none⟩ = some (.int .i64 c) := by
  obtain ⟨⟨st, lx, ly, lp, b0, b1, k0, k1, k2⟩, -⟩ := h
  have hs := st.size
  have e0 := (hb.cell (p := ⟨gx, 0, none⟩) (by show gx < w.heap.size; omega)).trans b0
  have e1 := (hb.cell (p := ⟨gy, 0, none⟩) (by show gy < w.heap.size; omega)).trans b1
  have e2 := (hb.cell (p := ⟨gp, 0, none⟩) (by show gp < w.heap.size; omega)).trans k0
  have e3 := (hb.cell (p := ⟨gp, 1, none⟩) (by show gp < w.heap.size; omega)).trans k1
  have e4 := (hb.cell (p := ⟨gp, 2, none⟩) (by show gp < w.heap.size; omega)).trans k2
  exact ⟨⟨st.trans (hb.mono hs), lx, ly, lp, e0, e1, e2, e3, e4⟩, e0, e1, e2, e3, e4⟩
theorem CoX.has {V w : World} {gx gy gp : Nat} {x y : Value} {i s c : Int} {Q : Prop} (h : CoX V gx gy gp x y i s c w ∧ Q) {a : Option Addr} {n cap : Nat} {xs : List Int} (hh : Has V a n cap xs) : Has w a n cap xs := hh.below h.1.st (Nat.le_refl _)
@[go_sem] theorem planeSize (h : 107 < Try.prog.types.size) : (Try.prog.types[107]'h).size = 3 := by kernel_rfl
set_option maxRecDepth 100000 in
set_option maxHeartbeats 4000000 in
theorem countOther_any (a b : Option Addr) (n cap capb : Nat) (xs ys : List Int) (w : World) (h : Has w a n cap xs) (h' : Has w b n capb ys) (h8 : n ≤ 8) (hx : ∀ i, i < n → -100000 ≤ nth xs i ∧ nth xs i ≤ 100000) (hy : ∀ i, i < n → -100000 ≤ nth ys i ∧ nth ys i ≤ 100000) :
    Calls Try.prog 48 #[.agg #[.slice a n cap, .int .i64 (n : Int)], .agg #[.slice b n capb, .int .i64 (n : Int)]] w fun e w' => e = .returned (.int .i64 (allC xs ys n : Int)) ∧ Below w.heap.size w w' := by
  have HX := hid hx
  have HY := hid hy
  have HE := hid (cD_all xs ys n)
  clear hx hy
  have hb0 : Below w.heap.size w (w.alloc (.cells #[.slice a n cap, .int .i64 (n : Int)] 59)) := (Below.refl _ _).alloc (Nat.le_refl _) _
  have BX := boxAt_new w (.slice a n cap) (.int .i64 (n : Int)) 59
  have hs0 : (w.alloc (.cells #[.slice a n cap, .int .i64 (n : Int)] 59)).heap.size = w.heap.size + 1 := by simp
  have BX2 := BX.alloc (.cells #[.slice b n capb, .int .i64 (n : Int)] 59)
  have BY := boxAt_new (w.alloc (.cells #[.slice a n cap, .int .i64 (n : Int)] 59)) (.slice b n capb) (.int .i64 (n : Int)) 59
  have hb1 := hb0.alloc (by simp) (.cells #[.slice b n capb, .int .i64 (n : Int)] 59)
  have hs1 : ((w.alloc (.cells #[.slice a n cap, .int .i64 (n : Int)] 59)).alloc (.cells #[.slice b n capb, .int .i64 (n : Int)] 59)).heap.size = w.heap.size + 2 := by simp
  rw [hs0] at BY
  obtain ⟨y1, y2, y3, y4⟩ := id BX2
  go_enter Try.func48, Try.ntmps48
  go_wp2_with fail
  refine (planesOf_any n _ h8).mono ?_
  rintro e w2 ⟨a2, m, c2, rfl, oP, hb2⟩
  have BX3 := BX2.below hb2 (by rw [hs1]; omega)
  have BY3 := BY.below hb2 (by rw [hs1]; omega)
  have hb3 := hb1.trans (hb2.mono (by rw [hs1]; omega))
  have sz2 := hb2.size
  rw [hs1] at sz2
  have hm := hid oP.len
  have hm56 : m ≤ 56 := by rw [← oP.len]; exact length_plAll n h8
  have HM := hid (fun j (hj : j < m) => plane_at (n := n) (k := j) (by rw [hm.out]; exact hj))
  have HST := hid (fun j (hj : j < m) => cD_succ (xs := xs) (ys := ys) (ps := plAll n) (k := j) (by rw [hm.out]; exact hj))
  have HLE := hid (fun j => cD_le xs ys (plAll n) j)
  clear y1 y2 y3 y4 BX2 BY hb1 hb2 hs0 hs1 hb0 BX
  go_wp2_with fail
  go_loopw [5, 12] (fun t i wr => ∃ j : Nat, j ≤ m ∧ i = .int .i64 (j : Int) ∧ t = .int .i64 (cD xs ys ((plAll n).take j) : Int) ∧ Below w2.heap.size w2 wr) (fun _ i _ => m - (intOf i).toNat)
  case atStart => exact ⟨0, by omega, rfl, rfl, Below.refl _ _⟩
  case round =>
    obtain ⟨j, hj, rfl, rfl, hb⟩ := hrel
    have hbw := hb3.trans (hb.mono hb3.size)
    by_cases hjm : j < m
    · obtain ⟨i, s, q1, q2, p3, p4, p5⟩ := HM.out j hjm
      obtain ⟨g, rfl, hg1, hg2, hcc⟩ := (oP.below hb (Nat.le_refl _)).cell (by omega)
      obtain ⟨c0, c1', c2'⟩ := hcc j hjm
      obtain ⟨c, hc⟩ : ∃ c, (nthP (plAll n) j).2.2 = c := ⟨_, rfl⟩
      have HGx : Hid (grX xs (nthP (plAll n) j) = decide (c < nth xs i - nth xs s)) := hid (by unfold grX; rw [p3, p4, hc, Int.toNat_natCast, Int.toNat_natCast])
      have HGy : Hid (grX ys (nthP (plAll n) j) = decide (c < nth ys i - nth ys s)) := hid (by unfold grX; rw [p3, p4, hc, Int.toNat_natCast, Int.toNat_natCast])
      have HS := hid (HST.out j hjm)
      have hle := HLE.out j
      rw [p3] at c0
      rw [p4] at c1'
      rw [hc] at c2'
      have B1 := BX3.below hb (by omega)
      have B2 := BY3.below hb (by omega)
      obtain ⟨V, hV, hbV, hsV, BV1, BV2, hxV, hyV, v0, v1, v2⟩ : ∃ V, wr.alloc (.cells #[.int .i64 (i : Int), .int .i64 (s : Int), .int .i64 c] 107) = V ∧ Below wr.heap.size wr V ∧ V.heap.size = wr.heap.size + 1 ∧ BoxAt V w.heap.size (.slice a n cap) (.int .i64 (n : Int)) ∧ BoxAt V (w.heap.size + 1) (.slice b n capb) (.int .i64 (n : Int)) ∧ Has V a n cap xs ∧ Has V b n capb ys ∧
          V.cell? ⟨wr.heap.size, 0, none⟩ = some (.int .i64 (i : Int)) ∧ V.cell? ⟨wr.heap.size, 1, none⟩ = some (.int .i64 (s : Int)) ∧ V.cell? ⟨wr.heap.size, 2, none⟩ = some (.int .i64 c) := by
        have hbA := (Below.refl wr.heap.size wr).alloc (Nat.le_refl _) (.cells #[.int .i64 (i : Int), .int .i64 (s : Int), .int .i64 c] 107)
        have hbA2 := hbw.trans (hbA.mono hbw.size)
        refine ⟨_, rfl, hbA, by simp, B1.below hbA (boxAt_lt B1), B2.below hbA (boxAt_lt B2), h.below hbA2 (Nat.le_refl _), h'.below hbA2 (Nat.le_refl _), ?_, ?_, ?_⟩
        · rw [World.cell?_alloc_at _ _ _ _ rfl]; rfl
        · rw [World.cell?_alloc_at _ _ _ _ rfl]; rfl
        · rw [World.cell?_alloc_at _ _ _ _ rfl]; rfl
      have hbV2 := hb.trans (hbV.mono hb.size)
      have hws := hbw.size
      have hbs := hb.size
      have HC : Hid (CoS V w.heap.size (w.heap.size + 1) wr.heap.size (.slice a n cap) (.slice b n capb) (i : Int) (s : Int) c V) := hid ⟨Below.refl _ _, by omega, by omega, by omega, BV1.c0, BV2.c0, v0, v1, v2⟩
      obtain ⟨r1, hr1⟩ : ∃ r, decide (c < nth xs i - nth xs s) = r := ⟨_, rfl⟩
      obtain ⟨r2, hr2⟩ : ∃ r, decide (c < nth ys i - nth ys s) = r := ⟨_, rfl⟩
      rw [hr1] at HGx
      rw [hr2] at HGy
      have HR1 := hid hr1
      have HR2 := hid hr2
      have HCN : Hid (cD xs ys ((plAll n).take (j + 1)) = cD xs ys ((plAll n).take j) + if r1 = r2 then 0 else 1) := hid (by rw [HS.out, HGx.out, HGy.out])
      have hin : i < n := by omega
      clear hr1 hr2 HGx HGy HS p3 p4 p5 hc hcc
      generalize cD xs ys ((plAll n).take j) = t at *
      go_wp2_with fail
      clear hV c0 c1' c2'
      go_region_held3 (fun w' => CoX V w.heap.size (w.heap.size + 1) wr.heap.size (.slice a n cap) (.slice b n capb) (i : Int) (s : Int) c w' ∧ w'.cell? ⟨w.heap.size, 0, none⟩ = some (.slice a n cap) ∧ w'.cell? ⟨w.heap.size + 1, 0, none⟩ = some (.slice b n capb) ∧ w'.cell? ⟨wr.heap.size, 0, none⟩ = some (.int .i64 (i : Int)) ∧ w'.cell? ⟨wr.heap.size, 1, none⟩ = some (.int .i64 (s : Int)) ∧ w'.cell? ⟨wr.heap.size, 2, none⟩ = some (.int .i64 c)) (first | exact CoS.first HC.out | exact CoS.next (by assumption) (by assumption)) (first | (go_at_call 165; with_reducible refine (greaterX_any a n cap xs i s c _ (CoX.has (by assumption) hxV) hin q2 HX.out).mono ?_; rw [HR1.out]; rintro e w' ⟨rfl, hb'⟩) | (go_at_call 165; refine (greaterX_any b n capb ys i s c _ (CoX.has (by assumption) hyV) hin q2 HY.out).mono ?_; rw [HR2.out]; rintro e w' ⟨rfl, hb'⟩))
      all_goals
        rename_i hS
        obtain ⟨hS, -⟩ := hS
        have hbE := hbV2.trans (hS.st.mono hbV2.size)
        have hcn := HCN.out
        cases r1 <;> cases r2 <;> simp only [if_true, if_false, reduceCtorEq] at hcn
      · go_wp2_with fail
        go_roundw
        case rel => exact ⟨j + 1, by omega, by go_num, congrArg (Value.int .i64) (by omega), hbE⟩
        case measure => simp [intOf]; omega
      · go_wp2_with fail
        go_roundw
        case rel => exact ⟨j + 1, by omega, by go_num, congrArg (Value.int .i64) (by omega), hbE⟩
        case measure => simp [intOf]; omega
      · go_wp2_with fail
        go_roundw
        case rel => exact ⟨j + 1, by omega, by go_num, congrArg (Value.int .i64) (by omega), hbE⟩
        case measure => simp [intOf]; omega
      · go_wp2_with fail
        go_roundw
        case rel => exact ⟨j + 1, by omega, by go_num, congrArg (Value.int .i64) (by omega), hbE⟩
        case measure => simp [intOf]; omega
    · obtain rfl : j = m := by omega
      rw [← hm.out, List.take_of_length_le (Nat.le_refl _), HE.out]
      go_wp2_with fail
      go_ret
      exact ⟨rfl, hbw⟩
set_option maxRecDepth 100000 in
set_option maxHeartbeats 1600000 in
theorem implBetween_any (a b : Option Addr) (n cap m capb : Nat) (xs ys : List Int) (w : World) (h : Has w a n cap xs) (h' : Has w b m capb ys) :
    Calls Try.prog 10 #[.slice a n cap, .slice b m capb] w (PostInt w (betweenOf xs ys)) := by
  have hl := h.len
  have hl' := h'.len
  by_cases h1 : pointB xs = true
  · have H1 := hid h1
    by_cases h2 : pointB ys = true
    · have H2 := hid h2
      by_cases h3 : n = m
      · subst h3
        have HR := hid (between_yes hl h1 h2 hl')
        obtain ⟨p1, p2, -⟩ := pointB_iff.1 h1
        obtain ⟨-, p4, -⟩ := pointB_iff.1 h2
        have hne : ((n : Int) != (n : Int)) = false := by simp
        have hx : ∀ i, i < n → -100000 ≤ nth xs i ∧ nth xs i ≤ 100000 := fun i hi => allB_nth p2 (by omega)
        have hy : ∀ i, i < n → -100000 ≤ nth ys i ∧ nth ys i ≤ 100000 := fun i hi => allB_nth p4 (by omega)
        have h8 : n ≤ 8 := by omega
        have HX := hid hx
        have HY := hid hy
        clear h1 h2 p1 p2 p4 hx hy hl hl'
        go_enter Try.func10, Try.ntmps10
        go_wp2_with fail
        refine (isPoint_any _ _ _ _ _ h).mono ?_
        rintro e w1 ⟨rfl, hb1⟩
        rw [H1.out]
        go_wp2_with fail
        refine (isPoint_any _ _ _ _ _ (h'.below hb1 (Nat.le_refl _))).mono ?_
        rintro e w2 ⟨rfl, hb2⟩
        rw [H2.out]
        have hb3 := hb1.trans (hb2.mono hb1.size)
        go_wp2_with fail
        refine (countOther_any _ _ _ _ _ _ _ _ (h.below hb3 (Nat.le_refl _)) (h'.below hb3 (Nat.le_refl _)) h8 HX.out HY.out).mono ?_
        rintro e w3 ⟨rfl, hb4⟩
        go_wp2_with fail
        go_ret2
        exact postInt HR.out (hb3.trans (hb4.mono hb3.size))
      · have HR := hid (between_no3 hl hl' h3)
        have hne : ((n : Int) != (m : Int)) = true := by simp; omega
        clear h1 h2 hl hl'
        go_enter Try.func10, Try.ntmps10
        go_wp2_with fail
        refine (isPoint_any _ _ _ _ _ h).mono ?_
        rintro e w1 ⟨rfl, hb1⟩
        rw [H1.out]
        go_wp2_with fail
        refine (isPoint_any _ _ _ _ _ (h'.below hb1 (Nat.le_refl _))).mono ?_
        rintro e w2 ⟨rfl, hb2⟩
        rw [H2.out]
        go_wp2_with fail
        go_ret2
        exact postInt HR.out (hb1.trans (hb2.mono hb1.size))
    · have H2 := hid (Bool.eq_false_iff.2 h2)
      have HR := hid (between_no2 (xs := xs) H2.out)
      clear h1 h2 hl hl'
      go_enter Try.func10, Try.ntmps10
      go_wp2_with fail
      refine (isPoint_any _ _ _ _ _ h).mono ?_
      rintro e w1 ⟨rfl, hb1⟩
      rw [H1.out]
      go_wp2_with fail
      refine (isPoint_any _ _ _ _ _ (h'.below hb1 (Nat.le_refl _))).mono ?_
      rintro e w2 ⟨rfl, hb2⟩
      rw [H2.out]
      go_wp2_with fail
      go_ret2
      exact postInt HR.out (hb1.trans (hb2.mono hb1.size))
  · have H1 := hid (Bool.eq_false_iff.2 h1)
    have HR := hid (between_no1 (ys := ys) H1.out)
    clear h1 hl hl'
    go_enter Try.func10, Try.ntmps10
    go_wp2_with fail
    refine (isPoint_any _ _ _ _ _ h).mono ?_
    rintro e w1 ⟨rfl, hb1⟩
    rw [H1.out]
    go_wp2_with fail
    go_ret2
    exact postInt HR.out hb1
end Go.Proofs.Ytnddplldkgphnac
