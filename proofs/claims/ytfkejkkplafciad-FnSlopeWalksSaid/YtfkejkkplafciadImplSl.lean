/- The program's functions of chapter 8, by their contracts: slopes, bounds, lists under bounds, counts. -/
import Derived.Test.YtfkejkkplafciadSpecSl
import Derived.Test.YtfkejkkplafciadWlk
import Derived.Test.YtfkejkkplafciadSrt
import Derived.Test.YtfkejkkplafciadUnd
import Derived.Test.YtfkejkkplafciadPow
import Derived.Handy
import Derived.Deep.RegionHeld3
namespace Go.Proofs.Ytfkejkkplafciad
open Go.RowKit

set_option maxHeartbeats 800000 in
theorem gcd_any (a b : Nat) (w : World) (ha : a ≤ 13) (hb : b ≤ 13) :
    Calls Try.prog 97 #[.int .i64 (a : Int), .int .i64 (b : Int)] w fun e w' => e = .returned (.int .i64 (Nat.gcd a b : Int)) ∧ Quiet w w' := by
  go_enter Try.func97, Try.ntmps97
  go_wp2_with fail
  go_loopw [0, 1] (fun s0 s1 wr => ∃ x y : Nat, x ≤ 13 ∧ y ≤ 13 ∧ s0 = .int .i64 (x : Int) ∧ s1 = .int .i64 (y : Int) ∧ Hid (Nat.gcd x y = Nat.gcd a b) ∧ Quiet w wr) (fun _ y _ => (intOf y).toNat)
  case atStart => exact ⟨a, b, ha, hb, rfl, rfl, hid rfl, ⟨0, rfl⟩⟩
  case round =>
    obtain ⟨x, y, hx, hy, rfl, rfl, HG, q, hq⟩ := hrel
    subst hq
    by_cases h0 : 0 < y
    · have hy0 : (0 : Int) < (y : Int) := by omega
      have hy1 : ¬ (y : Int) = 0 := by omega
      obtain ⟨r, hr⟩ : ∃ r, x % y = r := ⟨_, rfl⟩
      have hrl : r < y := by rw [← hr]; exact Nat.mod_lt _ h0
      have hwe : (x : Int) % (y : Int) = (r : Int) := by rw [← hr, Int.natCast_emod]
      have hwt : (x : Int).tmod (y : Int) = (r : Int) := by rw [Int.tmod_eq_emod_of_nonneg (by omega), hwe]
      have HG2 : Hid (Nat.gcd y r = Nat.gcd a b) := hid (by rw [← HG.out, ← hr, Nat.gcd_comm x y, Nat.gcd_rec y x, Nat.gcd_comm])
      clear hr
      go_wp2_with fail
      go_quiet (fail)
      go_roundw
      case rel => exact ⟨_, _, _, _, _, _, _, _, ⟨y, r, by omega, by omega, rfl, rfl, HG2, ⟨_, World.drewN_drewN _ _ _⟩⟩, rfl⟩
      case measure => simp [intOf]; omega
    · obtain rfl : y = 0 := by omega
      have HE : Hid (Nat.gcd a b = x) := hid (by rw [← HG.out, Nat.gcd_zero_right])
      go_wp2_with fail
      go_ret
      exact ⟨ret_int (by rw [HE.out]), ⟨_, rfl⟩⟩

/-- A world in which a variable of two cells lies in its block, and what was there before. -/
structure LS (w : World) (g : Nat) (x y : Value) (w' : World) : Prop where
  box : BoxAt w' g x y
  st : Below w.heap.size w w'
theorem LS.drew {w w1 : World} {g : Nat} {x y : Value} (h : LS w g x y w1) : LS w g x y w1.drew := ⟨⟨h.box.c0, h.box.c1, h.box.f0, h.box.f1⟩, h.st.drew⟩
theorem LS.step {w w1 w2 : World} {g : Nat} {x y : Value} (h : LS w g x y w1) (hb : Below w1.heap.size w1 w2) : LS w g x y w2 := ⟨h.box.below hb (boxAt_lt h.box), h.st.trans (hb.mono h.st.size)⟩
/-- With its cells written out. -/
def LSX (w : World) (g : Nat) (x y : Value) (w' : World) : Prop := LS w g x y w'
theorem LS.first {w w1 : World} {g : Nat} {x y : Value} (h : LS w g x y w1) : LSX w g x y w1.drew ∧ w1.drew.cell? ⟨g, 0, none⟩ = some x ∧ w1.drew.cell? ⟨g, 1, none⟩ = some y := ⟨h.drew, h.drew.box.c0, h.drew.box.c1⟩
theorem LS.next {w w1 w2 : World} {g : Nat} {x y : Value} {p : Prop} (h : LSX w g x y w1 ∧ p) (hb : Below w1.heap.size w1 w2) : LSX w g x y w2 ∧ w2.cell? ⟨g, 0, none⟩ = some x ∧ w2.cell? ⟨g, 1, none⟩ = some y := ⟨LS.step h.1 hb, (LS.step h.1 hb).box.c0, (LS.step h.1 hb).box.c1⟩
theorem LS.hasA {w w1 : World} {g : Nat} {x y : Value} {p : Prop} {a : Option Addr} {n cap : Nat} {xs : List Int} (h : LSX w g x y w1 ∧ p) (hh : Has w a n cap xs) : Has w1 a n cap xs := hh.below h.1.st (Nat.le_refl _)
theorem quiet_below {w w' : World} {K : Nat} (h : Quiet w w') : Below K w w' := by
  obtain ⟨q, rfl⟩ := h
  exact below_drewN (Below.refl _ _) q
theorem slB_yes {n a : Int} (h1 : 1 ≤ n) (h2 : n ≤ 6) (h3 : 1 ≤ a) (h4 : a ≤ 13) : slB n a = decide (Nat.gcd n.toNat a.toNat = 1) := by
  simp [slB, inB_iff.2 ⟨h1, h2⟩, inB_iff.2 ⟨h3, h4⟩]
theorem slB_noA {n a : Int} (h : ¬ (1 ≤ n ∧ n ≤ 6)) : slB n a = false := by
  rw [← inB_iff] at h
  simp [slB, h]
theorem slB_noB {n a : Int} (h : ¬ (1 ≤ a ∧ a ≤ 13)) : slB n a = false := by
  rw [← inB_iff] at h
  simp [slB, h]

set_option maxHeartbeats 800000 in
theorem lineSlope_any (n a : Int) (w : World) :
    Calls Try.prog 64 #[.agg #[.int .i64 n, .int .i64 a]] w fun e w' => e = .returned (.bool (slB n a)) ∧ Below w.heap.size w w' := by
  have hb := (Below.refl w.heap.size w).alloc (Nat.le_refl _) (.cells #[.int .i64 n, .int .i64 a] 71)
  by_cases h1 : 1 ≤ n
  · by_cases h2 : n ≤ 6
    · by_cases h3 : 1 ≤ a
      · by_cases h4 : a ≤ 13
        · obtain ⟨m, rfl⟩ : ∃ m : Nat, n = (m : Int) := ⟨n.toNat, by omega⟩
          obtain ⟨q, rfl⟩ : ∃ q : Nat, a = (q : Int) := ⟨a.toNat, by omega⟩
          have HR : Hid (slB (m : Int) (q : Int) = ((Nat.gcd m q : Int) == 1)) := hid (by
            rw [slB_yes h1 h2 h3 h4, Int.toNat_natCast, Int.toNat_natCast, Bool.eq_iff_iff, decide_eq_true_eq, beq_iff_eq]
            omega)
          obtain ⟨g, hg⟩ : ∃ g, Nat.gcd m q = g := ⟨_, rfl⟩
          rw [hg] at HR
          have HGG := hid hg
          clear hg
          go_enter Try.func64, Try.ntmps64
          go_wp2_with fail
          refine (gcd_any m q _ (by omega) (by omega)).mono ?_
          rintro e w' ⟨rfl, hq⟩
          rw [HGG.out]
          have hb2 := hb.trans (quiet_below (K := w.heap.size) hq)
          clear hq
          go_wp2_with fail
          go_ret
          exact ⟨ret_bool HR.out.symm, hb2⟩
        · have HR := hid (slB_noB (n := n) (a := a) (by omega))
          go_enter Try.func64, Try.ntmps64
          go_wp2_with fail
          go_ret
          exact ⟨ret_bool HR.out.symm, hb⟩
      · have HR := hid (slB_noB (n := n) (a := a) (by omega))
        go_enter Try.func64, Try.ntmps64
        go_wp2_with fail
        go_ret
        exact ⟨ret_bool HR.out.symm, hb⟩
    · have HR := hid (slB_noA (n := n) (a := a) (by omega))
      go_enter Try.func64, Try.ntmps64
      go_wp2_with fail
      go_ret
      exact ⟨ret_bool HR.out.symm, hb⟩
  · have HR := hid (slB_noA (n := n) (a := a) (by omega))
    go_enter Try.func64, Try.ntmps64
    go_wp2_with fail
    go_ret
    exact ⟨ret_bool HR.out.symm, hb⟩

theorem implIsSlope_any (n a : Int) (w : World) :
    Calls Try.prog 14 #[.int .i64 n, .int .i64 a] w (PostBool w (isSlopeOf n a)) := by
  go_enter Try.func14, Try.ntmps14
  go_wp2_with fail
  refine (lineSlope_any _ _ _).mono ?_
  rintro e w' ⟨rfl, hb⟩
  go_wp2_with fail
  go_ret
  exact ⟨rfl, hb⟩

set_option maxHeartbeats 800000 in
theorem lineBounds_any (n a : Nat) (w : World) (hn : n ≤ 6) (ha : a ≤ 13) :
    Calls Try.prog 59 #[.agg #[.int .i64 (n : Int), .int .i64 (a : Int)]] w fun e w' => ∃ a' cap', e = .returned (.slice a' n cap') ∧ Own w' w.heap.size a' n cap' (bnds n a) ∧ Below w.heap.size w w' := by
  have HLEN := hid (length_bnds n a)
  have hb0 := (Below.refl w.heap.size w).alloc (Nat.le_refl _) (.cells #[.int .i64 (n : Int), .int .i64 (a : Int)] 71)
  have B0 := boxAt_new w (.int .i64 (n : Int)) (.int .i64 (a : Int)) 71
  obtain ⟨W, hW⟩ : ∃ W, w.alloc (.cells #[.int .i64 (n : Int), .int .i64 (a : Int)] 71) = W := ⟨_, rfl⟩
  rw [hW] at hb0 B0
  have hsz : W.heap.size = w.heap.size + 1 := by rw [← hW]; simp
  have hgl := boxAt_lt B0
  obtain ⟨_, _, _, _⟩ := id B0
  go_enter Try.func59, Try.ntmps59
  go_wp2_with (at_make; refine wpList_make_ints _ rfl _ _ rfl n rfl rfl (by omega) ?_; intro a1 cap1 w1 hown1 hb1)
  have B1 := B0.below hb1 hgl
  have hbw := hb0.trans (hb1.mono hb0.size)
  have hown := hown1
  clear hown1 hb1 hb0 B0 hW
  go_loopw [10] (fun i wr => ∃ (k : Nat) (zs : List Int), k ≤ n ∧ i = .int .i64 (k : Int) ∧ BoxAt wr w.heap.size (.int .i64 (n : Int)) (.int .i64 (a : Int)) ∧ Own wr W.heap.size a1 n cap1 zs ∧ Hid (FromTo (bnds n a) zs k) ∧ Below w.heap.size w wr) (fun i _ => n - (intOf i).toNat)
  case atStart => exact ⟨0, _, Nat.zero_le _, rfl, B1, hown, hid (fun i hi => by omega), hbw⟩
  case round =>
    clear B1 hown hbw
    obtain ⟨k, zs, hk, rfl, B1, hz, HF, hb⟩ := hrel
    by_cases hlt : k < n
    · obtain ⟨p0, p1⟩ := bnds_prod hn ha hlt
      have HN := hid (nth_bnds (a := a) hlt)
      have hp : (k : Int) * (a : Int) = ((k * a : Nat) : Int) := by rw [Int.natCast_mul]
      have hq0 : 0 ≤ (k : Int) * (a : Int) := by rw [hp]; omega
      have hq1 : (k : Int) * (a : Int) ≤ 78 := by rw [hp]; omega
      have hd : (k : Int) * (a : Int) / (n : Int) = ((k * a / n : Nat) : Int) := by rw [hp, ← Int.natCast_ediv]
      have hd0 : 0 ≤ (k : Int) * (a : Int) / (n : Int) := by rw [hd]; exact Int.natCast_nonneg _
      have hd1 : (k : Int) * (a : Int) / (n : Int) ≤ 78 := by rw [hd]; omega
      have HD := hid hd
      have hn0 : ¬ (n : Int) = 0 := by omega
      obtain ⟨g1, rfl, hg1, hg2, hg3, hg4⟩ := hz.opened (by omega)
      have hgk := hg3 k hlt
      have hgf := hg4 k
      obtain ⟨s1, s2⟩ := hz.set k ((k : Int) * (a : Int) / (n : Int))
      have B2 := B1.apart (g' := g1) (i := k) (z := .int .i64 ((k : Int) * (a : Int) / (n : Int))) (by omega)
      have HF2 : Hid (FromTo (bnds n a) (zs.set k ((k : Int) * (a : Int) / (n : Int))) (k + 1)) := hid (by
        intro i hi
        rw [nth_set (by rw [hz.len]; exact hlt)]
        by_cases e : k = i
        · subst e; rw [if_pos rfl, HN.out, HD.out]
        · rw [if_neg e]; exact HF.out i (by omega))
      have hb2 := hb.setCell (p := ⟨g1, k, none⟩) (show w.heap.size ≤ g1 by omega) (.int .i64 ((k : Int) * (a : Int) / (n : Int)))
      obtain ⟨_, _, _, _⟩ := id B1
      clear hp hd p0 p1 hg3 hg4 s2
      go_wp2_with fail
      go_roundw
      case rel => exact ⟨k + 1, _, by omega, by go_num, B2, s1, HF2, hb2⟩
      case measure => simp [intOf]; omega
    · obtain rfl : n = k := by omega
      have HE : Hid (bnds n a = zs) := hid (ext_nth (by rw [HLEN.out, hz.len]) (fun i hi => (HF.out i (by rw [HLEN.out] at hi; exact hi)).symm))
      go_wp2_with fail
      go_ret
      exact ⟨a1, cap1, rfl, by rw [HE.out]; exact hz.mono (by omega), hb⟩

theorem lineOf_any (a : Option Addr) (n cap : Nat) (ac : Int) (w : World) :
    Calls Try.prog 67 #[.slice a n cap, .int .i64 ac] w fun e w' => e = .returned (.agg #[.int .i64 (n : Int), .int .i64 ac]) ∧ Below w.heap.size w w' := by
  have hb0 := (Below.refl w.heap.size w).alloc (Nat.le_refl _) (.cells #[.int .i64 0, .int .i64 0] 71)
  have B0 := boxAt_new w (.int .i64 0) (.int .i64 0) 71
  obtain ⟨W, hW⟩ : ∃ W, w.alloc (.cells #[.int .i64 0, .int .i64 0] 71) = W := ⟨_, rfl⟩
  rw [hW] at hb0 B0
  have B2 := (B0.set0 (z := .int .i64 (n : Int))).set1 (z := .int .i64 ac)
  have hb2 := (hb0.setCell (p := ⟨w.heap.size, 0, none⟩) (Nat.le_refl _) (.int .i64 (n : Int))).setCell (p := ⟨w.heap.size, 1, none⟩) (Nat.le_refl _) (.int .i64 ac)
  obtain ⟨_, _, _, _⟩ := id B0
  go_enter Try.func67, Try.ntmps67
  go_wp2_with fail
  obtain ⟨_, _, _, _⟩ := id B2
  refine bodyPost_ret (v := .agg #[.int .i64 (n : Int), .int .i64 ac]) (by simp [results, Try.results67, go_sem, *]) rfl ⟨rfl, hb2⟩

theorem goodSl_eq {xs : List Int} {n q : Nat} (hl : xs.length = n) (h : slB (n : Int) (q : Int) = true) : goodSl xs q = undTo (insSort xs) (bnds n q) n := by
  subst hl
  simp [goodSl, h, und]

set_option maxHeartbeats 800000 in
theorem linePark_any (a : Option Addr) (n cap : Nat) (xs : List Int) (ac : Int) (w : World) (h : Has w a n cap xs) :
    Calls Try.prog 68 #[.agg #[.int .i64 (n : Int), .int .i64 ac], .slice a n cap] w fun e w' => e = .returned (.bool (goodSl xs ac)) ∧ Below w.heap.size w w' := by
  have hlen := h.len
  have hb0 := (Below.refl w.heap.size w).alloc (Nat.le_refl _) (.cells #[.int .i64 (n : Int), .int .i64 ac] 71)
  have B0 := boxAt_new w (.int .i64 (n : Int)) (.int .i64 ac) 71
  obtain ⟨W, hW⟩ : ∃ W, w.alloc (.cells #[.int .i64 (n : Int), .int .i64 ac] 71) = W := ⟨_, rfl⟩
  rw [hW] at hb0 B0
  have hgl := boxAt_lt B0
  obtain ⟨_, _, _, _⟩ := id B0
  by_cases h1 : slB (n : Int) ac = true
  · obtain ⟨q, rfl, hs, hn, hq⟩ := slB_parts h1
    have HR := hid (goodSl_eq hlen h1)
    have H1 := hid h1
    clear h1 hlen hs
    go_enter Try.func68, Try.ntmps68
    go_wp2_with fail
    refine (lineSlope_any _ _ _).mono ?_
    rintro e w1 ⟨rfl, hb1⟩
    rw [H1.out]
    have B1 := B0.below hb1 hgl
    have hb01 := hb0.trans (hb1.mono hb0.size)
    obtain ⟨_, _, _, _⟩ := id B1
    go_wp2_with fail
    refine (lineBounds_any n q _ (by omega) (by omega)).mono ?_
    rintro e w2 ⟨a2, cap2, rfl, hown2, hb2⟩
    have hb02 := hb01.trans (hb2.mono hb01.size)
    go_wp2_with fail
    refine (isUnder_any _ _ _ _ _ _ _ _ _ (h.below hb02 (Nat.le_refl _)) hown2.has (Nat.le_refl _)).mono ?_
    rintro e w3 ⟨rfl, hb3⟩
    have hb03 := hb02.trans (hb3.mono hb02.size)
    go_wp2_with fail
    go_ret
    exact ⟨ret_bool HR.out.symm, hb03⟩
  · have HR := hid (goodSl_no1 (xs := xs) (a := ac) (by rw [hlen]; exact h1))
    have H1 := hid h1
    clear h1 hlen
    go_enter Try.func68, Try.ntmps68
    go_wp2_with fail
    refine (lineSlope_any _ _ _).mono ?_
    rintro e w1 ⟨rfl, hb1⟩
    rw [Bool.eq_false_iff.2 H1.out]
    have hb01 := hb0.trans (hb1.mono hb0.size)
    go_wp2_with fail
    go_ret
    exact ⟨ret_bool HR.out.symm, hb01⟩


set_option maxHeartbeats 800000 in
theorem implBounds_any (n a : Int) (w : World) : Calls Try.prog 27 #[.int .i64 n, .int .i64 a] w (PostInts w (boundsOf n a)) := by
  have hb0 := (Below.refl w.heap.size w).alloc (Nat.le_refl _) (.cells #[.int .i64 0, .int .i64 0] 71)
  have B0 := boxAt_new w (.int .i64 0) (.int .i64 0) 71
  obtain ⟨W, hW⟩ : ∃ W, w.alloc (.cells #[.int .i64 0, .int .i64 0] 71) = W := ⟨_, rfl⟩
  rw [hW] at hb0 B0
  have B2 := (B0.set0 (z := .int .i64 n)).set1 (z := .int .i64 a)
  have hb2 := (hb0.setCell (p := ⟨w.heap.size, 0, none⟩) (Nat.le_refl _) (.int .i64 n)).setCell (p := ⟨w.heap.size, 1, none⟩) (Nat.le_refl _) (.int .i64 a)
  obtain ⟨_, _, _, _⟩ := id B0
  obtain ⟨_, _, _, _⟩ := id B2
  have hgl := boxAt_lt B2
  by_cases h1 : slB n a = true
  · have HR : Hid (boundsOf n a = (bnds n.toNat a.toNat, true)) := hid (by simp [boundsOf, h1])
    have HS := hid h1
    obtain ⟨m, q, rfl, rfl, hs⟩ := slB_iff.1 h1
    obtain ⟨hm, hq, -⟩ := slN_iff.1 hs
    clear h1 hs
    go_enter Try.func27, Try.ntmps27
    go_wp2_with fail
    refine (lineSlope_any _ _ _).mono ?_
    rintro e w1 ⟨rfl, hb1⟩
    rw [HS.out]
    have B3 := B2.below hb1 hgl
    have hb3 := hb2.trans (hb1.mono hb2.size)
    obtain ⟨_, _, _, _⟩ := id B3
    go_wp2_with fail
    refine (lineBounds_any m q _ (by omega) (by omega)).mono ?_
    rintro e w2 ⟨a2, cap2, rfl, hown2, hb4⟩
    go_wp2_with fail
    go_ret2
    exact postInts HR.out (hown2.mono hb3.size) (hb3.trans (hb4.mono hb3.size))
  · have HR : Hid (boundsOf n a = ([], false)) := hid (by simp [boundsOf, h1])
    have HS := hid h1
    clear h1
    go_enter Try.func27, Try.ntmps27
    go_wp2_with fail
    refine (lineSlope_any _ _ _).mono ?_
    rintro e w1 ⟨rfl, hb1⟩
    rw [Bool.eq_false_iff.2 HS.out]
    have hb3 := hb2.trans (hb1.mono hb2.size)
    go_wp2_with fail
    go_ret2
    exact postInts_no HR.out hb3

theorem isSlOf_eq (xs : List Int) (n : Nat) (ac : Int) (hl : xs.length = n) : isSlOf xs ac = (goodSl xs ac, slB n ac) := by
  subst hl
  by_cases h : slB xs.length ac = true
  · simp [isSlOf, goodSl, h]
  · simp [isSlOf, goodSl, h]

set_option maxHeartbeats 800000 in
theorem implIsSl_any (a : Option Addr) (n cap : Nat) (xs : List Int) (ac : Int) (w : World) (h : Has w a n cap xs) :
    Calls Try.prog 19 #[.slice a n cap, .int .i64 ac] w (PostBools w (isSlOf xs ac)) := by
  have HR := hid (isSlOf_eq xs n ac h.len)
  go_enter Try.func19, Try.ntmps19
  go_wp2_with fail
  refine (lineOf_any _ _ _ _ _).mono ?_
  rintro e w1 ⟨rfl, hb1⟩
  have hb2 := hb1.alloc hb1.size (.cells #[.int .i64 0, .int .i64 0] 71)
  have B0 := boxAt_new w1 (.int .i64 0) (.int .i64 0) 71
  obtain ⟨W, hW⟩ : ∃ W, w1.alloc (.cells #[.int .i64 0, .int .i64 0] 71) = W := ⟨_, rfl⟩
  rw [hW] at hb2 B0
  have B2 := (B0.set0 (z := .int .i64 (n : Int))).set1 (z := .int .i64 ac)
  have hb3 := (hb2.setCell (p := ⟨w1.heap.size, 0, none⟩) hb1.size (.int .i64 (n : Int))).setCell (p := ⟨w1.heap.size, 1, none⟩) hb1.size (.int .i64 ac)
  obtain ⟨_, _, _, _⟩ := id B0
  obtain ⟨_, _, _, _⟩ := id B2
  go_wp2_with fail
  generalize ((W.setCell ⟨w1.heap.size, 0, none⟩ (.int .i64 (n : Int))).setCell ⟨w1.heap.size, 1, none⟩ (.int .i64 ac)) = V at *
  have HLS : Hid (LS w w1.heap.size (.int .i64 (n : Int)) (.int .i64 ac) V) := hid ⟨B2, hb3⟩
  clear B0 hW hb2 B2 hb3
  go_region_held3 (fun w' => LSX w w1.heap.size (.int .i64 (n : Int)) (.int .i64 ac) w' ∧ w'.cell? ⟨w1.heap.size, 0, none⟩ = some (.int .i64 (n : Int)) ∧ w'.cell? ⟨w1.heap.size, 1, none⟩ = some (.int .i64 ac)) (first | exact LS.first HLS.out | exact LS.next (by assumption) (by assumption)) (first | (go_at_call 68; refine (linePark_any _ _ _ xs _ _ (LS.hasA (by assumption) h)).mono ?_; rintro e w' ⟨rfl, hb'⟩) | (go_at_call 64; refine (lineSlope_any _ _ _).mono ?_; rintro e w' ⟨rfl, hb'⟩))
  all_goals
    rename_i hS
    obtain ⟨hS, -⟩ := hS
    go_wp2_with fail
    go_ret2
    exact postBools HR.out hS.st


@[go_sem] theorem lineSize (h : 71 < Try.prog.types.size) : (Try.prog.types[71]'h).size = 2 := by kernel_rfl

theorem lineCount_any (m q : Nat) (w : World) (hm : 1 ≤ m ∧ m ≤ 6) (hq : q ≤ 13) :
    Calls Try.prog 169 #[.agg #[.int .i64 (m : Int), .int .i64 (q : Int)]] w fun e w' => e = .returned (.int .i64 ((q ^ (m - 1) : Nat) : Int)) ∧ Below w.heap.size w w' := by
  have hb0 := (Below.refl w.heap.size w).alloc (Nat.le_refl _) (.cells #[.int .i64 (m : Int), .int .i64 (q : Int)] 71)
  go_enter Try.func169, Try.ntmps169
  go_wp2_with fail
  refine (pow_any q (m - 1) _ _ _ rfl (by omega) hq (by omega)).mono ?_
  rintro e w' ⟨rfl, rfl⟩
  go_wp2_with fail
  go_ret
  exact ⟨rfl, hb0⟩

theorem countLine_any (n a : Int) (w : World) : Calls Try.prog 63 #[.iface 71 (.agg #[.int .i64 n, .int .i64 a])] w (PostInt w (cntSlOf n a)) := by
  by_cases h1 : slB n a = true
  · have HS := hid h1
    obtain ⟨m, q, rfl, rfl, hs⟩ := slB_iff.1 h1
    have HR : Hid (cntSlOf m q = (((q ^ (m - 1) : Nat) : Int), true)) := hid (by simp [cntSlOf, h1])
    obtain ⟨hm, hq, -⟩ := slN_iff.1 hs
    clear h1 hs
    go_enter Try.func63, Try.ntmps63
    go_wp2_with fail
    refine (lineSlope_any _ _ _).mono ?_
    rintro e w1 ⟨rfl, hb1⟩
    rw [HS.out]
    go_wp2_with fail
    refine (lineCount_any m q _ hm hq.2).mono ?_
    rintro e w2 ⟨rfl, hb2⟩
    go_wp2_with fail
    go_ret2
    exact postInt HR.out (hb1.trans (hb2.mono hb1.size))
  · have HS := hid (Bool.eq_false_iff.2 h1)
    have HR : Hid (cntSlOf n a = (0, false)) := hid (by simp [cntSlOf, h1])
    clear h1
    go_enter Try.func63, Try.ntmps63
    go_wp2_with fail
    refine (lineSlope_any _ _ _).mono ?_
    rintro e w1 ⟨rfl, hb1⟩
    rw [HS.out]
    go_wp2_with fail
    go_ret2
    exact postInt HR.out hb1

set_option maxHeartbeats 800000 in
theorem stepsCount_any (m q : Nat) (w : World) (hm : 1 ≤ m ∧ m ≤ 6) (hq : 1 ≤ q ∧ q ≤ 13) :
    Calls Try.prog 174 #[.agg #[.int .i64 (m : Int), .int .i64 (q : Int)]] w fun e w' => e = .returned (.int .i64 (cntWkN m q : Int)) ∧ Below w.heap.size w w' := by
  have hb0 := (Below.refl w.heap.size w).alloc (Nat.le_refl _) (.cells #[.int .i64 (m : Int), .int .i64 (q : Int)] 90)
  have B0 := boxAt_new w (.int .i64 (m : Int)) (.int .i64 (q : Int)) 90
  obtain ⟨W, hW⟩ : ∃ W, w.alloc (.cells #[.int .i64 (m : Int), .int .i64 (q : Int)] 90) = W := ⟨_, rfl⟩
  rw [hW] at hb0 B0
  have HR : Hid ((cntWkN m q : Int) = (chs (m + q - 1) (m - 1) : Int) / (m : Int)) := hid (by unfold cntWkN; rw [Int.natCast_ediv])
  have hc := chs_slope hm hq
  have hd0 : 0 ≤ (chs (m + q - 1) (m - 1) : Int) / (m : Int) := by rw [← HR.out]; exact Int.natCast_nonneg _
  have hd1 : (chs (m + q - 1) (m - 1) : Int) / (m : Int) ≤ 48620 := by rw [← HR.out]; unfold cntWkN; have := Nat.div_le_self (chs (m + q - 1) (m - 1)) m; omega
  have hdt : (chs (m + q - 1) (m - 1) : Int).tdiv (m : Int) = (chs (m + q - 1) (m - 1) : Int) / (m : Int) := by rw [Int.tdiv_eq_ediv_of_nonneg (Int.natCast_nonneg _)]
  have hm0 : ¬ (m : Int) = 0 := by omega
  have CQ : Hid (∀ j, Calls Try.prog 134 #[.int .i64 ((m : Int) + (q : Int) - 1), .int .i64 ((m : Int) - 1)] (W.drewN j) fun e w' => e = .returned (.int .i64 (chs (m + q - 1) (m - 1) : Int)) ∧ w' = W.drewN j) := hid (fun j => bino_any (m + q - 1) (m - 1) _ _ _ (by omega) (by omega) (by omega) (by omega))
  have v1 : IntKind.i64.wrap ((m : Int) + (q : Int)) = (m : Int) + (q : Int) := IntWalk.i64_in _ (by omega)
  have v2 : IntKind.i64.wrap ((m : Int) + (q : Int) - 1) = (m : Int) + (q : Int) - 1 := IntWalk.i64_in _ (by omega)
  have v3 : IntKind.i64.wrap ((m : Int) - 1) = (m : Int) - 1 := IntWalk.i64_in _ (by omega)
  have v4 : IntKind.i64.wrap ((chs (m + q - 1) (m - 1) : Int) / (m : Int)) = (chs (m + q - 1) (m - 1) : Int) / (m : Int) := IntWalk.i64_in _ (by omega)
  obtain ⟨_, _, _, _⟩ := id B0
  generalize (chs (m + q - 1) (m - 1) : Int) = c at *
  go_enter Try.func174, Try.ntmps174
  go_wp2_with fail
  go_quiet ((go_at_call 134; exact Calls.quiet_of_same (CQ.out _)))
  go_wp2_with fail
  go_ret
  exact ⟨ret_int HR.out.symm, below_drewN hb0 _⟩

theorem countSteps_any (n a : Int) (w : World) : Calls Try.prog 63 #[.iface 90 (.agg #[.int .i64 n, .int .i64 a])] w (PostInt w (cntWkOf n a)) := by
  by_cases h1 : slB n a = true
  · have HS := hid h1
    obtain ⟨m, q, rfl, rfl, hs⟩ := slB_iff.1 h1
    have HR : Hid (cntWkOf m q = ((cntWkN m q : Int), true)) := hid (by simp [cntWkOf, h1])
    obtain ⟨hm, hq, -⟩ := slN_iff.1 hs
    clear h1 hs
    go_enter Try.func63, Try.ntmps63
    go_wp2_with fail
    refine (lineSlope_any _ _ _).mono ?_
    rintro e w1 ⟨rfl, hb1⟩
    rw [HS.out]
    go_wp2_with fail
    refine (stepsCount_any m q _ hm hq).mono ?_
    rintro e w2 ⟨rfl, hb2⟩
    go_wp2_with fail
    go_ret2
    exact postInt HR.out (hb1.trans (hb2.mono hb1.size))
  · have HS := hid (Bool.eq_false_iff.2 h1)
    have HR : Hid (cntWkOf n a = (0, false)) := hid (by simp [cntWkOf, h1])
    clear h1
    go_enter Try.func63, Try.ntmps63
    go_wp2_with fail
    refine (lineSlope_any _ _ _).mono ?_
    rintro e w1 ⟨rfl, hb1⟩
    rw [HS.out]
    go_wp2_with fail
    go_ret2
    exact postInt HR.out hb1

theorem implCntSl_any (n a : Int) (w : World) : Calls Try.prog 11 #[.int .i64 n, .int .i64 a] w (PostInt w (cntSlOf n a)) := by
  go_enter Try.func11, Try.ntmps11
  go_wp2_with fail
  refine (countLine_any _ _ _).mono ?_
  rintro e w1 ⟨rfl, hb1⟩
  go_wp2_with fail
  go_ret2
  exact ⟨rfl, hb1⟩
theorem implCntWk_any (n a : Int) (w : World) : Calls Try.prog 35 #[.int .i64 n, .int .i64 a] w (PostInt w (cntWkOf n a)) := by
  go_enter Try.func35, Try.ntmps35
  go_wp2_with fail
  refine (countSteps_any _ _ _).mono ?_
  rintro e w1 ⟨rfl, hb1⟩
  go_wp2_with fail
  go_ret2
  exact ⟨rfl, hb1⟩
end Go.Proofs.Ytfkejkkplafciad
