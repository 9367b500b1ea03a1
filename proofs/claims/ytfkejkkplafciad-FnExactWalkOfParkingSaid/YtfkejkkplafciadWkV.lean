/- Chapter 4: walks of parking functions, by the contracts of the functions. -/
import Derived.Test.YtfkejkkplafciadWkH
import Derived.Test.YtfkejkkplafciadWkS
import Derived.Test.YtfkejkkplafciadSpecTp
import Derived.Test.YtfkejkkplafciadSpecB
import Derived.Test.YtfkejkkplafciadImplC
import Derived.Deep.DeepCutAuto
namespace Go.Proofs.Ytfkejkkplafciad
open Go.RowKit

theorem park_facts {xs : List Int} {n : Nat} (h : isPark xs = true) (hl : xs.length = n) : n ≤ 8 ∧ ∀ c, c < n → 0 ≤ nth xs c ∧ nth xs c < (n : Int) := by
  subst hl
  obtain ⟨h1, h2, _⟩ := isPark_iff.1 h
  exact ⟨h1, fun c hc => by have := h2 _ (nth_mem hc); omega⟩
theorem carsL_nth {xs : List Int} {n : Nat} (hl : xs.length = n) (h8 : n ≤ 8) (hb : ∀ c, c < n → 0 ≤ nth xs c ∧ nth xs c < (n : Int)) {k : Nat} (hk : k < n) : ∃ c : Nat, nth (carsL xs) k = (c : Int) ∧ c < n := by
  have hp := carsL_perm hl (by omega) hb
  have hm : nth (carsL xs) k ∈ carsL xs := nth_mem (by rw [length_carsL hl (by omega) hb]; exact hk)
  have := hp.subset hm
  unfold upto at this
  obtain ⟨c, hc, e⟩ := List.mem_map.1 this
  exact ⟨c, e.symm, List.mem_range.1 hc⟩
def HgAt (xs ls ys : List Int) (k : Nat) : Prop := ∀ i, i < k → nth ys i = (i : Int) - nth xs (nth ls i).toNat
theorem hg_all {xs ls ys : List Int} {n : Nat} (h : HgAt xs ls ys n) (hl : ys.length = n) (hn : ls.length = n) : ys = hgtOf xs ls := ext_nth (by rw [length_hgtOf]; omega) fun i hi => by rw [h i (by omega), nth_hgtOf (by omega)]
theorem hg_step {xs ls ys : List Int} {k c n : Nat} (h : HgAt xs ls ys k) (hl : ys.length = n) (hk : k < n) (hc : nth ls k = (c : Int)) : HgAt xs ls (ys.set k ((k : Int) - nth xs c)) (k + 1) := fun i hi => by
  rw [nth_set (by omega)]
  split
  · subst_vars; rw [hc, Int.toNat_natCast]
  · exact h i (by omega)
theorem walk_of_none {xs : List Int} (h : xs.length = 0) : carsL xs = [] := by obtain rfl := List.eq_nil_of_length_eq_zero h; rfl

/-- The stable sort of the cars in order. -/
theorem sortCars_any (B n : Nat) (a al : Option Addr) (cap cl bx : Nat) (xs : List Int) (w : World) (h8 : n ≤ 8) (hl : xs.length = n) (hbd : ∀ c, c < n → 0 ≤ nth xs c ∧ nth xs c < (n : Int)) (hBw : B ≤ w.heap.size)
    (h : Own w B a n cap (upto n)) (hx : Has w al n cl xs) (hal : 0 < n → BlkLt al B) (hbx : w.cell? ⟨bx, 0, none⟩ = some (.slice al n cl)) (hbg : bx < B) :
    Calls Try.prog 113 #[.slice a n cap, .func (.func 114) #[] #[.pointer (some ⟨bx, 0, none⟩)]] w fun e w' =>
      e = .returned (.tuple #[]) ∧ Own w' B a n cap (carsL xs) ∧ Below B w w' := by
  by_cases hn : n = 0
  · subst hn
    refine (stableNone_any _ _ _ _).mono ?_
    rintro e w1 ⟨rfl, rfl⟩
    exact ⟨rfl, by rw [walk_of_none hl]; exact h, Below.refl _ _⟩
  · obtain ⟨m, rfl⟩ : ∃ m, n = m + 1 := ⟨n - 1, by omega⟩
    obtain ⟨g, rfl, hg1, hg2, _, _⟩ := h.opened (by omega)
    refine (stableCars_any B m g cap bx al cl xs w h8 hl (fun c hc => by have := hbd c hc; omega) h hx ((hal (by omega)).ne hg1) hbx (by omega)).mono ?_
    rintro e w1 ⟨rfl, ho, hgr⟩
    exact ⟨rfl, ho, below_grown hgr hBw (fun k hk => by simp at hk; omega)⟩

set_option maxHeartbeats 1000000 in
theorem carsBy_any (a : Option Addr) (n cap : Nat) (xs : List Int) (w : World) (h : Has w a n cap xs) (h8 : n ≤ 8) (hbd : ∀ c, c < n → 0 ≤ nth xs c ∧ nth xs c < (n : Int)) :
    Calls Try.prog 91 #[.slice a n cap] w fun e w' => ∃ a2 c2, e = .returned (.slice a2 n c2) ∧ Own w' w.heap.size a2 n c2 (carsL xs) ∧ Below w.heap.size w w' := by
  have HL := hid h.len
  have HBD := hid hbd
  have hle := h.le
  clear hbd
  go_enter Try.func91, Try.ntmps91
  go_wp2_with fail
  generalize hW : w.alloc (.cells #[.slice a n cap] 26) = W
  have hbW : Below w.heap.size w W := by rw [← hW]; exact (Below.refl _ w).alloc (Nat.le_refl _) _
  have hsz : W.heap.size = w.heap.size + 1 := by rw [← hW]; simp
  have hbx : W.cell? ⟨w.heap.size, 0, none⟩ = some (.slice a n cap) := by rw [← hW, World.cell?_alloc_at _ _ _ _ rfl]; rfl
  clear hW
  refine (indicesOf_any n _ (by omega)).mono ?_
  rintro e w2 ⟨a2, c2, rfl, own2, st⟩
  have hs2 := st.size
  replace hbx : w2.cell? ⟨w.heap.size, 0, none⟩ = some (.slice a n cap) := by rw [st.cell (p := ⟨w.heap.size, 0, none⟩) (by simp; omega)]; exact hbx
  have hb2 := hbW.trans (st.mono hbW.size)
  clear st hbW
  go_wp2_with fail
  refine (sortCars_any W.heap.size n a2 a c2 cap w.heap.size xs w2 h8 HL.out HBD.out hs2 own2 (h.below hb2 (Nat.le_refl _)) (fun hn => (h.lt hn).mono (by omega)) hbx (by omega)).mono ?_
  rintro e w3 ⟨rfl, own3, st⟩
  have hb3 := hb2.trans (st.mono (by omega))
  clear st hb2 own2
  go_wp2_with fail
  go_ret
  exact ⟨_, _, rfl, own3.mono (by omega), hb3⟩
set_option maxHeartbeats 2000000 in
theorem implWalkOf_any (a : Option Addr) (n cap : Nat) (xs : List Int) (w : World) (h : Has w a n cap xs) :
    Calls Try.prog 46 #[.slice a n cap] w (PostWalk w (walkOf xs)) := by
  have HL := hid h.len
  have hle := h.le
  go_enter Try.func46, Try.ntmps46
  go_wp2_with fail
  generalize hW : w.alloc (.cells #[.slice none 0 0, .slice none 0 0] 53) = W
  have hbW : Below w.heap.size w W := by rw [← hW]; exact (Below.refl _ w).alloc (Nat.le_refl _) _
  have hsz : W.heap.size = w.heap.size + 1 := by rw [← hW]; simp
  have BR : BoxAt W w.heap.size (.slice none 0 0) (.slice none 0 0) := by rw [← hW]; exact boxAt_new _ _ _ _
  clear hW
  refine (isParkingFunction_any _ _ _ _ _ (h.below hbW (Nat.le_refl _))).mono ?_
  rintro e w1 ⟨rfl, st⟩
  have hs1 := st.size
  replace BR := BR.below st (by omega)
  have hb1 := hbW.trans (st.mono hbW.size)
  clear st hbW
  by_cases hp : isPark xs = true
  · rw [hp]
    have HR : Hid (walkOf xs = ((hgtOf xs (carsL xs), carsL xs), true)) := hid (by unfold walkOf; rw [if_pos hp])
    obtain ⟨h8, hbd⟩ := park_facts hp h.len
    have HBD := hid hbd
    have HN : Hid (∀ k, k < n → ∃ c : Nat, nth (carsL xs) k = (c : Int) ∧ c < n) := hid (fun k hk => carsL_nth HL.out h8 hbd hk)
    have HCL := hid (length_carsL HL.out (by omega) hbd)
    clear hp hbd
    go_wp2_with fail
    refine (carsBy_any _ _ _ _ _ (h.below hb1 (Nat.le_refl _)) h8 HBD.out).mono ?_
    rintro e w3 ⟨a2, c2, rfl, own3, st⟩
    have hs3 := st.size
    replace BR := BR.below st (by omega)
    have hb3 := hb1.trans (st.mono hb1.size)
    clear st hb1
    go_wp2_with (at_make; refine wpList_make_ints _ rfl _ _ rfl n rfl rfl (by omega) ?_; intro a4 c4 w4 own4 st4)
    have lt3 := own3.lt
    replace BR := BR.below st4 (by omega)
    replace own3 := own3.below st4 (Nat.le_refl _)
    have hb4 := hb3.trans (st4.mono hb3.size)
    clear st4 hb3
    go_loopw [19] (fun i wr => ∃ (k : Nat) (ys : List Int), k ≤ n ∧ i = .int .i64 k ∧ Own wr w3.heap.size a4 n c4 ys ∧ Hid (HgAt xs (carsL xs) ys k) ∧ Own wr w1.heap.size a2 n c2 (carsL xs) ∧ BoxAt wr w.heap.size (.slice none 0 0) (.slice none 0 0) ∧ Below w.heap.size w wr) (fun i _ => n - (intOf i).toNat)
    case atStart => exact ⟨0, _, Nat.zero_le _, rfl, own4, hid (fun i hi => by omega), own3, BR, hb4⟩
    case round =>
      obtain ⟨k, ys, hk, rfl, oh, HH, oc, BR, hb⟩ := hrel
      clear own3 own4 hb4
      by_cases hlt : k < n
      · obtain ⟨b1, off1, rfl, hbb1, hc1⟩ := h.2.2.2.2 (by omega)
        obtain ⟨c, hcv, hcn⟩ := HN.out k hlt
        have hxc := HBD.out c hcn
        have hck : wr.cell? ⟨b1, off1 + c, none⟩ = some (.int .i64 (nth xs c)) := by rw [hb.cell (p := ⟨b1, off1 + c, none⟩) hbb1]; exact hc1 c hcn
        obtain ⟨q, rfl, hq1, hq2, hq3, hq4⟩ := oc.opened (by omega)
        have hqk := hq3 k hlt
        rw [hcv] at hqk
        obtain ⟨g, rfl, hg1, hg2, hg3, hg4⟩ := oh.opened (by omega)
        have hqg := lt3 _ rfl
        have hgx := hg3 k hlt
        have hgf := hg4 k
        have HH2 := hid (hg_step HH.out oh.len hlt hcv)
        obtain ⟨s1, s2⟩ := oh.set k ((k : Int) - nth xs c)
        have oc2 := oc.setNe (g := g) (i := k) (lt3.ne hg1) (.int .i64 ((k : Int) - nth xs c))
        have BR2 := BR.apart (g' := g) (i := k) (z := .int .i64 ((k : Int) - nth xs c)) (by omega)
        have hb5 := hb.setCell (p := ⟨g, k, none⟩) (by simp; omega) (.int .i64 ((k : Int) - nth xs c))
        have z1 : (c : Int) < (n : Int) := by omega
        clear hc1 hq3 hq4 hg3 hg4
        go_wp2_with fail
        go_roundw
        case rel => exact ⟨k + 1, _, by omega, by go_num, s1, HH2, oc2, BR2, hb5⟩
        case measure => simp [intOf]; omega
      · obtain rfl : k = n := by omega
        have HE := hid (hg_all HH.out oh.len HCL.out)
        have ap := (apart_lt lt3 oh.ge).symm
        rw [HE.out] at oh
        have f1 := ((oh.mono (show w.heap.size ≤ w3.heap.size by omega)).setNe (g := w.heap.size) (i := 0) (oh.ge.ne (by omega)) (.slice a4 k c4)).setNe (g := w.heap.size) (i := 1) (oh.ge.ne (by omega)) (.slice a2 k c2)
        have f2 := ((oc.mono (show w.heap.size ≤ w1.heap.size by omega)).setNe (g := w.heap.size) (i := 0) (oc.ge.ne (by omega)) (.slice a4 k c4)).setNe (g := w.heap.size) (i := 1) (oc.ge.ne (by omega)) (.slice a2 k c2)
        have B2f := (BR.set0 (z := .slice a4 k c4)).set1 (z := .slice a2 k c2)
        have hb5 := (hb.setCell (p := ⟨w.heap.size, 0, none⟩) (by simp) (.slice a4 k c4)).setCell (p := ⟨w.heap.size, 1, none⟩) (by simp) (.slice a2 k c2)
        obtain ⟨t1, t2, t3, t4⟩ := id BR
        go_wp2_with fail
        obtain ⟨y1, y2, y3, y4⟩ := id B2f
        refine bodyPost_ret (v := .tuple #[.agg #[.slice a4 k c4, .slice a2 k c2], .bool true]) (by simp [results, Try.results46, go_sem, *]) rfl (postWalk HR.out f1 f2 ap hb5)
  · rw [Bool.eq_false_iff.2 hp]
    have HR : Hid (walkOf xs = (([], []), false)) := hid (by unfold walkOf; rw [if_neg hp])
    have B2 := (BR.set0 (z := .slice none 0 0)).set1 (z := .slice none 0 0)
    obtain ⟨x1, x2, x3, x4⟩ := id BR
    go_wp2_with fail
    obtain ⟨y1, y2, y3, y4⟩ := id B2
    refine bodyPost_ret (v := .tuple #[.agg #[.slice none 0 0, .slice none 0 0], .bool false]) (by simp [results, Try.results46, go_sem, *]) rfl (postWalk_no HR.out ((hb1.setCell (by simp) _).setCell (by simp) _))

/-- The cars with a favourite less than x, and those of the first c with the favourite x. -/
def lx (xs : List Int) (x c : Nat) : List Int := carsTo xs x ++ idxs (fun i => decide (nth xs i = (x : Int))) c
theorem lx_zero (xs : List Int) (x : Nat) : lx xs x 0 = carsTo xs x := by simp [lx, idxs]
theorem lx_full {xs : List Int} {n x : Nat} (hl : xs.length = n) : lx xs x n = carsTo xs (x + 1) := by subst hl; rfl
theorem lx_yes {xs : List Int} {x c : Nat} (h : nth xs c = (x : Int)) : lx xs x (c + 1) = lx xs x c ++ [(c : Int)] := by unfold lx; rw [idxs_succ, if_pos (by simp [h]), List.append_assoc]
theorem lx_no {xs : List Int} {x c : Nat} (h : ¬ nth xs c = (x : Int)) : lx xs x (c + 1) = lx xs x c := by unfold lx; rw [idxs_succ, if_neg (by simp [h]), List.append_nil]
theorem hgtOf_snoc (xs ls : List Int) (c : Nat) : hgtOf xs (ls ++ [(c : Int)]) = hgtOf xs ls ++ [(ls.length : Int) - nth xs c] := by
  refine ext_nth (by simp [length_hgtOf]) fun i hi => ?_
  rw [length_hgtOf, List.length_append, List.length_singleton] at hi
  rw [nth_hgtOf (by simp; omega)]
  by_cases e : i < ls.length
  · rw [nth_append_left e, nth_append_left (by rw [length_hgtOf]; exact e), nth_hgtOf e]
  · obtain rfl : i = ls.length := by omega
    rw [nth_append_at, Int.toNat_natCast]
    have : nth (hgtOf xs ls ++ [(ls.length : Int) - nth xs c]) (hgtOf xs ls).length = (ls.length : Int) - nth xs c := nth_append_at
    rw [length_hgtOf] at this
    exact this.symm

set_option maxRecDepth 100000 in
set_option maxHeartbeats 4000000 in
theorem waOf_any (a : Option Addr) (n cap : Nat) (xs : List Int) (w : World) (h : Has w a n cap xs) (h8 : n ≤ 8) :
    Calls Try.prog 89 #[.slice a n cap] w fun e w' => ∃ ah q ch al cl, e = .returned (.agg #[.slice ah q ch, .slice al q cl]) ∧ Own w' w.heap.size ah q ch (hgtOf xs (carsL xs)) ∧ Own w' w.heap.size al q cl (carsL xs) ∧ Apart2 ah al ∧ Below w.heap.size w w' := by
  have HL := hid h.len
  go_enter Try.func89, Try.ntmps89
  go_wp2_with fail
  generalize hW : (w.alloc (.cells #[.slice none 0 0, .slice none 0 0] 53)).alloc (.cells #[.slice none 0 0, .slice none 0 0] 53) = W
  have hbW : Below w.heap.size w W := by rw [← hW]; exact ((Below.refl _ w).alloc (Nat.le_refl _) _).alloc (by simp) _
  have hsz : W.heap.size = w.heap.size + 2 := by rw [← hW]; simp
  have BR : BoxAt W w.heap.size (.slice none 0 0) (.slice none 0 0) := by rw [← hW]; exact (boxAt_new _ _ _ _).alloc _
  have BX : BoxAt W (w.heap.size + 1) (.slice none 0 0) (.slice none 0 0) := by rw [← hW]; have := boxAt_new (w.alloc (.cells #[.slice none 0 0, .slice none 0 0] 53)) (.slice none 0 0) (.slice none 0 0) 53; simpa using this
  clear hW
  go_loopw [10] (fun i wr => ∃ (x q : Nat) (ah al : Option Addr) (ch cl : Nat), x ≤ n ∧ q ≤ 8 * x ∧ i = .int .i64 x ∧ Own wr (w.heap.size + 2) ah q ch (hgtOf xs (carsTo xs x)) ∧ Own wr (w.heap.size + 2) al q cl (carsTo xs x) ∧ Apart ah al ∧ w.heap.size + 2 ≤ wr.heap.size ∧ BoxAt wr w.heap.size (.slice none 0 0) (.slice none 0 0) ∧ BoxAt wr (w.heap.size + 1) (.slice ah q ch) (.slice al q cl) ∧ Below w.heap.size w wr) (fun i _ => n - (intOf i).toNat)
  case atStart => exact ⟨0, 0, none, none, 0, 0, Nat.zero_le _, Nat.zero_le _, rfl, Own.nil _ _, Own.nil _ _, Apart.noneL _, by omega, BR, BX, hbW⟩
  case round =>
    obtain ⟨wo, rfl⟩ : ∃ wo : World, wo = wr := ⟨_, rfl⟩
    obtain ⟨x, q, ah, al, ch, cl, hx, hq, rfl, oh, ol, hap, hszr, hR, hX, hb⟩ := hrel
    clear BR BX hbW
    by_cases hlt : x < n
    · go_wp2_with fail
      go_loopw [15] (fun i wr => ∃ (c q : Nat) (ah al : Option Addr) (ch cl : Nat), c ≤ n ∧ q ≤ 8 * x + c ∧ i = .int .i64 c ∧ Own wr (w.heap.size + 2) ah q ch (hgtOf xs (lx xs x c)) ∧ Own wr (w.heap.size + 2) al q cl (lx xs x c) ∧ Apart ah al ∧ w.heap.size + 2 ≤ wr.heap.size ∧ BoxAt wr w.heap.size (.slice none 0 0) (.slice none 0 0) ∧ BoxAt wr (w.heap.size + 1) (.slice ah q ch) (.slice al q cl) ∧ Below w.heap.size w wr) (fun i _ => n - (intOf i).toNat)
      case atStart => exact ⟨0, q, ah, al, ch, cl, Nat.zero_le _, by omega, rfl, by rw [lx_zero]; exact oh, by rw [lx_zero]; exact ol, hap, hszr, hR, hX, hb⟩
      case round =>
        clear oh ol hap hR hX hb
        obtain ⟨c, q, ah, al, ch, cl, hc, hq, rfl, oh, ol, hap, hszr, hR, hX, hb⟩ := hrel
        by_cases hlc : c < n
        · obtain ⟨b1, off1, rfl, hbb1, hc1⟩ := h.2.2.2.2 (by omega)
          have hck : wr.cell? ⟨b1, off1 + c, none⟩ = some (.int .i64 (nth xs c)) := by rw [hb.cell (p := ⟨b1, off1 + c, none⟩) hbb1]; exact hc1 c hlc
          have z1 : (c : Int) < (n : Int) := by omega
          clear hc1
          by_cases he : nth xs c = (x : Int)
          · have hbe : ((x : Int) == nth xs c) = true := by simp [he]
            have HS := hid (lx_yes he)
            have HQ := hid ol.len
            have HH : Hid (hgtOf xs (lx xs x (c + 1)) = hgtOf xs (lx xs x c) ++ [(q : Int) - (x : Int)]) := hid (by rw [HS.out, hgtOf_snoc, HQ.out, he])
            obtain ⟨x1, x2, x3, x4⟩ := id hX
            clear he
            go_upto_region 10 with (at_builtin; refine wpList_append_two _ rfl _ _ rfl (w.heap.size + 2) _ _ _ _ _ rfl rfl oh (by omega) hszr (w.heap.size + 2) _ _ _ _ ol hap ?_; intro a5 c5 w5 oh5 ol5 hap5 st5; have X5 := hX.below st5 (by omega); obtain ⟨y1, y2, y3, y4⟩ := id X5)
            have X6 := X5.set0 (z := .slice a5 (q + 1) c5)
            have oh6 := oh5.setNe (g := w.heap.size + 1) (i := 0) (oh5.ge.ne (by omega)) (.slice a5 (q + 1) c5)
            have ol6 := ol5.setNe (g := w.heap.size + 1) (i := 0) (ol5.ge.ne (by omega)) (.slice a5 (q + 1) c5)
            have hR6 := (hR.below st5 (by omega)).apart (g' := w.heap.size + 1) (i := 0) (z := .slice a5 (q + 1) c5) (by omega)
            have hb6 := (hb.trans (st5.mono (by omega))).setCell (p := ⟨w.heap.size + 1, 0, none⟩) (by simp) (.slice a5 (q + 1) c5)
            have hsz6 : w.heap.size + 2 ≤ (w5.setCell ⟨w.heap.size + 1, 0, none⟩ (.slice a5 (q + 1) c5)).heap.size := by have := st5.size; simp; omega
            clear oh ol hX hR hb X5 oh5 ol5 st5 x1 x2 x3 x4 y1 y2 y3 y4
            generalize w5.setCell ⟨w.heap.size + 1, 0, none⟩ (.slice a5 (q + 1) c5) = V at *
            obtain ⟨x1, x2, x3, x4⟩ := id X6
            go_wp2_with (at_builtin; refine wpList_append_two _ rfl _ _ rfl (w.heap.size + 2) _ _ _ _ _ rfl rfl ol6 (by omega) hsz6 (w.heap.size + 2) _ _ _ _ oh6 hap5.symm ?_; intro a7 c7 w7 ol7 oh7 hap7 st7; have X7 := X6.below st7 (by omega); obtain ⟨y1, y2, y3, y4⟩ := id X7)
            have X8 := X7.set1 (z := .slice a7 (q + 1) c7)
            have oh8 := oh7.setNe (g := w.heap.size + 1) (i := 1) (oh7.ge.ne (by omega)) (.slice a7 (q + 1) c7)
            have ol8 := ol7.setNe (g := w.heap.size + 1) (i := 1) (ol7.ge.ne (by omega)) (.slice a7 (q + 1) c7)
            have hR8 := (hR6.below st7 (by omega)).apart (g' := w.heap.size + 1) (i := 1) (z := .slice a7 (q + 1) c7) (by omega)
            have hb8 := (hb6.trans (st7.mono (by omega))).setCell (p := ⟨w.heap.size + 1, 1, none⟩) (by simp) (.slice a7 (q + 1) c7)
            go_roundw
            case rel => exact ⟨c + 1, q + 1, a5, a7, c5, c7, by omega, by omega, by go_num, by rw [HH.out]; exact oh8, by rw [HS.out]; exact ol8, hap7.symm, by have := st7.size; simp; omega, hR8, X8, hb8⟩
            case measure => simp [intOf]; omega
          · have hbe : ((x : Int) == nth xs c) = false := by simp; exact fun e => he e.symm
            have HS := hid (lx_no he)
            clear he
            go_wp2_with fail
            go_roundw
            case rel => exact ⟨c + 1, q, ah, al, ch, cl, by omega, by omega, by go_num, by rw [HS.out]; exact oh, by rw [HS.out]; exact ol, hap, hszr, hR, hX, hb⟩
            case measure => simp [intOf]; omega
        · obtain rfl : c = n := by omega
          have HF := hid (lx_full (x := x) HL.out)
          go_wp2_with fail
          go_roundw
          case rel => exact ⟨x + 1, q, ah, al, ch, cl, by omega, by omega, by go_num, by rw [← HF.out]; exact oh, by rw [← HF.out]; exact ol, hap, hszr, hR, hX, hb⟩
          case measure => simp [intOf]; omega
    · obtain rfl : x = n := by omega
      have HC : Hid (carsL xs = carsTo xs x) := hid (by unfold carsL; rw [HL.out])
      have f1 := ((oh.mono (show w.heap.size ≤ w.heap.size + 2 by omega)).setNe (g := w.heap.size) (i := 0) (oh.ge.ne (by omega)) (.slice ah q ch)).setNe (g := w.heap.size) (i := 1) (oh.ge.ne (by omega)) (.slice al q cl)
      have f2 := ((ol.mono (show w.heap.size ≤ w.heap.size + 2 by omega)).setNe (g := w.heap.size) (i := 0) (ol.ge.ne (by omega)) (.slice ah q ch)).setNe (g := w.heap.size) (i := 1) (ol.ge.ne (by omega)) (.slice al q cl)
      have B2f := (hR.set0 (z := .slice ah q ch)).set1 (z := .slice al q cl)
      have hb5 := (hb.setCell (p := ⟨w.heap.size, 0, none⟩) (by simp) (.slice ah q ch)).setCell (p := ⟨w.heap.size, 1, none⟩) (by simp) (.slice al q cl)
      rw [← HC.out] at f1 f2
      obtain ⟨t1, t2, t3, t4⟩ := id hX
      obtain ⟨s1, s2, s3, s4⟩ := id hR
      go_wp2_with fail
      obtain ⟨y1, y2, y3, y4⟩ := id B2f
      refine bodyPost_ret (v := .agg #[.slice ah q ch, .slice al q cl]) (by simp [results, Try.results89, go_sem, *]) rfl ⟨ah, q, ch, al, cl, rfl, f1, f2, hap, hb5⟩

set_option maxHeartbeats 1000000 in
theorem specWalkOf_any (a : Option Addr) (n cap : Nat) (xs : List Int) (w : World) (h : Has w a n cap xs) :
    Calls Try.prog 44 #[.slice a n cap] w (PostWalk w (walkOf xs)) := by
  have hbW : Below w.heap.size w (w.alloc (.cells #[.slice none 0 0, .slice none 0 0] 53)) := (Below.refl _ w).alloc (Nat.le_refl _) _
  have BR := boxAt_new w (.slice none 0 0) (.slice none 0 0) 53
  go_enter Try.func44, Try.ntmps44
  go_wp2_with fail
  have hsz : (w.alloc (.cells #[.slice none 0 0, .slice none 0 0] 53)).heap.size = w.heap.size + 1 := by simp
  generalize w.alloc (.cells #[.slice none 0 0, .slice none 0 0] 53) = W at *
  refine (paParking_any _ _ _ _ _ (h.below hbW (Nat.le_refl _))).mono ?_
  rintro e w1 ⟨rfl, st⟩
  have hs1 := st.size
  replace BR := BR.below st (by omega)
  have hb1 := hbW.trans (st.mono hbW.size)
  clear st hbW
  by_cases hp : isPark xs = true
  · rw [hp]
    have HR : Hid (walkOf xs = ((hgtOf xs (carsL xs), carsL xs), true)) := hid (by unfold walkOf; rw [if_pos hp])
    obtain ⟨h8, _⟩ := park_facts hp h.len
    clear hp
    go_wp2_with fail
    refine (waOf_any _ _ _ _ _ (h.below hb1 (Nat.le_refl _)) h8).mono ?_
    rintro e w2 ⟨ah, q, ch, al, cl, rfl, oh, ol, ap, st⟩
    replace BR := BR.below st (by omega)
    have hb2 := hb1.trans (st.mono hb1.size)
    have f1 := ((oh.mono (show w.heap.size ≤ w1.heap.size by omega)).setNe (g := w.heap.size) (i := 0) (oh.ge.ne (by omega)) (.slice ah q ch)).setNe (g := w.heap.size) (i := 1) (oh.ge.ne (by omega)) (.slice al q cl)
    have f2 := ((ol.mono (show w.heap.size ≤ w1.heap.size by omega)).setNe (g := w.heap.size) (i := 0) (ol.ge.ne (by omega)) (.slice ah q ch)).setNe (g := w.heap.size) (i := 1) (ol.ge.ne (by omega)) (.slice al q cl)
    have B2f := (BR.set0 (z := .slice ah q ch)).set1 (z := .slice al q cl)
    have hb5 := (hb2.setCell (p := ⟨w.heap.size, 0, none⟩) (by simp) (.slice ah q ch)).setCell (p := ⟨w.heap.size, 1, none⟩) (by simp) (.slice al q cl)
    obtain ⟨t1, t2, t3, t4⟩ := id BR
    go_wp2_with fail
    obtain ⟨y1, y2, y3, y4⟩ := id B2f
    refine bodyPost_ret (v := .tuple #[.agg #[.slice ah q ch, .slice al q cl], .bool true]) (by simp [results, Try.results44, go_sem, *]) rfl (postWalk HR.out f1 f2 ap hb5)
  · rw [Bool.eq_false_iff.2 hp]
    have HR : Hid (walkOf xs = (([], []), false)) := hid (by unfold walkOf; rw [if_neg hp])
    have B2 := (BR.set0 (z := .slice none 0 0)).set1 (z := .slice none 0 0)
    obtain ⟨x1, x2, x3, x4⟩ := id BR
    go_wp2_with fail
    obtain ⟨y1, y2, y3, y4⟩ := id B2
    refine bodyPost_ret (v := .tuple #[.agg #[.slice none 0 0, .slice none 0 0], .bool false]) (by simp [results, Try.results44, go_sem, *]) rfl (postWalk_no HR.out ((hb1.setCell (by simp) _).setCell (by simp) _))
end Go.Proofs.Ytfkejkkplafciad
