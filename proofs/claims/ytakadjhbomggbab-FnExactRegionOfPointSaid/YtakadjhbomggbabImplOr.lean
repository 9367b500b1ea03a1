/- The region of a point: the program's side. -/
import Derived.Test.YtakadjhbomggbabMathOr
import Derived.Test.YtakadjhbomggbabWkS
import Derived.Test.YtakadjhbomggbabShelfB
import Derived.Test.YtakadjhbomggbabImplGrx
import Derived.Test.YtakadjhbomggbabNeR
namespace Go.Proofs.Ytakadjhbomggbab
open Go.RowKit Go.Sort

def IxAtX (ys : List Int) (k : Nat) : Prop := ∀ i, i < k → nth ys i = (i : Int)
theorem ix_allX {ys : List Int} {n : Nat} (h : IxAtX ys n) (hl : ys.length = n) : ys = upto n := ext_nth (by rw [hl, length_upto]) fun i hi => by rw [h i (by omega), nth_upto (by omega)]
theorem ix_stepX {ys : List Int} {k n : Nat} (h : IxAtX ys k) (hl : ys.length = n) (hk : k < n) : IxAtX (ys.set k (k : Int)) (k + 1) := fun i hi => by
  rw [nth_set (by omega)]
  split
  · subst_vars; rfl
  · exact h i (by omega)
set_option maxHeartbeats 1000000 in
theorem indX_any (n : Nat) (w : World) (hn : n ≤ 1000) :
    Calls Try.prog 77 #[.int .i64 n] w fun e w' => ∃ a' cap', e = .returned (.slice a' n cap') ∧ Own w' w.heap.size a' n cap' (upto n) ∧ Below w.heap.size w w' := by
  go_enter Try.func77, Try.ntmps77
  go_wp2_with (at_make; refine wpList_make_ints _ rfl _ _ rfl n rfl rfl (by omega) ?_; intro a' cap' w1 hown1 hb1)
  go_loopw [9] (fun i wr => ∃ (k : Nat) (ys : List Int), k ≤ n ∧ i = .int .i64 k ∧ Own wr w.heap.size a' n cap' ys ∧ Hid (IxAtX ys k) ∧ Below w.heap.size w wr) (fun i _ => n - (intOf i).toNat)
  case atStart => exact ⟨0, _, Nat.zero_le _, rfl, hown1, hid (fun i hi => by omega), hb1⟩
  case round =>
    obtain ⟨k, ys, hk, rfl, hown, HS, hb⟩ := hrel
    clear hown1 hb1
    by_cases hlt : k < n
    · obtain ⟨g, rfl, hg1, hg2, hg3, hg4⟩ := hown.opened (by omega)
      have hgx := hg3 k hlt
      have hgf := hg4 k
      obtain ⟨s1, s2⟩ := hown.set k (k : Int)
      have HS2 := hid (ix_stepX HS.out hown.len hlt)
      have hb2 := hb.setCell (p := ⟨g, k, none⟩) hg1 (.int .i64 (k : Int))
      clear hg3 hg4
      go_wp2_with fail
      go_roundw
      case rel => exact ⟨k + 1, _, by omega, by go_num, s1, HS2, hb2⟩
      case measure => simp [intOf]; omega
    · obtain rfl : k = n := by omega
      have HE := hid (ix_allX HS.out hown.len)
      go_wp2_with fail
      go_ret
      exact ⟨_, _, rfl, by rw [← HE.out]; exact hown, hb⟩

theorem xcmp_any (bx : Nat) (a : Option Addr) (n cap : Nat) (xs : List Int) (x y : Nat) (w : World) (hbx : w.cell? ⟨bx, 0, none⟩ = some (.slice a n cap)) (h : Has w a n cap xs) (hx : x < n) (hy : y < n) :
    Calls Try.prog 79 #[.int .i64 (x : Int), .int .i64 (y : Int), .pointer (some ⟨bx, 0, none⟩)] w fun e w' => e = .returned (.int .i64 (cmpI (nth xs y) (nth xs x))) ∧ Quiet w w' := by
  obtain ⟨b, off, rfl, hb, hc⟩ := h.2.2.2.2 (by omega)
  have c1 := hc x hx
  have c2 := hc y hy
  have z1 : (x : Int) < (n : Int) := by omega
  have z2 : (y : Int) < (n : Int) := by omega
  have z3 : (0 : Int) ≤ (x : Int) := by omega
  have z4 : (0 : Int) ≤ (y : Int) := by omega
  have cq : ∀ j, Calls Try.prog 80 #[.int .i64 (nth xs y), .int .i64 (nth xs x)] (w.drewN j) fun e w'' => e = .returned (.int .i64 (cmpI (nth xs y) (nth xs x))) ∧ w'' = w.drewN j := fun j => (compareJ_any _ _ _).mono fun e w'' ⟨he, hw⟩ => ⟨he, hw.symm⟩
  have CQ := hid cq
  clear hc cq
  go_enter Try.func79, Try.ntmps79
  go_wp2_with fail
  go_quiet ((go_at_call 80; exact Calls.quiet_of_same (CQ.out _)))
  go_wp2_with fail
  go_ret
  exact ⟨rfl, ⟨_, rfl⟩⟩

set_option maxHeartbeats 1000000 in
theorem sortX_any (B g m cap bx : Nat) (al : Option Addr) (cl : Nat) (hs : List Int) (w : World) (h8 : m + 1 ≤ 8) (hl : hs.length = m + 1) (hd : ∀ i j, i < j → j < m + 1 → nth hs i ≠ nth hs j)
    (h : Own w B (some ⟨g, 0, none⟩) (m + 1) cap (upto (m + 1))) (hx : Has w al (m + 1) cl hs) (hal : ∀ p, al = some p → p.block ≠ g) (hbx : w.cell? ⟨bx, 0, none⟩ = some (.slice al (m + 1) cl)) (hbg : bx ≠ g) :
    Calls Try.prog 78 #[.slice (some ⟨g, 0, none⟩) (m + 1) cap, .func (.func 79) #[] #[.pointer (some ⟨bx, 0, none⟩)]] w fun e w' =>
      e = .returned (.tuple #[]) ∧ Own w' B (some ⟨g, 0, none⟩) (m + 1) cap (ordX hs) ∧ w.grownBy w' (some g) := by
  obtain ⟨⟨h1, h2⟩, h3, h4⟩ := h
  rcases h2 with ⟨hv, _⟩ | ⟨g', cap', cur, hv, hg, hh, hnc, hcm, hcs, htake⟩
  · simp at hv
  · simp at hv
    obtain ⟨rfl, rfl⟩ := hv
    have hlen : (allFin m).length = m + 1 := by simp [allFin]
    have hH : Holds (encF m) w g 0 (allFin m).toArray := holds_of_cells hh (by rw [hlen, allFin_enc]; simpa using htake)
    have hlt : g < w.heap.size := (Array.getElem?_eq_some_iff.1 hh).1
    have eg : ∀ args w, (callFunc 79 args).run Try.prog w = .ok (.enter 79 args) w := by intro args w; go_simp
    have hcmp : CmpLays1 Try.prog 79 #[.pointer (some ⟨bx, 0, none⟩)] (encF m) (fun x y => cmpI (nth hs y.val) (nth hs x.val)) g 0 (allFin m).toArray.size w := by
      intro q os dk _ x y
      have hgr : w.grownBy (sortWorld (encF m) w g 0 q dk os) (some g) := grownBy_sortedE (encF m) dk
      have hx' := hx.kept hgr hal
      have hb' : (sortWorld (encF m) w g 0 q dk os).cell? ⟨bx, 0, none⟩ = some (.slice al (m + 1) cl) := hgr.cell hbx (by simpa using hbg)
      refine (xcmp_any bx al (m + 1) cl hs x.val y.val _ hb' hx' x.isLt y.isLt).mono ?_
      rintro e w' ⟨rfl, q2, rfl⟩
      exact ⟨rfl, q2, #[], by simp [grow]; rfl⟩
    have hlt' : ∀ x y : Fin (m + 1), (ltOf fun x y : Fin (m + 1) => cmpI (nth hs y.val) (nth hs x.val)) x y = decide (nth hs y.val < nth hs x.val) := fun x y => by
      have := ltOf_cmpI (nth hs y.val) (nth hs x.val)
      simpa [ltOf] using this
    have hswo : SWO (ltOf fun x y : Fin (m + 1) => cmpI (nth hs y.val) (nth hs x.val)) := ⟨fun x => by simp [hlt'], fun x y z h1 h2 => by simp [hlt'] at *; omega, fun x y z h1 h2 => by simp [hlt'] at *; omega⟩
    have hs' := Try.slices_SortFunc_f78 (encF m) (fun _ => rfl) (fun x y : Fin (m + 1) => cmpI (nth hs y.val) (nth hs x.val)) hswo 79 #[.pointer (some ⟨bx, 0, none⟩)] g 0 cap (allFin m).toArray w eg hcmp hH hlt (by simp [allFin]; omega)
    have hsz : (allFin m).toArray.size = m + 1 := by simp [allFin]
    simp only [hsz] at hs'
    refine hs'.mono ?_
    rintro e w' ⟨rfl, d', q, os, hp, hst, rfl⟩
    have hsort := sort_ordX hl hd hlt' hp hst
    have hcl : (ordX hs).length = m + 1 := by unfold ordX; rw [length_ordXTo, hl]
    have hdl : d'.toList.length = m + 1 := by
      have h5 := congrArg List.length hsort
      rw [List.length_map, hcl] at h5
      exact h5
    have henc : d'.toList.map (encF m) = (ordX hs).map (Value.int .i64) := by
      rw [← hsort, List.map_map]
      rfl
    refine ⟨rfl, ⟨⟨by simp [hcl], .inr ⟨g, cap, _, rfl, hg, heap_sortedE _ d' hh, hnc, hcm, by simpa [putCells] using hcs, ?_⟩⟩, hcl, h4⟩, grownBy_sortedE _ d'⟩
    rw [Nat.mul_one, ← henc]
    have := take_putCellsE (encF m) cur d'.toList (by omega)
    rw [toArr, hdl] at this
    exact this

set_option maxHeartbeats 1000000 in
theorem sortNoneX_any (a : Option Addr) (cap : Nat) (fv : Value) (w : World) :
    Calls Try.prog 78 #[.slice a 0 cap, fv] w fun e w' => e = .returned (.tuple #[]) ∧ w' = w := by
  have hst : ∀ L : Int, Calls Try.prog 99 #[.slice a 0 cap, .int .i64 0, .int .i64 0, .int .i64 L, fv] w fun e w' => e = .returned (.tuple #[]) ∧ w' = w := fun L => by
    go_enter Try.func99, Try.ntmps99
    go_wp2
    refine wp_loop_rounds 1 ?_
    rw [rounds_succ]
    go_wp2_with (go_at_call 108; refine (insNone_any _ _ _ _).mono ?_; rintro e w1 ⟨rfl, rfl⟩)
    refine bodyPost_ret (results_none rfl _ _ _) rfl ⟨rfl, rfl⟩
  go_enter Try.func78, Try.ntmps78
  go_wp2_with fail
  refine (Try.bits_Len 0 w (by omega) (by omega)).mono ?_
  rintro e w1 ⟨rfl, rfl⟩
  go_wp2_with fail
  refine (hst _).mono ?_
  rintro e w1 ⟨rfl, rfl⟩
  go_wp2_with fail
  go_end0
  exact ⟨rfl, rfl⟩
theorem ordX_none {xs : List Int} (h : xs.length = 0) : ordX xs = [] := by obtain rfl := List.eq_nil_of_length_eq_zero h; rfl
theorem sortXs_any (B n : Nat) (a al : Option Addr) (cap cl bx : Nat) (hs : List Int) (w : World) (h8 : n ≤ 8) (hl : hs.length = n) (hd : ∀ i j, i < j → j < n → nth hs i ≠ nth hs j) (hBw : B ≤ w.heap.size)
    (h : Own w B a n cap (upto n)) (hx : Has w al n cl hs) (hal : 0 < n → BlkLt al B) (hbx : w.cell? ⟨bx, 0, none⟩ = some (.slice al n cl)) (hbg : bx < B) :
    Calls Try.prog 78 #[.slice a n cap, .func (.func 79) #[] #[.pointer (some ⟨bx, 0, none⟩)]] w fun e w' =>
      e = .returned (.tuple #[]) ∧ Own w' B a n cap (ordX hs) ∧ Below B w w' := by
  by_cases hn : n = 0
  · subst hn
    refine (sortNoneX_any _ _ _ _).mono ?_
    rintro e w1 ⟨rfl, rfl⟩
    exact ⟨rfl, by rw [ordX_none hl]; exact h, Below.refl _ _⟩
  · obtain ⟨m, rfl⟩ : ∃ m, n = m + 1 := ⟨n - 1, by omega⟩
    obtain ⟨g, rfl, hg1, hg2, _, _⟩ := h.opened (by omega)
    refine (sortX_any B g m cap bx al cl hs w h8 hl hd h hx (fun p hp e => by have := hal (by omega) p hp; omega) hbx (by omega)).mono ?_
    rintro e w1 ⟨rfl, ho, hgr⟩
    exact ⟨rfl, ho, below_grown hgr hBw (fun k hk => by simp at hk; omega)⟩
def FxAt (xs os ys : List Int) (k : Nat) : Prop := ∀ i, i < k → nth ys i = (fxAt xs os (i + 1) : Int)
theorem fxa_all {xs os ys : List Int} {n : Nat} (h : FxAt xs os ys n) (hl : ys.length = n) (ho : os.length = n) : ys = farX xs os := ext_nth (by rw [farX, length_farXTo]; omega) fun i hi => by
  rw [h i (by omega), farX, nth_farXTo (by omega)]
theorem fxa_step {xs os ys : List Int} {k n : Nat} (h : FxAt xs os ys k) (hl : ys.length = n) (hk : k < n) : FxAt xs os (ys.set k (fxAt xs os (k + 1) : Int)) (k + 1) := fun i hi => by
  rw [nth_set (by omega)]
  split
  · subst_vars; rfl
  · exact h i (by omega)
theorem point_facts {xs : List Int} {n : Nat} (h : pointB xs = true) (hl : xs.length = n) : n ≤ 8 ∧ (∀ i, i < n → -100000 ≤ nth xs i ∧ nth xs i ≤ 100000) ∧ ∀ i j, i < j → j < n → nth xs i ≠ nth xs j := by
  subst hl
  obtain ⟨h1, h2, h3⟩ := pointB_iff.1 h
  exact ⟨h1, fun i hi => allB_iff.1 h2 _ (nth_mem hi), fun i j hij hj e => (pairPt_iff.1 h3 j i hj hij).1 (by omega)⟩

set_option maxRecDepth 100000 in
set_option maxHeartbeats 4000000 in
theorem region_any (a : Option Addr) (n cap : Nat) (xs : List Int) (w : World) (h : Has w a n cap xs) (hp : pointB xs = true) :
    Calls Try.prog 48 #[.slice a n cap] w fun e w' => ∃ b m c d k f, e = .returned (.agg #[.slice b m c, .slice d k f]) ∧ Own w' w.heap.size b m c (ordX xs) ∧ Own w' w.heap.size d k f (farX xs (ordX xs)) ∧ Apart2 b d ∧ Below w.heap.size w w' := by
  obtain ⟨h8, hbd, hd⟩ := point_facts hp h.len
  have HL := h.len
  clear hp
  go_enter Try.func48, Try.ntmps48
  go_wp2_with fail
  generalize hW : ((w.alloc (.cells #[.slice a n cap] 58)).alloc (.cells #[.slice none 0 0, .slice none 0 0] 24)) = W
  have hbW : Below w.heap.size w W := by rw [← hW]; exact ((Below.refl _ w).alloc (Nat.le_refl _) _).alloc (by simp) _
  have hsz : W.heap.size = w.heap.size + 2 := by rw [← hW]; simp
  have hbx : W.cell? ⟨w.heap.size, 0, none⟩ = some (.slice a n cap) := by
    rw [← hW, World.cell?_alloc_old _ _ _ (by simp)]
    rw [World.cell?_alloc_at _ _ _ _ rfl]; rfl
  have BR : BoxAt W (w.heap.size + 1) (.slice none 0 0) (.slice none 0 0) := by rw [← hW]; have := boxAt_new (w.alloc (.cells #[.slice a n cap] 58)) (.slice none 0 0) (.slice none 0 0) 24; simpa using this
  clear hW
  have hA := h.below hbW (Nat.le_refl _)
  have hlA : 0 < n → BlkLt a (w.heap.size + 2) := fun h0 p hp => by
    obtain ⟨b, off, rfl, hb, _⟩ := h.2.2.2.2 (by omega)
    cases hp
    show b < _
    omega
  refine (indX_any n _ (by omega)).mono ?_
  rintro e w1 ⟨ao, co, rfl, oo, st⟩
  have hs1 := st.size
  rw [hsz] at oo st
  replace hbx : w1.cell? ⟨w.heap.size, 0, none⟩ = some (.slice a n cap) := (st.cell (p := ⟨w.heap.size, 0, none⟩) (show w.heap.size < w.heap.size + 2 by omega)).trans hbx
  replace BR := BR.below st (by omega)
  replace hA := hA.below st (by rw [hsz]; exact Nat.le_refl _)
  replace hbW := hbW.trans (st.mono (by omega))
  rw [hsz] at hs1
  clear st
  go_wp2_with fail
  refine (sortXs_any (w.heap.size + 2) n _ _ _ _ w.heap.size xs _ h8 HL hd hs1 oo hA hlA hbx (by omega)).mono ?_
  rintro e w2 ⟨rfl, oo, st⟩
  replace hbx : w2.cell? ⟨w.heap.size, 0, none⟩ = some (.slice a n cap) := (st.cell (p := ⟨w.heap.size, 0, none⟩) (show w.heap.size < w.heap.size + 2 by omega)).trans hbx
  replace BR := BR.below st (by omega)
  replace hbW := hbW.trans (st.mono (by omega))
  have hs2 := Nat.le_trans hs1 st.size
  have hA2 := h.below hbW (Nat.le_refl _)
  clear st hs1 hA
  have hmax : n ≤ 2097152 := by omega
  go_wp2_with (at_make; refine wpList_make_ints _ rfl _ _ rfl n rfl rfl (by omega) ?_; intro af cf w3 of st)
  have hlo := oo.lt
  replace oo := oo.below st (Nat.le_refl _)
  replace hbx : w3.cell? ⟨w.heap.size, 0, none⟩ = some (.slice a n cap) := (st.cell (p := ⟨w.heap.size, 0, none⟩) (show w.heap.size < w2.heap.size by omega)).trans hbx
  replace BR := BR.below st (by omega)
  replace hbW := hbW.trans (st.mono (by omega))
  have ap : Apart2 ao af := apart_lt hlo of.ge
  replace of := of.mono (B' := w.heap.size + 2) (by omega)
  replace hA2 := h.below hbW (Nat.le_refl _)
  have hs3 := Nat.le_trans hs2 st.size
  clear st hlo hs2
  have HOL : (ordX xs).length = n := by unfold ordX; rw [length_ordXTo, HL]
  have HN := hid (fun k (hk : k < n) => ordX_nth (xs := xs) (k := k) (by omega))
  have HBD := hid hbd
  have HL2 := hid HL
  have HOL2 := hid HOL
  clear hbd hd HOL HL
  generalize hos : ordX xs = os at *
  have HOS := hid hos
  clear hos
  go_loopw [5, 21] (fun l i wr => ∃ (p : Nat) (ys : List Int), p ≤ n ∧ i = .int .i64 (p : Int) ∧ l = .int .i64 (fxAt xs os p : Int) ∧ Own wr (w.heap.size + 2) ao n co os ∧ Own wr (w.heap.size + 2) af n cf ys ∧ Hid (FxAt xs os ys p) ∧ BoxAt wr (w.heap.size + 1) (.slice none 0 0) (.slice none 0 0) ∧ wr.cell? ⟨w.heap.size, 0, none⟩ = some (.slice a n cap) ∧ Below w.heap.size w wr ∧ w.heap.size + 2 ≤ wr.heap.size) (fun _ i _ => n - (intOf i).toNat)
  case atStart => exact ⟨0, _, Nat.zero_le _, rfl, rfl, oo, of, hid (fun i hi => by omega), BR, hbx, hbW, hs3⟩
  case round =>
    obtain ⟨wo, rfl⟩ : ∃ wo : World, wo = wr := ⟨_, rfl⟩
    clear oo of BR hbx hbW hA2 hs3
    obtain ⟨p, ys, hpn, rfl, rfl, oo, of, HF, BR, hbx, hb, hsw⟩ := hrel
    by_cases hlt : p < n
    · obtain ⟨cp, e1, c1⟩ := HN.out p hlt
      rw [HL2.out] at c1
      have HE1 := hid e1
      obtain ⟨go, rfl, q1, q2, q3, q4⟩ := oo.opened (by omega)
      have k1 := q3 p hlt
      rw [e1] at k1
      have hpc : p ≤ co := by have := oo.has.2.1; omega
      have hcm := oo.has.2.2.1
      have hFB := fxAt_le xs os p
      have HS := hid (show fxAt xs os (p + 1) = fxIn xs os (nth os p) (fxAt xs os p) p from rfl)
      clear q3 q4 e1
      go_wp2_with fail
      go_loopw [5, 30] (fun l i wr => ∃ (q : Nat), q ≤ p ∧ i = .int .i64 (q : Int) ∧ l = .int .i64 (fxIn xs os (nth os p) (fxAt xs os p) q : Int) ∧ Below wo.heap.size wo wr) (fun _ i _ => p - (intOf i).toNat)
      case atStart => exact ⟨0, Nat.zero_le _, rfl, rfl, Below.refl _ _⟩
      case round =>
        obtain ⟨q, hq, rfl, rfl, st⟩ := hrel
        have oo2 := oo.below st (Nat.le_refl _)
        have of2 := of.below st (Nat.le_refl _)
        have BR2 := BR.below st (by omega)
        have hbx2 : wr.cell? ⟨w.heap.size, 0, none⟩ = some (.slice a n cap) := (st.cell (p := ⟨w.heap.size, 0, none⟩) (show w.heap.size < wo.heap.size by omega)).trans hbx
        have hb2 := hb.trans (st.mono (by omega))
        by_cases hlq : q < p
        · obtain ⟨cq, e2, c2⟩ := HN.out q (by omega)
          rw [HL2.out] at c2
          obtain ⟨g', hg', -, -, q3, q4⟩ := oo2.opened (by omega)
          obtain rfl : go = g' := by injection hg' with hh; injection hh
          clear hg' q4
          have k2 := q3 q (by omega)
          rw [e2] at k2
          have HE2 := hid e2
          have hqp : (q : Int) < (p : Int) := by omega
          have hA3 := h.below hb2 (Nat.le_refl _)
          have HG := hid (greaterX_any a n cap xs cq cp 100 wr hA3 c2 c1 HBD.out)
          clear q3 e2 hA3
          by_cases h1 : cq < cp
          · have h1i : (cq : Int) < (cp : Int) := by omega
            have hd1 : decide ((cq : Int) < (cp : Int)) = true := decide_eq_true h1i
            by_cases h2 : 100 < nth xs cq - nth xs cp
            · have HY : Hid ((fxIn xs os (nth os p) (fxAt xs os p) (q + 1) : Int) = max (fxIn xs os (nth os p) (fxAt xs os p) q : Int) ((q : Int) + 1)) := hid (by
                rw [fxIn_yes (by rw [HE1.out, HE2.out]; exact h1i) (by rw [HE1.out, HE2.out, Int.toNat_natCast, Int.toNat_natCast]; exact h2)]
                omega)
              have HD2 := hid (decide_eq_true h2)
              clear h2
              generalize fxIn xs os (nth os p) (fxAt xs os p) q = F at *
              go_wp2_with (go_at_call 81; refine (HG.out).mono ?_; rintro e w' ⟨rfl, st3⟩; rw [HD2.out])
              go_roundw
              case rel => exact ⟨q + 1, by omega, by go_num, congrArg (Value.int .i64) HY.out.symm, st.trans (st3.mono st.size)⟩
              case measure => simp [intOf]; omega
            · have HY : Hid (fxIn xs os (nth os p) (fxAt xs os p) (q + 1) = fxIn xs os (nth os p) (fxAt xs os p) q) := hid (fxIn_no2 (by rw [HE1.out, HE2.out, Int.toNat_natCast, Int.toNat_natCast]; exact h2))
              have HD2 := hid (decide_eq_false h2)
              clear h2
              go_wp2_with (go_at_call 81; refine (HG.out).mono ?_; rintro e w' ⟨rfl, st3⟩; rw [HD2.out])
              go_roundw
              case rel => exact ⟨q + 1, by omega, by go_num, by rw [HY.out], st.trans (st3.mono st.size)⟩
              case measure => simp [intOf]; omega
          · have h1i : ¬ (cq : Int) < (cp : Int) := by omega
            have hd1 : decide ((cq : Int) < (cp : Int)) = false := decide_eq_false h1i
            have HY : Hid (fxIn xs os (nth os p) (fxAt xs os p) (q + 1) = fxIn xs os (nth os p) (fxAt xs os p) q) := hid (fxIn_no1 (by rw [HE1.out, HE2.out]; exact h1i))
            go_wp2_with fail
            go_roundw
            case rel => exact ⟨q + 1, by omega, by go_num, by rw [HY.out], st⟩
            case measure => simp [intOf]; omega
        · obtain rfl : q = p := by omega
          rw [← HS.out]
          obtain ⟨gf, rfl, r1, r2, r3, r4⟩ := of2.opened (by omega)
          have hfk := r3 q hlt
          have hff := r4 q
          have hqn : (q : Int) < (n : Int) := by omega
          have HF2 := hid (fxa_step HF.out of2.len hlt)
          obtain ⟨s1, -⟩ := of2.set q (fxAt xs os (q + 1) : Int)
          have hst : Below (w.heap.size + 2) wr (wr.setCell ⟨gf, q, none⟩ (.int .i64 (fxAt xs os (q + 1) : Int))) := (Below.refl _ _).setCell (p := ⟨gf, q, none⟩) r1 _
          have oo3 := oo2.setNeR (g := gf) (i := q) (fun pp hpp => ap pp _ hpp rfl) (.int .i64 (fxAt xs os (q + 1) : Int))
          have BR3 := BR2.below hst (by omega)
          have hbx3 := (hst.cell (p := ⟨w.heap.size, 0, none⟩) (show w.heap.size < w.heap.size + 2 by omega)).trans hbx2
          have hb3 := hb2.trans (hst.mono (by omega))
          have hs4 : w.heap.size + 2 ≤ (wr.setCell ⟨gf, q, none⟩ (.int .i64 (fxAt xs os (q + 1) : Int))).heap.size := by have := st.size; have := hst.size; omega
          clear r3 r4 hst
          go_wp2_with fail
          go_roundw
          case rel => exact ⟨q + 1, _, by omega, by go_num, rfl, oo3, s1, HF2, BR3, hbx3, hb3, hs4⟩
          case measure => simp [intOf]; omega
    · obtain rfl : p = n := by omega
      have HE := hid (fxa_all HF.out of.len HOL2.out)
      have f1 := ((oo.mono (show w.heap.size ≤ w.heap.size + 2 by omega)).setNeR (g := w.heap.size + 1) (i := 0) (oo.ge.neR (by omega)) (.slice ao p co)).setNeR (g := w.heap.size + 1) (i := 1) (oo.ge.neR (by omega)) (.slice af p cf)
      have f2 := ((of.mono (show w.heap.size ≤ w.heap.size + 2 by omega)).setNeR (g := w.heap.size + 1) (i := 0) (of.ge.neR (by omega)) (.slice ao p co)).setNeR (g := w.heap.size + 1) (i := 1) (of.ge.neR (by omega)) (.slice af p cf)
      have B2f := (BR.set0 (z := .slice ao p co)).set1 (z := .slice af p cf)
      have hbf := (hb.setCell (p := ⟨w.heap.size + 1, 0, none⟩) (by simp) (.slice ao p co)).setCell (p := ⟨w.heap.size + 1, 1, none⟩) (by simp) (.slice af p cf)
      obtain ⟨x1, x2, x3, x4⟩ := id BR
      go_wp2_with fail
      obtain ⟨y1, y2, y3, y4⟩ := id B2f
      rw [HOS.out]
      rw [HE.out] at f2
      refine bodyPost_ret (v := .agg #[.slice ao p co, .slice af p cf]) (by simp [results, Try.results48, go_sem, *]) rfl ⟨_, _, _, _, _, _, rfl, f1, f2, ap, hbf⟩

set_option maxHeartbeats 1000000 in
theorem implRegPt_any (a : Option Addr) (n cap : Nat) (xs : List Int) (w : World) (h : Has w a n cap xs) :
    Calls Try.prog 10 #[.slice a n cap] w (PostRgn w (regX xs)) := by
  have hbW : Below w.heap.size w (w.alloc (.cells #[.slice none 0 0, .slice none 0 0] 24)) := (Below.refl _ w).alloc (Nat.le_refl _) _
  have BR := boxAt_new w (.slice none 0 0) (.slice none 0 0) 24
  go_enter Try.func10, Try.ntmps10
  go_wp2_with fail
  have hsz : (w.alloc (.cells #[.slice none 0 0, .slice none 0 0] 24)).heap.size = w.heap.size + 1 := by simp
  generalize w.alloc (.cells #[.slice none 0 0, .slice none 0 0] 24) = W at *
  refine (isPoint_any _ _ _ _ _ (h.below hbW (Nat.le_refl _))).mono ?_
  rintro e w1 ⟨rfl, st⟩
  have hs1 := st.size
  replace BR := BR.below st (by omega)
  have hb1 := hbW.trans (st.mono hbW.size)
  clear st hbW
  by_cases hp : pointB xs = true
  · rw [hp]
    have HR : Hid (regX xs = ((ordX xs, farX xs (ordX xs)), true)) := hid (by unfold regX; rw [if_pos hp])
    have HP := hid hp
    clear hp
    go_wp2_with fail
    refine (region_any _ _ _ _ _ (h.below hb1 (Nat.le_refl _)) HP.out).mono ?_
    rintro e w2 ⟨ah, q, ch, al, r, cl, rfl, oh, ol, ap, st⟩
    replace BR := BR.below st (by omega)
    have hb2 := hb1.trans (st.mono hb1.size)
    have f1 := ((oh.mono (show w.heap.size ≤ w1.heap.size by omega)).setNeR (g := w.heap.size) (i := 0) (oh.ge.neR (by omega)) (.slice ah q ch)).setNeR (g := w.heap.size) (i := 1) (oh.ge.neR (by omega)) (.slice al r cl)
    have f2 := ((ol.mono (show w.heap.size ≤ w1.heap.size by omega)).setNeR (g := w.heap.size) (i := 0) (ol.ge.neR (by omega)) (.slice ah q ch)).setNeR (g := w.heap.size) (i := 1) (ol.ge.neR (by omega)) (.slice al r cl)
    have B2f := (BR.set0 (z := .slice ah q ch)).set1 (z := .slice al r cl)
    have hb5 := (hb2.setCell (p := ⟨w.heap.size, 0, none⟩) (by simp) (.slice ah q ch)).setCell (p := ⟨w.heap.size, 1, none⟩) (by simp) (.slice al r cl)
    obtain ⟨t1, t2, t3, t4⟩ := id BR
    go_wp2_with fail
    obtain ⟨y1, y2, y3, y4⟩ := id B2f
    refine bodyPost_ret (v := .tuple #[.agg #[.slice ah q ch, .slice al r cl], .bool true]) (by simp [results, Try.results10, go_sem, *]) rfl (postRgn HR.out f1 f2 ap hb5)
  · rw [Bool.eq_false_iff.2 hp]
    have HR : Hid (regX xs = (([], []), false)) := hid (by unfold regX; rw [if_neg hp])
    have B2 := (BR.set0 (z := .slice none 0 0)).set1 (z := .slice none 0 0)
    have hb5 := (hb1.setCell (p := ⟨w.heap.size, 0, none⟩) (by simp) (.slice none 0 0)).setCell (p := ⟨w.heap.size, 1, none⟩) (by simp) (.slice none 0 0)
    obtain ⟨x1, x2, x3, x4⟩ := id BR
    go_wp2_with fail
    obtain ⟨y1, y2, y3, y4⟩ := id B2
    refine bodyPost_ret (v := .tuple #[.agg #[.slice none 0 0, .slice none 0 0], .bool false]) (by simp [results, Try.results10, go_sem, *]) rfl (postRgn_no HR.out hb5)
end Go.Proofs.Ytakadjhbomggbab
