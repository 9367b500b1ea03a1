/- Chapter 4: cars sorted by their favourites: the library's stable sort with the program's comparison. -/
import Derived.Test.YtakadjhbomggbaaSortF
import Derived.Test.YtakadjhbomggbaaMathSt
namespace Go.Proofs.Ytakadjhbomggbaa
open Go.RowKit Go.Sort

theorem isNaNJ_any (x : Int) (w : World) : Calls Try.prog 106 #[.int .i64 x] w fun e w' => e = .returned (.bool false) ∧ w = w' := by
  have hx : (x != x) = false := by simp
  go_enter Try.func106, Try.ntmps106
  go_wp2_with fail
  go_ret
  exact ⟨rfl, rfl⟩
set_option maxHeartbeats 400000 in
theorem compareJ_any (x y : Int) (w : World) : Calls Try.prog 72 #[.int .i64 x, .int .i64 y] w fun e w' => e = .returned (.int .i64 (cmpI x y)) ∧ w = w' := by
  by_cases h1 : x < y
  · have HR : Hid (cmpI x y = -1) := hid (by simp [cmpI, h1])
    go_enter Try.func72, Try.ntmps72
    go_wp2_with (go_at_call 106; refine (isNaNJ_any _ _).mono ?_; rintro e w' ⟨rfl, rfl⟩)
    go_ret
    exact ⟨ret_int HR.out.symm, rfl⟩
  · by_cases h2 : y < x
    · have HR : Hid (cmpI x y = 1) := hid (by simp [cmpI, h1, h2])
      go_enter Try.func72, Try.ntmps72
      go_wp2_with (go_at_call 106; refine (isNaNJ_any _ _).mono ?_; rintro e w' ⟨rfl, rfl⟩)
      go_ret
      exact ⟨ret_int HR.out.symm, rfl⟩
    · have HR : Hid (cmpI x y = 0) := hid (by simp [cmpI, h1, h2])
      go_enter Try.func72, Try.ntmps72
      go_wp2_with (go_at_call 106; refine (isNaNJ_any _ _).mono ?_; rintro e w' ⟨rfl, rfl⟩)
      go_ret
      exact ⟨ret_int HR.out.symm, rfl⟩

theorem wcmp_any (bx : Nat) (a : Option Addr) (n cap : Nat) (xs : List Int) (x y : Nat) (w : World) (hbx : w.cell? ⟨bx, 0, none⟩ = some (.slice a n cap)) (h : Has w a n cap xs) (hx : x < n) (hy : y < n) :
    Calls Try.prog 96 #[.int .i64 (x : Int), .int .i64 (y : Int), .pointer (some ⟨bx, 0, none⟩)] w fun e w' => e = .returned (.int .i64 (cmpI (nth xs x) (nth xs y))) ∧ Quiet w w' := by
  obtain ⟨b, off, rfl, hb, hc⟩ := h.2.2.2.2 (by omega)
  have c1 := hc x hx
  have c2 := hc y hy
  have z1 : (x : Int) < (n : Int) := by omega
  have z2 : (y : Int) < (n : Int) := by omega
  have z3 : (0 : Int) ≤ (x : Int) := by omega
  have z4 : (0 : Int) ≤ (y : Int) := by omega
  have cq : ∀ j, Calls Try.prog 72 #[.int .i64 (nth xs x), .int .i64 (nth xs y)] (w.drewN j) fun e w'' => e = .returned (.int .i64 (cmpI (nth xs x) (nth xs y))) ∧ w'' = w.drewN j := fun j => (compareJ_any _ _ _).mono fun e w'' ⟨he, hw⟩ => ⟨he, hw.symm⟩
  have CQ := hid cq
  clear hc cq
  go_enter Try.func96, Try.ntmps96
  go_wp2_with fail
  go_quiet ((go_at_call 72; exact Calls.quiet_of_same (CQ.out _)))
  go_wp2_with fail
  go_ret
  exact ⟨rfl, ⟨_, rfl⟩⟩

def encF (m : Nat) (i : Fin (m + 1)) : Value := .int .i64 ((i.val : Nat) : Int)
theorem allFin_enc (m : Nat) : (allFin m).map (encF m) = (upto (m + 1)).map (Value.int .i64) := by
  unfold allFin upto encF
  apply List.ext_getElem
  · simp
  · intro i h1 h2
    simp

set_option maxHeartbeats 1000000 in
theorem insCars_any (B g m cap bx : Nat) (al : Option Addr) (cl : Nat) (xs : List Int) (w : World) (h8 : m + 1 ≤ 8) (hl : xs.length = m + 1) (hbd : ∀ c, c < m + 1 → 0 ≤ nth xs c ∧ nth xs c < (m : Int) + 1)
    (h : Own w B (some ⟨g, 0, none⟩) (m + 1) cap (upto (m + 1))) (hx : Has w al (m + 1) cl xs) (hal : ∀ p, al = some p → p.block ≠ g) (hbx : w.cell? ⟨bx, 0, none⟩ = some (.slice al (m + 1) cl)) (hbg : bx ≠ g) :
    Calls Try.prog 120 #[.slice (some ⟨g, 0, none⟩) (m + 1) cap, .int .i64 0, .int .i64 ((m + 1 : Nat) : Int), .func (.func 96) #[] #[.pointer (some ⟨bx, 0, none⟩)]] w fun e w' =>
      e = .returned (.tuple #[]) ∧ Own w' B (some ⟨g, 0, none⟩) (m + 1) cap (carsL xs) ∧ w.grownBy w' (some g) := by
  have hown := h
  obtain ⟨⟨h1, h2⟩, h3, h4⟩ := h
  rcases h2 with ⟨hv, _⟩ | ⟨g', cap', cur, hv, hg, hh, hnc, hcm, hcs, htake⟩
  · simp at hv
  · simp at hv
    obtain ⟨rfl, rfl⟩ := hv
    have hlen : (allFin m).length = m + 1 := by simp [allFin]
    have hH : Holds (encF m) w g 0 (allFin m).toArray := holds_of_cells hh (by rw [hlen, allFin_enc]; simpa using htake)
    have hlt : g < w.heap.size := (Array.getElem?_eq_some_iff.1 hh).1
    have eg : ∀ args w, (callFunc 96 args).run Try.prog w = .ok (.enter 96 args) w := by intro args w; go_simp
    have hcmp : CmpReads Try.prog 96 #[.pointer (some ⟨bx, 0, none⟩)] (encF m) (fun x y => cmpI (nth xs x.val) (nth xs y.val)) g 0 (allFin m).toArray.size w := by
      intro q os dk _ x y
      have hgr : w.grownBy (sortWorld (encF m) w g 0 q dk os) (some g) := grownBy_sortedE (encF m) dk
      have hx' := hx.kept hgr hal
      have hb' : (sortWorld (encF m) w g 0 q dk os).cell? ⟨bx, 0, none⟩ = some (.slice al (m + 1) cl) := hgr.cell hbx (by simpa using hbg)
      refine (wcmp_any bx al (m + 1) cl xs x.val y.val _ hb' hx' x.isLt y.isLt).mono ?_
      rintro e w' ⟨rfl, q2, rfl⟩
      exact ⟨rfl, q2, rfl⟩
    have hs := Try.insertionSortCmpFunc_one_f120 (encF m) (fun _ => rfl) (fun x y => cmpI (nth xs x.val) (nth xs y.val)) 96 #[.pointer (some ⟨bx, 0, none⟩)] g 0 cap 0 (m + 1) (allFin m).toArray w eg hcmp hH (Nat.zero_le _) (by simp [allFin]) (by simp [allFin]; omega)
    have hsz : (allFin m).toArray.size = m + 1 := by simp [allFin]
    simp only [hsz] at hs
    refine hs.mono ?_
    rintro e w' ⟨rfl, q, rfl⟩
    rw [← sortWorld_none]
    have hlt' : (ltOf fun x y : Fin (m + 1) => cmpI (nth xs x.val) (nth xs y.val)) = fun x y => decide (nth xs x.val < nth xs y.val) := by
      funext x y
      have := ltOf_cmpI (nth xs x.val) (nth xs y.val)
      simpa [ltOf] using this
    have hsort := sort_cars hl (by omega) hbd
    rw [← hlt'] at hsort
    generalize insertionSort (ltOf fun x y : Fin (m + 1) => cmpI (nth xs x.val) (nth xs y.val)) (allFin m).toArray 0 (m + 1) = d' at hsort ⊢
    have hcl : (carsL xs).length = m + 1 := length_carsL hl (by omega) (fun c hc => by have := hbd c hc; omega)
    have hdl : d'.toList.length = m + 1 := by
      have h5 := congrArg List.length hsort
      rw [List.length_map, hcl] at h5
      exact h5
    have henc : d'.toList.map (encF m) = (carsL xs).map (Value.int .i64) := by
      rw [← hsort, List.map_map]
      rfl
    refine ⟨rfl, ⟨⟨by simp [hcl], .inr ⟨g, cap, _, rfl, hg, heap_sortedE _ d' hh, hnc, hcm, by simpa [putCells] using hcs, ?_⟩⟩, hcl, h4⟩, grownBy_sortedE _ d'⟩
    rw [Nat.mul_one, ← henc]
    have := take_putCellsE (encF m) cur d'.toList (by omega)
    rw [toArr, hdl] at this
    exact this

set_option maxHeartbeats 400000 in
theorem insNone_any (a : Option Addr) (cap : Nat) (fv : Value) (w : World) :
    Calls Try.prog 120 #[.slice a 0 cap, .int .i64 0, .int .i64 0, fv] w fun e w' => e = .returned (.tuple #[]) ∧ w' = w := by
  go_enter Try.func120, Try.ntmps120
  go_wp2
  refine wp_loop_rounds 1 ?_
  rw [rounds_succ]
  go_wp2
  all_goals first | (exfalso; omega) | (go_end0; exact ⟨rfl, rfl⟩)

set_option maxHeartbeats 1000000 in
theorem stableCars_any (B m g cap bx : Nat) (al : Option Addr) (cl : Nat) (xs : List Int) (w : World) (h8 : m + 1 ≤ 8) (hl : xs.length = m + 1) (hbd : ∀ c, c < m + 1 → 0 ≤ nth xs c ∧ nth xs c < (m : Int) + 1)
    (h : Own w B (some ⟨g, 0, none⟩) (m + 1) cap (upto (m + 1))) (hx : Has w al (m + 1) cl xs) (hal : ∀ p, al = some p → p.block ≠ g) (hbx : w.cell? ⟨bx, 0, none⟩ = some (.slice al (m + 1) cl)) (hbg : bx ≠ g) :
    Calls Try.prog 95 #[.slice (some ⟨g, 0, none⟩) (m + 1) cap, .func (.func 96) #[] #[.pointer (some ⟨bx, 0, none⟩)]] w fun e w' =>
      e = .returned (.tuple #[]) ∧ Own w' B (some ⟨g, 0, none⟩) (m + 1) cap (carsL xs) ∧ w.grownBy w' (some g) := by
  have hins := insCars_any B g m cap bx al cl xs w h8 hl hbd h hx hal hbx hbg
  have HI := hid hins
  clear hins h hx hal hbx hbg hbd
  have hst : Calls Try.prog 117 #[.slice (some ⟨g, 0, none⟩) (m + 1) cap, .int .i64 ((m + 1 : Nat) : Int), .func (.func 96) #[] #[.pointer (some ⟨bx, 0, none⟩)]] w fun e w' =>
      e = .returned (.tuple #[]) ∧ Own w' B (some ⟨g, 0, none⟩) (m + 1) cap (carsL xs) ∧ w.grownBy w' (some g) := by
    have hn1 : ¬ (20 : Int) ≤ ((m + 1 : Nat) : Int) := by omega
    have hn2 : ¬ (20 : Int) < ((m + 1 : Nat) : Int) := by omega
    go_enter Try.func117, Try.ntmps117
    go_wp2
    refine wp_loop_rounds 1 ?_
    rw [rounds_succ]
    go_wp2_with (go_at_call 120; refine HI.out.mono ?_; rintro e w1 ⟨rfl, hq1, hq2⟩)
    refine wp_loop_rounds 1 ?_
    rw [rounds_succ]
    go_wp2
    all_goals first | (exfalso; omega) | (go_end0; exact ⟨rfl, hq1, hq2⟩)
  go_enter Try.func95, Try.ntmps95
  go_wp2_with fail
  refine hst.mono ?_
  rintro e w1 ⟨rfl, hq1, hq2⟩
  go_wp2_with fail
  go_end0
  exact ⟨rfl, hq1, hq2⟩

set_option maxHeartbeats 1000000 in
theorem stableNone_any (a : Option Addr) (cap : Nat) (fv : Value) (w : World) :
    Calls Try.prog 95 #[.slice a 0 cap, fv] w fun e w' => e = .returned (.tuple #[]) ∧ w' = w := by
  have hst : Calls Try.prog 117 #[.slice a 0 cap, .int .i64 0, fv] w fun e w' => e = .returned (.tuple #[]) ∧ w' = w := by
    go_enter Try.func117, Try.ntmps117
    go_wp2
    refine wp_loop_rounds 1 ?_
    rw [rounds_succ]
    go_wp2_with (go_at_call 120; refine (insNone_any _ _ _ _).mono ?_; rintro e w1 ⟨rfl, rfl⟩)
    refine wp_loop_rounds 1 ?_
    rw [rounds_succ]
    go_wp2
    all_goals first | (exfalso; omega) | (go_end0; exact ⟨rfl, rfl⟩)
  go_enter Try.func95, Try.ntmps95
  go_wp2_with fail
  refine hst.mono ?_
  rintro e w1 ⟨rfl, rfl⟩
  go_wp2_with fail
  go_end0
  exact ⟨rfl, rfl⟩
end Go.Proofs.Ytakadjhbomggbaa
