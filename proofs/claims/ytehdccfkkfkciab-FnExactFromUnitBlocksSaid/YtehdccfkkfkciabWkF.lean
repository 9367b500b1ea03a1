/- Cars sorted by their favourites on a street of any length, by the contract of the library's stable sort. -/
import Derived.Test.YtehdccfkkfkciabWkS
import Derived.Test.YtehdccfkkfkciabMathFr
import Derived.Test.YtehdccfkkfkciabIdx
import Derived.Test.YtehdccfkkfkciabLawKit
namespace Go.Proofs.Ytehdccfkkfkciab
open Go.RowKit Go.Sort

theorem BlkLt.mono9 {a : Option Addr} {K K' : Nat} (h : BlkLt a K) (hK : K ≤ K') : BlkLt a K' := fun p hp => Nat.lt_of_lt_of_le (h p hp) hK
theorem BlkLt.ne9 {a : Option Addr} {K g : Nat} (h : BlkLt a K) (hg : K ≤ g) : ∀ p, a = some p → p.block ≠ g := fun p hp e => by have := h p hp; omega
theorem cars_of_none {xs : List Int} (h : xs.length = 0) {P : Nat} : carsTo xs P = [] := by
  obtain rfl := List.eq_nil_of_length_eq_zero h
  induction P with
  | zero => rfl
  | succ P ih => simp [carsTo, ih, idxs]
set_option maxHeartbeats 1000000 in
theorem insCarsP_any (P B g m cap bx : Nat) (al : Option Addr) (cl : Nat) (xs : List Int) (w : World) (h8 : m + 1 ≤ 8) (hl : xs.length = m + 1) (hbd : ∀ c, c < m + 1 → 0 ≤ nth xs c ∧ nth xs c < (P : Int))
    (h : Own w B (some ⟨g, 0, none⟩) (m + 1) cap (upto (m + 1))) (hx : Has w al (m + 1) cl xs) (hal : ∀ p, al = some p → p.block ≠ g) (hbx : w.cell? ⟨bx, 0, none⟩ = some (.slice al (m + 1) cl)) (hbg : bx ≠ g) :
    Calls Try.prog 84 #[.slice (some ⟨g, 0, none⟩) (m + 1) cap, .int .i64 0, .int .i64 ((m + 1 : Nat) : Int), .func (.func 70) #[] #[.pointer (some ⟨bx, 0, none⟩)]] w fun e w' =>
      e = .returned (.tuple #[]) ∧ Own w' B (some ⟨g, 0, none⟩) (m + 1) cap (carsTo xs P) ∧ w.grownBy w' (some g) := by
  have hown := h
  obtain ⟨⟨h1, h2⟩, h3, h4⟩ := h
  rcases h2 with ⟨hv, _⟩ | ⟨g', cap', cur, hv, hg, hh, hnc, hcm, hcs, htake⟩
  · simp at hv
  · simp at hv
    obtain ⟨rfl, rfl⟩ := hv
    have hlen : (allFin m).length = m + 1 := by simp [allFin]
    have hH : Holds (encF m) w g 0 (allFin m).toArray := holds_of_cells hh (by rw [hlen, allFin_enc]; simpa using htake)
    have hlt : g < w.heap.size := (Array.getElem?_eq_some_iff.1 hh).1
    have eg : ∀ args w, (callFunc 70 args).run Try.prog w = .ok (.enter 70 args) w := by intro args w; go_simp
    have hcmp : CmpReads Try.prog 70 #[.pointer (some ⟨bx, 0, none⟩)] (encF m) (fun x y => cmpI (nth xs x.val) (nth xs y.val)) g 0 (allFin m).toArray.size w := by
      intro q os dk _ x y
      have hgr : w.grownBy (sortWorld (encF m) w g 0 q dk os) (some g) := grownBy_sortedE (encF m) dk
      have hx' := hx.kept hgr hal
      have hb' : (sortWorld (encF m) w g 0 q dk os).cell? ⟨bx, 0, none⟩ = some (.slice al (m + 1) cl) := hgr.cell hbx (by simpa using hbg)
      refine (wcmp_any bx al (m + 1) cl xs x.val y.val _ hb' hx' x.isLt y.isLt).mono ?_
      rintro e w' ⟨rfl, q2, rfl⟩
      exact ⟨rfl, q2, rfl⟩
    have hs := Try.insertionSortCmpFunc_one (encF m) (fun _ => rfl) (fun x y => cmpI (nth xs x.val) (nth xs y.val)) 70 #[.pointer (some ⟨bx, 0, none⟩)] g 0 cap 0 (m + 1) (allFin m).toArray w eg hcmp hH (Nat.zero_le _) (by simp [allFin]) (by simp [allFin]; omega)
    have hsz : (allFin m).toArray.size = m + 1 := by simp [allFin]
    simp only [hsz] at hs
    refine hs.mono ?_
    rintro e w' ⟨rfl, q, rfl⟩
    rw [← sortWorld_none]
    have hlt' : (ltOf fun x y : Fin (m + 1) => cmpI (nth xs x.val) (nth xs y.val)) = fun x y => decide (nth xs x.val < nth xs y.val) := by
      funext x y
      have := ltOf_cmpI (nth xs x.val) (nth xs y.val)
      simpa [ltOf] using this
    have hsort := sort_carsP hl (by omega) hbd
    rw [← hlt'] at hsort
    generalize insertionSort (ltOf fun x y : Fin (m + 1) => cmpI (nth xs x.val) (nth xs y.val)) (allFin m).toArray 0 (m + 1) = d' at hsort ⊢
    have hcl : (carsTo xs P).length = m + 1 := length_carsP hl (by omega) hbd
    have hdl : d'.toList.length = m + 1 := by
      have h5 := congrArg List.length hsort
      rw [List.length_map, hcl] at h5
      exact h5
    have henc : d'.toList.map (encF m) = (carsTo xs P).map (Value.int .i64) := by
      rw [← hsort, List.map_map]
      rfl
    refine ⟨rfl, ⟨⟨by simp [hcl], .inr ⟨g, cap, _, rfl, hg, heap_sortedE _ d' hh, hnc, hcm, by simpa [putCells] using hcs, ?_⟩⟩, hcl, h4⟩, grownBy_sortedE _ d'⟩
    rw [Nat.mul_one, ← henc]
    have := take_putCellsE (encF m) cur d'.toList (by omega)
    rw [toArr, hdl] at this
    exact this

set_option maxHeartbeats 1000000 in
theorem stableCarsP_any (P B m g cap bx : Nat) (al : Option Addr) (cl : Nat) (xs : List Int) (w : World) (h8 : m + 1 ≤ 8) (hl : xs.length = m + 1) (hbd : ∀ c, c < m + 1 → 0 ≤ nth xs c ∧ nth xs c < (P : Int))
    (h : Own w B (some ⟨g, 0, none⟩) (m + 1) cap (upto (m + 1))) (hx : Has w al (m + 1) cl xs) (hal : ∀ p, al = some p → p.block ≠ g) (hbx : w.cell? ⟨bx, 0, none⟩ = some (.slice al (m + 1) cl)) (hbg : bx ≠ g) :
    Calls Try.prog 69 #[.slice (some ⟨g, 0, none⟩) (m + 1) cap, .func (.func 70) #[] #[.pointer (some ⟨bx, 0, none⟩)]] w fun e w' =>
      e = .returned (.tuple #[]) ∧ Own w' B (some ⟨g, 0, none⟩) (m + 1) cap (carsTo xs P) ∧ w.grownBy w' (some g) := by
  have hins := insCarsP_any P B g m cap bx al cl xs w h8 hl hbd h hx hal hbx hbg
  have HI := hid hins
  clear hins h hx hal hbx hbg hbd
  have hst : Calls Try.prog 80 #[.slice (some ⟨g, 0, none⟩) (m + 1) cap, .int .i64 ((m + 1 : Nat) : Int), .func (.func 70) #[] #[.pointer (some ⟨bx, 0, none⟩)]] w fun e w' =>
      e = .returned (.tuple #[]) ∧ Own w' B (some ⟨g, 0, none⟩) (m + 1) cap (carsTo xs P) ∧ w.grownBy w' (some g) := by
    have hn1 : ¬ (20 : Int) ≤ ((m + 1 : Nat) : Int) := by omega
    have hn2 : ¬ (20 : Int) < ((m + 1 : Nat) : Int) := by omega
    go_enter Try.func80, Try.ntmps80
    go_wp2
    refine wp_loop_rounds 1 ?_
    rw [rounds_succ]
    go_wp2_with (go_at_call 84; refine HI.out.mono ?_; rintro e w1 ⟨rfl, hq1, hq2⟩)
    refine wp_loop_rounds 1 ?_
    rw [rounds_succ]
    go_wp2
    all_goals first | (exfalso; omega) | (go_end0; exact ⟨rfl, hq1, hq2⟩)
  go_enter Try.func69, Try.ntmps69
  go_wp2_with fail
  refine hst.mono ?_
  rintro e w1 ⟨rfl, hq1, hq2⟩
  go_wp2_with fail
  go_end0
  exact ⟨rfl, hq1, hq2⟩

/-- The stable sort of the cars in order. -/
theorem sortCarsP_any (P B n : Nat) (a al : Option Addr) (cap cl bx : Nat) (xs : List Int) (w : World) (h8 : n ≤ 8) (hl : xs.length = n) (hbd : ∀ c, c < n → 0 ≤ nth xs c ∧ nth xs c < (P : Int)) (hBw : B ≤ w.heap.size)
    (h : Own w B a n cap (upto n)) (hx : Has w al n cl xs) (hal : 0 < n → BlkLt al B) (hbx : w.cell? ⟨bx, 0, none⟩ = some (.slice al n cl)) (hbg : bx < B) :
    Calls Try.prog 69 #[.slice a n cap, .func (.func 70) #[] #[.pointer (some ⟨bx, 0, none⟩)]] w fun e w' =>
      e = .returned (.tuple #[]) ∧ Own w' B a n cap (carsTo xs P) ∧ Below B w w' := by
  by_cases hn : n = 0
  · subst hn
    refine (stableNone_any _ _ _ _).mono ?_
    rintro e w1 ⟨rfl, rfl⟩
    exact ⟨rfl, by rw [cars_of_none hl]; exact h, Below.refl _ _⟩
  · obtain ⟨m, rfl⟩ : ∃ m, n = m + 1 := ⟨n - 1, by omega⟩
    obtain ⟨g, rfl, hg1, hg2, _, _⟩ := h.opened (by omega)
    refine (stableCarsP_any P B m g cap bx al cl xs w h8 hl hbd h hx ((hal (by omega)).ne9 hg1) hbx (by omega)).mono ?_
    rintro e w1 ⟨rfl, ho, hgr⟩
    exact ⟨rfl, ho, below_grown hgr hBw (fun k hk => by simp at hk; omega)⟩

set_option maxHeartbeats 1000000 in
theorem carsByP_any (P : Nat) (a : Option Addr) (n cap : Nat) (xs : List Int) (w : World) (h : Has w a n cap xs) (h8 : n ≤ 8) (hbd : ∀ c, c < n → 0 ≤ nth xs c ∧ nth xs c < (P : Int)) :
    Calls Try.prog 38 #[.slice a n cap] w fun e w' => ∃ a2 c2, e = .returned (.slice a2 n c2) ∧ Own w' w.heap.size a2 n c2 (carsTo xs P) ∧ Below w.heap.size w w' := by
  have HL := hid h.len
  have HBD := hid hbd
  have hle := h.le
  clear hbd
  go_enter Try.func38, Try.ntmps38
  go_wp2_with fail
  generalize hW : w.alloc (.cells #[.slice a n cap] 25) = W
  have hbW : Below w.heap.size w W := by rw [← hW]; exact (Below.refl _ w).alloc (Nat.le_refl _) _
  have hsz : W.heap.size = w.heap.size + 1 := by rw [← hW]; simp
  have hbx : W.cell? ⟨w.heap.size, 0, none⟩ = some (.slice a n cap) := by rw [← hW, World.cell?_alloc_at _ _ _ _ rfl]; rfl
  clear hW
  refine (indices_any n _ (by omega)).mono ?_
  rintro e w2 ⟨a2, c2, rfl, own2, st⟩
  have hs2 := st.size
  replace hbx : w2.cell? ⟨w.heap.size, 0, none⟩ = some (.slice a n cap) := by rw [st.cell (p := ⟨w.heap.size, 0, none⟩) (by simp; omega)]; exact hbx
  have hb2 := hbW.trans (st.mono hbW.size)
  clear st hbW
  go_wp2_with fail
  refine (sortCarsP_any P W.heap.size n a2 a c2 cap w.heap.size xs w2 h8 HL.out HBD.out hs2 own2 (h.below hb2 (Nat.le_refl _)) (fun hn => (h.lt hn).mono9 (by omega)) hbx (by omega)).mono ?_
  rintro e w3 ⟨rfl, own3, st⟩
  have hb3 := hb2.trans (st.mono (by omega))
  clear st hb2 own2
  go_wp2_with fail
  go_ret
  exact ⟨_, _, rfl, own3.mono (by omega), hb3⟩
end Go.Proofs.Ytehdccfkkfkciab
