/- Counts by total distances: the program's functions, by their contracts. -/
import Derived.Test.YtfkejkkplafciacHelp
import Derived.Test.YtfkejkkplafciacMathR
import Derived.Test.YtfkejkkplafciacShelfW
import Derived.Sort.OwnSortedInts
import Derived.Test.YtfkejkkplafciacSpecR
import Derived.Test.YtfkejkkplafciacImplN
import Derived.Test.YtfkejkkplafciacImplNx
import Derived.Test.YtfkejkkplafciacSpecAll
import Derived.Test.YtfkejkkplafciacCopy
import Derived.Test.YtfkejkkplafciacSpecDist
namespace Go.Proofs.Ytfkejkkplafciac
open Go.RowKit Go.Sort

/-- A slice of the call's own of cells of one kind. -/
def OwnE (E : TypeId) (w : World) (B : Nat) (a : Option Addr) (n cap : Nat) (us : List Value) : Prop := w.ownsRow B E 1 (.slice a n cap) n us ∧ us.length = n ∧ n ≤ 2097152
theorem OwnE.below {E : TypeId} {w w' : World} {B K : Nat} {a : Option Addr} {n cap : Nat} {us : List Value} (h : OwnE E w B a n cap us) (hb : Go.RowKit.Below K w w') (hB : w.heap.size ≤ K) : OwnE E w' B a n cap us := by
  obtain ⟨⟨h1, h2⟩, h3⟩ := h
  refine ⟨⟨h1, ?_⟩, h3⟩
  rcases h2 with h2 | ⟨g, cap', cur, hv, hg, hh, r⟩
  · exact .inl h2
  · exact .inr ⟨g, cap', cur, hv, hg, by rw [hb.block g (by have := (Array.getElem?_eq_some_iff.1 hh).1; omega)]; exact hh, r⟩
theorem OwnE.cell {E : TypeId} {w : World} {B g n cap : Nat} {us : List Value} (h : OwnE E w B (some ⟨g, 0, none⟩) n cap us) {i : Nat} (hi : i < n) : w.cell? ⟨g, i, none⟩ = us[i]? := h.1.cellAt i (by omega)
theorem OwnE.lt {E : TypeId} {w : World} {B g n cap : Nat} {us : List Value} (h : OwnE E w B (some ⟨g, 0, none⟩) n cap us) : B ≤ g ∧ g < w.heap.size := h.1.lt g rfl

theorem holds_of_cells {α : Type} [Inhabited α] {enc : α → Value} {w : World} {g : Nat} {cur : Array Value} {e : TypeId} {ds : List α} (hb : w.heap[g]? = some (.cells cur e (0, 0))) (ht : cur.toList.take ds.length = ds.map enc) : Holds enc w g 0 ds.toArray := by
  intro j hj
  have hj' : j < ds.length := by simpa using hj
  refine ⟨?_, by simp [World.frozen?, hb]⟩
  have h1 : (cur.toList.take ds.length)[j]? = (ds.map enc)[j]? := by rw [ht]
  rw [List.getElem?_take_of_lt hj'] at h1
  simp only [World.cell?, hb, Nat.zero_add]
  simp only [Option.isSome_none, Bool.false_eq_true, if_false]
  rw [← Array.getElem?_toList, h1]
  simp [hj']
theorem heap_sortedE {α : Type} [Inhabited α] (enc : α → Value) {w : World} {g n : Nat} {os : Array Obj} {cur : Array Value} {e : TypeId} {fr : Nat × Nat} (d : Array α) (hb : w.heap[g]? = some (.cells cur e fr)) :
    (grow (putRow enc (Sort.ahead w n) g 0 d) os).heap[g]? = some (.cells (putCells enc 0 d cur) e fr) := by
  have hg : g < w.heap.size := (Array.getElem?_eq_some_iff.1 hb).1
  rw [heap_grow_old _ _ (by simpa using hg)]
  simp [putRow, mapBlock, Sort.ahead, Array.getElem?_modify, hb, onCells]
theorem grownBy_sortedE {α : Type} [Inhabited α] (enc : α → Value) {w : World} {g n : Nat} {os : Array Obj} (d : Array α) : w.grownBy (grow (putRow enc (Sort.ahead w n) g 0 d) os) (some g) := by
  refine ⟨rfl, rfl, rfl, by simp, fun k hk hne => ?_⟩
  rw [heap_grow_old _ _ (by simpa using hk)]
  have : g ≠ k := fun e => hne (by rw [e])
  simp [putRow, mapBlock, Sort.ahead, Array.getElem?_modify, this]
theorem take_putCellsE {α : Type} [Inhabited α] (enc : α → Value) (cur : Array Value) (ts : List α) (h : ts.length ≤ cur.size) : (putCells enc 0 ts.toArray cur).toList.take ts.length = ts.map enc := by
  apply List.ext_getElem?
  intro j
  by_cases hj : j < ts.length
  · rw [List.getElem?_take_of_lt hj, Array.getElem?_toList]
    simp [putCells, hj, show j < cur.size by omega]
  · rw [List.getElem?_take_eq_none (by omega), List.getElem?_eq_none (by simp; omega)]
theorem toArr {α : Type} (d : Array α) : d.toList.toArray = d := by simp
/-- A permutation, in order: what a sort leaves. -/
theorem sorted_list {α : Type} [Inhabited α] {lt : α → α → Bool} {ds : List α} {d' : Array α} (hp : PermIn 0 ds.length ds.toArray d') (hs : SortedIn lt 0 ds.length d') : d'.toList.Perm ds ∧ d'.toList.Pairwise (fun x y => lt y x = false) := by
  obtain ⟨h1, _, h3⟩ := hp
  have hsz : d'.size = ds.length := by simpa using h1
  constructor
  · have e1 : d'.extract 0 ds.length = d' := by rw [← hsz]; simp
    have e2 : ds.toArray.extract 0 ds.length = ds.toArray := by simp
    rw [e1, e2] at h3
    simpa using h3
  · rw [List.pairwise_iff_getElem]
    intro i j hi hj hij
    have := hs i j (Nat.zero_le _) hij (by simpa [hsz] using hj)
    have hi' : i < d'.size := by simpa using hi
    have hj' : j < d'.size := by simpa using hj
    rw [getElem!_pos d' j hj', getElem!_pos d' i hi'] at this
    simpa using this

/-- The order of integers, as a comparison tells it. -/
def cmpI (x y : Int) : Int := if x < y then -1 else if y < x then 1 else 0
theorem ltOf_cmpI (x y : Int) : ltOf cmpI x y = decide (x < y) := by
  unfold ltOf cmpI
  by_cases h : x < y
  · simp [h]
  · by_cases h2 : y < x
    · simp [h, h2]
    · simp [h, h2]
theorem swo_cmpI : SWO (ltOf cmpI) := ⟨fun x => by simp [ltOf_cmpI], fun x y z h1 h2 => by simp [ltOf_cmpI] at *; omega, fun x y z h1 h2 => by simp [ltOf_cmpI] at *; omega⟩

theorem wishes_sorted {ds : List Int} {d' : Array Int} (hp : PermIn 0 ds.length ds.toArray d') (hs : SortedIn (ltOf cmpI) 0 ds.length d') : d'.toList = insSort ds := by
  obtain ⟨h1, h2⟩ := sorted_list hp hs
  refine sorted_unique (h2.imp fun {x y} h => ?_) (insSort_sorted ds) (h1.trans (insSort_perm ds).symm)
  simp [ltOf_cmpI] at h
  omega

end Go.Proofs.Ytfkejkkplafciac

namespace Go.Proofs.Ytfkejkkplafciac
open Go.RowKit

theorem ordersOf_yes {xs : List Int} {n : Nat} (h : isPark xs = true) (hn : xs.length = n) : ordersOf xs = ((ordersN xs n : Int), true) := by simp [ordersOf, h, hn]
theorem ordersOf_no {xs : List Int} (h : ¬ isPark xs = true) : ordersOf xs = (0, false) := by simp [ordersOf, h]
theorem ordersN_none (m : Nat) : ordersN [] m = 1 := by
  unfold ordersN
  have := occs_more (s := []) (m := 0) m (fun v _ _ => by simp [occ])
  rw [Nat.zero_add] at this
  rw [this]
  rfl
theorem count_take {xs : List Int} {k : Nat} (h : k < xs.length) (x : Int) : (xs.take (k + 1)).count x = (xs.take k).count x + if nth xs k = x then 1 else 0 := by
  rw [take_succ_nth h, List.count_append, List.count_singleton]
  simp only [beq_iff_eq]

end Go.Proofs.Ytfkejkkplafciac

namespace Go.Proofs.Ytfkejkkplafciac
open Go.RowKit

theorem cells_add {w : World} {b off n : Nat} {us : List Value} (h : ∀ i, i < n → w.cell? ⟨b, off + i, none⟩ = us[i]?) (hl : us.length = n) : ∀ j v, us[j]? = some v → w.cell? ⟨b, off + j, none⟩ = some v := by
  intro j v hv
  have hj := (List.getElem?_eq_some_iff.1 hv).1
  rw [h j (by omega), hv]

theorem runs_le (s : List Int) : ∀ k i, 0 ≤ nth (runsTo s k) i ∧ nth (runsTo s k) i ≤ k
  | 0, i => by simp [runsTo, nth]
  | k + 1, i => by
    have ih := runs_le s k
    simp only [runsTo]
    split
    · by_cases e : i < (runsTo s k).length
      · rw [nth_append_left e]; have := ih i; omega
      · by_cases e2 : i = (runsTo s k).length
        · subst e2; rw [nth_append_at]; omega
        · have : nth (runsTo s k ++ [1]) i = 0 := by simp [nth, List.getElem?_append, e, show ¬ i - (runsTo s k).length = 0 by omega]
          omega
    · by_cases h0 : (runsTo s k).length = 0
      · have : runsTo s k = [] := List.eq_nil_of_length_eq_zero h0
        rw [this]
        simp [nth]
        omega
      · rw [nth_set (by omega)]
        split
        · have := ih ((runsTo s k).length - 1); omega
        · have := ih i; omega
theorem set_last0 (rs : List Int) : (rs ++ [0]).set rs.length 1 = rs ++ [1] := by
  rw [List.set_append_right _ _ (Nat.le_refl _)]
  simp

/-! ### Groups -/
theorem groups_cars (gs : List Int) : (groups gs).2 = (gs.map Int.toNat).sum := by
  have : ∀ (gs : List Int) (r : Nat × Nat), (gs.foldl (fun r g => (r.1 * chs (r.2 + g.toNat) g.toNat, r.2 + g.toNat)) r).2 = r.2 + (gs.map Int.toNat).sum := by
    intro gs
    induction gs with
    | nil => intro r; simp
    | cons g gs ih => intro r; simp only [List.foldl_cons, List.map_cons, List.sum_cons]; rw [ih]; simp only; omega
  have h := this gs (1, 0)
  simpa [groups] using h
theorem groups_take_le (gs : List Int) (k : Nat) : (groups (gs.take k)).2 ≤ (groups gs).2 := by
  rw [groups_cars, groups_cars]
  conv => rhs; rw [← List.take_append_drop k gs]
  rw [List.map_append, List.sum_append]
  omega
theorem groups_succ {gs : List Int} {k : Nat} (h : k < gs.length) : groups (gs.take (k + 1)) = ((groups (gs.take k)).1 * chs ((groups (gs.take k)).2 + (nth gs k).toNat) (nth gs k).toNat, (groups (gs.take k)).2 + (nth gs k).toNat) := by
  rw [take_succ_nth h, groups_snoc]
theorem groups_small {gs : List Int} (h : (groups gs).2 ≤ 8) : (groups gs).1 ≤ 40320 := by
  have h1 := groups_fct _ gs rfl (by omega)
  have h2 : ∀ n, n < 9 → fct n ≤ 40320 := by decide
  have h3 := h2 (groups gs).2 (by omega)
  have h4 : 0 < fcts gs := by
    unfold fcts
    have : ∀ (gs : List Int) (r : Nat), 0 < r → 0 < gs.foldl (fun r g => r * fct g.toNat) r := by
      intro gs
      induction gs with
      | nil => intro r hr; exact hr
      | cons g gs ih => intro r hr; exact ih _ (Nat.mul_pos hr (fct_pos _))
    exact this gs 1 (by omega)
  have := Nat.le_mul_of_pos_right (groups gs).1 h4
  omega
theorem occs_nonneg (s : List Int) (m : Nat) : ∀ x ∈ occs s m, 0 ≤ x := by
  intro x hx
  unfold occs at hx
  obtain ⟨v, _, rfl⟩ := List.mem_map.1 (List.mem_filter.1 hx).1
  unfold occ
  omega
theorem orders_runs {xs : List Int} {n : Nat} (hp : isPark xs = true) (hn : xs.length = n) : runsTo (insSort xs) n = occs xs n ∧ ordersOf xs = (((groups (occs xs n)).1 : Int), true) ∧ (groups (occs xs n)).2 = n ∧ n ≤ 8 := by
  obtain ⟨h8, hb⟩ := isPark_bounds hp
  have hb' : ∀ x ∈ xs, 0 ≤ x ∧ x < (n : Int) := fun x hx => by have := hb x hx; omega
  have hperm := insSort_perm xs
  have h1 := runs_all (s := insSort xs) (m := n) (insSort_sorted xs) (fun x hx => hb' x (hperm.mem_iff.1 hx))
  rw [length_insSort, hn, occs_perm hperm] at h1
  refine ⟨h1, by rw [ordersOf_yes hp hn]; rfl, ?_, by omega⟩
  rw [groups_sum, sum_counts xs hb', hn]

end Go.Proofs.Ytfkejkkplafciac

namespace Go.Proofs.Ytfkejkkplafciac
open Go.RowKit

set_option maxHeartbeats 4000000 in
theorem allNext_any (n : Nat) (L : List (List Int)) (hch : Chain (fun xs => nextP xs xs.length) L) (h8 : n ≤ 8) (hq : L.length ≤ 100000) (hv : ∀ k, k < L.length → (L.getD k []).length = n ∧ ∀ i, i < n → 0 ≤ nth (L.getD k []) i ∧ nth (L.getD k []) i ≤ 8)
    (w0 w : World) (a : Option Addr) (m cap : Nat) (xs : List Int) (hb0 : Below w0.heap.size w0 w) (hfirst : Own w w0.heap.size a m cap xs) (hx : L.getD 0 [] = xs) :
    Calls Try.prog 50 #[.slice a m cap, .func (.func 47) #[] #[]] w (PostRowsOnly w0 L) := by
  obtain ⟨hL0, hL1, hL2⟩ := hch
  have H1 := hid hL1
  have H2 := hid hL2
  have HV := hid hv
  have HX := hid hx
  clear hL1 hL2 hv hx
  go_enter Try.func50, Try.ntmps50
  go_wp2_with fail
  go_loopw [5, 6, 7] (fun o s b wr => ∃ (k : Nat) (wk : World) (a' : Option Addr) (cap' : Nat) (rs : List Rw) (a1 : Option Addr) (m1 c1 : Nat) (ys : List Int) (ok : Bool), k ≤ L.length ∧ o = .slice a' k cap' ∧ s = .slice a1 m1 c1 ∧ b = .bool ok ∧ Hid (ok = decide (k < L.length)) ∧
    OwnR wk w0.heap.size a' k cap' rs ∧ Hid (numsOf rs = L.take k) ∧ Below wk.heap.size wk wr ∧ w0.heap.size ≤ wk.heap.size ∧ Own wr wk.heap.size a1 m1 c1 ys ∧ Hid (k < L.length → L.getD k [] = ys) ∧ Below w0.heap.size w0 wr) (fun o _ _ _ => L.length + 1 - (match o with | .slice _ k _ => k | _ => 0))
  case atStart => exact ⟨0, w0, none, 0, [], a, m, cap, xs, true, Nat.zero_le _, rfl, rfl, rfl, hid (by simp [hL0]), OwnR.nil _ _, hid rfl, hb0, Nat.le_refl _, hfirst, hid (fun _ => HX.out), hb0⟩
  case round =>
    clear hb0 hfirst
    obtain ⟨k, wk, a', cap', rs, a1, m1, c1, ys, ok, hk, rfl, rfl, rfl, HOK, hrows, HR, hbk, hwk, hys, HY, hb⟩ := hrel
    by_cases hlt : k < L.length
    · obtain rfl : ok = true := by rw [HOK.out]; simp [hlt]
      obtain ⟨v1, v2⟩ := HV.out k hlt
      have hyl := HY.out hlt
      rw [hyl] at v1 v2
      obtain rfl : n = m1 := by rw [← v1]; exact hys.len
      have V2 := hid v2
      have V1 := hid v1
      have HYL := hid hyl
      have HT := hid (take_getD hlt)
      have HR' : Hid (numsOf rs ++ [ys] = L.take (k + 1)) := hid (by rw [HT.out, HR.out, HYL.out])
      have hlen := hrows.len
      have HLEN := hid hlen
      clear v1 v2 hyl hlen
      go_wp2_with (at_builtin; refine wpList_append_row wk wr rfl _ _ rfl w0.heap.size _ _ _ _ _ _ _ _ rfl rfl hrows hbk hys (by omega) hwk ?_; intro a2 cap2 w2 hrows2 hb2)
      have hrow : Has w2 a1 n c1 ys := by
        have := hrows2.has.2.2.2.2.2 k (by omega)
        rw [nthR_append_right (by rw [HLEN.out]; exact Nat.le_refl _), HLEN.out, Nat.sub_self, nthR_one] at this
        simpa [V1.out] using this
      refine (pnext_any _ _ _ _ _ hrow h8 V2.out).mono ?_
      have hw2 : w0.heap.size ≤ w2.heap.size := Nat.le_trans (Nat.le_trans hwk hbk.size) hb2.size
      have hbw := hb.trans hb2
      by_cases hk1 : k + 1 < L.length
      · have HF := H1.out k hk1
        rw [HYL.out] at HF
        simp only [V1.out] at HF
        rw [HF]
        rintro e w3 ⟨a3, m3, cap3, rfl, hown3, hb3⟩
        clear HF
        go_wp2_with fail
        go_roundw
        case rel => exact ⟨k + 1, w2, a2, cap2, _, a3, m3, cap3, _, true, by omega, rfl, rfl, rfl, hid (by simp [hk1]), hrows2, hid (by rw [← HR'.out]; simp [numsOf]), hb3, hw2, hown3, hid (fun _ => rfl), hbw.trans (hb3.mono hw2)⟩
        case measure => simp; omega
      · have HF := H2.out
        rw [show L.length - 1 = k by omega, HYL.out] at HF
        simp only [V1.out] at HF
        rw [HF]
        rintro e w3 ⟨a3, m3, cap3, rfl, hown3, hb3⟩
        clear HF
        go_wp2_with fail
        go_roundw
        case rel => exact ⟨k + 1, w2, a2, cap2, _, a3, m3, cap3, _, false, by omega, rfl, rfl, rfl, hid (by simp [hk1]), hrows2, hid (by rw [← HR'.out]; simp [numsOf]), hb3, hw2, hown3, hid (fun h => absurd h hk1), hbw.trans (hb3.mono hw2)⟩
        case measure => simp; omega
    · obtain rfl : ok = false := by rw [HOK.out]; simp [hlt]
      have HE : Hid (numsOf rs = L) := hid (by rw [HR.out, List.take_of_length_le (by omega)])
      go_wp2_with fail
      go_ret
      exact ⟨a', k, cap', rs, rfl, hrows.below hbk (Nat.le_refl _), HE.out, hb⟩

set_option maxHeartbeats 4000000 in
theorem allSort_any (n : Nat) (L : List (List Int)) (hch : Chain (fun xs => nextS xs xs.length) L) (h8 : n ≤ 8) (hq : L.length ≤ 100000) (hv : ∀ k, k < L.length → (L.getD k []).length = n ∧ ∀ i, i < n → 0 ≤ nth (L.getD k []) i ∧ nth (L.getD k []) i ≤ 8)
    (w0 w : World) (a : Option Addr) (m cap : Nat) (xs : List Int) (hb0 : Below w0.heap.size w0 w) (hfirst : Own w w0.heap.size a m cap xs) (hx : L.getD 0 [] = xs) :
    Calls Try.prog 50 #[.slice a m cap, .func (.func 52) #[] #[]] w (PostRowsOnly w0 L) := by
  obtain ⟨hL0, hL1, hL2⟩ := hch
  have H1 := hid hL1
  have H2 := hid hL2
  have HV := hid hv
  have HX := hid hx
  clear hL1 hL2 hv hx
  go_enter Try.func50, Try.ntmps50
  go_wp2_with fail
  go_loopw [5, 6, 7] (fun o s b wr => ∃ (k : Nat) (wk : World) (a' : Option Addr) (cap' : Nat) (rs : List Rw) (a1 : Option Addr) (m1 c1 : Nat) (ys : List Int) (ok : Bool), k ≤ L.length ∧ o = .slice a' k cap' ∧ s = .slice a1 m1 c1 ∧ b = .bool ok ∧ Hid (ok = decide (k < L.length)) ∧
    OwnR wk w0.heap.size a' k cap' rs ∧ Hid (numsOf rs = L.take k) ∧ Below wk.heap.size wk wr ∧ w0.heap.size ≤ wk.heap.size ∧ Own wr wk.heap.size a1 m1 c1 ys ∧ Hid (k < L.length → L.getD k [] = ys) ∧ Below w0.heap.size w0 wr) (fun o _ _ _ => L.length + 1 - (match o with | .slice _ k _ => k | _ => 0))
  case atStart => exact ⟨0, w0, none, 0, [], a, m, cap, xs, true, Nat.zero_le _, rfl, rfl, rfl, hid (by simp [hL0]), OwnR.nil _ _, hid rfl, hb0, Nat.le_refl _, hfirst, hid (fun _ => HX.out), hb0⟩
  case round =>
    clear hb0 hfirst
    obtain ⟨k, wk, a', cap', rs, a1, m1, c1, ys, ok, hk, rfl, rfl, rfl, HOK, hrows, HR, hbk, hwk, hys, HY, hb⟩ := hrel
    by_cases hlt : k < L.length
    · obtain rfl : ok = true := by rw [HOK.out]; simp [hlt]
      obtain ⟨v1, v2⟩ := HV.out k hlt
      have hyl := HY.out hlt
      rw [hyl] at v1 v2
      obtain rfl : n = m1 := by rw [← v1]; exact hys.len
      have V2 := hid v2
      have V1 := hid v1
      have HYL := hid hyl
      have HT := hid (take_getD hlt)
      have HR' : Hid (numsOf rs ++ [ys] = L.take (k + 1)) := hid (by rw [HT.out, HR.out, HYL.out])
      have hlen := hrows.len
      have HLEN := hid hlen
      clear v1 v2 hyl hlen
      go_wp2_with (at_builtin; refine wpList_append_row wk wr rfl _ _ rfl w0.heap.size _ _ _ _ _ _ _ _ rfl rfl hrows hbk hys (by omega) hwk ?_; intro a2 cap2 w2 hrows2 hb2)
      have hrow : Has w2 a1 n c1 ys := by
        have := hrows2.has.2.2.2.2.2 k (by omega)
        rw [nthR_append_right (by rw [HLEN.out]; exact Nat.le_refl _), HLEN.out, Nat.sub_self, nthR_one] at this
        simpa [V1.out] using this
      refine (pnextSorted_any _ _ _ _ _ hrow h8 V2.out).mono ?_
      have hw2 : w0.heap.size ≤ w2.heap.size := Nat.le_trans (Nat.le_trans hwk hbk.size) hb2.size
      have hbw := hb.trans hb2
      by_cases hk1 : k + 1 < L.length
      · have HF := H1.out k hk1
        rw [HYL.out] at HF
        simp only [V1.out] at HF
        rw [HF]
        rintro e w3 ⟨a3, m3, cap3, rfl, hown3, hb3⟩
        clear HF
        go_wp2_with fail
        go_roundw
        case rel => exact ⟨k + 1, w2, a2, cap2, _, a3, m3, cap3, _, true, by omega, rfl, rfl, rfl, hid (by simp [hk1]), hrows2, hid (by rw [← HR'.out]; simp [numsOf]), hb3, hw2, hown3, hid (fun _ => rfl), hbw.trans (hb3.mono hw2)⟩
        case measure => simp; omega
      · have HF := H2.out
        rw [show L.length - 1 = k by omega, HYL.out] at HF
        simp only [V1.out] at HF
        rw [HF]
        rintro e w3 ⟨a3, m3, cap3, rfl, hown3, hb3⟩
        clear HF
        go_wp2_with fail
        go_roundw
        case rel => exact ⟨k + 1, w2, a2, cap2, _, a3, m3, cap3, _, false, by omega, rfl, rfl, rfl, hid (by simp [hk1]), hrows2, hid (by rw [← HR'.out]; simp [numsOf]), hb3, hw2, hown3, hid (fun h => absurd h hk1), hbw.trans (hb3.mono hw2)⟩
        case measure => simp; omega
    · obtain rfl : ok = false := by rw [HOK.out]; simp [hlt]
      have HE : Hid (numsOf rs = L) := hid (by rw [HR.out, List.take_of_length_le (by omega)])
      go_wp2_with fail
      go_ret
      exact ⟨a', k, cap', rs, rfl, hrows.below hbk (Nat.le_refl _), HE.out, hb⟩

theorem chain_next {n : Nat} (h8 : n ≤ 8) : Chain (fun xs => nextP xs xs.length) (listL n n []) := by
  obtain ⟨⟨c1, c2, c3⟩, _, _, hp⟩ := all_chain h8
  refine ⟨c1, fun k hk => ?_, ?_⟩
  · show nextP _ _ = _
    rw [nextP_eq (hp k (by omega)).1]
    exact c2 k hk
  · show nextP _ _ = _
    rw [nextP_eq (hp _ (by omega)).1]
    exact c3
theorem cnt_le5 {n : Nat} (h : n ≤ 5) : cnt n ≤ 1296 := by
  have : ∀ n, n < 6 → cnt n ≤ 1296 := by decide +kernel
  exact this n (by omega)

set_option maxHeartbeats 400000 in
theorem allParking_any (n : Int) (w : World) : Calls Try.prog 24 #[.int .i64 n] w (PostRows w (allOf n)) := by
  by_cases h1 : 0 ≤ n
  · by_cases h2 : n ≤ 5
    · obtain ⟨m, rfl⟩ : ∃ m : Nat, n = (m : Int) := ⟨n.toNat, by omega⟩
      have hm : m ≤ 5 := by omega
      have HA := hid (allOf_yes (inB_iff.2 ⟨h1, h2⟩))
      obtain ⟨_, hf, hl, hp⟩ := all_chain (n := m) (by omega)
      have hc5 := cnt_le5 hm
      have HF := hid hf
      have HC := hid (chain_next (n := m) (by omega))
      have HV : Hid (∀ k, k < (listL m m []).length → ((listL m m []).getD k []).length = m ∧ ∀ i, i < m → 0 ≤ nth ((listL m m []).getD k []) i ∧ nth ((listL m m []).getD k []) i ≤ 8) := hid (fun k hk => ⟨(hp k hk).2, (parks_small (hp k hk).1 (hp k hk).2).2⟩)
      have HL : Hid ((listL m m []).length ≤ 100000) := hid (by omega)
      clear hf hl hp
      go_enter Try.func24, Try.ntmps24
      go_wp2_with (refine wpList_make_intsT 49 Try.underlying49 _ rfl _ _ rfl m rfl rfl (by omega) ?_; intro a1 cap1 w1 hown1 hb1)
      refine (allNext_any m (listL m m []) HC.out (by omega) HL.out HV.out w _ _ _ _ _ hb1 hown1 HF.out).mono ?_
      rintro e w2 ⟨a2, q2, cap2, rs2, rfl, hown2, hn2, hb2⟩
      go_wp2_with fail
      go_ret2
      exact postRows HA.out hown2 hn2 hb2
    · have HA := hid (allOf_no (n := n) (by rw [Bool.not_eq_true, inB_not]; omega))
      go_enter Try.func24, Try.ntmps24
      go_wp2_with fail
      go_ret2
      exact postRows_no HA.out (Below.refl _ _)
  · have HA := hid (allOf_no (n := n) (by rw [Bool.not_eq_true, inB_not]; omega))
    go_enter Try.func24, Try.ntmps24
    go_wp2_with fail
    go_ret2
    exact postRows_no HA.out (Below.refl _ _)

theorem allSortedOf_yes {n : Nat} (h : inB (n : Int) 0 6 = true) : allSortedOf n = (sortL n [], true) := by simp [allSortedOf, h]
theorem allSortedOf_no {n : Int} (h : ¬ inB n 0 6 = true) : allSortedOf n = ([], false) := by simp [allSortedOf, h]
theorem sorted_facts {n : Nat} (h : n ≤ 6) : Chain (fun xs => nextS xs xs.length) (sortL n []) ∧ (sortL n []).getD 0 [] = List.replicate n 0 ∧ (sortL n []).length ≤ 132 ∧
    ∀ k, k < (sortL n []).length → ((sortL n []).getD k []).length = n ∧ ∀ i, i < n → 0 ≤ nth ((sortL n []).getD k []) i ∧ nth ((sortL n []).getD k []) i ≤ 8 := by
  obtain ⟨c1, c2, c3, c4⟩ := sorted_chain n (by omega)
  refine ⟨chain_of c1, c2, c3, fun k hk => ?_⟩
  have hm : (sortL n []).getD k [] ∈ sortL n [] := by simp [hk]
  have := List.all_eq_true.1 c4 _ hm
  simp only [Bool.and_eq_true, decide_eq_true_eq] at this
  refine ⟨this.1, fun i hi => ?_⟩
  have := allB_nth this.2 (k := i) (by omega)
  omega

set_option maxHeartbeats 400000 in
theorem allSorted_any (n : Int) (w : World) : Calls Try.prog 29 #[.int .i64 n] w (PostRows w (allSortedOf n)) := by
  by_cases h1 : 0 ≤ n
  · by_cases h2 : n ≤ 6
    · obtain ⟨m, rfl⟩ : ∃ m : Nat, n = (m : Int) := ⟨n.toNat, by omega⟩
      have hm : m ≤ 6 := by omega
      have HA := hid (allSortedOf_yes (inB_iff.2 ⟨h1, h2⟩))
      obtain ⟨hc, hf, hl, hp⟩ := sorted_facts hm
      have HF := hid hf
      have HC := hid hc
      have HV := hid hp
      have HL : Hid ((sortL m []).length ≤ 100000) := hid (by omega)
      clear hf hl hp hc
      go_enter Try.func29, Try.ntmps29
      go_wp2_with (refine wpList_make_intsT 49 Try.underlying49 _ rfl _ _ rfl m rfl rfl (by omega) ?_; intro a1 cap1 w1 hown1 hb1)
      refine (allSort_any m (sortL m []) HC.out (by omega) HL.out HV.out w _ _ _ _ _ hb1 hown1 HF.out).mono ?_
      rintro e w2 ⟨a2, q2, cap2, rs2, rfl, hown2, hn2, hb2⟩
      go_wp2_with fail
      go_ret2
      exact postRows HA.out hown2 hn2 hb2
    · have HA := hid (allSortedOf_no (n := n) (by rw [Bool.not_eq_true, inB_not]; omega))
      go_enter Try.func29, Try.ntmps29
      go_wp2_with fail
      go_ret2
      exact postRows_no HA.out (Below.refl _ _)
  · have HA := hid (allSortedOf_no (n := n) (by rw [Bool.not_eq_true, inB_not]; omega))
    go_enter Try.func29, Try.ntmps29
    go_wp2_with fail
    go_ret2
    exact postRows_no HA.out (Below.refl _ _)
end Go.Proofs.Ytfkejkkplafciac

namespace Go.Proofs.Ytfkejkkplafciac
open Go.RowKit Go.Sort

theorem part_le {xs : List Int} (h : ∀ i, i < xs.length → 0 ≤ nth xs i ∧ nth xs i ≤ 8) : ∀ k, k ≤ xs.length → 0 ≤ total (xs.take k) ∧ total (xs.take k) ≤ 8 * k ∧ 0 ≤ total (upto k) ∧ total (upto k) ≤ k * xs.length
  | 0, _ => by simp [total, upto]
  | k + 1, hk => by
    have ih := part_le h k (by omega)
    have hx := h k (by omega)
    rw [total_succ (by omega), upto_succ, total_snoc, show ((k + 1 : Nat) : Int) = (k : Int) + 1 by omega, Int.add_mul, Int.mul_add]
    omega

set_option maxHeartbeats 800000 in
theorem ptotal_any (a : Option Addr) (n cap : Nat) (xs : List Int) (w : World) (h : Has w a n cap xs) (h8 : n ≤ 8) (hx : ∀ i, i < n → 0 ≤ nth xs i ∧ nth xs i ≤ 8) :
    Calls Try.prog 78 #[.slice a n cap] w fun e w' => e = .returned (.int .i64 (tot xs)) ∧ w = w' := by
  have HLEN := hid h.len
  have HPL := hid (part_le (xs := xs) (by rw [h.len]; exact hx))
  have HX := hid hx
  have HC := hid h.2.2.2.2
  clear hx
  go_enter Try.func78, Try.ntmps78
  go_wp2_with fail
  go_loop [3, 8] (fun s i => ∃ k : Nat, k ≤ n ∧ i = .int .i64 (k : Int) ∧ s = .int .i64 (total (upto k) - total (xs.take k))) (fun _ i => n - (intOf i).toNat)
  case atStart => exact ⟨0, Nat.zero_le _, rfl, by simp [total, upto]⟩
  case round =>
    obtain ⟨k, hk, rfl, rfl⟩ := hrel
    obtain ⟨t0, t1, t2, t3⟩ := HPL.out k (by rw [HLEN.out]; exact hk)
    have t4 : (k : Int) * (xs.length : Int) ≤ 64 := by
      have := Nat.mul_le_mul (show k ≤ 8 by omega) (show xs.length ≤ 8 by rw [HLEN.out]; exact h8)
      rw [← Int.natCast_mul]
      omega
    have t5 : total (upto k) ≤ 64 := by omega
    by_cases hlt : k < n
    · obtain ⟨b, off, rfl, hbb, hc⟩ := HC.out (by omega)
      have hck := hc k hlt
      obtain ⟨x0, x1⟩ := HX.out k hlt
      have HS := hid (total_succ (xs := xs) (k := k) (by rw [HLEN.out]; omega))
      have HU : Hid (total (upto (k + 1)) = total (upto k) + (k : Int)) := hid (by rw [upto_succ, total_snoc])
      clear hc t3 t4
      generalize total (upto k) = u at *
      generalize total (xs.take k) = v at *
      go_wp2_with fail
      go_round
      case rel => exact ⟨k + 1, by omega, by go_num, congrArg (Value.int .i64) (by rw [HS.out, HU.out]; omega)⟩
      case measure => simp [intOf]; omega
    · obtain rfl : n = k := by omega
      have HE : Hid (total (upto n) - total (xs.take n) = tot xs) := hid (by unfold tot; rw [List.take_of_length_le (by rw [HLEN.out]; omega), HLEN.out])
      clear t3 t4
      go_wp2_with fail
      go_ret
      exact ⟨ret_int HE.out, rfl⟩

theorem isNaNI_any (x : Int) (w : World) : Calls Try.prog 93 #[.int .i64 x] w fun e w' => e = .returned (.bool false) ∧ w = w' := by
  have hx : (x != x) = false := by simp
  go_enter Try.func93, Try.ntmps93
  go_wp2_with fail
  go_ret
  exact ⟨rfl, rfl⟩
set_option maxHeartbeats 400000 in
theorem compareI_any (x y : Int) (w : World) : Calls Try.prog 77 #[.int .i64 x, .int .i64 y] w fun e w' => e = .returned (.int .i64 (cmpI x y)) ∧ w = w' := by
  by_cases h1 : x < y
  · have HR : Hid (cmpI x y = -1) := hid (by simp [cmpI, h1])
    go_enter Try.func77, Try.ntmps77
    go_wp2_with (go_at_call 93; refine (isNaNI_any _ _).mono ?_; rintro e w' ⟨rfl, rfl⟩)
    go_ret
    exact ⟨ret_int HR.out.symm, rfl⟩
  · by_cases h2 : y < x
    · have HR : Hid (cmpI x y = 1) := hid (by simp [cmpI, h1, h2])
      go_enter Try.func77, Try.ntmps77
      go_wp2_with (go_at_call 93; refine (isNaNI_any _ _).mono ?_; rintro e w' ⟨rfl, rfl⟩)
      go_ret
      exact ⟨ret_int HR.out.symm, rfl⟩
    · have HR : Hid (cmpI x y = 0) := hid (by simp [cmpI, h1, h2])
      go_enter Try.func77, Try.ntmps77
      go_wp2_with (go_at_call 93; refine (isNaNI_any _ _).mono ?_; rintro e w' ⟨rfl, rfl⟩)
      go_ret
      exact ⟨ret_int HR.out.symm, rfl⟩

/-- A row that a comparison may read. -/
def Fit (w : World) (r : Rw) : Prop := Has w r.a r.xs.length r.c r.xs ∧ r.xs.length ≤ 8 ∧ ∀ i, i < r.xs.length → 0 ≤ nth r.xs i ∧ nth r.xs i ≤ 8
theorem compareTotal_any (r s : Rw) (w : World) (hr : Fit w r) (hs : Fit w s) : Calls Try.prog 56 #[r.v, s.v] w fun e w' => e = .returned (.int .i64 (cmpI (tot r.xs) (tot s.xs))) ∧ w = w' := by
  unfold Rw.v
  obtain ⟨r1, r2, r3⟩ := hr
  obtain ⟨s1, s2, s3⟩ := hs
  have R3 := hid r3
  have S3 := hid s3
  clear r3 s3
  generalize r.xs.length = n at *
  generalize s.xs.length = m at *
  go_enter Try.func56, Try.ntmps56
  go_wp2_with fail
  refine (ptotal_any _ _ _ _ _ r1 r2 R3.out).mono ?_
  rintro e _ ⟨rfl, rfl⟩
  go_wp2_with fail
  refine (ptotal_any _ _ _ _ _ s1 s2 S3.out).mono ?_
  rintro e _ ⟨rfl, rfl⟩
  go_wp2_with fail
  refine (compareI_any _ _ _).mono ?_
  rintro e _ ⟨rfl, rfl⟩
  go_wp2_with fail
  go_ret
  exact ⟨rfl, rfl⟩
theorem Fit.kept {w w' : World} {r : Rw} {g : Nat} (h : Fit w r) (hg : w.grownBy w' (some g)) (hne : ∀ p, r.a = some p → p.block ≠ g) : Fit w' r := ⟨h.1.kept hg hne, h.2⟩
theorem Fit.below {w w' : World} {r : Rw} (h : Fit w r) (hb : Go.RowKit.Below w.heap.size w w') : Fit w' r := ⟨h.1.below hb (Nat.le_refl _), h.2⟩

theorem Try.infoParked : (Try.prog.info? 49).map (fun i => (i.zero, i.size, i.bytes)) = some (some (.slice none 0 0), 1, 24) := by kernel_rfl

/-- 'slices.Clone(lists)'. -/
theorem cloneRows_any (b off n cap : Nat) (rs : List Rw) (w : World) (hc : ∀ i, i < n → w.cell? ⟨b, off + i, none⟩ = (rs.map Rw.v)[i]?) (hl : rs.length = n) (hn : n ≤ 2000) :
    Calls Try.prog 75 #[.slice (some ⟨b, off, none⟩) n cap] w fun e w' =>
      ∃ g cap', e = .returned (.slice (some ⟨g, 0, none⟩) n cap') ∧ OwnE 49 w' w.heap.size (some ⟨g, 0, none⟩) n cap' (rs.map Rw.v) ∧ Go.RowKit.Below w.heap.size w w' := by
  obtain ⟨i0, hi, hz0, hz1, hz2⟩ := info_parts Try.infoParked
  refine (Try.slices_Clone_f75 i0 (.slice none 0 0) 1 24 hi hz0 hz1 hz2 rfl (by decide) Try.sizeOf49 b off n cap (rs.map Rw.v) w (by simp [hl]) (by unfold maxLen; omega) (by omega) (cells_add hc (by simp [hl])) (rows_oneCell rs)).mono ?_
  rintro e w' ⟨v', rfl, hown, hne, hb⟩
  rcases hown.2 with ⟨hv, _⟩ | ⟨g, cap', cur, hv, _⟩
  · exact absurd hv hne
  · subst hv
    exact ⟨g, cap', rfl, ⟨hown, by simp [hl], by omega⟩, hb⟩

theorem attach_map {β : Type} (f : Rw → β) (rs : List Rw) : rs.attach.map (fun x => f x.1) = rs.map f := by
  rw [show (fun x : {r : Rw // r ∈ rs} => f x.1) = f ∘ Subtype.val from rfl, ← List.map_map, List.attach_map_subtype_val]
theorem attach_v (rs : List Rw) : rs.attach.map (fun x => x.1.v) = rs.map Rw.v := attach_map Rw.v rs

/-- 'slices.SortFunc(lists, parked.compareTotal)'. -/
theorem sortRows_any (B g n cap : Nat) (rs : List Rw) (w : World) (h : OwnE 49 w B (some ⟨g, 0, none⟩) n cap (rs.map Rw.v)) (hn : 0 < n) (hfit : ∀ r ∈ rs, Fit w r ∧ ∀ p, r.a = some p → p.block ≠ g) :
    Calls Try.prog 76 #[.slice (some ⟨g, 0, none⟩) n cap, .func (.func 56) #[] #[]] w fun e w' =>
      e = .returned (.tuple #[]) ∧ (∃ ss : List Rw, ss.length = n ∧ (∀ s ∈ ss, s ∈ rs) ∧ ss.map (fun s => tot s.xs) = insSort (rs.map fun s => tot s.xs) ∧ OwnE 49 w' B (some ⟨g, 0, none⟩) n cap (ss.map Rw.v)) ∧ w.grownBy w' (some g) := by
  obtain ⟨⟨h1, h2⟩, h3, h4⟩ := h
  have hlen : rs.length = n := by simpa using h3
  haveI : Inhabited {r : Rw // r ∈ rs} := ⟨⟨nthR rs 0, by
    have h0 : 0 < rs.length := by omega
    simp [nthR, h0]⟩⟩
  rcases h2 with ⟨hv, _⟩ | ⟨g', cap', cur, hv, hg, hh, hnc, hcm, hcs, htake⟩
  · simp at hv
  · simp at hv
    obtain ⟨rfl, rfl⟩ := hv
    have hal : rs.attach.length = n := by simp [hlen]
    have hH : Holds (fun x : {r : Rw // r ∈ rs} => x.1.v) w g 0 rs.attach.toArray := holds_of_cells hh (by rw [attach_v, hal]; simpa using htake)
    have hlt : g < w.heap.size := (Array.getElem?_eq_some_iff.1 hh).1
    have eg : ∀ args w, (callFunc 56 args).run Try.prog w = .ok (.enter 56 args) w := by intro args w; go_simp
    have hcmp : CmpReads Try.prog 56 #[] (fun x : {r : Rw // r ∈ rs} => x.1.v) (fun x y => cmpI (tot x.1.xs) (tot y.1.xs)) g 0 rs.attach.toArray.size w := by
      intro m os dk _ x y
      have hgr : w.grownBy (sortWorld (fun x : {r : Rw // r ∈ rs} => x.1.v) w g 0 m dk os) (some g) := grownBy_sortedE _ dk
      refine (compareTotal_any x.1 y.1 _ ((hfit x.1 x.2).1.kept hgr (hfit x.1 x.2).2) ((hfit y.1 y.2).1.kept hgr (hfit y.1 y.2).2)).mono ?_
      rintro e w' ⟨rfl, rfl⟩
      exact ⟨rfl, 0, rfl⟩
    have hswo : SWO (ltOf fun x y : {r : Rw // r ∈ rs} => cmpI (tot x.1.xs) (tot y.1.xs)) := by
      have e : ∀ x y : {r : Rw // r ∈ rs}, ltOf (fun x y : {r : Rw // r ∈ rs} => cmpI (tot x.1.xs) (tot y.1.xs)) x y = decide (tot x.1.xs < tot y.1.xs) := fun x y => ltOf_cmpI _ _
      exact ⟨fun x => by simp [e], fun x y z h1 h2 => by simp [e] at *; omega, fun x y z h1 h2 => by simp [e] at *; omega⟩
    have hs := Try.slices_SortFunc (fun x : {r : Rw // r ∈ rs} => x.1.v) (fun _ => rfl) (fun x y => cmpI (tot x.1.xs) (tot y.1.xs)) hswo 56 #[] g 0 cap rs.attach.toArray w eg hcmp.lays hH hlt (by simp; omega)
    simp only [List.size_toArray, List.length_attach, hlen] at hs
    refine hs.mono ?_
    rintro e w' ⟨rfl, d', q, os, hp, hst, rfl⟩
    rw [← hal] at hp hst
    obtain ⟨p1, p2⟩ := sorted_list hp hst
    have hdl : d'.toList.length = n := by rw [p1.length_eq, hal]
    refine ⟨rfl, ⟨d'.toList.map fun x => x.1, by simp [← hdl], fun s hs => ?_, ?_, ⟨⟨by simp [← hdl], .inr ⟨g, cap, _, rfl, hg, heap_sortedE _ d' hh, hnc, hcm, by simpa [putCells] using hcs, ?_⟩⟩, by simp [← hdl], h4⟩⟩, grownBy_sortedE _ d'⟩
    · obtain ⟨x, _, rfl⟩ := List.mem_map.1 hs
      exact x.2
    · refine sorted_unique ?_ (insSort_sorted _) (List.Perm.trans ?_ (insSort_perm _).symm)
      · rw [List.map_map, List.pairwise_map]
        refine p2.imp fun {x y} h => ?_
        have h' : ltOf (fun x y : {r : Rw // r ∈ rs} => cmpI (tot x.1.xs) (tot y.1.xs)) y x = false := h
        rw [show ltOf (fun x y : {r : Rw // r ∈ rs} => cmpI (tot x.1.xs) (tot y.1.xs)) y x = decide (tot y.1.xs < tot x.1.xs) from ltOf_cmpI _ _] at h'
        simp at h'
        simpa using h'
      · have := p1.map fun x => tot x.1.xs
        rw [List.map_map]
        refine List.Perm.trans this ?_
        rw [attach_map (fun r => tot r.xs) rs]
    · rw [List.map_map, Nat.mul_one, ← hdl]
      have := take_putCellsE (fun x : {r : Rw // r ∈ rs} => x.1.v) cur d'.toList (by omega)
      rw [toArr] at this
      exact this

set_option maxRecDepth 100000 in
set_option maxHeartbeats 4000000 in
theorem countAlikeR_any (b off n cap : Nat) (rs : List Rw) (w : World) (hc : ∀ i, i < n → w.cell? ⟨b, off + i, none⟩ = (rs.map Rw.v)[i]?) (hl : rs.length = n) (h0 : 0 < n) (hn : n ≤ 2000) (hfit : ∀ r ∈ rs, Fit w r ∧ ∀ p, r.a = some p → p.block < w.heap.size) :
    Calls Try.prog 55 #[.slice (some ⟨b, off, none⟩) n cap, .func (.func 56) #[] #[]] w fun e w' =>
      ∃ a' q cap', e = .returned (.slice a' q cap') ∧ Own w' w.heap.size a' q cap' (runsTo (insSort (rs.map fun r => tot r.xs)) n) ∧ Go.RowKit.Below w.heap.size w w' := by
  have HC := hid hc
  have HL := hid hl
  have HF := hid hfit
  clear hc hl hfit
  go_enter Try.func55, Try.ntmps55
  go_wp2_with fail
  refine (cloneRows_any b off n cap rs w HC.out HL.out (by omega)).mono ?_
  rintro e w1 ⟨g, cap1, rfl, ho1, hb1⟩
  have hg1 := ho1.lt
  have HF1 : Hid (∀ r ∈ rs, Fit w1 r ∧ ∀ p, r.a = some p → p.block ≠ g) := hid (fun r hr => ⟨(HF.out r hr).1.below hb1, fun p hp => by have := (HF.out r hr).2 p hp; omega⟩)
  go_wp2_with fail
  refine (sortRows_any _ _ _ _ _ _ ho1 h0 HF1.out).mono ?_
  rintro e w2 ⟨rfl, ⟨ss, hsl, hmem, hkeys, ho2⟩, hg2⟩
  have hgl := ho2.lt
  have hb2 : Go.RowKit.Below w.heap.size w w2 := hb1.trans (below_grown hg2 hb1.size (by intro k hk; cases hk; exact hg1.1))
  have hsz := hb2.size
  have HCELL : Hid (∀ i, i < n → w2.cell? ⟨g, i, none⟩ = some (nthR ss i).v) := hid (fun i hi => by
    rw [ho2.cell hi]
    exact map_nthR Rw.v (by omega))
  have HFIT : Hid (∀ i, i < n → Fit w2 (nthR ss i)) := hid (fun i hi => by
    have hm := hmem (nthR ss i) (by simp [nthR, hsl, hi])
    exact (HF1.out _ hm).1.kept hg2 (HF1.out _ hm).2)
  have HKEY : Hid (∀ i, i < n → nth (insSort (rs.map fun r => tot r.xs)) i = tot (nthR ss i).xs) := hid (fun i hi => by
    rw [← hkeys]
    have := map_nthR (fun s => tot s.xs) (rs := ss) (i := i) (by omega)
    simp [nth, this])
  have HRL := hid (runs_le (insSort (rs.map fun r => tot r.xs)))
  have HRP := hid (length_runsTo (insSort (rs.map fun r => tot r.xs)))
  clear ho1 ho2 hb1 hg2 hsl hmem hkeys hg1
  generalize hSdef : insSort (rs.map fun r => tot r.xs) = S at *
  have HSS := hid hSdef
  clear hSdef
  go_wp2_with fail
  go_loopw [6, 16] (fun o i wr => ∃ (k : Nat) (a' : Option Addr) (q cap' : Nat), k ≤ n ∧ i = .int .i64 (k : Int) ∧ o = .slice a' q cap' ∧ Own wr w2.heap.size a' q cap' (runsTo S k) ∧ Go.RowKit.Below w2.heap.size w2 wr) (fun _ i _ => n - (intOf i).toNat)
  case atStart => exact ⟨0, none, 0, 0, Nat.zero_le _, rfl, rfl, Own.nil _ _, Below.refl _ _⟩
  case round =>
    obtain ⟨k, a', q, cap', hk, rfl, rfl, hown, hb⟩ := hrel
    have hq := hown.len
    obtain ⟨q1, q2⟩ := HRP.out k
    rw [hq] at q1 q2
    have HQ := hid hq
    have hszr := hb.size
    clear hq
    by_cases hlt : k < n
    · have hck : wr.cell? ⟨g, k, none⟩ = some (nthR ss k).v := by rw [hb.cell (p := ⟨g, k, none⟩) hgl.2]; exact HCELL.out k hlt
      have hkn : (k : Int) < (n : Int) := by omega
      have hfk := (HFIT.out k hlt).below hb
      by_cases hnew : k = 0 ∨ nth S (k - 1) ≠ nth S k
      · have HS : Hid (runsTo S (k + 1) = runsTo S k ++ [1]) := hid (by simp only [runsTo]; rw [if_pos hnew])
        have HL0 : Hid ((runsTo S k ++ [0]).set q 1 = runsTo S k ++ [1]) := hid (by rw [← HQ.out]; exact set_last0 _)
        have HLZ : Hid (nth (runsTo S k ++ [0]) q = 0) := hid (by rw [← HQ.out]; exact nth_append_at)
        rcases Nat.eq_zero_or_pos k with h00 | h00
        · subst h00
          go_wp2_with (at_builtin; refine wpList_append_int _ rfl _ _ rfl w2.heap.size _ _ _ _ _ rfl rfl hown (by omega) hszr ?_; intro a4 cap4 w4 hown4 hb4; obtain ⟨g4, rfl, hl1, hl2, hl3, hl4⟩ := hown4.opened (by omega); have hgk := hl3 q (by omega); rw [HLZ.out] at hgk; have hgf := hl4 q; clear hl3 hl4)
          go_roundw
          case rel =>
            obtain ⟨s1, s2⟩ := hown4.set q 1
            rw [HL0.out] at s1
            exact ⟨1, some ⟨g4, 0, none⟩, q + 1, cap4, by omega, by go_num, rfl, by rw [HS.out]; exact s1, (hb.trans hb4).setCell hl1 _⟩
          case measure => simp [intOf]; omega
        · have hck1 : wr.cell? ⟨g, k - 1, none⟩ = some (nthR ss (k - 1)).v := by rw [hb.cell (p := ⟨g, k - 1, none⟩) hgl.2]; exact HCELL.out (k - 1) (by omega)
          have hfk1 := (HFIT.out (k - 1) (by omega)).below hb
          have hbe : ((k : Int) == 0) = false := by simp; omega
          have e1 : ((k : Int) - 1).toNat = k - 1 := by omega
          have e2 : (0 : Int) ≤ (k : Int) - 1 := by omega
          have e3 : (k : Int) - 1 < (n : Int) := by omega
          have HCM : Hid ((cmpI (tot (nthR ss (k - 1)).xs) (tot (nthR ss k).xs) != 0) = true) := hid (by
            have hne := hnew.resolve_left (by omega)
            rw [HKEY.out (k - 1) (by omega), HKEY.out k hlt] at hne
            unfold cmpI
            split
            · rfl
            · split
              · rfl
              · exact absurd (show tot (nthR ss (k - 1)).xs = tot (nthR ss k).xs by omega) hne)
          clear hnew
          generalize nthR ss (k - 1) = r1 at *
          generalize nthR ss k = r2 at *
          go_wp2_with fail
          refine (compareTotal_any _ _ _ hfk1 hfk).mono ?_
          rintro e _ ⟨rfl, rfl⟩
          have hcm := HCM.out
          generalize cmpI (tot r1.xs) (tot r2.xs) = cv at *
          go_wp2_with (at_builtin; refine wpList_append_int _ rfl _ _ rfl w2.heap.size _ _ _ _ _ rfl rfl hown (by omega) hszr ?_; intro a4 cap4 w4 hown4 hb4; obtain ⟨g4, rfl, hl1, hl2, hl3, hl4⟩ := hown4.opened (by omega); have hgk := hl3 q (by omega); rw [HLZ.out] at hgk; have hgf := hl4 q; clear hl3 hl4)
          go_roundw
          case rel =>
            obtain ⟨s1, s2⟩ := hown4.set q 1
            rw [HL0.out] at s1
            exact ⟨k + 1, some ⟨g4, 0, none⟩, q + 1, cap4, by omega, by go_num, rfl, by rw [HS.out]; exact s1, (hb.trans hb4).setCell hl1 _⟩
          case measure => simp [intOf]; omega
      · have hk0 : 0 < k := by omega
        have hq0 : 0 < q := q2 hk0
        have HS : Hid (runsTo S (k + 1) = (runsTo S k).set (q - 1) (nth (runsTo S k) (q - 1) + 1)) := hid (by simp only [runsTo]; rw [if_neg hnew, HQ.out])
        have hck1 : wr.cell? ⟨g, k - 1, none⟩ = some (nthR ss (k - 1)).v := by rw [hb.cell (p := ⟨g, k - 1, none⟩) hgl.2]; exact HCELL.out (k - 1) (by omega)
        have hfk1 := (HFIT.out (k - 1) (by omega)).below hb
        have hbe : ((k : Int) == 0) = false := by simp; omega
        have e1 : ((k : Int) - 1).toNat = k - 1 := by omega
        have e2 : (0 : Int) ≤ (k : Int) - 1 := by omega
        have e3 : (k : Int) - 1 < (n : Int) := by omega
        have HCM : Hid ((cmpI (tot (nthR ss (k - 1)).xs) (tot (nthR ss k).xs) != 0) = false) := hid (by
          have he : nth S (k - 1) = nth S k := Classical.byContradiction fun h => hnew (.inr h)
          rw [HKEY.out (k - 1) (by omega), HKEY.out k hlt] at he
          rw [he]
          simp [cmpI])
        obtain ⟨g4, rfl, hl1, hl2, hl3, hl4⟩ := hown.opened hq0
        have hgk := hl3 (q - 1) (by omega)
        have hgf := hl4 (q - 1)
        obtain ⟨r0, r1⟩ := HRL.out k (q - 1)
        have f1 : ((q : Int) - 1).toNat = q - 1 := by omega
        have f2 : (0 : Int) ≤ (q : Int) - 1 := by omega
        have f3 : (q : Int) - 1 < (q : Int) := by omega
        clear hnew hl3 hl4
        generalize nth (runsTo S k) (q - 1) = rv at *
        generalize nthR ss (k - 1) = s1r at *
        generalize nthR ss k = s2r at *
        go_wp2_with fail
        refine (compareTotal_any _ _ _ hfk1 hfk).mono ?_
        rintro e _ ⟨rfl, rfl⟩
        have hcm := HCM.out
        generalize cmpI (tot s1r.xs) (tot s2r.xs) = cv at *
        go_wp2_with fail
        go_roundw
        case rel =>
          obtain ⟨s1, s2⟩ := hown.set (q - 1) (rv + 1)
          exact ⟨k + 1, some ⟨g4, 0, none⟩, q, cap', by omega, by go_num, rfl, by rw [HS.out]; exact s1, hb.setCell hl1 _⟩
        case measure => simp [intOf]; omega
    · obtain rfl : n = k := by omega
      go_wp2_with fail
      go_ret
      exact ⟨_, _, _, rfl, by rw [HSS.out]; exact hown.mono hsz, hb2.trans (hb.mono hsz)⟩

theorem dist_runs {n q : Nat} {rs : List Rw} (h5 : n ≤ 5) (hn : numsOf rs = listL n n []) (hq : rs.length = q) : runsTo (insSort (rs.map fun r => tot r.xs)) q = distCounts n ∧ q = cnt n := by
  have e : (rs.map fun r => tot r.xs) = tots n := by
    unfold tots
    rw [← hn]
    simp [numsOf]
  have hl : (tots n).length = q := by rw [← e]; simpa using hq
  rw [e]
  have h1 := runs_dist h5
  rw [hl] at h1
  exact ⟨h1, by rw [← hl]; exact tots_length (by omega)⟩

set_option maxRecDepth 100000 in
set_option maxHeartbeats 4000000 in
theorem countByDistance_any (n : Int) (w : World) : Calls Try.prog 31 #[.int .i64 n] w (PostInts w (distOfN n)) := by
  by_cases hg : inB n 0 5 = true
  · obtain ⟨m, rfl⟩ : ∃ m : Nat, n = (m : Int) := ⟨n.toNat, by have := inB_iff.1 hg; omega⟩
    have hm : m ≤ 5 := by have := inB_iff.1 hg; omega
    have HA := hid (distOfN_yes hg)
    have HAL := hid (allOf_yes hg)
    obtain ⟨i0, hi, hz0, hz1, hz2⟩ := info_parts Try.infoParked
    have hc5 := cnt_le5 hm
    have hc1 := (cnt_le (n := m) (by omega)).1
    clear hg
    go_enter Try.func31, Try.ntmps31
    go_wp2_with fail
    refine (allParking_any _ _).mono ?_
    rw [HAL.out]
    rintro e w1 ⟨a1, q, cap1, rs, rfl, R1, hn1, hb1⟩
    obtain ⟨hrun, hqc⟩ := dist_runs hm hn1 R1.len
    have HRUN := hid hrun
    have HROW := hid (fun k (hk : k < q) => row_all (n := m) (by omega) hn1 R1.len hk)
    have hq1 : q ≤ 1296 := by omega
    have hq0 : 0 < q := by omega
    have HH := hid R1.has
    have HLT := hid R1.lt
    have HQ := hid R1.len
    clear hn1 hrun hqc R1 hc5 hc1
    go_wp2_with (refine wpList_make_full (P := Try.prog) _ rfl _ _ 58 rfl w1.heap.size 49 i0 (.slice none 0 0) 1 Try.underlying58 hi hz0 hz1 .i64 .i64 q q q rfl rfl rfl rfl (by rw [hz2]; omega) (by unfold maxLen; omega) (Nat.le_refl _) ?_; intro w2 hown2 hgr2)
    have hb2 : Go.RowKit.Below w1.heap.size w1 w2 := below_grown hgr2 (Nat.le_refl _) (by simp)
    have ho2 : OwnE 49 w2 w1.heap.size (some ⟨w1.heap.size, 0, none⟩) q q ((List.replicate q Rw.none').map Rw.v) := by
      refine ⟨?_, by simp, by omega⟩
      rw [show (Value.slice none 0 0).cells = #[.slice none 0 0] from rfl, toList_madeCells_one, Nat.mul_one] at hown2
      simpa [Rw.v, Rw.none'] using hown2
    have hgl := ho2.lt
    have hsz := hb1.size
    have hgr0 : w1.grownBy w2 (some w1.heap.size) := ⟨hb2.os, hb2.tape, hb2.output, hb2.size, fun j hj _ => hb2.block j hj⟩
    obtain ⟨g, hgdef⟩ : ∃ g, w1.heap.size = g := ⟨_, rfl⟩
    have HGD := hid hgdef
    rw [hgdef] at ho2 hgl hgr0 hsz ⊢
    clear hgr2 hown2 hb2 hgdef
    go_loopw [21] (fun i wr => ∃ (k : Nat) (zs : List Rw), k ≤ q ∧ i = .int .i64 (k : Int) ∧ OwnE 49 wr g (some ⟨g, 0, none⟩) q q (zs.map Rw.v) ∧ zs.length = q ∧ Hid (∀ i, i < k → nthR zs i = nthR rs i) ∧ w1.grownBy wr (some g) ∧ g < wr.heap.size) (fun i _ => q - (intOf i).toNat)
    case atStart => exact ⟨0, _, Nat.zero_le _, rfl, ho2, by simp, hid (fun i hi => by omega), hgr0, hgl.2⟩
    case round =>
      clear ho2 hgl hgr0
      obtain ⟨k, zs, hk, rfl, hz, hzl, HF, hgr, hgw⟩ := hrel
      have HZL := hid hzl
      clear hzl
      by_cases hlt : k < q
      · obtain ⟨r0, r1, r2, r3, r4, r5⟩ := HH.out
        obtain ⟨b, off, rfl, hbb, hc⟩ := r4 hq0
        have hbg : b ≠ g := by have := HGD.out; omega
        have hck : wr.cell? ⟨b, off + k, none⟩ = some (nthR rs k).v := hgr.cell (hc k hlt) (by simpa using hbg)
        have hgk : wr.cell? ⟨g, k, none⟩ = some (nthR zs k).v := by rw [hz.cell hlt]; exact map_nthR Rw.v (by rw [HZL.out]; exact hlt)
        have hgf := hz.1.frozenAt k
        have HSET := hid (hz.1.stored k (nthR rs k).v)
        have hgr' := grown_set (i := k) hgr (nthR rs k).v
        have HV : Hid (∃ v, (nthR rs k).v = v) := hid ⟨_, rfl⟩
        clear r0 r1 r2 r3 r4 r5 hc
        unfold Rw.v at hck hgk HSET hgr'
        go_wp2_with fail
        go_roundw
        case rel =>
          obtain ⟨s1, s2⟩ := HSET.out
          refine ⟨k + 1, zs.set k (nthR rs k), by omega, by go_num, ⟨by rw [List.map_set]; exact s1, by simp [HZL.out], by omega⟩, by simp [HZL.out], hid ?_, hgr', by simpa using hgw⟩
          intro i hi
          by_cases e : i = k
          · subst e; simp [nthR, HZL.out, hlt]
          · have := HF.out i (by omega)
            simp only [nthR, List.getD_eq_getElem?_getD] at this ⊢
            rw [List.getElem?_set_ne (by omega)]
            exact this
        case measure => simp [intOf]; omega
      · obtain rfl : q = k := by omega
        have HE : Hid (zs = rs) := hid (ext_nthR (by rw [HZL.out, HQ.out]) (fun i hi => HF.out i (by rw [HZL.out] at hi; exact hi)))
        rw [HE.out] at hz
        have hcell : ∀ i, i < q → wr.cell? ⟨g, 0 + i, none⟩ = (rs.map Rw.v)[i]? := fun i hi => by rw [Nat.zero_add]; exact hz.cell hi
        have HCELL := hid hcell
        have hfit : ∀ r ∈ rs, Fit wr r ∧ ∀ p, r.a = some p → p.block < wr.heap.size := by
          intro r hr
          obtain ⟨i, hi, rfl⟩ := List.getElem_of_mem hr
          have hiq : i < q := by rw [← HQ.out]; exact hi
          have e : nthR rs i = rs[i] := by simp [nthR, hi]
          rw [← e]
          obtain ⟨p1, p2, -, -⟩ := HROW.out i hiq
          have hblt : ∀ p, (nthR rs i).a = some p → p.block < g := fun p hp => by
            have := HLT.out.2 i (by rw [HQ.out]; exact hiq) p hp
            have := HGD.out
            omega
          have hsm := parks_small p1 rfl
          have hgs := hgr.size
          exact ⟨⟨(HH.out.2.2.2.2.2 i hiq).kept hgr (fun p hp => by have := hblt p hp; omega), hsm.1, hsm.2⟩, fun p hp => by have := hblt p hp; omega⟩
        have HFIT := hid hfit
        have hbw : Go.RowKit.Below w.heap.size w wr := hb1.trans (below_grown hgr hb1.size (by intro k hk; cases hk; exact hsz))
        clear hcell hfit
        go_wp2_with fail
        refine (countAlikeR_any g 0 q q rs _ HCELL.out HQ.out hq0 (by omega) HFIT.out).mono ?_
        rintro e w5 ⟨a5, q5, cap5, rfl, ho5, hb5⟩
        rw [HRUN.out] at ho5
        go_wp2_with fail
        go_ret2
        exact postInts HA.out (ho5.mono hbw.size) (hbw.trans (hb5.mono hbw.size))
  · have HA := hid (distOfN_no hg)
    have HAL := hid (allOf_no hg)
    clear hg
    go_enter Try.func31, Try.ntmps31
    go_wp2_with fail
    refine (allParking_any _ _).mono ?_
    rw [HAL.out]
    rintro e w1 ⟨a1, q, cap1, rs, rfl, R1, hn1, hb1⟩
    go_wp2_with fail
    go_ret2
    exact postInts_no HA.out hb1
end Go.Proofs.Ytfkejkkplafciac

