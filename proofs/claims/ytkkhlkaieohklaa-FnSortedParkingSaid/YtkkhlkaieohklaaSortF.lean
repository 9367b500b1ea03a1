/- The library's sort by a function, over the call's own cells. -/
import Derived.Test.YtkkhlkaieohklaaHelp
import Derived.Test.YtkkhlkaieohklaaMathR
import Derived.Test.YtkkhlkaieohklaaShelfW
import Derived.Sort.OwnSortedInts
namespace Go.Proofs.Ytkkhlkaieohklaa
open Go.RowKit Go.Sort

/-- A slice of the call's own of cells of one kind. -/
def OwnE (E : TypeId) (w : World) (B : Nat) (a : Option Addr) (n cap : Nat) (us : List Value) : Prop := w.ownsRow B E 1 (.slice a n cap) n us ∧ us.length = n ∧ n ≤ 2097152
theorem OwnE.below {E : TypeId} {w w' : World} {B K : Nat} {a : Option Addr} {n cap : Nat} {us : List Value} (h : OwnE E w B a n cap us) (hb : Go.RowKit.Below K w w') (hB : w.heap.size ≤ K) : OwnE E w' B a n cap us := by
  obtain ⟨⟨h1, h2⟩, h3⟩ := h
  refine ⟨⟨h1, ?_⟩, h3⟩
  rcases h2 with h2 | ⟨g, cap', cur, hv, hg, hh, r⟩
  · exact .inl h2
  · exact .inr ⟨g, cap', cur, hv, hg, by rw [hb.block g (by have := (Array.getElem?_eq_some_iff.1 hh).1; omega)]; exact hh, r⟩
theorem OwnE.cell {E : TypeId} {w : World} {B g n cap : Nat} {us : List Value} (h : OwnE E w B (some ⟨g, 0, none⟩) n cap us) {i : Nat} (hi : i < n) : w.cell? ⟨g, i, none⟩ = us[i]? := h.1.cellAt i (by omega)
theorem OwnE.lt {E : TypeId} {w : World} {B g n cap : Nat} {us : List Value} (h : OwnE E w B (some ⟨g, 0, none⟩) n cap us) : B ≤ g ∧ g < w.heap.size := h.1.lt g rfl

theorem holds_of_cells {α : Type} [Inhabited α] {enc : α → Value} {w : World} {g : Nat} {cur : Array Value} {e : TypeId} {ds : List α} (hb : w.heap[g]? = some (.cells cur e (0, 0))) (ht : cur.toList.take ds.length = ds.map enc) : Holds enc w g 0 ds.toArray := by
  intro j hj
  have hj' : j < ds.length := by simpa using hj
  refine ⟨?_, by simp [World.frozen?, hb]⟩
  have h1 : (cur.toList.take ds.length)[j]? = (ds.map enc)[j]? := by rw [ht]
  rw [List.getElem?_take_of_lt hj'] at h1
  simp only [World.cell?, hb, Nat.zero_add]
  simp only [Option.isSome_none, Bool.false_eq_true, if_false]
  rw [← Array.getElem?_toList, h1]
  simp [hj']
theorem heap_sortedE {α : Type} [Inhabited α] (enc : α → Value) {w : World} {g n : Nat} {os : Array Obj} {cur : Array Value} {e : TypeId} {fr : Nat × Nat} (d : Array α) (hb : w.heap[g]? = some (.cells cur e fr)) :
    (grow (putRow enc (Sort.ahead w n) g 0 d) os).heap[g]? = some (.cells (putCells enc 0 d cur) e fr) := by
  have hg : g < w.heap.size := (Array.getElem?_eq_some_iff.1 hb).1
  rw [heap_grow_old _ _ (by simpa using hg)]
  simp [putRow, mapBlock, Sort.ahead, Array.getElem?_modify, hb, onCells]
theorem grownBy_sortedE {α : Type} [Inhabited α] (enc : α → Value) {w : World} {g n : Nat} {os : Array Obj} (d : Array α) : w.grownBy (grow (putRow enc (Sort.ahead w n) g 0 d) os) (some g) := by
  refine ⟨rfl, rfl, rfl, by simp, fun k hk hne => ?_⟩
  rw [heap_grow_old _ _ (by simpa using hk)]
  have : g ≠ k := fun e => hne (by rw [e])
  simp [putRow, mapBlock, Sort.ahead, Array.getElem?_modify, this]
theorem take_putCellsE {α : Type} [Inhabited α] (enc : α → Value) (cur : Array Value) (ts : List α) (h : ts.length ≤ cur.size) : (putCells enc 0 ts.toArray cur).toList.take ts.length = ts.map enc := by
  apply List.ext_getElem?
  intro j
  by_cases hj : j < ts.length
  · rw [List.getElem?_take_of_lt hj, Array.getElem?_toList]
    simp [putCells, hj, show j < cur.size by omega]
  · rw [List.getElem?_take_eq_none (by omega), List.getElem?_eq_none (by simp; omega)]
theorem toArr {α : Type} (d : Array α) : d.toList.toArray = d := by simp
/-- A permutation, in order: what a sort leaves. -/
theorem sorted_list {α : Type} [Inhabited α] {lt : α → α → Bool} {ds : List α} {d' : Array α} (hp : PermIn 0 ds.length ds.toArray d') (hs : SortedIn lt 0 ds.length d') : d'.toList.Perm ds ∧ d'.toList.Pairwise (fun x y => lt y x = false) := by
  obtain ⟨h1, _, h3⟩ := hp
  have hsz : d'.size = ds.length := by simpa using h1
  constructor
  · have e1 : d'.extract 0 ds.length = d' := by rw [← hsz]; simp
    have e2 : ds.toArray.extract 0 ds.length = ds.toArray := by simp
    rw [e1, e2] at h3
    simpa using h3
  · rw [List.pairwise_iff_getElem]
    intro i j hi hj hij
    have := hs i j (Nat.zero_le _) hij (by simpa [hsz] using hj)
    have hi' : i < d'.size := by simpa using hi
    have hj' : j < d'.size := by simpa using hj
    rw [getElem!_pos d' j hj', getElem!_pos d' i hi'] at this
    simpa using this

/-- The order of integers, as a comparison tells it. -/
def cmpI (x y : Int) : Int := if x < y then -1 else if y < x then 1 else 0
theorem ltOf_cmpI (x y : Int) : ltOf cmpI x y = decide (x < y) := by
  unfold ltOf cmpI
  by_cases h : x < y
  · simp [h]
  · by_cases h2 : y < x
    · simp [h, h2]
    · simp [h, h2]
theorem swo_cmpI : SWO (ltOf cmpI) := ⟨fun x => by simp [ltOf_cmpI], fun x y z h1 h2 => by simp [ltOf_cmpI] at *; omega, fun x y z h1 h2 => by simp [ltOf_cmpI] at *; omega⟩

theorem isNaNW_any (x : Int) (w : World) : Calls Try.prog 96 #[.int .i64 x] w fun e w' => e = .returned (.bool false) ∧ w = w' := by
  have hx : (x != x) = false := by simp
  go_enter Try.func96, Try.ntmps96
  go_wp2_with fail
  go_ret
  exact ⟨rfl, rfl⟩
set_option maxHeartbeats 400000 in
theorem compareW_any (x y : Int) (w : World) : Calls Try.prog 83 #[.int .i64 x, .int .i64 y] w fun e w' => e = .returned (.int .i64 (cmpI x y)) ∧ w = w' := by
  by_cases h1 : x < y
  · have HR : Hid (cmpI x y = -1) := hid (by simp [cmpI, h1])
    go_enter Try.func83, Try.ntmps83
    go_wp2_with (go_at_call 96; refine (isNaNW_any _ _).mono ?_; rintro e w' ⟨rfl, rfl⟩)
    go_ret
    exact ⟨ret_int HR.out.symm, rfl⟩
  · by_cases h2 : y < x
    · have HR : Hid (cmpI x y = 1) := hid (by simp [cmpI, h1, h2])
      go_enter Try.func83, Try.ntmps83
      go_wp2_with (go_at_call 96; refine (isNaNW_any _ _).mono ?_; rintro e w' ⟨rfl, rfl⟩)
      go_ret
      exact ⟨ret_int HR.out.symm, rfl⟩
    · have HR : Hid (cmpI x y = 0) := hid (by simp [cmpI, h1, h2])
      go_enter Try.func83, Try.ntmps83
      go_wp2_with (go_at_call 96; refine (isNaNW_any _ _).mono ?_; rintro e w' ⟨rfl, rfl⟩)
      go_ret
      exact ⟨ret_int HR.out.symm, rfl⟩
theorem wishCompare_any (x y : Int) (w : World) : Calls Try.prog 60 #[.int .i64 x, .int .i64 y] w fun e w' => e = .returned (.int .i64 (cmpI x y)) ∧ w = w' := by
  go_enter Try.func60, Try.ntmps60
  go_wp2_with (go_at_call 83; refine (compareW_any _ _ _).mono ?_; rintro e w' ⟨rfl, rfl⟩)
  go_ret
  exact ⟨rfl, rfl⟩

theorem wishes_sorted {ds : List Int} {d' : Array Int} (hp : PermIn 0 ds.length ds.toArray d') (hs : SortedIn (ltOf cmpI) 0 ds.length d') : d'.toList = insSort ds := by
  obtain ⟨h1, h2⟩ := sorted_list hp hs
  refine sorted_unique (h2.imp fun {x y} h => ?_) (insSort_sorted ds) (h1.trans (insSort_perm ds).symm)
  simp [ltOf_cmpI] at h
  omega

/-- 'slices.SortFunc(wishes, wish.compare)'. -/
theorem sortWishes_any (B g n cap : Nat) (xs : List Int) (w : World) (h : OwnE 66 w B (some ⟨g, 0, none⟩) n cap (xs.map (Value.int .i64))) :
    Calls Try.prog 82 #[.slice (some ⟨g, 0, none⟩) n cap, .func (.func 60) #[] #[]] w fun e w' =>
      e = .returned (.tuple #[]) ∧ OwnE 66 w' B (some ⟨g, 0, none⟩) n cap ((insSort xs).map (Value.int .i64)) ∧ w.grownBy w' (some g) := by
  obtain ⟨⟨h1, h2⟩, h3, h4⟩ := h
  rcases h2 with ⟨hv, _⟩ | ⟨g', cap', cur, hv, hg, hh, hnc, hcm, hcs, htake⟩
  · simp at hv
  · simp at hv
    obtain ⟨rfl, rfl⟩ := hv
    have hlen : xs.length = n := by simpa using h3
    subst hlen
    have hH : Holds (Value.int .i64) w g 0 xs.toArray := holds_of_cells hh (by simpa using htake)
    have hlt : g < w.heap.size := (Array.getElem?_eq_some_iff.1 hh).1
    have eg : ∀ args w, (callFunc 60 args).run Try.prog w = .ok (.enter 60 args) w := by intro args w; go_simp
    have hcmp : CmpReads Try.prog 60 #[] (Value.int .i64) cmpI g 0 xs.toArray.size w := by
      intro m os dk _ x y
      refine (wishCompare_any x y _).mono ?_
      rintro e w' ⟨rfl, rfl⟩
      exact ⟨rfl, 0, rfl⟩
    have hs := Try.slices_SortFunc (Value.int .i64) (fun _ => rfl) cmpI swo_cmpI 60 #[] g 0 cap xs.toArray w eg hcmp.lays hH hlt (by simp; omega)
    simp only [List.size_toArray] at hs
    refine hs.mono ?_
    rintro e w' ⟨rfl, d', q, os, hp, hst, rfl⟩
    have hd := wishes_sorted hp hst
    have hdl : (insSort xs).length = xs.length := length_insSort xs
    have hda : d' = (insSort xs).toArray := by rw [← hd]
    refine ⟨rfl, ⟨⟨by simp [hdl], .inr ⟨g, cap, _, rfl, hg, heap_sortedE _ d' hh, hnc, hcm, by simpa [putCells] using hcs, ?_⟩⟩, by simp [hdl], h4⟩, grownBy_sortedE _ d'⟩
    rw [Nat.mul_one, hda, ← hdl]
    exact take_putCellsE _ cur _ (by omega)
end Go.Proofs.Ytkkhlkaieohklaa
