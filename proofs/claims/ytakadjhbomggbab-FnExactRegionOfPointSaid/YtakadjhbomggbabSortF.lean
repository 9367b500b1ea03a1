/- The library's sort by a function, over the call's own cells. -/
import Derived.Test.YtakadjhbomggbabHelp
import Derived.Test.YtakadjhbomggbabMathR
import Derived.Test.YtakadjhbomggbabShelfW
import Derived.Sort.OwnSortedInts
namespace Go.Proofs.Ytakadjhbomggbab
open Go.RowKit Go.Sort

/-- A slice of the call's own of cells of one kind. -/
def OwnE (E : TypeId) (w : World) (B : Nat) (a : Option Addr) (n cap : Nat) (us : List Value) : Prop := w.ownsRow B E 1 (.slice a n cap) n us ∧ us.length = n ∧ n ≤ 2097152
theorem OwnE.below {E : TypeId} {w w' : World} {B K : Nat} {a : Option Addr} {n cap : Nat} {us : List Value} (h : OwnE E w B a n cap us) (hb : Go.RowKit.Below K w w') (hB : w.heap.size ≤ K) : OwnE E w' B a n cap us := by
  obtain ⟨⟨h1, h2⟩, h3⟩ := h
  refine ⟨⟨h1, ?_⟩, h3⟩
  rcases h2 with h2 | ⟨g, cap', cur, hv, hg, hh, r⟩
  · exact .inl h2
  · exact .inr ⟨g, cap', cur, hv, hg, by rw [hb.block g (by have := (Array.getElem?_eq_some_iff.1 hh).1; omega)]; exact hh, r⟩
theorem OwnE.cell {E : TypeId} {w : World} {B g n cap : Nat} {us : List Value} (h : OwnE E w B (some ⟨g, 0, none⟩) n cap us) {i : Nat} (hi : i < n) : w.cell? ⟨g, i, none⟩ = us[i]? := h.1.cellAt i (by omega)
theorem OwnE.lt {E : TypeId} {w : World} {B g n cap : Nat} {us : List Value} (h : OwnE E w B (some ⟨g, 0, none⟩) n cap us) : B ≤ g ∧ g < w.heap.size := h.1.lt g rfl

theorem holds_of_cells {α : Type} [Inhabited α] {enc : α → Value} {w : World} {g : Nat} {cur : Array Value} {e : TypeId} {ds : List α} (hb : w.heap[g]? = some (.cells cur e (0, 0))) (ht : cur.toList.take ds.length = ds.map enc) : Holds enc w g 0 ds.toArray := by
  intro j hj
  have hj' : j < ds.length := by simpa using hj
  refine ⟨?_, by simp [World.frozen?, hb]⟩
  have h1 : (cur.toList.take ds.length)[j]? = (ds.map enc)[j]? := by rw [ht]
  rw [List.getElem?_take_of_lt hj'] at h1
  simp only [World.cell?, hb, Nat.zero_add]
  simp only [Option.isSome_none, Bool.false_eq_true, if_false]
  rw [← Array.getElem?_toList, h1]
  simp [hj']
theorem heap_sortedE {α : Type} [Inhabited α] (enc : α → Value) {w : World} {g n : Nat} {os : Array Obj} {cur : Array Value} {e : TypeId} {fr : Nat × Nat} (d : Array α) (hb : w.heap[g]? = some (.cells cur e fr)) :
    (grow (putRow enc (Sort.ahead w n) g 0 d) os).heap[g]? = some (.cells (putCells enc 0 d cur) e fr) := by
  have hg : g < w.heap.size := (Array.getElem?_eq_some_iff.1 hb).1
  rw [heap_grow_old _ _ (by simpa using hg)]
  simp [putRow, mapBlock, Sort.ahead, Array.getElem?_modify, hb, onCells]
theorem grownBy_sortedE {α : Type} [Inhabited α] (enc : α → Value) {w : World} {g n : Nat} {os : Array Obj} (d : Array α) : w.grownBy (grow (putRow enc (Sort.ahead w n) g 0 d) os) (some g) := by
  refine ⟨rfl, rfl, rfl, by simp, fun k hk hne => ?_⟩
  rw [heap_grow_old _ _ (by simpa using hk)]
  have : g ≠ k := fun e => hne (by rw [e])
  simp [putRow, mapBlock, Sort.ahead, Array.getElem?_modify, this]
theorem take_putCellsE {α : Type} [Inhabited α] (enc : α → Value) (cur : Array Value) (ts : List α) (h : ts.length ≤ cur.size) : (putCells enc 0 ts.toArray cur).toList.take ts.length = ts.map enc := by
  apply List.ext_getElem?
  intro j
  by_cases hj : j < ts.length
  · rw [List.getElem?_take_of_lt hj, Array.getElem?_toList]
    simp [putCells, hj, show j < cur.size by omega]
  · rw [List.getElem?_take_eq_none (by omega), List.getElem?_eq_none (by simp; omega)]
theorem toArr {α : Type} (d : Array α) : d.toList.toArray = d := by simp
/-- A permutation, in order: what a sort leaves. -/
theorem sorted_list {α : Type} [Inhabited α] {lt : α → α → Bool} {ds : List α} {d' : Array α} (hp : PermIn 0 ds.length ds.toArray d') (hs : SortedIn lt 0 ds.length d') : d'.toList.Perm ds ∧ d'.toList.Pairwise (fun x y => lt y x = false) := by
  obtain ⟨h1, _, h3⟩ := hp
  have hsz : d'.size = ds.length := by simpa using h1
  constructor
  · have e1 : d'.extract 0 ds.length = d' := by rw [← hsz]; simp
    have e2 : ds.toArray.extract 0 ds.length = ds.toArray := by simp
    rw [e1, e2] at h3
    simpa using h3
  · rw [List.pairwise_iff_getElem]
    intro i j hi hj hij
    have := hs i j (Nat.zero_le _) hij (by simpa [hsz] using hj)
    have hi' : i < d'.size := by simpa using hi
    have hj' : j < d'.size := by simpa using hj
    rw [getElem!_pos d' j hj', getElem!_pos d' i hi'] at this
    simpa using this

/-- The order of integers, as a comparison tells it. -/
def cmpI (x y : Int) : Int := if x < y then -1 else if y < x then 1 else 0
theorem ltOf_cmpI (x y : Int) : ltOf cmpI x y = decide (x < y) := by
  unfold ltOf cmpI
  by_cases h : x < y
  · simp [h]
  · by_cases h2 : y < x
    · simp [h, h2]
    · simp [h, h2]
theorem swo_cmpI : SWO (ltOf cmpI) := ⟨fun x => by simp [ltOf_cmpI], fun x y z h1 h2 => by simp [ltOf_cmpI] at *; omega, fun x y z h1 h2 => by simp [ltOf_cmpI] at *; omega⟩

theorem wishes_sorted {ds : List Int} {d' : Array Int} (hp : PermIn 0 ds.length ds.toArray d') (hs : SortedIn (ltOf cmpI) 0 ds.length d') : d'.toList = insSort ds := by
  obtain ⟨h1, h2⟩ := sorted_list hp hs
  refine sorted_unique (h2.imp fun {x y} h => ?_) (insSort_sorted ds) (h1.trans (insSort_perm ds).symm)
  simp [ltOf_cmpI] at h
  omega

end Go.Proofs.Ytakadjhbomggbab
