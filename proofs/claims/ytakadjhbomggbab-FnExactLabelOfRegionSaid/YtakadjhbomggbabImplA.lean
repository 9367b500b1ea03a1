/- The program's functions of chapter 1, by their contracts: favourites, streets, parking. -/
import Derived.Test.YtakadjhbomggbabHelp
import Derived.Test.YtakadjhbomggbabMath1
import Derived.Laws.EntriesVeiled
namespace Go.Proofs.Ytakadjhbomggbab
open Go.RowKit

set_option maxHeartbeats 400000 in
theorem areCarsBelow_any (a : Option Addr) (n cap : Nat) (xs : List Int) (bd : Int) (w : World) (h : Has w a n cap xs) :
    Calls Try.prog 92 #[.slice a n cap, .int .i64 bd] w fun e w' => e = .returned (.bool (carsB xs bd)) ∧ w = w' := by
  obtain ⟨h0, h1, h2, h3, h4⟩ := h
  by_cases h8 : n ≤ 8
  · go_enter Try.func92, Try.ntmps92
    go_wp2_with fail
    go_loop [12] (fun i => ∃ k : Nat, k ≤ n ∧ i = .int .i64 k ∧ allB (xs.take k) 0 (bd - 1) = true) (fun i => n - (intOf i).toNat)
    case atStart => exact ⟨0, Nat.zero_le _, rfl, rfl⟩
    case round =>
      obtain ⟨k, hk, rfl, hrel⟩ := hrel
      have HR := hid hrel
      clear hrel
      by_cases hlt : k < n
      · obtain ⟨b, off, rfl, hb, hc⟩ := h4 (by omega)
        have hck := hc k hlt
        clear hc h4
        by_cases h5 : nth xs k < 0
        · have HN := hid (allB_no (xs := xs) (lo := 0) (hi := bd - 1) (k := k) (by omega) (by rw [inB_not]; omega))
          go_wp2_with fail
          go_ret
          exact ⟨ret_bool (by simp [carsB, HN.out]), rfl⟩
        · by_cases h6 : bd ≤ nth xs k
          · have HN := hid (allB_no (xs := xs) (lo := 0) (hi := bd - 1) (k := k) (by omega) (by rw [inB_not]; omega))
            go_wp2_with fail
            go_ret
            exact ⟨ret_bool (by simp [carsB, HN.out]), rfl⟩
          · have HS := hid (allB_succ (xs := xs) (k := k) (by omega) HR.out (by rw [inB_iff]; omega))
            go_wp2_with fail
            go_round
            case rel => exact ⟨k + 1, by omega, by go_num, HS.out⟩
            case measure => simp [intOf]; omega
      · go_wp2_with fail
        go_ret
        exact ⟨ret_bool (by have := HR.out; rw [List.take_of_length_le (by omega)] at this; simp [carsB, this, h0, h8]), rfl⟩
  · go_enter Try.func92, Try.ntmps92
    go_wp2_with fail
    go_ret
    exact ⟨ret_bool (by simp [carsB, h0, h8]), rfl⟩

/-- A street in memory: the cell bt holds the slice of what is taken (block g), the cell bp the number of places. -/
structure Street (w : World) (B bt bp g p : Nat) (tk : Nat → Bool) : Prop where
  lt : B ≤ bt ∧ B ≤ bp ∧ B ≤ g ∧ bt < w.heap.size ∧ bp < w.heap.size ∧ g < w.heap.size
  ne : g ≠ bt ∧ g ≠ bp
  taken : w.cell? ⟨bt, 0, none⟩ = some (.slice (some ⟨g, 0, none⟩) p p)
  places : w.cell? ⟨bp, 0, none⟩ = some (.int .i64 p)
  cells : ∀ i, i < p → w.cell? ⟨g, i, none⟩ = some (.bool (tk i))
  free : ∀ i, w.frozen? ⟨g, i, none⟩ = false

theorem Street.below {w w' : World} {B bt bp g p K : Nat} {tk : Nat → Bool} (h : Street w B bt bp g p tk) (hb : Below K w w') (hK : w.heap.size ≤ K) : Street w' B bt bp g p tk := by
  obtain ⟨⟨l1, l2, l3, l4, l5, l6⟩, ne, t, pl, c, f⟩ := h
  have := hb.size
  refine ⟨⟨l1, l2, l3, by omega, by omega, by omega⟩, ne, ?_, ?_, fun i hi => ?_, fun i => ?_⟩
  · rw [hb.cell (p := ⟨bt, 0, none⟩) (by simp; omega)]; exact t
  · rw [hb.cell (p := ⟨bp, 0, none⟩) (by simp; omega)]; exact pl
  · rw [hb.cell (p := ⟨g, i, none⟩) (by simp; omega)]; exact c i hi
  · rw [hb.frozen (p := ⟨g, i, none⟩) (by simp; omega)]; exact f i

theorem Try.infoBool : (Try.prog.info? 4).map (fun i => (i.zero, i.size, i.bytes)) = some (some (.bool false), 1, 1) := by kernel_rfl

/-- 'make([]bool, n)'. -/
theorem wpList_make_bools {ops : Array Oper} {rest : List Oper} {o : Oper} {a : Act} {Q : Exit → Act → World → Prop} (w : World) (hgd : o.guard = none) (l c : Operand) (ho : o.op = Op.makeSlice 112 l c)
    (n : Nat) (hl : a.eval l = .int .i64 (n : Int)) (hc : a.eval c = .int .i64 (n : Int)) (hn : n ≤ 2097152)
    (h : ∀ w', (∀ i, i < n → w'.cell? ⟨w.heap.size, i, none⟩ = some (.bool false)) → (∀ i, w'.frozen? ⟨w.heap.size, i, none⟩ = false) → Below w.heap.size w w' → w.heap.size < w'.heap.size → wpList Try.prog ops Q rest (a.put o.dst (.slice (some ⟨w.heap.size, 0, none⟩) n n)) w') :
    wpList Try.prog ops Q (o :: rest) a w := by
  obtain ⟨i0, hi, hz0, hz1, hz2⟩ := info_parts Try.infoBool
  refine wpList_make_full (P := Try.prog) w hgd l c 112 ho w.heap.size 4 i0 (.bool false) 1 Try.underlying112 hi hz0 hz1 .i64 .i64 n n n hl hc rfl rfl (by rw [hz2]; omega) (by unfold maxLen; omega) (Nat.le_refl _) ?_
  intro w' hown hgrow
  refine h w' (fun i hi => ?_) (fun i => hown.frozenAt i) (below_grown hgrow (Nat.le_refl _) (by simp)) (hown.lt _ rfl).2
  rw [hown.cellAt i (by omega), show (Value.bool false).cells = #[.bool false] from rfl, toList_madeCells_one]
  simp [hi]

theorem cell_other {w : World} {b c i j : Nat} {v : Value} (h : b ≠ c) : (w.setCell ⟨b, i, none⟩ v).cell? ⟨c, j, none⟩ = w.cell? ⟨c, j, none⟩ :=
  World.cell?_of_block (heap_setCell_other w ⟨b, i, none⟩ c v (by simpa using fun e => h e.symm))

/-- Two new blocks, and what came behind them. -/
theorem two_below {w w1 : World} {A B : Array Value} {t u : TypeId} (hb : Below ((w.alloc (.cells A t)).alloc (.cells B u)).heap.size ((w.alloc (.cells A t)).alloc (.cells B u)) w1) :
    (∀ i, w1.cell? ⟨w.heap.size, i, none⟩ = A[i]?) ∧ (∀ i, w1.cell? ⟨w.heap.size + 1, i, none⟩ = B[i]?) ∧ (∀ i, w1.frozen? ⟨w.heap.size + 1, i, none⟩ = false) ∧ w.heap.size + 1 < w1.heap.size ∧ Below w.heap.size w w1 := by
  have hs : ((w.alloc (.cells A t)).alloc (.cells B u)).heap.size = w.heap.size + 2 := by simp
  refine ⟨fun i => ?_, fun i => ?_, fun i => ?_, by have := hb.size; omega, ?_⟩
  · rw [hb.cell (p := ⟨w.heap.size, i, none⟩) (by rw [hs]; simp), World.cell?_alloc_past _ _ _ (by simp), World.cell?_alloc_at _ _ _ _ rfl]
  · rw [hb.cell (p := ⟨w.heap.size + 1, i, none⟩) (by rw [hs]; simp), World.cell?_alloc_at _ _ _ _ (by simp)]
  · rw [hb.frozen (p := ⟨w.heap.size + 1, i, none⟩) (by rw [hs]; simp), World.frozen?_alloc_at _ _ _ _ (by simp)]
  · exact ((((Below.refl _ _).alloc (Nat.le_refl _) _).alloc (by simp) _).trans (hb.mono (by rw [hs]; omega)))

set_option maxHeartbeats 400000 in
theorem newStreet_any (p : Nat) (hp : p ≤ 12) (w : World) :
    Calls Try.prog 94 #[.int .i64 p] w fun e w' => ∃ bt bp g, e = .returned (.agg #[.func (.func 105) #[] #[.pointer (some ⟨bt, 0, none⟩)], .func (.func 106) #[] #[.pointer (some ⟨bp, 0, none⟩)]]) ∧
      Street w' w.heap.size bt bp g p (fun _ => false) ∧ Below w.heap.size w w' := by
  have hmf : ∀ (fn : Fn) (first cap : Array Value) (w : World), (Instr.makeFunc fn first cap).run Try.prog w = .ok (.func fn first cap) w := fun _ _ _ _ => rfl
  go_enter Try.func94, Try.ntmps94
  go_wp2_with (at_make; refine wpList_make_bools _ rfl _ _ rfl _ rfl rfl (by omega) ?_; intro w1 hc1 hf1 hb1 hs1; obtain ⟨q1, q2, q3, q4, q5⟩ := two_below hb1; clear hb1)
  refine bodyPost_ret (v := .agg #[.func (.func 105) #[] #[.pointer (some ⟨w1.heap.size, 0, none⟩)], .func (.func 106) #[] #[.pointer (some ⟨w.heap.size, 0, none⟩)]]) (by simp [results, Try.results94, go_sem, q2, q4]) rfl ⟨w1.heap.size, w.heap.size, w.heap.size + 2, rfl, ?_, ?_⟩
  · simp at hs1 hc1 hf1
    refine ⟨⟨by omega, by omega, by omega, by simp, by simp; omega, by simp; omega⟩, ⟨by omega, by omega⟩, ?_, ?_, fun i hi => ?_, fun i => ?_⟩
    · rw [World.cell?_alloc_at _ _ _ _ (by simp)]; rfl
    · rw [World.cell?_alloc_past _ _ _ (by simp; omega), cell_other (by omega), cell_other (by omega), q1]; rfl
    · rw [World.cell?_alloc_past _ _ _ (by simp; omega), cell_other (by omega), cell_other (by omega)]; exact hc1 i hi
    · rw [World.frozen?_alloc_past _ _ _ (by simp; omega), World.frozen?_setCell, World.frozen?_setCell]; exact hf1 i
  · exact ((q5.setCell (by simp) _).setCell (by simp) _).alloc (by simp; omega) _

/-- Behind a write into the block g: whatever is in another block is as it was. -/
structure Wrote (w w' : World) (g : Nat) : Prop where
  grown : w.grownBy w' (some g)
  size : w'.heap.size = w.heap.size

set_option maxHeartbeats 400000 in
theorem take_any (B bt bp g p x : Nat) (tk : Nat → Bool) (w : World) (h : Street w B bt bp g p tk) (hx : x < p) :
    Calls Try.prog 105 #[.int .i64 (x : Int), .pointer (some ⟨bt, 0, none⟩)] w fun e w' => e = .returned (.bool (!tk x)) ∧ Street w' B bt bp g p (fun i => if i = x then true else tk i) ∧ w.grownBy w' (some g) := by
  have h1 := h.taken
  have h2 := h.cells x hx
  have h3 := h.free x
  go_enter Try.func105, Try.ntmps105
  go_wp2_with fail
  go_ret
  refine ⟨rfl, ⟨by simpa using h.lt, h.ne, ?_, ?_, fun i hi => ?_, fun i => ?_⟩, ⟨rfl, rfl, rfl, by simp, fun k _ hk => heap_setCell_other w _ k _ (fun e => hk (by simp [e]))⟩⟩
  · rw [cell_other h.ne.1]; exact h1
  · rw [cell_other h.ne.2]; exact h.places
  · by_cases e : i = x
    · subst e
      rw [World.cell?_setCell_same _ _ _ h2]; simp
    · rw [World.cell?_setCell_other _ _ _ _ (by intro hh; injection hh with _ h5 _; exact e h5.symm), h.cells i hi]; simp [e]
  · rw [World.frozen?_setCell]; exact h.free i

set_option maxHeartbeats 400000 in
theorem next_any (B bt bp g p x : Nat) (tk : Nat → Bool) (w : World) (h : Street w B bt bp g p tk) (hx : x < p) (hp : p ≤ 12) :
    Calls Try.prog 106 #[.int .i64 (x : Int), .pointer (some ⟨bp, 0, none⟩)] w fun e w' => e = .returned (.tuple #[.int .i64 ((x : Int) + 1), .bool (decide ((x : Int) + 1 < (p : Int)))]) ∧ Quiet w w' := by
  have h1 := h.places
  go_enter Try.func106, Try.ntmps106
  go_wp2_with fail
  go_quiet (fail)
  go_wp2_with fail
  go_ret2
  exact ⟨rfl, ⟨_, rfl⟩⟩
end Go.Proofs.Ytakadjhbomggbab
