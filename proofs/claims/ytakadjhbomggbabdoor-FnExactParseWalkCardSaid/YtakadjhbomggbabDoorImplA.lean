/- The program's functions of chapter 1, by their contracts: favourites, streets, parking. -/
import Derived.Test.YtakadjhbomggbabDoorHelp
import Derived.Test.YtakadjhbomggbabDoorMath1
import Derived.Laws.EntriesVeiled
namespace Go.Proofs.YtakadjhbomggbabDoor
open Go.RowKit

set_option maxHeartbeats 400000 in
theorem areCarsBelow_any (a : Option Addr) (n cap : Nat) (xs : List Int) (bd : Int) (w : World) (h : Has w a n cap xs) :
    Calls Tryd.prog 44 #[.slice a n cap, .int .i64 bd] w fun e w' => e = .returned (.bool (carsB xs bd)) ∧ w = w' := by
  obtain ⟨h0, h1, h2, h3, h4⟩ := h
  by_cases h8 : n ≤ 8
  · go_enter Tryd.func44, Tryd.ntmps44
    go_wp2_with fail
    go_loop [12] (fun i => ∃ k : Nat, k ≤ n ∧ i = .int .i64 k ∧ allB (xs.take k) 0 (bd - 1) = true) (fun i => n - (intOf i).toNat)
    case atStart => exact ⟨0, Nat.zero_le _, rfl, rfl⟩
    case round =>
      obtain ⟨k, hk, rfl, hrel⟩ := hrel
      have HR := hid hrel
      clear hrel
      by_cases hlt : k < n
      · obtain ⟨b, off, rfl, hb, hc⟩ := h4 (by omega)
        have hck := hc k hlt
        clear hc h4
        by_cases h5 : nth xs k < 0
        · have HN := hid (allB_no (xs := xs) (lo := 0) (hi := bd - 1) (k := k) (by omega) (by rw [inB_not]; omega))
          go_wp2_with fail
          go_ret
          exact ⟨ret_bool (by simp [carsB, HN.out]), rfl⟩
        · by_cases h6 : bd ≤ nth xs k
          · have HN := hid (allB_no (xs := xs) (lo := 0) (hi := bd - 1) (k := k) (by omega) (by rw [inB_not]; omega))
            go_wp2_with fail
            go_ret
            exact ⟨ret_bool (by simp [carsB, HN.out]), rfl⟩
          · have HS := hid (allB_succ (xs := xs) (k := k) (by omega) HR.out (by rw [inB_iff]; omega))
            go_wp2_with fail
            go_round
            case rel => exact ⟨k + 1, by omega, by go_num, HS.out⟩
            case measure => simp [intOf]; omega
      · go_wp2_with fail
        go_ret
        exact ⟨ret_bool (by have := HR.out; rw [List.take_of_length_le (by omega)] at this; simp [carsB, this, h0, h8]), rfl⟩
  · go_enter Tryd.func44, Tryd.ntmps44
    go_wp2_with fail
    go_ret
    exact ⟨ret_bool (by simp [carsB, h0, h8]), rfl⟩

/-- A street in memory: the cell bt holds the slice of what is taken (block g), the cell bp the number of places. -/
structure Street (w : World) (B bt bp g p : Nat) (tk : Nat → Bool) : Prop where
  lt : B ≤ bt ∧ B ≤ bp ∧ B ≤ g ∧ bt < w.heap.size ∧ bp < w.heap.size ∧ g < w.heap.size
  ne : g ≠ bt ∧ g ≠ bp
  taken : w.cell? ⟨bt, 0, none⟩ = some (.slice (some ⟨g, 0, none⟩) p p)
  places : w.cell? ⟨bp, 0, none⟩ = some (.int .i64 p)
  cells : ∀ i, i < p → w.cell? ⟨g, i, none⟩ = some (.bool (tk i))
  free : ∀ i, w.frozen? ⟨g, i, none⟩ = false

theorem Street.below {w w' : World} {B bt bp g p K : Nat} {tk : Nat → Bool} (h : Street w B bt bp g p tk) (hb : Below K w w') (hK : w.heap.size ≤ K) : Street w' B bt bp g p tk := by
  obtain ⟨⟨l1, l2, l3, l4, l5, l6⟩, ne, t, pl, c, f⟩ := h
  have := hb.size
  refine ⟨⟨l1, l2, l3, by omega, by omega, by omega⟩, ne, ?_, ?_, fun i hi => ?_, fun i => ?_⟩
  · rw [hb.cell (p := ⟨bt, 0, none⟩) (by simp; omega)]; exact t
  · rw [hb.cell (p := ⟨bp, 0, none⟩) (by simp; omega)]; exact pl
  · rw [hb.cell (p := ⟨g, i, none⟩) (by simp; omega)]; exact c i hi
  · rw [hb.frozen (p := ⟨g, i, none⟩) (by simp; omega)]; exact f i

theorem Tryd.infoBool : (Tryd.prog.info? 4).map (fun i => (i.zero, i.size, i.bytes)) = some (some (.bool false), 1, 1) := by kernel_rfl

theorem cell_other {w : World} {b c i j : Nat} {v : Value} (h : b ≠ c) : (w.setCell ⟨b, i, none⟩ v).cell? ⟨c, j, none⟩ = w.cell? ⟨c, j, none⟩ :=
  World.cell?_of_block (heap_setCell_other w ⟨b, i, none⟩ c v (by simpa using fun e => h e.symm))

/-- Two new blocks, and what came behind them. -/
theorem two_below {w w1 : World} {A B : Array Value} {t u : TypeId} (hb : Below ((w.alloc (.cells A t)).alloc (.cells B u)).heap.size ((w.alloc (.cells A t)).alloc (.cells B u)) w1) :
    (∀ i, w1.cell? ⟨w.heap.size, i, none⟩ = A[i]?) ∧ (∀ i, w1.cell? ⟨w.heap.size + 1, i, none⟩ = B[i]?) ∧ (∀ i, w1.frozen? ⟨w.heap.size + 1, i, none⟩ = false) ∧ w.heap.size + 1 < w1.heap.size ∧ Below w.heap.size w w1 := by
  have hs : ((w.alloc (.cells A t)).alloc (.cells B u)).heap.size = w.heap.size + 2 := by simp
  refine ⟨fun i => ?_, fun i => ?_, fun i => ?_, by have := hb.size; omega, ?_⟩
  · rw [hb.cell (p := ⟨w.heap.size, i, none⟩) (by rw [hs]; simp), World.cell?_alloc_past _ _ _ (by simp), World.cell?_alloc_at _ _ _ _ rfl]
  · rw [hb.cell (p := ⟨w.heap.size + 1, i, none⟩) (by rw [hs]; simp), World.cell?_alloc_at _ _ _ _ (by simp)]
  · rw [hb.frozen (p := ⟨w.heap.size + 1, i, none⟩) (by rw [hs]; simp), World.frozen?_alloc_at _ _ _ _ (by simp)]
  · exact ((((Below.refl _ _).alloc (Nat.le_refl _) _).alloc (by simp) _).trans (hb.mono (by rw [hs]; omega)))

/-- Behind a write into the block g: whatever is in another block is as it was. -/
structure Wrote (w w' : World) (g : Nat) : Prop where
  grown : w.grownBy w' (some g)
  size : w'.heap.size = w.heap.size

end Go.Proofs.YtakadjhbomggbabDoor
