/- Rings, by their functions' contracts: own cells, ways, costs. -/
import Derived.Test.YtnddplldkgphnaaRing
import Derived.Deep.RegionHeld3
namespace Go.Proofs.Ytnddplldkgphnaa
open Go.RowKit
theorem own_emod {n : Nat} {key : Int} (h0 : 0 ≤ key) : key % (n : Int) = (ownN n key : Nat) := by
  unfold ownN
  rw [Int.natCast_emod, Int.toNat_of_nonneg h0]
theorem beh_tmod {n c : Nat} : ((c : Int) + 1).tmod (n : Int) = ((c + 1) % n : Nat) := by
  rw [Int.tmod_eq_emod_of_nonneg (by omega), Int.natCast_emod]
  rfl
theorem way_emod {n a b : Nat} (ha : a < n) : ((b : Int) - (a : Int) + (n : Int)) % (n : Int) = (wayN n a b : Nat) := by
  unfold wayN
  rw [Int.natCast_emod, show ((b + n - a : Nat) : Int) = (b : Int) - (a : Int) + (n : Int) by omega]

/-- A ring's numbers: its size and its cells. -/
structure RingOf (n : Nat) (ps : List Int) : Prop where
  len : ps.length = 12
  lo : 1 ≤ n
  hi : n ≤ 12
theorem RingOf.all {n : Nat} {ps : List Int} (h : RingOf n ps) : ((n : Int) :: ps).length = 13 := by simp [h.len]

set_option maxHeartbeats 1000000 in
theorem ownCell_any (n : Nat) (ps : List Int) (key : Int) (w : World) (hr : RingOf n ps) (h0 : 0 ≤ key) :
    Calls Try.prog 50 #[.agg (ivals ((n : Int) :: ps)), .int .i64 key] w fun e w' => e = .returned (.int .i64 (ownN n key : Nat)) ∧ Below w.heap.size w w' := by
  have R := ringAt_new w hr.all
  have hc := R.cell (i := 0) (by omega)
  have hz : ¬ ((n : Int) = 0) := by have := hr.lo; omega
  simp only [nth, List.getD_cons_zero] at hc
  have hb := (Below.refl w.heap.size w).alloc (Nat.le_refl _) (.cells (ivals ((n : Int) :: ps)) 52)
  have HT := hid (own_emod (n := n) h0)
  go_enter Try.func50, Try.ntmps50
  go_wp2_with fail
  go_ret
  exact ⟨ret_int HT.out, hb⟩

set_option maxHeartbeats 1000000 in
theorem behind_any (n : Nat) (ps : List Int) (c : Nat) (w : World) (hr : RingOf n ps) (h0 : c < n) :
    Calls Try.prog 51 #[.agg (ivals ((n : Int) :: ps)), .int .i64 (c : Int)] w fun e w' => e = .returned (.int .i64 ((c + 1) % n : Nat)) ∧ Below w.heap.size w w' := by
  have R := ringAt_new w hr.all
  have hc := R.cell (i := 0) (by omega)
  have hz : ¬ ((n : Int) = 0) := by have := hr.lo; omega
  have h12 := hr.hi
  simp only [nth, List.getD_cons_zero] at hc
  have hb := (Below.refl w.heap.size w).alloc (Nat.le_refl _) (.cells (ivals ((n : Int) :: ps)) 52)
  have HT := hid (beh_tmod (n := n) (c := c))
  go_enter Try.func51, Try.ntmps51
  go_wp2_with fail
  go_ret
  exact ⟨ret_int HT.out, hb⟩

/-- A world in which a ring lies in its block, and what was there before. -/
structure RS (w : World) (g : Nat) (xs : List Int) (w' : World) : Prop where
  ring : RingAt w' g xs
  st : Below w.heap.size w w'
theorem RS.drew {w w1 : World} {g : Nat} {xs : List Int} (h : RS w g xs w1) : RS w g xs w1.drew := ⟨⟨h.ring.hp, h.ring.len⟩, h.st.drew⟩
theorem RS.step {w w1 w2 : World} {g : Nat} {xs : List Int} (h : RS w g xs w1) (hb : Below w1.heap.size w1 w2) : RS w g xs w2 := ⟨h.ring.below hb h.ring.lt, h.st.trans (hb.mono h.st.size)⟩
theorem ring_out {w : World} {g : Nat} {m : Int} {ps : List Int} (h : RingAt w g (m :: ps)) : w.cell? ⟨g, 0, none⟩ = some (.int .i64 m) ∧ w.cell? ⟨g, 1, none⟩ = some (.int .i64 (nth ps 0)) ∧ w.cell? ⟨g, 2, none⟩ = some (.int .i64 (nth ps 1)) ∧ w.cell? ⟨g, 3, none⟩ = some (.int .i64 (nth ps 2)) ∧ w.cell? ⟨g, 4, none⟩ = some (.int .i64 (nth ps 3)) ∧ w.cell? ⟨g, 5, none⟩ = some (.int .i64 (nth ps 4)) ∧ w.cell? ⟨g, 6, none⟩ = some (.int .i64 (nth ps 5)) ∧ w.cell? ⟨g, 7, none⟩ = some (.int .i64 (nth ps 6)) ∧ w.cell? ⟨g, 8, none⟩ = some (.int .i64 (nth ps 7)) ∧ w.cell? ⟨g, 9, none⟩ = some (.int .i64 (nth ps 8)) ∧ w.cell? ⟨g, 10, none⟩ = some (.int .i64 (nth ps 9)) ∧ w.cell? ⟨g, 11, none⟩ = some (.int .i64 (nth ps 10)) ∧ w.cell? ⟨g, 12, none⟩ = some (.int .i64 (nth ps 11)) := by
  have hc : ∀ i, i < 12 → w.cell? ⟨g, i + 1, none⟩ = some (.int .i64 (nth ps i)) := fun i hi => by
    rw [h.cell (i := i + 1) (by omega)]
    rfl
  exact ⟨h.cell (i := 0) (by omega), hc 0 (by omega), hc 1 (by omega), hc 2 (by omega), hc 3 (by omega), hc 4 (by omega), hc 5 (by omega), hc 6 (by omega), hc 7 (by omega), hc 8 (by omega), hc 9 (by omega), hc 10 (by omega), hc 11 (by omega)⟩
theorem ring_val {m : Int} {ps : List Int} (hl : ps.length = 12) : (#[.int .i64 m, .int .i64 (nth ps 0), .int .i64 (nth ps 1), .int .i64 (nth ps 2), .int .i64 (nth ps 3), .int .i64 (nth ps 4), .int .i64 (nth ps 5), .int .i64 (nth ps 6), .int .i64 (nth ps 7), .int .i64 (nth ps 8), .int .i64 (nth ps 9), .int .i64 (nth ps 10), .int .i64 (nth ps 11)] : Array Value) = ivals (m :: ps) := by
  match ps, hl with
  | [_, _, _, _, _, _, _, _, _, _, _, _], _ => rfl

theorem RS.first {w w1 : World} {g : Nat} {m : Int} {ps : List Int} (h : RS w g (m :: ps) w1) : RS w g (m :: ps) w1.drew ∧ w1.drew.cell? ⟨g, 0, none⟩ = some (.int .i64 m) ∧ w1.drew.cell? ⟨g, 1, none⟩ = some (.int .i64 (nth ps 0)) ∧ w1.drew.cell? ⟨g, 2, none⟩ = some (.int .i64 (nth ps 1)) ∧ w1.drew.cell? ⟨g, 3, none⟩ = some (.int .i64 (nth ps 2)) ∧ w1.drew.cell? ⟨g, 4, none⟩ = some (.int .i64 (nth ps 3)) ∧ w1.drew.cell? ⟨g, 5, none⟩ = some (.int .i64 (nth ps 4)) ∧ w1.drew.cell? ⟨g, 6, none⟩ = some (.int .i64 (nth ps 5)) ∧ w1.drew.cell? ⟨g, 7, none⟩ = some (.int .i64 (nth ps 6)) ∧ w1.drew.cell? ⟨g, 8, none⟩ = some (.int .i64 (nth ps 7)) ∧ w1.drew.cell? ⟨g, 9, none⟩ = some (.int .i64 (nth ps 8)) ∧ w1.drew.cell? ⟨g, 10, none⟩ = some (.int .i64 (nth ps 9)) ∧ w1.drew.cell? ⟨g, 11, none⟩ = some (.int .i64 (nth ps 10)) ∧ w1.drew.cell? ⟨g, 12, none⟩ = some (.int .i64 (nth ps 11)) := ⟨h.drew, ring_out h.drew.ring⟩
theorem RS.next {w w1 w2 : World} {g : Nat} {m : Int} {ps : List Int} {p : Prop} (h : RS w g (m :: ps) w1 ∧ p) (hb : Below w1.heap.size w1 w2) : RS w g (m :: ps) w2 ∧ w2.cell? ⟨g, 0, none⟩ = some (.int .i64 m) ∧ w2.cell? ⟨g, 1, none⟩ = some (.int .i64 (nth ps 0)) ∧ w2.cell? ⟨g, 2, none⟩ = some (.int .i64 (nth ps 1)) ∧ w2.cell? ⟨g, 3, none⟩ = some (.int .i64 (nth ps 2)) ∧ w2.cell? ⟨g, 4, none⟩ = some (.int .i64 (nth ps 3)) ∧ w2.cell? ⟨g, 5, none⟩ = some (.int .i64 (nth ps 4)) ∧ w2.cell? ⟨g, 6, none⟩ = some (.int .i64 (nth ps 5)) ∧ w2.cell? ⟨g, 7, none⟩ = some (.int .i64 (nth ps 6)) ∧ w2.cell? ⟨g, 8, none⟩ = some (.int .i64 (nth ps 7)) ∧ w2.cell? ⟨g, 9, none⟩ = some (.int .i64 (nth ps 8)) ∧ w2.cell? ⟨g, 10, none⟩ = some (.int .i64 (nth ps 9)) ∧ w2.cell? ⟨g, 11, none⟩ = some (.int .i64 (nth ps 10)) ∧ w2.cell? ⟨g, 12, none⟩ = some (.int .i64 (nth ps 11)) := ⟨h.1.step hb, ring_out (h.1.step hb).ring⟩

end Go.Proofs.Ytnddplldkgphnaa
