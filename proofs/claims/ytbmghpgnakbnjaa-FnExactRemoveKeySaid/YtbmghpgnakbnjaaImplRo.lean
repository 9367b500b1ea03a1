/- Rings of robin hood: a key put in. -/
import Derived.Test.YtbmghpgnakbnjaaImplFn
import Derived.Deep.DeepCutAuto
namespace Go.Proofs.Ytbmghpgnakbnjaa
open Go.RowKit

theorem before_iff {n : Nat} {a b : Int} {c : Nat} : before n a b c = true ↔ costN n b c < costN n a c ∨ (costN n a c = costN n b c ∧ b < a) := by simp [before]

theorem next_toNat (c n : Nat) : (((c : Int) + 1) % (n : Int)).toNat = (c + 1) % n := by rw [show ((c : Int) + 1) = ((c + 1 : Nat) : Int) by omega, ← Int.natCast_emod, Int.toNat_natCast]
/-- On the way of what is in hand. -/
structure Rb (n q : Nat) (R cs : List Int) (hand : Int) (c : Nat) : Prop where
  len : cs.length = n
  lt : c < n
  free : freeAt cs q
  h0 : 0 ≤ hand
  bd : ∀ i, i < n → -1 ≤ nth cs i
  at_ : ∃ f, wayN n c q ≤ f ∧ robGo n f cs hand c = R
theorem Rb.stop {n q : Nat} {R cs : List Int} {hand : Int} {c : Nat} (h : Rb n q R cs hand c) (hc : nth cs c = -1) : cs.set c hand = R := by
  obtain ⟨f, _, h2⟩ := h.at_
  rw [robGo_end hc] at h2
  exact h2
theorem Rb.ne {n q : Nat} {R cs : List Int} {hand : Int} {c : Nat} (h : Rb n q R cs hand c) (hc : nth cs c ≠ -1) : c ≠ q := fun e => hc (e ▸ h.free.2)
theorem Rb.step {n q : Nat} {R cs : List Int} {hand : Int} {c : Nat} (h : Rb n q R cs hand c) (hc : nth cs c ≠ -1) : wayN n c q = wayN n ((c + 1) % n) q + 1 := way_step h.lt (by have := h.free.1; have := h.len; omega) (h.ne hc)
theorem Rb.keep {n q : Nat} {R cs : List Int} {hand : Int} {c : Nat} (h : Rb n q R cs hand c) (hc : nth cs c ≠ -1) (hb : before n hand (nth cs c) c = false) : Rb n q R cs hand ((c + 1) % n) := by
  have hst := h.step hc
  obtain ⟨f, h1, h2⟩ := h.at_
  refine ⟨h.len, Nat.mod_lt _ (by have := h.lt; omega), h.free, h.h0, h.bd, ?_⟩
  cases f with
  | zero => omega
  | succ f => exact ⟨f, by omega, by rw [← h2, robGo_keep hc hb]⟩
theorem Rb.swap {n q : Nat} {R cs : List Int} {hand : Int} {c : Nat} (h : Rb n q R cs hand c) (hc : nth cs c ≠ -1) (hb : before n hand (nth cs c) c = true) : Rb n q R (cs.set c hand) (nth cs c) ((c + 1) % n) := by
  have hst := h.step hc
  have hl := h.len
  have hlt := h.lt
  have hne := h.ne hc
  obtain ⟨f, h1, h2⟩ := h.at_
  refine ⟨by simp [hl], Nat.mod_lt _ (by omega), ⟨by simp; exact h.free.1, by rw [nth_set (by omega), if_neg hne]; exact h.free.2⟩, by have := h.bd c hlt; omega, ?_, ?_⟩
  · intro i hi
    rw [nth_set (by omega)]
    split
    · have := h.h0; omega
    · exact h.bd i hi
  · cases f with
    | zero => omega
    | succ f => exact ⟨f, by omega, by rw [← h2, robGo_swap hc hb]⟩
theorem Rb.start {n q : Nat} {cs : List Int} {key : Int} (hl : cs.length = n) (hq : freeAt cs q) (h0 : 0 ≤ key) (hb : ∀ i, i < n → -1 ≤ nth cs i) : Rb n q (robIn cs key) cs key (ownN n key) := by
  have hn : 0 < n := by have := hq.1; omega
  refine ⟨hl, own_lt hn, hq, h0, hb, n, Nat.le_of_lt (way_lt hn), ?_⟩
  unfold robIn
  rw [hl]

theorem length_robGo {n : Nat} : ∀ (f : Nat) (cs : List Int) (hand : Int) (c : Nat), (robGo n f cs hand c).length = cs.length
  | 0, cs, hand, c => by simp [robGo]
  | f + 1, cs, hand, c => by
    simp only [robGo]
    split
    · simp
    · split
      · rw [length_robGo]; simp
      · rw [length_robGo]
theorem length_robIn (cs : List Int) (key : Int) : (robIn cs key).length = cs.length := length_robGo _ _ _ _
theorem rs_outC {w w1 : World} {g : Nat} {cs : List Int} {c : Nat} (h : RS w g (ringL cs) w1) (hc : c < cs.length) (h12 : cs.length ≤ 12) : RS w g (ringL cs) w1 ∧ w1.cell? ⟨g, 1 + c, none⟩ = some (.int .i64 (nth cs c)) ∧ w1.cell? ⟨g, 0, none⟩ = some (.int .i64 (cs.length : Int)) ∧ w1.cell? ⟨g, 1, none⟩ = some (.int .i64 (nth (pad cs) 0)) ∧ w1.cell? ⟨g, 2, none⟩ = some (.int .i64 (nth (pad cs) 1)) ∧ w1.cell? ⟨g, 3, none⟩ = some (.int .i64 (nth (pad cs) 2)) ∧ w1.cell? ⟨g, 4, none⟩ = some (.int .i64 (nth (pad cs) 3)) ∧ w1.cell? ⟨g, 5, none⟩ = some (.int .i64 (nth (pad cs) 4)) ∧ w1.cell? ⟨g, 6, none⟩ = some (.int .i64 (nth (pad cs) 5)) ∧ w1.cell? ⟨g, 7, none⟩ = some (.int .i64 (nth (pad cs) 6)) ∧ w1.cell? ⟨g, 8, none⟩ = some (.int .i64 (nth (pad cs) 7)) ∧ w1.cell? ⟨g, 9, none⟩ = some (.int .i64 (nth (pad cs) 8)) ∧ w1.cell? ⟨g, 10, none⟩ = some (.int .i64 (nth (pad cs) 9)) ∧ w1.cell? ⟨g, 11, none⟩ = some (.int .i64 (nth (pad cs) 10)) ∧ w1.cell? ⟨g, 12, none⟩ = some (.int .i64 (nth (pad cs) 11)) := by
  exact ⟨h, ring_cell h.ring hc h12, ring_out h.ring⟩
theorem rs_firstC {w w1 : World} {g : Nat} {cs : List Int} {c : Nat} (h : RS w g (ringL cs) w1) (hc : c < cs.length) (h12 : cs.length ≤ 12) : RS w g (ringL cs) w1.drew ∧ w1.drew.cell? ⟨g, 1 + c, none⟩ = some (.int .i64 (nth cs c)) ∧ w1.drew.cell? ⟨g, 0, none⟩ = some (.int .i64 (cs.length : Int)) ∧ w1.drew.cell? ⟨g, 1, none⟩ = some (.int .i64 (nth (pad cs) 0)) ∧ w1.drew.cell? ⟨g, 2, none⟩ = some (.int .i64 (nth (pad cs) 1)) ∧ w1.drew.cell? ⟨g, 3, none⟩ = some (.int .i64 (nth (pad cs) 2)) ∧ w1.drew.cell? ⟨g, 4, none⟩ = some (.int .i64 (nth (pad cs) 3)) ∧ w1.drew.cell? ⟨g, 5, none⟩ = some (.int .i64 (nth (pad cs) 4)) ∧ w1.drew.cell? ⟨g, 6, none⟩ = some (.int .i64 (nth (pad cs) 5)) ∧ w1.drew.cell? ⟨g, 7, none⟩ = some (.int .i64 (nth (pad cs) 6)) ∧ w1.drew.cell? ⟨g, 8, none⟩ = some (.int .i64 (nth (pad cs) 7)) ∧ w1.drew.cell? ⟨g, 9, none⟩ = some (.int .i64 (nth (pad cs) 8)) ∧ w1.drew.cell? ⟨g, 10, none⟩ = some (.int .i64 (nth (pad cs) 9)) ∧ w1.drew.cell? ⟨g, 11, none⟩ = some (.int .i64 (nth (pad cs) 10)) ∧ w1.drew.cell? ⟨g, 12, none⟩ = some (.int .i64 (nth (pad cs) 11)) := rs_outC h.drew hc h12
theorem rs_nextC {w w1 w2 : World} {g : Nat} {cs : List Int} {c : Nat} {p : Prop} (h : RS w g (ringL cs) w1 ∧ p) (hb : Below w1.heap.size w1 w2) (hc : c < cs.length) (h12 : cs.length ≤ 12) : RS w g (ringL cs) w2 ∧ w2.cell? ⟨g, 1 + c, none⟩ = some (.int .i64 (nth cs c)) ∧ w2.cell? ⟨g, 0, none⟩ = some (.int .i64 (cs.length : Int)) ∧ w2.cell? ⟨g, 1, none⟩ = some (.int .i64 (nth (pad cs) 0)) ∧ w2.cell? ⟨g, 2, none⟩ = some (.int .i64 (nth (pad cs) 1)) ∧ w2.cell? ⟨g, 3, none⟩ = some (.int .i64 (nth (pad cs) 2)) ∧ w2.cell? ⟨g, 4, none⟩ = some (.int .i64 (nth (pad cs) 3)) ∧ w2.cell? ⟨g, 5, none⟩ = some (.int .i64 (nth (pad cs) 4)) ∧ w2.cell? ⟨g, 6, none⟩ = some (.int .i64 (nth (pad cs) 5)) ∧ w2.cell? ⟨g, 7, none⟩ = some (.int .i64 (nth (pad cs) 6)) ∧ w2.cell? ⟨g, 8, none⟩ = some (.int .i64 (nth (pad cs) 7)) ∧ w2.cell? ⟨g, 9, none⟩ = some (.int .i64 (nth (pad cs) 8)) ∧ w2.cell? ⟨g, 10, none⟩ = some (.int .i64 (nth (pad cs) 9)) ∧ w2.cell? ⟨g, 11, none⟩ = some (.int .i64 (nth (pad cs) 10)) ∧ w2.cell? ⟨g, 12, none⟩ = some (.int .i64 (nth (pad cs) 11)) := rs_outC (h.1.step hb) hc h12
end Go.Proofs.Ytbmghpgnakbnjaa
