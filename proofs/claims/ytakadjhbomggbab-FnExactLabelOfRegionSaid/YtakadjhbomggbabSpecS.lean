/- The model's sort by insertion. -/
import Derived.Test.YtakadjhbomggbabSpecO
import Derived.Test.YtakadjhbomggbabMathS
namespace Go.Proofs.Ytakadjhbomggbab
open Go.RowKit

theorem Has.take {w : World} {a : Option Addr} {n cap : Nat} {xs : List Int} (h : Has w a n cap xs) {k : Nat} (hk : k ≤ n) : Has w a k cap (xs.take k) := by
  obtain ⟨h0, h1, h2, h3, h4⟩ := h
  refine ⟨by simp; omega, by omega, h2, by omega, fun hx => ?_⟩
  obtain ⟨b, off, ha, hlt, hc⟩ := h4 (by omega)
  exact ⟨b, off, ha, hlt, fun i hi => by rw [hc i (by omega), nth_take hi]⟩

theorem nth_drop {xs : List Int} {i k : Nat} : nth (xs.drop k) i = nth xs (k + i) := by simp [nth]

theorem Has.drop {w : World} {b off : Nat} {n cap : Nat} {xs : List Int} (h : Has w (some ⟨b, off, none⟩) n cap xs) {k : Nat} (hk : k ≤ n) : Has w (some ⟨b, off + k, none⟩) (n - k) (cap - k) (xs.drop k) := by
  obtain ⟨h0, h1, h2, h3, h4⟩ := h
  refine ⟨by simp; omega, by omega, by omega, by omega, fun hx => ?_⟩
  obtain ⟨b', off', ha, hlt, hc⟩ := h4 (by omega)
  cases ha
  exact ⟨b, off + k, rfl, hlt, fun i hi => by rw [Nat.add_assoc, hc (k + i) (by omega), nth_drop]⟩

theorem Has.belowB {w w' : World} {a : Option Addr} {n cap : Nat} {xs : List Int} {B : Nat} (h : Has w a n cap xs) (hb : Below B w w') (hl : ∀ p, a = some p → p.block < B) : Has w' a n cap xs := by
  obtain ⟨h0, h1, h2, h3, h4⟩ := h
  refine ⟨h0, h1, h2, h3, fun hx => ?_⟩
  obtain ⟨b, off, ha, hlt, hc⟩ := h4 hx
  have := hl _ ha
  exact ⟨b, off, ha, Nat.lt_of_lt_of_le hlt hb.size, fun i hi => by rw [hb.cell (p := ⟨b, off + i, none⟩) this]; exact hc i hi⟩

theorem slice_len {a : Option Addr} {n m cap : Nat} (h : n = m) : Value.slice a n cap = Value.slice a m cap := by rw [h]
theorem Own.relen {w : World} {B : Nat} {a : Option Addr} {n m cap : Nat} {xs ys : List Int} (h : Own w B a n cap xs) (hn : n = m) (he : ys = xs) : Own w B a m cap ys := by subst hn; subst he; exact h

theorem Has.nilAt {w : World} (a : Option Addr) {cap : Nat} (hc : cap ≤ maxLen) : Has w a 0 cap [] := ⟨rfl, by omega, hc, by omega, by omega⟩

theorem Has.empty {w : World} (a : Option Addr) {n cap : Nat} (hn : n ≤ 0) (hc : cap ≤ 0) : Has w a n cap [] := ⟨by simp; omega, by omega, by unfold maxLen; omega, by omega, by omega⟩

theorem Own.noneOf {w : World} {B n cap : Nat} {xs : List Int} (h : Own w B none n cap xs) : n = 0 ∧ cap = 0 ∧ xs = [] := by
  rcases h.1.2 with ⟨hv, hn⟩ | ⟨g, cap', cur, hv, _⟩
  · simp at hv
    exact ⟨hn, hv.2, List.eq_nil_of_length_eq_zero (by rw [h.len]; exact hn)⟩
  · simp at hv

theorem Own.someOf {w : World} {B n cap : Nat} {p : Addr} {xs : List Int} (h : Own w B (some p) n cap xs) : ∃ g, p = ⟨g, 0, none⟩ ∧ B ≤ g ∧ g < w.heap.size ∧ (∀ i, i < n → w.cell? ⟨g, i, none⟩ = some (.int .i64 (nth xs i))) ∧ (∀ i, w.frozen? ⟨g, i, none⟩ = false) ∧ n ≤ cap := by
  have h0 := h
  rcases h.1.2 with ⟨hv, hn⟩ | ⟨g, cap', cur, hv, hg, hh, hnc, hcm, hcs, htake⟩
  · simp at hv
  · simp at hv
    obtain ⟨rfl, rfl⟩ := hv
    refine ⟨g, rfl, hg, (Array.getElem?_eq_some_iff.1 hh).1, fun i hi => ?_, fun i => h0.1.frozenAt i, hnc⟩
    obtain ⟨_, _, _, _, h4⟩ := h0.has
    obtain ⟨b, off, ha, hlt, hc⟩ := h4 (by omega)
    cases ha
    simpa using hc i hi

end Go.Proofs.Ytakadjhbomggbab
