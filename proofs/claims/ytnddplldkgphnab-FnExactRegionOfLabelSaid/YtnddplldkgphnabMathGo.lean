/- How the model finds the Region of a label: it goes on with each index that fits; one leads to the end, the others to none. -/
import Derived.Test.YtnddplldkgphnabMathRg
import Derived.Test.YtnddplldkgphnabMathRi
namespace Go.Proofs.Ytnddplldkgphnab
open Go.RowKit

/-- What comes of a Region part-way: the whole one, if it is the one of the label so far; none, if an index can't come any more. -/
structure GoSt (lab os fs : List Int) (p l : Nat) (R : (List Int × List Int) × Bool) : Prop where
  lo : os.length = p
  lf : fs.length = p
  nd : os.Nodup
  rng : ∀ x ∈ os, 0 ≤ x ∧ x < (lab.length : Int)
  le : l ≤ p
  last : (l : Int) = lastF fs p
  or : (R = (((regF lab lab.length).1, (regF lab lab.length).2.1), true) ∧ (regF lab p).1 = os ∧ (regF lab p).2.1 = fs ∧ (regF lab p).2.2 = l) ∨ (R = (([], []), false) ∧ ∃ u, u < lab.length ∧ Over lab os l u)

theorem go_start {lab : List Int} (hp : isPark lab = true) : GoSt lab [] [] 0 0 (regionOf lab) :=
  ⟨rfl, rfl, List.nodup_nil, by simp, Nat.le_refl _, rfl, .inl ⟨by unfold regionOf; rw [if_pos hp], rfl, rfl, rfl⟩⟩
theorem go_end {lab os fs : List Int} {l : Nat} {R : (List Int × List Int) × Bool} (h : GoSt lab os fs lab.length l R) : R = ((os, fs), true) := by
  rcases h.or with ⟨h1, h2, h3, h4⟩ | ⟨_, u, hu, ho⟩
  · rw [h1, h2, h3]
  · have := over_left ho hu h.nd h.rng
    have := h.lo
    omega
theorem go_next {lab os fs : List Int} {p l i f : Nat} {R R' : (List Int × List Int) × Bool} (h : GoSt lab os fs p l R) (hi : i < lab.length) (F : Fits lab os l i f)
    (hor : (R' = (((regF lab lab.length).1, (regF lab lab.length).2.1), true) ∧ (regF lab (p + 1)).1 = os ++ [(i : Int)] ∧ (regF lab (p + 1)).2.1 = fs ++ [(f : Int)] ∧ (regF lab (p + 1)).2.2 = f) ∨ (R' = (([], []), false) ∧ ∃ u, u < lab.length ∧ Over lab (os ++ [(i : Int)]) f u)) :
    GoSt lab (os ++ [(i : Int)]) (fs ++ [(f : Int)]) (p + 1) f R' := by
  have hfl := F.le
  refine ⟨by simp [h.lo], by simp [h.lf], List.nodup_append.2 ⟨h.nd, by simp, fun x hx y hy => by simp at hy; subst hy; rintro rfl; exact F.new hx⟩, fun x hx => ?_, by have := h.lo; omega, ?_, hor⟩
  · rcases List.mem_append.1 hx with hx | hx
    · exact h.rng x hx
    · simp at hx; subst hx; omega
  · rw [lastF_succ, ← h.lf, nth_append_at]
theorem go_step {lab os fs : List Int} {p l : Nat} {R : (List Int × List Int) × Bool} (hp : isPark lab = true) (hlt : p < lab.length) (h : GoSt lab os fs p l R) :
    ∃ st : Option (Nat × Nat), (∀ i f, i < lab.length → Fits lab os l i f → (st = some (i, f) → GoSt lab (os ++ [(i : Int)]) (fs ++ [(f : Int)]) (p + 1) f R ∧ R.2 = true) ∧ (st ≠ some (i, f) → GoSt lab (os ++ [(i : Int)]) (fs ++ [(f : Int)]) (p + 1) f (([], []), false))) ∧
      (st = none → R = (([], []), false)) ∧ (∀ i f, st = some (i, f) → i < lab.length ∧ Fits lab os l i f) := by
  have hlo := h.lo
  rcases h.or with ⟨h1, h2, h3, h4⟩ | ⟨h1, u, hu, ho⟩
  · have A := alive_reg hp p (by omega)
    rw [h2, h4] at A
    obtain ⟨a1, a2, a3, a4⟩ := alive_next A hp (by omega)
    have e1 : (regF lab (p + 1)).1 = os ++ [((nxtF lab os l lab.length).1 : Int)] := by rw [regF, h2, h4]
    have e2 : (regF lab (p + 1)).2.1 = fs ++ [((nxtF lab os l lab.length).2 : Int)] := by rw [regF, h2, h3, h4]
    have e3 : (regF lab (p + 1)).2.2 = (nxtF lab os l lab.length).2 := by rw [regF, h2, h4]
    refine ⟨some ((nxtF lab os l lab.length).1, (nxtF lab os l lab.length).2), fun i f hi F => ⟨fun e => ?_, fun hne => ?_⟩, fun e => by simp at e, fun i f e => ?_⟩
    · simp only [Option.some.injEq, Prod.mk.injEq] at e
      obtain ⟨rfl, rfl⟩ := e
      exact ⟨go_next h hi F (.inl ⟨h1, e1, e2, e3⟩), by rw [h1]⟩
    · rcases a4 i f hi F with ⟨g1, g2⟩ | g
      · exact absurd (by rw [g1, g2]) hne
      · exact go_next h hi F (.inr ⟨rfl, _, a1, g⟩)
    · simp only [Option.some.injEq, Prod.mk.injEq] at e
      obtain ⟨rfl, rfl⟩ := e
      exact ⟨a1, a2⟩
  · exact ⟨none, fun i f hi F => ⟨fun e => by simp at e, fun _ => go_next h hi F (.inr ⟨rfl, u, hu, over_next ho F⟩)⟩, fun _ => h1, fun i f e => by simp at e⟩
end Go.Proofs.Ytnddplldkgphnab
