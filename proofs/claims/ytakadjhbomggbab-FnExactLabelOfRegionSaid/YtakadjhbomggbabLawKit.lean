/- What the proofs of the exact laws share: arguments that came in, and facts that are carried from call to call. -/
import Derived.Test.YtakadjhbomggbabHelp
import Derived.Below
import Derived.ChangeSame
namespace Go.Proofs.Ytakadjhbomggbab
open Go.RowKit

/-- The slice's block is less than K. -/
def BlkLt (a : Option Addr) (K : Nat) : Prop := ∀ p, a = some p → p.block < K
/-- The slice's block is at least K. -/
def BlkGe (a : Option Addr) (K : Nat) : Prop := ∀ p, a = some p → K ≤ p.block

theorem Own.ge {w : World} {B : Nat} {a : Option Addr} {n cap : Nat} {xs : List Int} (h : Own w B a n cap xs) : BlkGe a B := by
  rintro p rfl
  exact (h.1.lt p.block rfl).1
theorem Own.lt {w : World} {B : Nat} {a : Option Addr} {n cap : Nat} {xs : List Int} (h : Own w B a n cap xs) : BlkLt a w.heap.size := by
  rintro p rfl
  exact (h.1.lt p.block rfl).2
theorem BlkGe.mono {a : Option Addr} {K K' : Nat} (h : BlkGe a K) (hK : K' ≤ K) : BlkGe a K' := fun p hp => Nat.le_trans hK (h p hp)

theorem Own.marked_lt {w w' : World} {B K : Nat} {a a' : Option Addr} {n cap : Nat} {xs : List Int} (h : Own w B a n cap xs) (hm : Marked w w' a') (hl : BlkLt a K) (hg : BlkGe a' K) : Own w' B a n cap xs := by
  obtain ⟨row, hgr, hr⟩ := hm
  cases row with
  | none => exact ⟨h.1.kept hgr ((Classical.em _).elim .inl fun h => .inr h), h.2⟩
  | some g =>
    obtain ⟨p, rfl, rfl⟩ := hr g rfl
    exact h.kept hgr (.inr fun q hq => by have := hl q hq; have := hg p rfl; omega)
theorem Own.marked_gt {w w' : World} {B : Nat} {a a' : Option Addr} {n cap : Nat} {xs : List Int} (h : Own w B a n cap xs) (hm : Marked w w' a') (hl : BlkLt a' B) : Own w' B a n cap xs := by
  obtain ⟨row, hgr, hr⟩ := hm
  cases row with
  | none => exact ⟨h.1.kept hgr ((Classical.em _).elim .inl fun h => .inr h), h.2⟩
  | some g =>
    obtain ⟨p, rfl, rfl⟩ := hr g rfl
    exact h.kept hgr (.inl (hl p rfl))
theorem Marked.below {w w' : World} {a : Option Addr} {K : Nat} (hm : Marked w w' a) (hg : BlkGe a K) (hK : K ≤ w.heap.size) : Below K w w' := by
  obtain ⟨row, hgr, hr⟩ := hm
  exact below_grown hgr hK fun k hk => by
    obtain ⟨p, rfl, rfl⟩ := hr k hk
    exact hg p rfl
theorem Has.marked {w w' : World} {a a' : Option Addr} {n cap : Nat} {xs : List Int} {K : Nat} (h : Has w a n cap xs) (hm : Marked w w' a') (hl : BlkLt a K) (hg : BlkGe a' K) : Has w' a n cap xs := by
  obtain ⟨row, hgr, hr⟩ := hm
  cases row with
  | none =>
    obtain ⟨h0, h1, h2, h3, h4⟩ := h
    refine ⟨h0, h1, h2, h3, fun hx => ?_⟩
    obtain ⟨b, off, ha, hlt, hc⟩ := h4 hx
    exact ⟨b, off, ha, Nat.lt_of_lt_of_le hlt hgr.size, fun i hi => hgr.cell (hc i hi) (by simp)⟩
  | some g =>
    obtain ⟨p, rfl, rfl⟩ := hr g rfl
    exact h.kept hgr fun q hq => by have := hl q hq; have := hg p rfl; omega

/-- An argument's slice reads as numbers; its block lies below the heap's end. -/
theorem has_of_row {w : World} {a : Option Addr} {len cap : Nat} {zs : List Int}
    (h : (a = none ∧ len = 0 ∧ cap = 0 ∧ zs = []) ∨ ∃ x, a = some x ∧ len ≤ cap ∧ cap ≤ maxLen ∧ zs.length = cap ∧ (∀ i, i < zs.length → w.cell? (x.add i) = some (.int .i64 (zs.getD i 0))) ∧ ∀ n ∈ zs, (Lit.int .i64 n).wf = true)
    (hl : len ≤ 1048576) : ∃ xs, Has w a len cap xs := by
  rcases h with ⟨rfl, rfl, rfl, rfl⟩ | ⟨x, rfl, h1, h2, h3, h4, h5⟩
  · exact ⟨[], rfl, Nat.le_refl _, by unfold maxLen; omega, by omega, by simp⟩
  · refine ⟨zs.take len, by simp; omega, h1, h2, by omega, fun hx => ?_⟩
    obtain ⟨b, off, spot⟩ := x
    have hc := h4 0 (by omega)
    have hspot : spot = none := by simpa [Addr.add] using World.cell?_spot hc
    subst hspot
    refine ⟨b, off, rfl, by have := World.block_lt_of_cell? w _ hc; simpa [Addr.add] using this, fun i hi => ?_⟩
    have := h4 i (by omega)
    have e : (⟨b, off, none⟩ : Addr).add i = ⟨b, off + i, none⟩ := by unfold Addr.add; split <;> simp_all
    rw [e] at this
    rw [this, nth_take hi]
    rfl

theorem Has.lt {w : World} {a : Option Addr} {n cap : Nat} {xs : List Int} (h : Has w a n cap xs) (hn : 0 < n) : BlkLt a w.heap.size := by
  obtain ⟨b, off, rfl, hlt, _⟩ := h.2.2.2.2 hn
  rintro p hp
  cases hp
  exact hlt

/-- Behind a mark in a block of the call's own an argument reads as it did. -/
theorem Has.beyond {w0 w : World} {a : Option Addr} {n cap : Nat} {xs : List Int} (h : Has w0 a n cap xs) (hB : Below w0.heap.size w0 w) : Has w a n cap xs := h.below hB (Nat.le_refl _)

open Go.WideShapes Go.ChangeShapes in
/-- A row's last step where the call leaves what was below the heap's end as it was. -/
theorem post_grew {H : Type} {enc : TypeId × Value → H} {P : Program} {f : Func} {s : ChangeSpec} {apart fresh handsOn again : Bool} {W W' : World} {args : Array Value} {v : Value} {ds gs : List (DataW H)} {before pa pv : List MemPlace}
    (hW : DataW.Whole enc P f.params.toList s.vars apart W args.toList ds gs before)
    (hres : ∀ (b : Nat) (sp : Nat → Bool) (hd : Bool), DataW.TrodAll enc P W' b sp hd f.resultTypes.toList (v.resultList f.resultTypes.size) (s.fn H (ds ++ gs)).results [])
    (hargs : ∀ sp : Nat → Bool, (∀ p ∈ before, sp p.block = true) → DataW.TrodAll enc P W' 0 sp true f.params.toList args.toList (s.fn H (ds ++ gs)).args pa)
    (hvars : ∀ sp : Nat → Bool, (∀ p ∈ before, sp p.block = true) → DataW.TrodVars enc P W' sp s.vars (s.fn H (ds ++ gs)).vars pv)
    (hps : before = pa ++ pv) (hb : Below W.heap.size W W')
    (hok : ∀ (j : Nat) (t : TypeId) (r : Value), f.resultTypes[j]? = some t → (v.resultList f.resultTypes.size)[j]? = some r → Value.okWide P W' .any 0 t r) :
    s.post enc P f apart fresh handsOn again W args v W' := by
  have old : ∀ p ∈ before, (fun b => decide (b < W.heap.size)) p.block = true := fun p hp => decide_eq_true (hW.lt p hp)
  have keep : W.keptBut W' fun p => p ∈ before ∧ p ∈ pa ++ pv := World.keptBut_mono (fun p hp => ⟨hp, by rw [← hps]; exact hp⟩) (hb.frame (· ∈ before))
  subst hps
  refine ⟨ds, gs, pa ++ pv, [], pa, pv, hW, hres _ _ _, hargs _ old, hvars _ old, World.keptBut_mono (fun p hp => ⟨hp.1, ?_⟩) keep, fun _ => ?_⟩
  · exact (List.mem_append.1 hp.2).symm.elim Or.inl Or.inr |> fun h => by
      rcases h with h | h
      · exact .inr (.inr h)
      · exact .inr (.inl h)
  · obtain ⟨_, _, _, _, _, hz, hn⟩ := hW
    refine ⟨hok, _, _, ([] ++ pa) ++ pv, ⟨[] ++ pa, pv, trodAll_append (hargs _ (fun _ _ => rfl)) (hres _ _ _), hvars _ (fun _ _ => rfl), rfl, fun b off hp => ?_, fun ha => by simpa using hn ha⟩, fun p hp _ => by simpa using hp⟩
    have hin : MemPlace.cell b off ∈ pa ++ pv := by simpa using hp
    rw [hb.frozen (of_decide_eq_true (old _ hin))]
    exact hz b off hin

theorem same_self (xs : List Int) : same xs xs = true := by simp [same]
theorem neq_self_bool (b : Bool) : (b != b) = false := by simp
theorem neq_self_int (b : Int) : (b != b) = false := by simp
end Go.Proofs.Ytakadjhbomggbab
