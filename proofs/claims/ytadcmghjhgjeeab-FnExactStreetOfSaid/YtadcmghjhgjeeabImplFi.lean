/- Keys put in: the program's rings of keys; TableOf. -/
import Derived.Test.YtadcmghjhgjeeabSpecIn
import Derived.Test.YtadcmghjhgjeeabCont
namespace Go.Proofs.Ytadcmghjhgjeeab
open Go.RowKit

def areB (ks : List Int) : Bool := allB ks 0 999 && diffB ks
theorem are_no1 {ks : List Int} {i : Nat} (hi : i < ks.length) (h : inB (nth ks i) 0 999 = false) : areB ks = false := by simp [areB, allB_no hi h]
theorem are_no2 {ks : List Int} {i : Nat} (hi : i < ks.length) (h : hasB (ks.take i) (nth ks i) = true) : areB ks = false := by
  have : diffB ks = false := by
    unfold diffB
    rw [List.all_eq_false]
    exact ⟨i, by simpa using hi, by simp [h]⟩
  simp [areB, this]
theorem are_yes {ks : List Int} (h1 : ∀ i, i < ks.length → inB (nth ks i) 0 999 = true ∧ hasB (ks.take i) (nth ks i) = false) : areB ks = true := by
  have h2 : allB ks 0 999 = true := by
    rw [allB_iff]
    intro x hx
    obtain ⟨i, hi, rfl⟩ := mem_nth hx
    exact inB_iff.1 (h1 i hi).1
  have h3 : diffB ks = true := by
    unfold diffB
    simp only [List.all_eq_true, List.mem_range, Bool.not_eq_true']
    exact fun i hi => (h1 i hi).2
  simp [areB, h2, h3]
theorem keysB_are {p : Int} {ks : List Int} (h1 : inB p 2 12 = true) (h2 : (ks.length : Int) < p) : keysB p ks = areB ks := by simp [keysB, areB, h1, h2]

/-- A way to put keys in, as the program's functions have it. -/
structure WayIn (F : Nat) (step : List Int → Int → List Int) : Prop where
  ent : ∀ args w, (callFunc F args).run Try.prog w = .ok (.enter F args) w
  len : ∀ cs key, (step cs key).length = cs.length
  pt : ∀ n cs done x, Pt n cs done → done.length < n → x ∉ cs → x ≠ -1 → Pt n (step cs x) (done ++ [x])
  call : ∀ cs key q w, Rg cs → 0 ≤ key → freeAt cs q → key ∉ cs → (∀ i, i < cs.length → -1 ≤ nth cs i) → Calls Try.prog F #[.agg (ivals (ringL cs)), .int .i64 key] w fun e w' => e = .returned (.agg (ivals (ringL (step cs key)))) ∧ Below w.heap.size w w'
/-- What keys make. -/
def fillL (step : List Int → Int → List Int) (n : Nat) (ks : List Int) : List Int := ks.foldl step (emptyL n)
theorem fillL_succ {step : List Int → Int → List Int} {n : Nat} {ks : List Int} {k : Nat} (h : k < ks.length) : fillL step n (ks.take (k + 1)) = step (fillL step n (ks.take k)) (nth ks k) := by
  rw [take_succ_nth h]
  simp [fillL]
theorem pt_fill {F : Nat} {step : List Int → Int → List Int} (hw : WayIn F step) {n : Nat} {keys : List Int} (h : keysB n keys = true) : ∀ k, k ≤ keys.length → Pt n (fillL step n (keys.take k)) (keys.take k)
  | 0, _ => by simpa [fillL] using pt_empty n
  | k + 1, hk => by
    obtain ⟨h1, h2, h3, h4⟩ := keysB_iff.1 h
    rw [fillL_succ (by omega), take_succ_nth (by omega)]
    refine hw.pt _ _ _ _ (pt_fill hw h k (by omega)) (by simp; omega) (pt_new h (by omega) (pt_fill hw h k (by omega))) ?_
    have := h3 _ (nth_mem (show k < keys.length by omega))
    omega
def filledOf (step : List Int → Int → List Int) (p : Int) (ks : List Int) : List Int × Bool := if keysB p ks then (ringL (fillL step p.toNat ks), true) else (zeroR, false)

/-- A key put in as the program does it. -/
def insP (cs : List Int) (key : Int) : List Int := cs.set (srch cs key) key
theorem insP_insL {cs : List Int} {key : Int} (h : key ∉ cs) (hf : ∃ q, freeAt cs q) : insP cs key = insL cs key := by unfold insP insL; rw [srch_slot h hf]
theorem wayIn_with : WayIn 91 insP where
  ent := fun args w => by go_simp
  len := fun cs key => by simp [insP]
  pt := fun n cs done x hp hl hn hx => by rw [insP_insL hn (hp.free hl)]; exact hp.ins hl hx
  call := fun cs key q w hr h0 hq _ _ => with_any cs key q w hr h0 hq
theorem fill_tab {n : Nat} {ks : List Int} (h : keysB n ks = true) : ∀ k, k ≤ ks.length → fillL insP n (ks.take k) = tabL n (ks.take k)
  | 0, _ => by simp [fillL, tabL]
  | k + 1, hk => by
    have hp := pt_tab h k (by omega)
    obtain ⟨h1, h2, h3, h4⟩ := keysB_iff.1 h
    rw [fillL_succ (by omega), tabL_succ (by omega), fill_tab h k (by omega), insP_insL (pt_new h (by omega) hp) (hp.free (by rw [List.length_take]; omega))]
theorem filled_tab {n : Nat} {ks : List Int} (h : keysB n ks = true) : filledOf insP n ks = (ringL (tabL n ks), true) := by
  have := fill_tab h ks.length (Nat.le_refl _)
  rw [List.take_length] at this
  unfold filledOf
  rw [if_pos h, Int.toNat_natCast, this]
theorem filled_no {step : List Int → Int → List Int} {n : Int} {ks : List Int} (h : keysB n ks = false) : filledOf step n ks = (zeroR, false) := by unfold filledOf; rw [h]; rfl

theorem length_tabL {n : Nat} {ks : List Int} (h : keysB n ks = true) : (tabL n ks).length = n := by
  have := (pt_tab h ks.length (Nat.le_refl _)).len
  rwa [List.take_length] at this
end Go.Proofs.Ytadcmghjhgjeeab
