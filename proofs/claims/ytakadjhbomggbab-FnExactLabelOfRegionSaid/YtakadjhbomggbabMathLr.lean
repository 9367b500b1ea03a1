/- Labels of regions: by planes and by counts. -/
import Derived.Test.YtakadjhbomggbabMathPl
import Derived.Test.YtakadjhbomggbabMathRg
import Derived.Test.YtakadjhbomggbabMathRi
import Derived.Test.YtakadjhbomggbabMathT
import Derived.Test.YtakadjhbomggbabMathUp
namespace Go.Proofs.Ytakadjhbomggbab
open Go.RowKit

/-- The place of an index. -/
def plN (os : List Int) (i : Int) : Nat := os.findIdx (· == i)
theorem plN_at {os : List Int} (ho : outB os = true) {q : Nat} (hq : q < os.length) : plN os (nth os q) = q := by
  unfold plN
  rw [List.findIdx_eq hq]
  have e : os[q] = nth os q := by simp [nth, hq]
  refine ⟨by simp [e], fun j hj => ?_⟩
  have hjl : j < os.length := by omega
  have e2 : os[j] = nth os j := by simp [nth, hjl]
  rw [e2]
  simp only [beq_eq_false_iff_ne, ne_eq]
  intro h
  have := out_inj ho hjl hq h
  omega
def grR (os fs : List Int) (p : Pl) : Bool := if p.2.2 = 0 then decide (plN os p.1 < plN os p.2.1) else decide ((plN os p.1 : Int) < nth fs (plN os p.2.1))
theorem out_upto {ls : List Int} (ho : outB ls = true) : ls.Perm (upto ls.length) := by
  have hnd : ls.Nodup := List.pairwise_iff_getElem.2 fun i j hi hj hij e => by
    have := out_inj ho hi hj (by simp only [nth, List.getD_eq_getElem?_getD, List.getElem?_eq_getElem hi, List.getElem?_eq_getElem hj, Option.getD_some]; exact e)
    omega
  have hnd2 : (upto ls.length).Nodup := by unfold upto; rw [List.Nodup, List.pairwise_map]; exact List.nodup_range.imp fun h e => h (by omega)
  refine (List.perm_ext_iff_of_nodup hnd hnd2).2 fun v => ?_
  unfold upto
  rw [List.mem_map]
  constructor
  · intro hv
    obtain ⟨i, hi, rfl⟩ := mem_nth hv
    have := out_nth ho hi
    exact ⟨(nth ls i).toNat, List.mem_range.2 (by omega), by omega⟩
  · rintro ⟨c, hc, rfl⟩
    exact out_all ho (List.mem_range.1 hc)
theorem labN_total (gr : Pl → Bool) (i : Nat) : ∀ n, labN gr i n = total ((upto n).map fun j => lab1 gr i j.toNat)
  | 0 => rfl
  | n + 1 => by
    rw [labN, labN_total gr i n, upto_succ, List.map_append, List.map_cons, List.map_nil, total_snoc, Int.toNat_natCast]
/-- The label by planes is that by counts. -/
theorem lab_cnt {os fs : List Int} (ho : outB os = true) (hf : ∀ p, p < os.length → 0 ≤ nth fs p ∧ nth fs p ≤ (p : Int)) {p : Nat} (hp : p < os.length) :
    labN (grR os fs) (nth os p).toNat os.length = (cntF (nth os p) (os.take p) (nth fs p).toNat : Int) := by
  obtain ⟨a, ha⟩ : ∃ a : Nat, nth os p = (a : Int) := ⟨(nth os p).toNat, by have := out_nth ho hp; omega⟩
  obtain ⟨f, hff⟩ : ∃ f : Nat, nth fs p = (f : Int) := ⟨(nth fs p).toNat, by have := hf p hp; omega⟩
  have hfp : f ≤ p := by have := hf p hp; omega
  have hpa := plN_at ho hp
  rw [ha] at hpa
  rw [labN_total, ← total_perm ((out_upto ho).map fun j => lab1 (grR os fs) (nth os p).toNat j.toNat), ha, hff, Int.toNat_natCast, Int.toNat_natCast]
  have hk : ∀ k, k ≤ os.length → total ((os.map fun j => lab1 (grR os fs) a j.toNat).take k) = (cntF (a : Int) (os.take (min k p)) f : Int) := by
    intro k
    induction k with
    | zero => intro _; simp [total, cntF]
    | succ k ih =>
      intro hk
      have hkl : k < os.length := by omega
      obtain ⟨c, hc⟩ : ∃ c : Nat, nth os k = (c : Int) := ⟨(nth os k).toNat, by have := out_nth ho hkl; omega⟩
      have hpc := plN_at ho hkl
      rw [hc] at hpc
      have hne : k ≠ p → c ≠ a := fun h e => h (out_inj ho hkl hp (by rw [hc, ha, e]))
      have hg : nth (os.map fun j => lab1 (grR os fs) a j.toNat) k = lab1 (grR os fs) a c := by
        have : nth (os.map fun j => lab1 (grR os fs) a j.toNat) k = lab1 (grR os fs) a (nth os k).toNat := by simp [nth, hkl]
        rw [this, hc, Int.toNat_natCast]
      rw [total_succ (by simpa using hkl), ih (by omega), hg]
      have h100 : grR os fs ((c : Int), (a : Int), 100) = decide (k < f) := by
        simp only [grR, hpc, hpa, hff]
        rw [if_neg (by decide)]
        exact decide_eq_decide.2 (by omega)
      have h0 : grR os fs ((a : Int), (c : Int), 0) = decide (p < k) := by simp only [grR, hpc, hpa, if_true]
      by_cases hkp : k < p
      · rw [show min (k + 1) p = k + 1 by omega, show min k p = k by omega, take_succ_nth hkl, cntF_snoc, hc, List.length_take]
        have hca := hne (by omega)
        unfold lab1
        rw [h100, h0, show min k os.length = k by omega]
        rcases Nat.lt_or_gt_of_ne hca with h | h
        · rw [if_pos h]
          by_cases hkf : k < f
          · simp [hkf]
          · have : ¬ ((a : Int) < (c : Int)) := by omega
            simp [hkf, this]
        · rw [if_neg (by omega), if_pos h]
          have h2 : (a : Int) < (c : Int) := by omega
          have h3 : ¬ p < k := by omega
          simp [h2, h3]
      · rw [show min (k + 1) p = p by omega, show min k p = p by omega]
        have hz : lab1 (grR os fs) a c = 0 := by
          unfold lab1
          by_cases e : k = p
          · subst e
            have : c = a := by rw [hc] at ha; omega
            subst this
            simp
          · have hca := hne e
            rw [h100, h0]
            rcases Nat.lt_or_gt_of_ne hca with h | h
            · rw [if_pos h]
              have : ¬ k < f := by omega
              simp [this]
            · rw [if_neg (by omega), if_pos h]
              have : p < k := by omega
              simp [this]
        rw [hz]
        omega
  have := hk os.length (Nat.le_refl _)
  rw [List.take_of_length_le (by simp)] at this
  rw [this, show min os.length p = p by omega]
/-- The label of a region. -/
def labRg (os fs : List Int) : List Int := (List.range os.length).map fun i => labN (grR os fs) i os.length
def labelRgOf (os fs : List Int) : List Int × Bool := if regB os fs then (labRg os fs, true) else ([], false)
end Go.Proofs.Ytakadjhbomggbab
