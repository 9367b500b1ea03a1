/- Rows by their heights, the greatest first, and later rows first: what a reading goes by. -/
import Derived.Test.YtpjgidjkpcbniabMathSt
namespace Go.Proofs.Ytpjgidjkpcbniab
open Go.RowKit Go.Sort

/-- Of the last c of n rows those that are asked for, the last one first. -/
def dnTo (f : Nat → Bool) (n : Nat) : Nat → List Int
  | 0 => []
  | c + 1 => dnTo f n c ++ if f (n - 1 - c) then [((n - 1 - c : Nat) : Int)] else []
/-- The rows with the t greatest heights that are asked for. -/
def rdTo (hs : List Int) (n : Nat) : Nat → List Int
  | 0 => []
  | t + 1 => rdTo hs n t ++ dnTo (fun i => decide (nth hs i = (n : Int) - (t : Int))) n n
def rdL (hs : List Int) : List Int := rdTo hs hs.length (hs.length + 1)
theorem mem_dnTo {f : Nat → Bool} {n : Nat} {v : Int} : ∀ {c : Nat}, c ≤ n → (v ∈ dnTo f n c ↔ ∃ i : Nat, n - c ≤ i ∧ i < n ∧ f i = true ∧ v = (i : Int))
  | 0, _ => by
    simp only [dnTo, List.not_mem_nil, false_iff]
    rintro ⟨i, h1, h2, _⟩
    omega
  | c + 1, hc => by
    simp only [dnTo, List.mem_append, mem_dnTo (f := f) (n := n) (v := v) (c := c) (by omega)]
    constructor
    · rintro (⟨i, h1, h2, h3, h4⟩ | h)
      · exact ⟨i, by omega, h2, h3, h4⟩
      · by_cases hf : f (n - 1 - c) = true
        · rw [if_pos hf, List.mem_singleton] at h
          exact ⟨n - 1 - c, by omega, by omega, hf, h⟩
        · rw [if_neg hf] at h; cases h
    · rintro ⟨i, h1, h2, h3, h4⟩
      by_cases e : i = n - 1 - c
      · subst e
        right
        rw [if_pos h3, List.mem_singleton]
        exact h4
      · exact .inl ⟨i, by omega, h2, h3, h4⟩
theorem dnTo_sorted {f : Nat → Bool} {n : Nat} : ∀ {c : Nat}, c ≤ n → (dnTo f n c).Pairwise (fun v w => w < v)
  | 0, _ => List.Pairwise.nil
  | c + 1, hc => by
    simp only [dnTo]
    rw [List.pairwise_append]
    refine ⟨dnTo_sorted (by omega), ?_, fun v hv w hw => ?_⟩
    · split
      · exact List.pairwise_singleton _ _
      · exact List.Pairwise.nil
    · obtain ⟨i, h1, h2, _, rfl⟩ := (mem_dnTo (by omega)).1 hv
      split at hw
      · rw [List.mem_singleton] at hw
        omega
      · cases hw
/-- A row's place in the order. -/
def keyR (hs : List Int) (v : Int) : Int := -(nth hs v.toNat * 100 + v)
theorem mem_rdTo {hs : List Int} {n : Nat} {v : Int} (hb : ∀ i, i < n → nth hs i ≤ (n : Int)) : ∀ {t : Nat}, v ∈ rdTo hs n t ↔ ∃ i : Nat, i < n ∧ (n : Int) - (t : Int) < nth hs i ∧ v = (i : Int)
  | 0 => by
    simp only [rdTo, List.not_mem_nil, false_iff]
    rintro ⟨i, h1, h2, _⟩
    have := hb i h1
    omega
  | t + 1 => by
    simp only [rdTo, List.mem_append, mem_rdTo hb, mem_dnTo (Nat.le_refl n), decide_eq_true_eq]
    constructor
    · rintro (⟨i, h1, h2, h3⟩ | ⟨i, _, h1, h2, h3⟩)
      · exact ⟨i, h1, by omega, h3⟩
      · exact ⟨i, h1, by omega, h3⟩
    · rintro ⟨i, h1, h2, h3⟩
      by_cases e : nth hs i = (n : Int) - (t : Int)
      · exact .inr ⟨i, by omega, h1, e, h3⟩
      · exact .inl ⟨i, h1, by omega, h3⟩
theorem rdTo_sorted {hs : List Int} {n : Nat} (h8 : n ≤ 50) (hb : ∀ i, i < n → nth hs i ≤ (n : Int)) : ∀ t : Nat, (rdTo hs n t).Pairwise fun v w => keyR hs v < keyR hs w
  | 0 => List.Pairwise.nil
  | t + 1 => by
    simp only [rdTo]
    rw [List.pairwise_append]
    refine ⟨rdTo_sorted h8 hb t, ?_, fun v hv w hw => ?_⟩
    · refine (dnTo_sorted (Nat.le_refl n)).imp_of_mem fun {a b} ha hb' hab => ?_
      obtain ⟨i, _, h1, h2, rfl⟩ := (mem_dnTo (Nat.le_refl n)).1 ha
      obtain ⟨j, _, h3, h4, rfl⟩ := (mem_dnTo (Nat.le_refl n)).1 hb'
      simp only [decide_eq_true_eq] at h2 h4
      simp only [keyR, Int.toNat_natCast]
      omega
    · obtain ⟨i, h1, h2, rfl⟩ := (mem_rdTo hb).1 hv
      obtain ⟨j, _, h3, h4, rfl⟩ := (mem_dnTo (Nat.le_refl n)).1 hw
      simp only [decide_eq_true_eq] at h4
      simp only [keyR, Int.toNat_natCast]
      omega
theorem rdL_perm {hs : List Int} {n : Nat} (hl : hs.length = n) (h8 : n ≤ 50) (hb : ∀ i, i < n → 0 ≤ nth hs i ∧ nth hs i ≤ (n : Int)) : (rdL hs).Perm (upto n) := by
  subst hl
  have hsorted := rdTo_sorted h8 (fun i hi => (hb i hi).2) (hs.length + 1)
  have hnd : (rdL hs).Nodup := hsorted.imp fun {a b} hab => by rintro rfl; omega
  have hnd2 : (upto hs.length).Nodup := by
    unfold upto
    refine List.Pairwise.map _ (fun a b hab => ?_) (List.nodup_range)
    intro e
    exact hab (by omega)
  refine (List.perm_ext_iff_of_nodup hnd hnd2).2 fun v => ?_
  unfold rdL
  rw [mem_rdTo (fun i hi => (hb i hi).2)]
  unfold upto
  rw [List.mem_map]
  simp only [List.mem_range]
  constructor
  · rintro ⟨c, h1, _, rfl⟩; exact ⟨c, h1, rfl⟩
  · rintro ⟨c, h1, rfl⟩; exact ⟨c, h1, by have := hb c h1; omega, rfl⟩
theorem length_rdL {hs : List Int} {n : Nat} (hl : hs.length = n) (h8 : n ≤ 50) (hb : ∀ i, i < n → 0 ≤ nth hs i ∧ nth hs i ≤ (n : Int)) : (rdL hs).length = n := by
  rw [(rdL_perm hl h8 hb).length_eq, length_upto]
theorem sort_rows {m : Nat} {hs : List Int} {d' : Array (Fin (m + 1))} (hl : hs.length = m + 1) (h8 : m + 1 ≤ 50) (hb : ∀ i, i < m + 1 → 0 ≤ nth hs i ∧ nth hs i ≤ ((m + 1 : Nat) : Int)) {lt : Fin (m + 1) → Fin (m + 1) → Bool}
    (hlt : ∀ x y : Fin (m + 1), lt x y = decide (keyR hs x.val < keyR hs y.val)) (hp : PermIn 0 (m + 1) (allFin m).toArray d') (hs' : SortedIn lt 0 (m + 1) d') : d'.toList.map (fun i => ((i.val : Nat) : Int)) = rdL hs := by
  obtain ⟨q1, q2⟩ := sorted_cars_list (n := m + 1) (ds := allFin m) (by simp [allFin]) hp hs'
  have hsorted := rdTo_sorted (hs := hs) (n := m + 1) h8 (fun i hi => (hb i hi).2) (m + 1 + 1)
  have hsorted' : (rdL hs).Pairwise fun v w => keyR hs v < keyR hs w := by unfold rdL; rw [hl]; exact hsorted
  have hfin : (allFin m).map (fun i => ((i.val : Nat) : Int)) = upto (m + 1) := by
    unfold allFin upto
    apply List.ext_getElem
    · simp
    · intro i h1 h2
      simp
  have hd : (d'.toList.map (fun i => ((i.val : Nat) : Int))).Perm (rdL hs) := (q1.map _).trans (by rw [hfin]; exact (rdL_perm hl h8 hb).symm)
  refine List.Perm.eq_of_pairwise (le := fun v w => keyR hs v ≤ keyR hs w) (fun a b ha hb' h1 h2 => ?_) ?_ (hsorted'.imp fun {a b} hab => by omega) hd
  · have hmem : ∀ v : Int, v ∈ rdL hs → ∃ i : Nat, i < m + 1 ∧ v = (i : Int) := fun v hv => by
      have := (rdL_perm hl h8 hb).subset hv
      unfold upto at this
      obtain ⟨i, hi, rfl⟩ := List.mem_map.1 this
      exact ⟨i, List.mem_range.1 hi, rfl⟩
    obtain ⟨i, hi, rfl⟩ := hmem a (hd.subset ha)
    obtain ⟨j, hj, rfl⟩ := hmem b hb'
    have hi' := hb i hi
    have hj' := hb j hj
    unfold keyR at h1 h2
    rw [Int.toNat_natCast, Int.toNat_natCast] at h1 h2
    omega
  · rw [List.pairwise_map]
    exact q2.imp fun {a b} hab => by rw [hlt] at hab; simp at hab; exact hab
/-- How two rows are compared. -/
def rcmp (hs : List Int) (x y : Nat) : Int := if nth hs y < nth hs x then -1 else if nth hs x < nth hs y then 1 else if y < x then -1 else if x < y then 1 else 0
theorem rcmp_key {hs : List Int} {x y : Nat} (hx : x < 50) (hy : y < 50) : decide (rcmp hs x y < 0) = decide (keyR hs (x : Int) < keyR hs (y : Int)) := by
  unfold rcmp keyR
  rw [Int.toNat_natCast, Int.toNat_natCast, decide_eq_decide]
  split
  · omega
  · split
    · omega
    · split
      · omega
      · split
        · omega
        · omega
def readOf (hs ls : List Int) : List Int × Bool := if walkB hs ls then ((rdL hs).map (fun v => nth ls v.toNat), true) else ([], false)
end Go.Proofs.Ytpjgidjkpcbniab
