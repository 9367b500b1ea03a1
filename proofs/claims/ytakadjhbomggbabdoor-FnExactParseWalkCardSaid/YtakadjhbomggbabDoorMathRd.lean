/- Words and numbers: the model's reader and the library's agree. -/
import Derived.Test.YtakadjhbomggbabDoorSplit
import Derived.Test.YtakadjhbomggbabDoorAtoi
namespace Go.Proofs.YtakadjhbomggbabDoor
open Go.RowKit

theorem toList_data (s : ByteArray) : s.toList = s.data.toList := ByteArray.toList_eq s

/-- Bytes, split at each occurrence of one. -/
def sp (b : UInt8) : List UInt8 → List (List UInt8)
  | [] => [[]]
  | c :: r => if c = b then [] :: sp b r else match sp b r with
    | h :: t => (c :: h) :: t
    | [] => [[c]]
def pre (l : List UInt8) : List (List UInt8) → List (List UInt8)
  | h :: t => (l ++ h) :: t
  | [] => [l]
theorem sp_ne (b : UInt8) : ∀ l, sp b l ≠ []
  | [] => by simp [sp]
  | c :: r => by
    simp only [sp]
    split
    · simp
    · split <;> simp
theorem sp_yes (b : UInt8) (r : List UInt8) : sp b (b :: r) = [] :: sp b r := by simp [sp]
theorem sp_no {b c : UInt8} (r : List UInt8) (h : c ≠ b) : sp b (c :: r) = pre [c] (sp b r) := by
  simp only [sp, if_neg h]
  cases hh : sp b r with
  | nil => exact absurd hh (sp_ne b r)
  | cons x y => rfl
theorem pre_pre (l m : List UInt8) {x : List (List UInt8)} (h : x ≠ []) : pre l (pre m x) = pre (l ++ m) x := by
  cases x with
  | nil => exact absurd rfl h
  | cons a b => simp [pre]
theorem splitK_sp (b : UInt8) : ∀ l : List UInt8, Lib.splitK [b] 0 (Lib.count l [b]) l = sp b l
  | [] => by
    have : Lib.count [] [b] = 0 := Lib.count_miss (by simp [Lib.index])
    rw [this]; rfl
  | c :: r => by
    have ih := splitK_sp b r
    by_cases e : c = b
    · subst e
      rw [Lib.count_cons_eq, Nat.add_comm, sp_yes, ← ih]
      have : Lib.index (c :: r) [c] = 0 := by simp [Lib.index]
      simp [Lib.splitK, this]
    · rw [Lib.count_cons_ne _ _ _ e, sp_no r e, ← ih]
      generalize hk : Lib.count r [b] = k
      cases k with
      | zero => rfl
      | succ k =>
        have hix : Lib.index r [b] ≠ -1 := fun h => by rw [Lib.count_miss h] at hk; cases hk
        have hge := Lib.index_ge r [b]
        have h2 : Lib.index (c :: r) [b] = Lib.index r [b] + 1 := by
          have e' : ¬ b = c := fun h => e h.symm
          simp [Lib.index, e', hix]
        obtain ⟨i, hi⟩ : ∃ i : Nat, Lib.index r [b] = (i : Int) := ⟨(Lib.index r [b]).toNat, by omega⟩
        have h3 : ((i : Int) == -1) = false := by simp
        have h4 : ((i : Int) + 1 == -1) = false := by simp only [beq_eq_false_iff_ne, ne_eq]; omega
        simp only [Lib.splitK, h2, hi, h3, h4]
        rw [show ((i : Int) + 1).toNat = i + 1 by omega, Int.toNat_natCast]
        simp [pre]
theorem cutTo_sp (s : ByteArray) (b : UInt8) : ∀ i, i ≤ s.size →
    sp b s.data.toList = (cutTo s b i).1.map (·.data.toList) ++ pre ((s.data.toList.take i).drop (cutTo s b i).2) (sp b (s.data.toList.drop i))
  | 0, _ => by
    simp only [cutTo, List.map_nil, List.nil_append, List.take_zero, List.drop_nil, List.drop_zero]
    cases h : sp b s.data.toList with
    | nil => exact absurd h (sp_ne _ _)
    | cons x y => simp [pre]
  | i + 1, hi => by
    have ih := cutTo_sp s b i (by omega)
    have hsz : s.data.toList.length = s.size := by simp
    have hlt : i < s.data.toList.length := by omega
    have hd : s.data.toList.drop i = s.data.toList.getD i 0 :: s.data.toList.drop (i + 1) := by
      rw [List.drop_eq_getElem_cons hlt, List.getD_eq_getElem?_getD, List.getElem?_eq_getElem hlt]
      rfl
    have ht : s.data.toList.take (i + 1) = s.data.toList.take i ++ [s.data.toList.getD i 0] := by
      rw [List.take_succ_eq_append_getElem hlt, List.getD_eq_getElem?_getD, List.getElem?_eq_getElem hlt]
      rfl
    have hle := cutTo_le s b i
    rw [ih, hd]
    by_cases e : s.data.toList.getD i 0 = b
    · simp only [cutTo, if_pos e]
      rw [e, sp_yes]
      simp only [List.map_append, List.map_cons, List.map_nil, List.append_assoc]
      congr 1
      have h1 : (s.extract (cutTo s b i).2 i).data.toList = (s.data.toList.take i).drop (cutTo s b i).2 := by
        rw [Lib.extract_data, List.drop_take]
      have h2 : (s.data.toList.take (i + 1)).drop (i + 1) = [] := List.drop_of_length_le (by rw [List.length_take]; exact Nat.min_le_left _ _)
      rw [h1, h2]
      cases h : sp b (s.data.toList.drop (i + 1)) with
      | nil => exact absurd h (sp_ne _ _)
      | cons x y => simp [pre]
    · simp only [cutTo, if_neg e]
      rw [sp_no _ e, pre_pre _ _ (sp_ne _ _), ht, List.drop_append_of_le_length (by simp; omega)]
theorem cutL_sp (s : ByteArray) (b : UInt8) : (cutL s b).map (·.data.toList) = sp b s.data.toList := by
  have h := cutTo_sp s b s.size (Nat.le_refl _)
  have hle := cutTo_le s b s.size
  have hl : s.data.toList.length = s.size := by simp
  rw [h]
  unfold cutL
  have hd : s.data.toList.drop s.size = [] := List.drop_of_length_le (by omega)
  rw [List.map_append, hd]
  congr 1
  simp only [sp, pre, List.append_nil, List.map_cons, List.map_nil]
  rw [Lib.extract_data, List.drop_take]
theorem words_cut (s : ByteArray) (b : UInt8) : wordsB s ⟨#[b]⟩ = cutL s b := by
  have h1 : (wordsB s ⟨#[b]⟩).map (·.data.toList) = sp b s.data.toList := by
    unfold wordsB
    rw [Lib.splitB_data]
    exact splitK_sp b s.data.toList
  have h2 := h1.trans (cutL_sp s b).symm
  exact (List.map_inj_right fun x y hxy => ByteArray.ext (Array.toList_inj.1 hxy)).1 h2

def stepV (a : Nat) (c : UInt8) : Nat := a * 10 + (c.toNat - 48)
/-- What digits tell, behind a number. -/
def vl (acc : Nat) (l : List UInt8) : Nat := l.foldl stepV acc
def DigL (l : List UInt8) : Prop := ∀ c ∈ l, 48 ≤ c.toNat ∧ c.toNat ≤ 57
theorem vl_nil (acc : Nat) : vl acc [] = acc := by unfold vl; rw [List.foldl_nil]
theorem vl_cons (acc : Nat) (c : UInt8) (r : List UInt8) : vl acc (c :: r) = vl (acc * 10 + (c.toNat - 48)) r := by unfold vl; rw [List.foldl_cons, stepV]
theorem vl_snoc (c : UInt8) (l : List UInt8) (acc : Nat) : vl acc (l ++ [c]) = vl acc l * 10 + (c.toNat - 48) := by
  unfold vl
  rw [List.foldl_append, List.foldl_cons, List.foldl_nil, stepV]
theorem parse_vl : ∀ (l : List UInt8) (acc : Nat), DigL l → (acc + 1) * 10 ^ l.length ≤ 10000000 → Lib.parseUint10 acc l = .ok (vl acc l)
  | [], acc, _, _ => by rw [vl_nil, Lib.parseUint10]
  | c :: r, acc, hd, hb => by
    have hc := hd c (by simp)
    simp only [List.length_cons, Nat.pow_succ] at hb
    have hp : 1 ≤ 10 ^ r.length := Nat.one_le_pow _ _ (by omega)
    have h1 : acc + 1 ≤ 10000000 := by
      have : (acc + 1) * 1 ≤ (acc + 1) * (10 ^ r.length * 10) := Nat.mul_le_mul_left _ (by omega)
      omega
    have h2 : (acc * 10 + (c.toNat - 48) + 1) * 10 ^ r.length ≤ 10000000 := by
      have : (acc * 10 + (c.toNat - 48) + 1) * 10 ^ r.length ≤ ((acc + 1) * 10) * 10 ^ r.length := Nat.mul_le_mul_right _ (by omega)
      have e : ((acc + 1) * 10) * 10 ^ r.length = (acc + 1) * (10 ^ r.length * 10) := by rw [Nat.mul_assoc, Nat.mul_comm 10]
      omega
    have n1 : ¬ 1844674407370955162 ≤ acc := by omega
    have n2 : ¬ 18446744073709551616 ≤ acc * 10 + (c.toNat - 48) := by omega
    rw [vl_cons]
    simp only [Lib.parseUint10, if_pos hc, if_neg n1, if_neg n2]
    exact parse_vl r _ (fun x hx => hd x (by simp [hx])) h2
theorem dec_vl : ∀ (n : Nat) (l : List UInt8), l.length = n + 1 → DigL l → (l.head? ≠ some 48 ∨ n = 0) → Lib.decDigits (vl 0 l) = l ∧ (l.head? ≠ some 48 → 1 ≤ vl 0 l)
  | 0, l, hl, hd, _ => by
    obtain ⟨c, rfl⟩ := List.length_eq_one_iff.1 hl
    have hc := hd c (by simp)
    rw [vl_cons, vl_nil]
    simp only [Nat.zero_mul, Nat.zero_add]
    refine ⟨?_, fun h => ?_⟩
    · rw [Lib.decDigits_one (by omega), show 48 + (c.toNat - 48) = c.toNat by omega]
      simp
    · have : c.toNat ≠ 48 := fun e => h (by simp; exact UInt8.toNat_inj.1 e)
      omega
  | n + 1, l, hl, hd, hz => by
    obtain ⟨m, c, rfl⟩ : ∃ m c, l = m ++ [c] := ⟨l.dropLast, l.getLast (by intro h; rw [h] at hl; simp at hl), (List.dropLast_concat_getLast _).symm⟩
    have hml : m.length = n + 1 := by simpa using hl
    have hmd : DigL m := fun x hx => hd x (by simp [hx])
    have hh : (m ++ [c]).head? = m.head? := by
      cases m with
      | nil => simp at hml
      | cons a b => rfl
    rw [hh] at hz ⊢
    have hz' : m.head? ≠ some 48 := by rcases hz with h | h; exact h; omega
    obtain ⟨h1, h2⟩ := dec_vl n m hml hmd (.inl hz')
    have h3 := h2 hz'
    have hc := hd c (by simp)
    rw [vl_snoc]
    refine ⟨?_, fun _ => by omega⟩
    rw [Lib.decDigits, dif_neg (by omega)]
    rw [show (vl 0 m * 10 + (c.toNat - 48)) / 10 = vl 0 m by omega, h1, show 48 + (vl 0 m * 10 + (c.toNat - 48)) % 10 = c.toNat by omega]
    simp
theorem valTo_vl {s : ByteArray} (hd : digTo s s.size) : ∀ k, k ≤ s.size → valTo s k = (vl 0 (s.data.toList.take k) : Int)
  | 0, _ => by rw [List.take_zero, vl_nil]; rfl
  | k + 1, hk => by
    have hl : s.data.toList.length = s.size := by simp
    have hlt : k < s.data.toList.length := by omega
    have ih := valTo_vl hd k (by omega)
    have hc := hd k (by omega)
    have ht : s.data.toList.take (k + 1) = s.data.toList.take k ++ [s.data.toList.getD k 0] := by
      rw [List.take_succ_eq_append_getElem hlt, List.getD_eq_getElem?_getD, List.getElem?_eq_getElem hlt]
      rfl
    simp only [valTo]
    rw [ih, ht, vl_snoc]
    omega
theorem digL_of {s : ByteArray} (hd : digTo s s.size) : DigL s.data.toList := fun c hc => by
  obtain ⟨i, hi, rfl⟩ := List.getElem_of_mem hc
  have := hd i (by simpa using hi)
  rwa [List.getD_eq_getElem?_getD, List.getElem?_eq_getElem hi] at this
/-- A word that the model reads is one that the library reads and writes again. -/
theorem can_read {p : ByteArray} (h : 0 ≤ readB p) : canI p = some (readB p) := by
  unfold readB at h
  split at h
  · next hc =>
    obtain ⟨⟨s1, s6⟩, hz, hd⟩ := hc
    have hr : readB p = valTo p p.size := by unfold readB; rw [if_pos ⟨⟨s1, s6⟩, hz, hd⟩]
    have hl : p.data.toList.length = p.size := by simp
    have hv := valTo_vl hd p.size (Nat.le_refl _)
    rw [List.take_of_length_le (by omega)] at hv
    have hD := digL_of hd
    obtain ⟨c, r, hcr⟩ : ∃ c r, p.data.toList = c :: r := by
      cases h : p.data.toList with
      | nil => rw [h] at hl; simp at hl; omega
      | cons c r => exact ⟨c, r, rfl⟩
    have hc0 := hD c (by rw [hcr]; simp)
    have hhead : p.data.toList.head? ≠ some 48 ∨ p.size - 1 = 0 := by
      by_cases e : p.size = 1
      · exact .inr (by omega)
      · refine .inl fun hh => hz ⟨?_, by omega⟩
        rw [hcr] at hh ⊢
        simpa using hh
    obtain ⟨d1, _⟩ := dec_vl (p.size - 1) p.data.toList (by omega) hD hhead
    have hb : vl 0 p.data.toList < 10 ^ 6 := by
      have := valTo_le hd (Nat.le_refl _) (by omega)
      have h2 := valTo_bound hd
      have h3 : (10 : Int) ^ p.size ≤ 1000000 := by
        have : ∀ k, k < 7 → (10 : Int) ^ k ≤ 1000000 := by decide +kernel
        exact this _ (by omega)
      omega
    have hpw : 10 ^ p.data.toList.length ≤ 1000000 := by
      have : ∀ k, k < 7 → 10 ^ k ≤ 1000000 := by decide +kernel
      exact this _ (by omega)
    have hpu := parse_vl p.data.toList 0 hD (by rw [Nat.zero_add, Nat.one_mul]; omega)
    have hat : Lib.atoiAll p.data.toList = .ok (vl 0 p.data.toList : Int) := by
      rw [hcr] at hpu hb ⊢
      unfold Lib.atoiAll
      have n43 : ¬ (c.toNat = 43 ∨ c.toNat = 45) := by omega
      have n45 : ¬ c.toNat = 45 := by omega
      simp only [if_neg n43, Lib.parseMag, hpu]
      simp [n45]
      omega
    unfold canI readI
    rw [hat, hr, hv]
    simp only
    rw [if_pos]
    rw [toList_data, Lib.itoa, if_neg (by omega), Int.toNat_natCast, d1]
  · omega
/-- A word that writes a small number is read as that one. -/
theorem read_can {p : ByteArray} {v : Int} (h : canI p = some v) (h0 : 0 ≤ v) (h9 : v ≤ 9) : readB p = v := by
  unfold canI at h
  split at h
  · next x hx =>
    split at h
    · next hi =>
      simp only [Option.some.injEq] at h
      subst h
      rw [toList_data, Lib.itoa, if_neg (by omega), Lib.decDigits_one (by omega)] at hi
      have hs : p.size = 1 := by
        have : p.data.toList.length = p.size := by simp
        rw [← hi] at this
        simpa using this.symm
      have hg : p.data.toList.getD 0 0 = UInt8.ofNat (48 + x.toNat) := by rw [← hi]; rfl
      have hn : (UInt8.ofNat (48 + x.toNat)).toNat = 48 + x.toNat := by
        rw [UInt8.toNat_ofNat']; omega
      unfold readB
      rw [if_pos]
      · rw [hs]
        simp only [valTo, hg, hn]
        omega
      · refine ⟨by omega, by omega, ?_⟩
        rw [hs]
        intro i hi'
        obtain rfl : i = 0 := by omega
        rw [hg, hn]
        omega
    · cases h
  · cases h
end Go.Proofs.YtakadjhbomggbabDoor
