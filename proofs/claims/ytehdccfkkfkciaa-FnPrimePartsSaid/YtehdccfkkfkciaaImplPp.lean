/- Chapter 9: PrimeParts: the program's function, by its contract. -/
import Derived.Test.YtehdccfkkfkciaaPartsA
import Derived.Test.YtehdccfkkfkciaaMathVq
import Derived.Test.YtehdccfkkfkciaaIdx
import Derived.Test.YtehdccfkkfkciaaImplC
namespace Go.Proofs.Ytehdccfkkfkciaa
open Go.RowKit Go.Maps

/-- A row of which the first i cars have become favourites less b. -/
def cvRow (xs : List Int) (b : Int) (r : Rw) (i : Nat) : Rw := ⟨r.a, r.c, (r.xs.take i).map (fun c => nth xs c.toNat - b) ++ r.xs.drop i⟩
theorem length_cvRow (xs : List Int) (b : Int) (r : Rw) (i : Nat) : (cvRow xs b r i).xs.length = r.xs.length := by
  simp only [cvRow, List.length_append, List.length_map, List.length_take, List.length_drop]
  omega
theorem cvRow_zero (xs : List Int) (b : Int) (r : Rw) : cvRow xs b r 0 = r := by simp [cvRow]
theorem cvRow_nth {xs : List Int} {b : Int} {r : Rw} {i : Nat} (h : i < r.xs.length) : nth (cvRow xs b r i).xs i = nth r.xs i := by
  have hl : ((r.xs.take i).map fun c => nth xs c.toNat - b).length = i := by simp; omega
  unfold cvRow
  generalize ((r.xs.take i).map fun c => nth xs c.toNat - b) = A at hl ⊢
  unfold nth
  simp only [List.getD_eq_getElem?_getD]
  rw [List.getElem?_append_right (by rw [hl]; exact Nat.le_refl _), hl, Nat.sub_self]
  simp
theorem cvRow_succ {xs : List Int} {b : Int} {r : Rw} {i c : Nat} (h : i < r.xs.length) (hc : nth r.xs i = (c : Int)) : cvRow xs b r (i + 1) = ⟨r.a, r.c, (cvRow xs b r i).xs.set i (nth xs c - b)⟩ := by
  unfold cvRow
  congr 1
  have hl : ((r.xs.take i).map fun c => nth xs c.toNat - b).length = i := by simp; omega
  rw [take_succ_nth h, List.map_append, List.map_singleton, hc, Int.toNat_natCast, List.set_append_right _ _ (by rw [hl]; exact Nat.le_refl _), hl, Nat.sub_self, List.drop_eq_getElem_cons h, List.set_cons_zero, List.append_assoc]
  rfl
theorem cvRow_full {xs : List Int} {b : Int} {r : Rw} {n : Nat} (h : r.xs.length = n) : (cvRow xs b r n).xs = r.xs.map fun c => nth xs c.toNat - b := by
  unfold cvRow
  rw [List.take_of_length_le (by omega), List.drop_eq_nil_of_le (by omega), List.append_nil]
/-- The rows, the first k of them turned. -/
def cvTo (xs : List Int) (S : Nat → Nat) (rs : List Rw) : Nat → List Rw
  | 0 => rs
  | k + 1 => (cvTo xs S rs k).set k (cvRow xs (S k : Int) (nthR rs k) (nthR rs k).xs.length)
theorem length_cvTo (xs : List Int) (S : Nat → Nat) (rs : List Rw) : ∀ k, (cvTo xs S rs k).length = rs.length
  | 0 => rfl
  | k + 1 => by rw [cvTo, List.length_set, length_cvTo xs S rs k]
theorem nthR_set {rs : List Rw} {i j : Nat} {r : Rw} (h : i < rs.length) : nthR (rs.set i r) j = if i = j then r else nthR rs j := by
  by_cases e : i = j
  · subst e; simp [nthR, h]
  · simp [nthR, e]
theorem cvTo_later (xs : List Int) (S : Nat → Nat) (rs : List Rw) : ∀ k j, k ≤ j → k ≤ rs.length → nthR (cvTo xs S rs k) j = nthR rs j
  | 0, _, _, _ => rfl
  | k + 1, j, h, hk => by rw [cvTo, nthR_set (by rw [length_cvTo]; omega), if_neg (by omega), cvTo_later xs S rs k j (by omega) (by omega)]
theorem cvTo_done (xs : List Int) (S : Nat → Nat) (rs : List Rw) : ∀ k j, j < k → k ≤ rs.length → nthR (cvTo xs S rs k) j = cvRow xs (S j : Int) (nthR rs j) (nthR rs j).xs.length
  | k + 1, j, h, hk => by
    rw [cvTo, nthR_set (by rw [length_cvTo]; omega)]
    by_cases e : k = j
    · subst e; rw [if_pos rfl]
    · rw [if_neg e, cvTo_done xs S rs k j (by omega) (by omega)]
/-- A number of a row is written. -/
theorem OwnR.setNum {w : World} {B : Nat} {a : Option Addr} {n cap : Nat} {rs : List Rw} (h : OwnR w B a n cap rs) {k g i : Nat} {y : Int} (hk : k < n) (hg : (nthR rs k).a = some ⟨g, 0, none⟩) :
    OwnR (w.setCell ⟨g, i, none⟩ (.int .i64 y)) B a n cap (rs.set k ⟨(nthR rs k).a, (nthR rs k).c, (nthR rs k).xs.set i y⟩) ∧ w.grownBy (w.setCell ⟨g, i, none⟩ (.int .i64 y)) (some g) ∧ B ≤ g := by
  have hrow := h.row hk
  rw [hg] at hrow
  obtain ⟨s1, s2⟩ := hrow.set i y
  have hl := h.len
  have hBg : B ≤ g := by have := hrow.ge _ rfl; exact this
  refine ⟨⟨?_, by simpa using hl, h.2.2.1, fun j hj => ?_, fun i' j p q hij hj hp hq => ?_⟩, s2, hBg⟩
  · have e : (rs.set k ⟨(nthR rs k).a, (nthR rs k).c, (nthR rs k).xs.set i y⟩).map Rw.v = rs.map Rw.v := by
      apply List.ext_getElem
      · simp
      · intro j h1 h2
        simp only [List.getElem_map, List.getElem_set]
        by_cases e : k = j
        · subst e
          rw [if_pos rfl]
          have : nthR rs k = rs[k] := by simp [nthR, show k < rs.length by omega]
          rw [this]
          simp [Rw.v]
        · rw [if_neg e]
    rw [e]
    refine h.1.kept s2 ?_
    -- the rows' own block holds slices
    cases a with
    | none => left; rfl
    | some p =>
      right
      rcases h.1.2 with ⟨hv, _⟩ | ⟨g1, cap1, cur1, hv1, _, hh1, _⟩
      · simp at hv
      · simp at hv1
        rcases hrow.1.2 with ⟨hv2, _⟩ | ⟨g2, cap2, cur2, hv2, _, hh2, _⟩
        · simp at hv2
        · simp at hv2
          rw [hv1.1]
          simp only [Value.ownBlock]
          intro e
          simp at e
          rw [e, hv2.1, hh2] at hh1
          simp at hh1
  · rw [nthR_set (by omega)]
    by_cases e : k = j
    · subst e
      rw [if_pos rfl]
      simp only [List.length_set]
      rw [hg]
      exact s1
    · rw [if_neg e]
      refine (h.row hj).kept s2 (.inr fun p hp => ?_)
      rcases Nat.lt_or_gt_of_ne e with h5 | h5
      · exact fun e => h.2.2.2.2 k j _ p h5 hj hg hp e.symm
      · exact h.2.2.2.2 j k p _ h5 hk hp hg
  · rw [nthR_set (by omega)] at hp
    rw [nthR_set (by omega)] at hq
    refine h.2.2.2.2 i' j p q hij hj ?_ ?_
    · by_cases e : k = i'
      · subst e; rw [if_pos rfl] at hp; exact hp
      · rw [if_neg e] at hp; exact hp
    · by_cases e : k = j
      · subst e; rw [if_pos rfl] at hq; exact hq
      · rw [if_neg e] at hq; exact hq
/-- What is known of the rows of parts. -/
theorem rows_parts {xs : List Int} (h : isPark xs = true) {rs : List Rw} (hn : numsOf rs = partRows xs (upto xs.length)) : rs.length = (starts xs).length ∧
    (∀ k, k < rs.length → nthN (ends xs) k + (nthR rs k).xs.length = nthN (ends xs) (k + 1)) ∧ (∀ k, k < rs.length → ∀ i, i < (nthR rs k).xs.length → ∃ c : Nat, c < xs.length ∧ nth (nthR rs k).xs i = (c : Int)) ∧
    numsOf (cvTo xs (nthN (ends xs)) rs rs.length) = (primePartsOf xs).1 ∧ ∀ k, k ≤ rs.length → nthN (ends xs) k ≤ 8 := by
  rw [partRows_starts h (List.Perm.refl _)] at hn
  have hl : rs.length = (starts xs).length := by have := congrArg List.length hn; simpa [numsOf] using this
  have hrow : ∀ k, k < rs.length → (nthR rs k).xs = grp xs (upto xs.length) (nthN (ends xs) k) := fun k hk => by
    have : (numsOf rs).getD k [] = ((starts xs).map (grp xs (upto xs.length))).getD k [] := by rw [hn]
    rw [numsOf_nth hk] at this
    rw [this, ends_left (by omega)]
    simp [show k < (starts xs).length by omega]
  refine ⟨hl, fun k hk => by rw [hrow k hk]; exact grp_length h (List.Perm.refl _) (by omega), fun k hk i hi => ?_, ?_, fun k hk => ?_⟩
  · have hm : nth (nthR rs k).xs i ∈ grp xs (upto xs.length) (nthN (ends xs) k) := by rw [← hrow k hk]; exact nth_mem hi
    unfold grp at hm
    obtain ⟨c, hc, e⟩ := mem_upto.1 (List.mem_filter.1 hm).1
    exact ⟨c, hc, e⟩
  · have hfull : numsOf (cvTo xs (nthN (ends xs)) rs rs.length) = (starts xs).map fun a => (xs.filter fun x => decide (begF xs x.toNat = a)).map (· - (a : Int)) := by
      apply List.ext_getElem
      · simp [numsOf, length_cvTo, hl]
      · intro k h1 h2
        have hk : k < rs.length := by simpa [hl] using h2
        have e1 : (numsOf (cvTo xs (nthN (ends xs)) rs rs.length))[k] = (nthR (cvTo xs (nthN (ends xs)) rs rs.length) k).xs := by
          rw [← numsOf_nth (by rw [length_cvTo]; exact hk)]
          simp [h1]
        rw [e1, cvTo_done _ _ _ _ _ hk (Nat.le_refl _), cvRow_full rfl, hrow k hk]
        simp only [List.getElem_map]
        rw [← ends_left (by omega), ← grp_values, List.map_map]
        rfl
    rw [hfull]
    by_cases e : xs = []
    · subst e
      rfl
    · have : primePartsOf xs = (primeParts xs, true) := by simp [primePartsOf, h, e]
      rw [this, primeParts_rows h (List.length_pos_iff.2 e)]
  · have h8 := (isPark_bounds h).1
    by_cases hk2 : k < (starts xs).length
    · have := (mem_starts.1 (by rw [ends_left hk2]; exact List.getElem_mem hk2 : nthN (ends xs) k ∈ starts xs)).1
      omega
    · have e2 : nthN (ends xs) k = xs.length := by
        unfold ends nthN
        simp [show k = (starts xs).length by omega]
      omega

def begV (S : Nat → Nat) (k : Nat) : Int := if k = 0 then 0 else (S k : Int)
set_option maxHeartbeats 4000000 in
theorem implPrimeParts_any (a : Option Addr) (n cap : Nat) (xs : List Int) (w : World) (h : Has w a n cap xs) :
    Calls Try.prog 14 #[.slice a n cap] w (PostRows w (primePartsOf xs)) := by
  have HL := hid h.len
  by_cases hg : isPark xs = true
  · have h8 : n ≤ 8 := by have := (isPark_bounds hg).1; rw [← h.len]; exact this
    have HB : Hid (∀ i, i < n → 0 ≤ nth xs i ∧ nth xs i < 8) := hid (fun i hi => by
      have h1 := isPark_bounds hg
      have := h1.2 _ (nth_mem (xs := xs) (i := i) (by rw [h.len]; exact hi))
      omega)
    have HC : Hid (∀ i, i < n → ∃ c : Nat, c < n ∧ nth (idx n) i = (c : Int)) := hid (fun i hi => ⟨i, hi, nth_idx hi⟩)
    have HI : Hid (idx n = upto xs.length) := hid (by rw [h.len]; rfl)
    have HR2 : Hid ((primePartsOf xs).2 = true) := hid (by simp [primePartsOf, hg])
    have HRP := hid (fun (rs : List Rw) (hn : numsOf rs = partRows xs (upto xs.length)) => rows_parts hg hn)
    have HG := hid hg
    clear hg
    go_enter Try.func14, Try.ntmps14
    go_wp2_with (first | (go_at_call 37; refine (isParkingFunction_any _ _ _ _ _ h).mono ?_; rintro e w1 ⟨rfl, hb1⟩; rw [HG.out]) | (go_at_call 39; refine (indices_any n _ (by omega)).mono ?_; rintro e w2 ⟨a2, c2, rfl, hown2, hb2⟩))
    have hb12 := hb1.trans (hb2.mono hb1.size)
    refine (partsOf_any _ _ _ _ _ _ _ _ _ (h.below hb12 (Nat.le_refl _)) hown2.has HB.out HC.out).mono ?_
    rintro e w3 ⟨rfl, ⟨r, hp⟩, hb3⟩
    have hb13 := hb12.trans (hb3.mono hb12.size)
    have hlt3 := hp.1.lt
    go_wp2_with fail
    refine (takeAll_any _ _ _ r _ hp (by omega)).mono ?_
    rintro e w4 ⟨a4, q, cap4, rs, rfl, hown4, hn4, hb4⟩
    rw [partRows_keys, HI.out] at hn4
    obtain ⟨f1, f2, f3, f4, f5⟩ := HRP.out rs hn4
    have hlen := hown4.len
    rw [hlen] at f2 f3 f4 f5
    have F2 := hid f2
    have F3 := hid f3
    have F4 := hid f4
    have F5 := hid f5
    have F1 := hid f1
    have S0 : Hid (nthN (ends xs) 0 = 0 ∨ q = 0) := hid (by
      rcases Nat.eq_zero_or_pos q with e | e
      · exact .inr e
      · left
        rw [ends_left (by omega)]
        have hst : starts xs = (starts xs) := rfl
        have h0 : 0 ∈ starts xs := by
          have hn0 : 0 < xs.length := by
            rcases Nat.eq_zero_or_pos xs.length with e2 | e2
            · have : starts xs = [] := by unfold starts; rw [e2]; rfl
              rw [this, hlen] at f1
              simp at f1
              omega
            · exact e2
          refine mem_starts.2 ⟨hn0, (st_iff HG.out (Nat.zero_le _)).2 (by rw [show ((0 : Nat) : Int) = 0 from rfl, below_zero (fun x hx => ((isPark_bounds HG.out).2 x hx).1)]; omega)⟩
        obtain ⟨j, hj, e2⟩ := List.getElem_of_mem h0
        rcases Nat.eq_zero_or_pos j with e3 | e3
        · subst e3; exact e2
        · have := List.pairwise_iff_getElem.1 (starts_lt xs) 0 j (by omega) hj e3
          omega)
    have hsz2 : w.heap.size ≤ w2.heap.size := hb12.size
    have hb14 := hb13.trans (hb4.mono hsz2)
    have hown4' : OwnR w4 w.heap.size a4 q cap4 rs := hown4.mono (by omega)
    have LEN := hid hlen
    have hqle := hown4.le
    generalize nthN (ends xs) = S at *
    clear hown4 hb4 hb3 hb13 hb12 hb1 hb2 hp hn4 f1 f2 f3 f4 f5 hown2 hlen
    go_wp2_with fail
    go_loopw [5, 21] (fun bg i wr => ∃ (k : Nat), k ≤ q ∧ i = .int .i64 (k : Int) ∧ bg = .int .i64 (begV S k) ∧ OwnR wr w.heap.size a4 q cap4 (cvTo xs S rs k) ∧ Below w.heap.size w wr) (fun _ i _ => q - (intOf i).toNat)
    case atStart => exact ⟨0, Nat.zero_le _, rfl, rfl, hown4', hb14⟩
    case round =>
      obtain ⟨wo, rfl⟩ : ∃ wo : World, wo = wr := ⟨_, rfl⟩
      clear hown4' hb14
      obtain ⟨k, hk, rfl, rfl, hown, hb⟩ := hrel
      by_cases hlt : k < q
      · have HS : Hid (begV S k = (S k : Int)) := hid (by
          unfold begV
          by_cases e : k = 0
          · subst e
            rcases S0.out with e2 | e2
            · rw [e2]; rfl
            · omega
          · rw [if_neg e])
        rw [HS.out]
        have hsum := F2.out k hlt
        have hcars := F3.out k hlt
        have hS8 := F5.out (k + 1) (by omega)
        have LATER := hid (cvTo_later xs S rs k k (Nat.le_refl _) (by rw [LEN.out]; omega))
        have CVS : Hid (cvTo xs S rs (k + 1) = (cvTo xs S rs k).set k (cvRow xs (S k : Int) (nthR rs k) (nthR rs k).xs.length)) := hid rfl
        have LCV := hid ((length_cvTo xs S rs k).trans LEN.out)
        have HCA := hid hcars
        obtain ⟨g, rfl, q1, q2, q3, q4⟩ := hown.cellAt (by omega)
        have hgk := q3 k hlt
        rw [LATER.out] at hgk
        have CZ := hid (cvRow_zero xs (S k : Int) (nthR rs k))
        have SET0 : Hid ((cvTo xs S rs k).set k (cvRow xs (S k : Int) (nthR rs k) 0) = cvTo xs S rs k) := hid (by
          rw [CZ.out, ← LATER.out]
          apply List.ext_getElem
          · simp
          · intro j h1 h2
            rw [List.getElem_set]
            by_cases e : k = j
            · subst e; rw [if_pos rfl]; simp [nthR, show k < (cvTo xs S rs k).length from h2]
            · rw [if_neg e])
        have NCV := hid (fun (i : Nat) => (nthR_set (rs := cvTo xs S rs k) (i := k) (j := k) (r := cvRow xs (S k : Int) (nthR rs k) i) (by rw [LCV.out]; exact hlt)).trans (if_pos rfl))
        have hk0 : (S k : Int) ≤ 8 := by omega
        have CNTH := hid (fun i (hi : i < (nthR rs k).xs.length) => cvRow_nth (xs := xs) (b := (S k : Int)) (r := nthR rs k) hi)
        have CSUC := hid (fun i (c : Nat) (hi : i < (nthR rs k).xs.length) (hc : nth (nthR rs k).xs i = (c : Int)) => cvRow_succ (xs := xs) (b := (S k : Int)) hi hc)
        have CLEN := hid (fun i => length_cvRow xs (S k : Int) (nthR rs k) i)
        have CA : Hid (∀ i, (cvRow xs (S k : Int) (nthR rs k) i).a = (nthR rs k).a ∧ (cvRow xs (S k : Int) (nthR rs k) i).c = (nthR rs k).c) := hid (fun i => ⟨rfl, rfl⟩)
        obtain ⟨m, hm⟩ : ∃ m, m = (nthR rs k).xs.length := ⟨_, rfl⟩
        have HM := hid hm
        rw [← hm] at hgk CVS hsum
        simp only [← hm] at CNTH CSUC CLEN HCA
        have hown0 : OwnR wo w.heap.size (some ⟨g, 0, none⟩) q cap4 ((cvTo xs S rs k).set k (cvRow xs (S k : Int) (nthR rs k) 0)) := by rw [SET0.out]; exact hown
        have BVS : Hid (begV S (k + 1) = (S (k + 1) : Int)) := hid (by unfold begV; rw [if_neg (by omega)])
        clear q3 q4 hcars hm hown
        generalize nthR rs k = rk at *
        generalize cvTo xs S rs k = Rk at *
        go_wp2_with fail
        go_loopw [27] (fun i wr => ∃ j : Nat, j ≤ m ∧ i = .int .i64 (j : Int) ∧ OwnR wr w.heap.size (some ⟨g, 0, none⟩) q cap4 (Rk.set k (cvRow xs (S k : Int) rk j)) ∧ Below w.heap.size w wr) (fun i _ => m - (intOf i).toNat)
        case atStart => exact ⟨0, Nat.zero_le _, rfl, hown0, hb⟩
        case round =>
          clear hown0 hb hgk
          obtain ⟨j, hj, rfl, hown, hb⟩ := hrel
          by_cases hlj : j < m
          · obtain ⟨c, hc1, hc2⟩ := HCA.out j hlj
            have hcn : c < n := by rw [← HL.out]; exact hc1
            obtain ⟨x0, x8⟩ := HB.out c hcn
            obtain ⟨b1, off1, rfl, hbb1, hx1⟩ := h.2.2.2.2 (by omega)
            have hck : wr.cell? ⟨b1, off1 + c, none⟩ = some (.int .i64 (nth xs c)) := by rw [hb.cell (p := ⟨b1, off1 + c, none⟩) hbb1]; exact hx1 c hcn
            have hrow := hown.row hlt
            rw [NCV.out, CLEN.out, (CA.out j).1, (CA.out j).2] at hrow
            obtain ⟨g2, e2, r1, r2, r3, r4⟩ := hrow.opened (by omega)
            have hg2 := r3 j hlj
            rw [CNTH.out j hlj, hc2] at hg2
            have hgf := r4 j
            obtain ⟨s1, s2, s3⟩ := hown.setNum (k := k) (g := g2) (i := j) (y := nth xs c - (S k : Int)) hlt (by rw [NCV.out, (CA.out j).1]; exact e2)
            rw [NCV.out, List.set_set, (CA.out j).1, (CA.out j).2, ← CSUC.out j c hlj hc2] at s1
            have hb5 := hb.setCell (p := ⟨g2, j, none⟩) s3 (.int .i64 (nth xs c - (S k : Int)))
            have z1 : (c : Int) < (n : Int) := by omega
            have z0 : (0 : Int) ≤ (c : Int) := by omega
            have zj : (j : Int) < (m : Int) := by omega
            have hw1 : IntKind.i64.wrap (nth xs c - (S k : Int)) = nth xs c - (S k : Int) := by rw [IntKind.wrap_i64]; omega
            rw [e2]
            clear hx1 r3 r4 hc2 hrow hown e2
            go_wp2_with fail
            go_roundw
            case rel => exact ⟨j + 1, by omega, by go_num, s1, hb5⟩
            case measure => simp [intOf]; omega
          · obtain rfl : j = m := by omega
            have hw1 : IntKind.i64.wrap ((S k : Int) + (j : Int)) = (S (k + 1) : Int) := by rw [IntKind.wrap_i64]; omega
            have he1 : (S k : Int) + (j : Int) = (S (k + 1) : Int) := by omega
            go_wp2_with fail
            go_roundw
            case rel => exact ⟨k + 1, by omega, by go_num, by rw [BVS.out], by rw [CVS.out]; exact hown, hb⟩
            case measure => simp [intOf]; omega
      · obtain rfl : k = q := by omega
        have HF : Hid (primePartsOf xs = (numsOf (cvTo xs S rs k), true)) := hid (by rw [F4.out, ← HR2.out])
        go_wp2_with fail
        go_ret2
        exact postRows HF.out hown rfl hb
  · have HR : Hid (primePartsOf xs = ([], false)) := hid (by simp [primePartsOf, hg])
    have HG := hid hg
    clear hg
    go_enter Try.func14, Try.ntmps14
    go_wp2_with (go_at_call 37; refine (isParkingFunction_any _ _ _ _ _ h).mono ?_; rintro e w1 ⟨rfl, hb1⟩; rw [Bool.eq_false_iff.2 HG.out])
    go_ret2
    exact postRows_no HR.out hb1
end Go.Proofs.Ytehdccfkkfkciaa
