/- The model's list of all lists of favourites, by its contract. -/
import Derived.Test.YtlfbmpgjhnpceabOutL
import Derived.Test.YtlfbmpgjhnpceabMathAt
namespace Go.Proofs.Ytlfbmpgjhnpceab
open Go.RowKit

/-- All lists of k numbers less than n. -/
def lexK (n k : Nat) : List (List Int) := lex (List.replicate k 0) (List.replicate k ((n : Int) - 1))
def lexKTo (n k c : Nat) : List (List Int) := (upFrom 0 c).flatMap fun x => (lexK n k).map (x :: ·)
theorem lexKTo_succ (n k c : Nat) : lexKTo n k (c + 1) = lexKTo n k c ++ (lexK n k).map ((c : Int) :: ·) := by
  simp [lexKTo, upFrom_snoc]
theorem lexK_step {n k : Nat} : lexK n (k + 1) = lexKTo n k n := by
  unfold lexK lexKTo
  rw [List.replicate_succ, List.replicate_succ, lex]
  have : span 0 ((n : Int) - 1) = n := by unfold span; omega
  rw [this]
  rfl
theorem length_lexK {n : Nat} (hn : 1 ≤ n) (k : Nat) : (lexK n k).length = n ^ k := length_lexRep n hn k
theorem length_lexKTo {n : Nat} (hn : 1 ≤ n) (k : Nat) : ∀ c, (lexKTo n k c).length = c * n ^ k
  | 0 => by simp [lexKTo, upFrom]
  | c + 1 => by rw [lexKTo_succ, List.length_append, length_lexKTo hn k c, List.length_map, length_lexK hn, Nat.add_mul]; omega

set_option maxHeartbeats 4000000 in
theorem loAll_any (n : Nat) (hn1 : 1 ≤ n) (hn5 : n ≤ 5) : ∀ (k m : Nat) (a2 : Option Addr) (cap2 : Nat) (pre : List Int) (w : World), m + k = n → Has w a2 m cap2 pre →
    Calls Try.prog 86 #[.slice a2 m cap2, .int .i64 (n : Int)] w (RetRows w ((lexK n k).map (pre ++ ·))) := by
  intro k
  induction k with
  | zero =>
    intro m a2 cap2 pre w hmk h2
    obtain rfl : m = n := by omega
    have HR : Hid ((lexK m 0).map (pre ++ ·) = [pre]) := hid (by simp [lexK, lex])
    have hbe : ((m : Int) == (m : Int)) = true := by simp
    go_enter Try.func86, Try.ntmps86
    go_wp2_with fail
    refine (l1Own_any _ _ _ _ _ h2).mono ?_
    rintro e w1 ⟨a1, cap1, rfl, hown1, hb1⟩
    have hlit := ownR_lit1 hown1 hb1.size
    have hba := hb1.alloc hb1.size (.cells #[.slice a1 m cap1] 22)
    go_wp2_with fail
    go_ret
    exact ⟨_, _, _, _, rfl, hlit, by rw [HR.out]; rfl, hba⟩
  | succ k ih =>
    intro m a2 cap2 pre w hmk h2
    have hmn : m < n := by omega
    have IH := hid ih
    clear ih
    have HS := hid (lexK_step (n := n) (k := k))
    have HLT := hid (fun c => length_lexKTo hn1 k c)
    have HLK := hid (length_lexK hn1 k)
    have hpow : ∀ c, c ≤ n → c * n ^ k ≤ 3125 := fun c hc => by
      have h1 : c * n ^ k ≤ n * n ^ k := Nat.mul_le_mul_right _ hc
      have h2 : n * n ^ k = n ^ (k + 1) := by rw [Nat.pow_succ, Nat.mul_comm]
      have h3 : n ^ (k + 1) ≤ 5 ^ (k + 1) := Nat.pow_le_pow_left hn5 _
      have h4 : 5 ^ (k + 1) ≤ 5 ^ 5 := Nat.pow_le_pow_right (by omega) (by omega)
      have : (5 : Nat) ^ 5 = 3125 := by decide
      omega
    have hpos : 0 < n ^ k := Nat.pow_pos hn1
    have HPOW := hid hpow
    have HPOS := hid hpos
    have hbe : ((m : Int) == (n : Int)) = false := by simp; omega
    clear hpow hpos
    go_enter Try.func86, Try.ntmps86
    go_wp2_with fail
    go_loopw [5, 6] (fun o x wr => ∃ (c : Nat) (a' : Option Addr) (q cap' : Nat) (rs : List Rw), x = .int .i64 (c : Int) ∧ c ≤ n ∧ o = .slice a' q cap' ∧ OwnR wr w.heap.size a' q cap' rs ∧ Hid (numsOf rs = (lexKTo n k c).map (pre ++ ·)) ∧ Below w.heap.size w wr) (fun _ x _ => (n - (intOf x).toNat))
    case atStart => exact ⟨0, none, 0, 0, [], rfl, Nat.zero_le _, rfl, OwnR.nil _ _, hid rfl, Below.refl _ _⟩
    case round =>
      obtain ⟨c, a', q, cap', rs, rfl, hcs, rfl, hown, HNU, hb⟩ := hrel
      by_cases hlt : c < n
      · have hq : q = c * n ^ k := by
          have e1 : (numsOf rs).length = q := by rw [← hown.len]; simp [numsOf]
          rw [HNU.out, List.length_map, HLT.out] at e1
          exact e1.symm
        have hq5 : q + n ^ k ≤ 3125 := by
          have := HPOW.out (c + 1) (by omega)
          rw [Nat.add_mul] at this
          omega
        have HQ := hid hq5
        clear hq hq5
        have hh2 := h2.below hb (Nat.le_refl _)
        go_wp2_with fail
        refine (l1Own_any _ _ _ _ _ hh2).mono ?_
        rintro e w3 ⟨a3, cap3, rfl, hown3, hb3⟩
        go_wp2_with (at_builtin; refine wpList_append_int _ rfl _ _ rfl wr.heap.size _ _ _ _ _ rfl rfl hown3 (by omega) hb3.size ?_; intro a4 cap4 w4 hown4 hb4)
        have hb34 := hb3.trans hb4
        refine (IH.out (m + 1) _ _ _ _ (by omega) hown4.has).mono ?_
        rintro e w5 ⟨a5, q5, cap5, rs5, rfl, hown5, hn5', hb5⟩
        have hb35 := hb34.trans (hb5.mono hb34.size)
        have HN5 := hid hn5'
        have hq5 : q5 = n ^ k := by
          rw [← hown5.len]
          have : (numsOf rs5).length = rs5.length := by simp [numsOf]
          rw [← this, hn5', List.length_map, HLK.out]
        have hq5p : 0 < q5 := by rw [hq5]; exact HPOS.out
        have hq5l : q + q5 ≤ 2097152 := by have := HQ.out; omega
        have hszr := hb.size
        have hown5' := hown5.mono hb34.size
        clear hn5' hq5 hown3 hown4 hb3 hb4 hb5 hb34 hown5
        go_wp2_with (at_builtin; refine wpList_append_rows wr w5 rfl _ _ rfl w.heap.size _ _ _ _ _ _ _ _ rfl rfl hown hb35 hown5' hq5p hq5l hszr ?_; intro a6 q6 cap6 w6 hq6 hown6 hb6)
        go_roundw
        case rel =>
          refine ⟨c + 1, a6, q6, cap6, _, by go_num, by omega, rfl, hown6, hid ?_, (hb.trans (hb35.mono hszr)).trans hb6⟩
          rw [numsOf_append, HNU.out, HN5.out, lexKTo_succ, List.map_append, List.map_map]
          congr 1
          apply List.map_congr_left
          intro z _
          simp
        case measure => simp [intOf]; omega
      · obtain rfl : c = n := by omega
        have HR : Hid (numsOf rs = (lexK c (k + 1)).map (pre ++ ·)) := hid (by rw [HNU.out, HS.out])
        go_wp2_with fail
        go_ret
        exact ⟨a', q, cap', rs, rfl, hown, HR.out, hb⟩

/-- The rows of the list of all. -/
theorem rows_tried {n q : Nat} {rs : List Rw} (hn : 1 ≤ n) (hn5 : n ≤ 5) (h : numsOf rs = (lexK n n).map ([] ++ ·)) (hq : rs.length = q) : q = n ^ n ∧ ∀ k, k < q → (nthR rs k).xs = (allTried n).getD k [] ∧ (nthR rs k).xs.length = n ∧ good (nthR rs k).xs n = true := by
  have h' : numsOf rs = allTried n := by rw [h]; simp [lexK, allTried]
  have hl : q = n ^ n := by
    have := congrArg List.length h'
    rw [length_allTried hn] at this
    simp [numsOf] at this
    omega
  refine ⟨hl, fun k hk => ?_⟩
  have h1 := map_nthR Rw.xs (rs := rs) (i := k) (by omega)
  have h2 : (allTried n)[k]? = some (nthR rs k).xs := by rw [← h']; exact h1
  have h3 : (nthR rs k).xs = (allTried n).getD k [] := by simp [h2]
  have h4 := tried_good (n := n) (k := k) hn hn5 (by omega)
  rw [← h3] at h4
  exact ⟨h3, h4⟩
end Go.Proofs.Ytlfbmpgjhnpceab
