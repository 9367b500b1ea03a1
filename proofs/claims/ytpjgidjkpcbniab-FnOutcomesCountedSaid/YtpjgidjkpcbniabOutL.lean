/- All lists with an outcome: the model's and the program's functions, by their contracts. -/
import Derived.Test.YtpjgidjkpcbniabOutc
import Derived.Test.YtpjgidjkpcbniabSort
import Derived.Test.YtpjgidjkpcbniabHelp2
import Derived.Test.YtpjgidjkpcbniabMathL
namespace Go.Proofs.Ytpjgidjkpcbniab
open Go.RowKit

/-- A slice of slices of the call's own. -/
def RetRows (w : World) (ls : List (List Int)) (e : Ending) (w' : World) : Prop := ∃ a q cap rs, e = .returned (.slice a q cap) ∧ OwnR w' w.heap.size a q cap rs ∧ numsOf rs = ls ∧ Below w.heap.size w w'

theorem numsOf_append (rs ss : List Rw) : numsOf (rs ++ ss) = numsOf rs ++ numsOf ss := by simp [numsOf]

/-- The lists with an outcome that begin with some numbers. -/
def lexAt (xs : List Int) (m : Nat) : List (List Int) := lex ((leasts xs).drop m) (xs.drop m)
/-- Of them, with the first c choices of the next number. -/
def lexTo (xs : List Int) (m c : Nat) : List (List Int) := (upFrom (leastOf xs m) c).flatMap fun x => (lexAt xs (m + 1)).map (x :: ·)
theorem lexTo_succ (xs : List Int) (m c : Nat) : lexTo xs m (c + 1) = lexTo xs m c ++ (lexAt xs (m + 1)).map ((leastOf xs m + c) :: ·) := by
  simp [lexTo, upFrom_snoc]
theorem lexAt_step {xs : List Int} {m : Nat} (h : m < xs.length) : lexAt xs m = lexTo xs m (span (leastOf xs m) (nth xs m)) := by
  unfold lexAt lexTo
  rw [drop_nth h, drop_nth (by rw [length_leasts]; exact h), nth_leasts h, lex]
  rfl
theorem length_lexTo (xs : List Int) (m : Nat) : ∀ c, (lexTo xs m c).length = c * (lexAt xs (m + 1)).length
  | 0 => by simp [lexTo, upFrom]
  | c + 1 => by rw [lexTo_succ, List.length_append, length_lexTo xs m c, List.length_map, Nat.add_mul]; omega
theorem lexAt_pos {xs : List Int} (ho : outB xs = true) (m : Nat) (hm : m ≤ xs.length) : 0 < (lexAt xs m).length := by
  have := lex_ne ((leasts xs).drop m) (xs.drop m) (fun i hi => by
    simp [length_leasts] at hi
    rw [show nth ((leasts xs).drop m) i = nth (leasts xs) (m + i) from nth_drop, nth_drop, nth_leasts (by omega)]
    exact (leastOf_bounds (out_nth ho (by omega)).1).2) (by simp [length_leasts])
  cases hl : lexAt xs m with
  | nil => unfold lexAt at hl; rw [hl] at this; exact this.elim
  | cons a b => simp

set_option maxHeartbeats 4000000 in
theorem paWith_any (xs : List Int) (n : Nat) (ho : outB xs = true) (hn : xs.length = n) : ∀ (k m : Nat) (a a2 : Option Addr) (cap cap2 : Nat) (pre : List Int) (w : World), m + k = n → Has w a n cap xs → Has w a2 m cap2 pre → (lexAt xs m).length ≤ 500 →
    Calls Try.prog 99 #[.slice a n cap, .slice a2 m cap2] w (RetRows w ((lexAt xs m).map (pre ++ ·))) := by
  have HO := hid ho
  have HN := hid hn
  have h8 : n ≤ 8 := by have := out_le ho; omega
  clear ho hn
  intro k
  induction k with
  | zero =>
    intro m a a2 cap cap2 pre w hmk h h2 _
    obtain rfl : m = n := by omega
    have HR : Hid ((lexAt xs m).map (pre ++ ·) = [pre]) := hid (by
      unfold lexAt
      rw [List.drop_eq_nil_of_le (by rw [length_leasts, HN.out]; omega)]
      simp [lex])
    have hbe : ((m : Int) == (m : Int)) = true := by simp
    go_enter Try.func99, Try.ntmps99
    go_wp2_with fail
    refine (l1Own_any _ _ _ _ _ h2).mono ?_
    rintro e w1 ⟨a1, cap1, rfl, hown1, hb1⟩
    have hlit := ownR_lit1 hown1 hb1.size
    have hba := hb1.alloc hb1.size (.cells #[.slice a1 m cap1] 22)
    go_wp2_with fail
    go_ret
    exact ⟨_, _, _, _, rfl, hlit, by rw [HR.out]; rfl, hba⟩
  | succ k ih =>
    intro m a a2 cap cap2 pre w hmk h h2 hlen
    have hmn : m < n := by omega
    have IH := hid ih
    clear ih
    obtain ⟨o0, o1⟩ := out_nth HO.out (i := m) (by rw [HN.out]; omega)
    obtain ⟨l0, l1⟩ := leastOf_bounds o0
    rw [HN.out] at o1
    have HS := hid (lexAt_step (xs := xs) (m := m) (by rw [HN.out]; omega))
    have hps := lexAt_pos HO.out (m + 1) (by rw [HN.out]; omega)
    have hlt0 : (span (leastOf xs m) (nth xs m)) * (lexAt xs (m + 1)).length ≤ 500 := by rw [HS.out, length_lexTo] at hlen; exact hlen
    have hsp : ((span (leastOf xs m) (nth xs m) : Nat) : Int) = nth xs m - leastOf xs m + 1 := by unfold span; omega
    have HSP := hid hsp
    have hsub : (lexAt xs (m + 1)).length ≤ 500 := by
      have h1 : 1 ≤ span (leastOf xs m) (nth xs m) := by omega
      have := Nat.mul_le_mul_right (lexAt xs (m + 1)).length h1
      omega
    have HROW : Hid (rowOf xs m = nth xs m - leastOf xs m + 1) := hid rfl
    have hbe : ((m : Int) == (n : Int)) = false := by simp; omega
    obtain ⟨b, off, rfl, hbb, hc⟩ := h.2.2.2.2 (by omega)
    have hck := hc m hmn
    have hmi : (m : Int) < (n : Int) := by omega
    have hmz : (0 : Int) ≤ (m : Int) := by omega
    have cq : ∀ j, Calls Try.prog 96 #[.slice (some ⟨b, off, none⟩) n cap, .int .i64 (m : Int)] (w.drewN j) fun e w' => e = .returned (.int .i64 (nth xs m - leastOf xs m + 1)) ∧ w' = w.drewN j := fun j =>
      (paRow_any _ _ _ _ m (w.drewN j) h hmn o0 (by omega)).mono fun e w' ⟨he, hw⟩ => ⟨by rw [he, HROW.out], hw.symm⟩
    have CQ := hid cq
    generalize hN : leastOf xs m = lo at *
    generalize hV : nth xs m = hi at *
    have HLO := hid hN
    clear cq hN hV hsp hlen hc
    go_enter Try.func99, Try.ntmps99
    go_wp2_with fail
    go_quiet ((go_at_call 96; exact Calls.quiet_of_same (CQ.out _)))
    go_wp2_with fail
    have hbq : Below w.heap.size w (w.drewN nq) := below_drewN (Below.refl _ _) _
    go_loopw [6, 7] (fun o x wr => ∃ (c : Nat) (a' : Option Addr) (q cap' : Nat) (rs : List Rw), x = .int .i64 (lo + (c : Int)) ∧ c ≤ span lo hi ∧ o = .slice a' q cap' ∧ OwnR wr w.heap.size a' q cap' rs ∧ Hid (numsOf rs = (lexTo xs m c).map (pre ++ ·)) ∧ Below w.heap.size w wr) (fun _ x _ => (hi + 1 - intOf x).toNat)
    case atStart => exact ⟨0, none, 0, 0, [], congrArg (Value.int .i64) (by omega), Nat.zero_le _, rfl, OwnR.nil _ _, hid rfl, hbq⟩
    case round =>
      obtain ⟨c, a', q, cap', rs, rfl, hcs, rfl, hown, HNU, hb⟩ := hrel
      have hc30 : wr.cell? ⟨b, off + m, none⟩ = some (.int .i64 hi) := by rw [hb.cell (p := ⟨b, off + m, none⟩) hbb]; exact hck
      have HSP2 : Hid (((span lo hi : Nat) : Int) = hi - lo + 1) := hid HSP.out
      clear hbq hck CQ
      by_cases hlt : lo + (c : Int) ≤ hi
      · have hq500 : q + (lexAt xs (m + 1)).length ≤ 500 := by
          have e1 : (numsOf rs).length = q := by rw [← hown.len]; simp [numsOf]
          rw [HNU.out, List.length_map, length_lexTo] at e1
          have h1 : c + 1 ≤ span lo hi := by have := HSP2.out; omega
          have h2 := Nat.mul_le_mul_right (lexAt xs (m + 1)).length h1
          rw [Nat.add_mul] at h2
          omega
        have HQ := hid hq500
        clear hq500
        have hh2 := h2.below hb (Nat.le_refl _)
        go_wp2_with fail
        refine (l1Own_any _ _ _ _ _ hh2).mono ?_
        rintro e w3 ⟨a3, cap3, rfl, hown3, hb3⟩
        go_wp2_with (at_builtin; refine wpList_append_int _ rfl _ _ rfl wr.heap.size _ _ _ _ _ rfl rfl hown3 (by omega) hb3.size ?_; intro a4 cap4 w4 hown4 hb4)
        have hb34 := hb3.trans hb4
        refine (IH.out (m + 1) _ _ _ _ _ _ (by omega) ((h.below hb (Nat.le_refl _)).below hb34 (Nat.le_refl _)) hown4.has hsub).mono ?_
        rintro e w5 ⟨a5, q5, cap5, rs5, rfl, hown5, hn5, hb5⟩
        have hb35 := hb34.trans (hb5.mono hb34.size)
        have HN5 := hid hn5
        have hq5 : q5 = (lexAt xs (m + 1)).length := by
          rw [← hown5.len]
          have : (numsOf rs5).length = rs5.length := by simp [numsOf]
          rw [← this, hn5]; simp
        have HQ5 := hid hq5
        have hq5p : 0 < q5 := by omega
        have hq5l : q + q5 ≤ 2097152 := by have := HQ.out; omega
        have hown5' := hown5.mono hb34.size
        have hszr := hb.size
        clear hn5 hq5 hown3 hown4 hb3 hb4 hb5 hb34 hown5
        go_wp2_with (at_builtin; refine wpList_append_rows wr w5 rfl _ _ rfl w.heap.size _ _ _ _ _ _ _ _ rfl rfl hown hb35 hown5' hq5p hq5l hszr ?_; intro a6 q6 cap6 w6 hq6 hown6 hb6)
        go_roundw
        case rel =>
          refine ⟨c + 1, a6, q6, cap6, _, congrArg (Value.int .i64) (by omega), by have := HSP2.out; omega, rfl, hown6, hid ?_, (hb.trans (hb35.mono hszr)).trans hb6⟩
          rw [numsOf_append, HNU.out, HN5.out, lexTo_succ, HLO.out, List.map_append, List.map_map]
          congr 1
          apply List.map_congr_left
          intro z _
          simp
        case measure => simp [intOf]; omega
      · have hce : c = span lo hi := by have := HSP2.out; omega
        have HR : Hid (numsOf rs = (lexAt xs m).map (pre ++ ·)) := hid (by rw [HNU.out, hce, HS.out])
        clear hce
        go_wp2_with fail
        go_ret
        exact ⟨a', q, cap', rs, rfl, hown, HR.out, hb⟩

theorem outcomes_yes {xs : List Int} (h : outB xs = true) : outcomesOf xs = (prodTo xs xs.length, true) := by simp [outcomesOf, h]
theorem outcomes_no {xs : List Int} (h : ¬ outB xs = true) : outcomesOf xs = (0, false) := by simp [outcomesOf, h]
theorem lexAt_zero {xs : List Int} (ho : outB xs = true) : (((lexAt xs 0).length : Nat) : Int) = prodTo xs xs.length := by
  have := length_lex xs ho xs.length (Nat.le_refl _)
  rw [Nat.sub_self, prodTo, Int.one_mul] at this
  exact this

set_option maxHeartbeats 800000 in
theorem specAllOutcome_any (a : Option Addr) (n cap : Nat) (xs : List Int) (w : World) (h : Has w a n cap xs) :
    Calls Try.prog 45 #[.slice a n cap] w (PostRows w (allOutcomes xs)) := by
  have HN := hid h.len
  by_cases hg : outB xs = true
  · have HD := hid (outcomes_yes hg)
    by_cases h5 : prodTo xs xs.length ≤ 500
    · have HR : Hid (allOutcomes xs = ((lexAt xs 0).map ([] ++ ·), true)) := hid (by simp [allOutcomes, hg, h5, lexAt])
      have h500 : (lexAt xs 0).length ≤ 500 := by have := lexAt_zero hg; omega
      have HG := hid hg
      clear hg
      go_enter Try.func45, Try.ntmps45
      go_wp2_with fail
      refine (specCountOutcome_any _ _ _ _ _ h).mono ?_
      rw [HD.out]
      rintro e w1 ⟨rfl, hb1⟩
      go_wp2_with fail
      refine (paWith_any xs n HG.out HN.out n 0 _ _ _ _ [] _ (by omega) (h.below hb1 (Nat.le_refl _)) (Has.nilAt none (by unfold maxLen; omega)) h500).mono ?_
      rintro e w2 ⟨a2, q2, cap2, rs2, rfl, hown2, hn2, hb2⟩
      go_wp2_with fail
      go_ret2
      exact postRows HR.out (hown2.mono hb1.size) hn2 (hb1.trans (hb2.mono hb1.size))
    · have HR : Hid (allOutcomes xs = ([], false)) := hid (by simp [allOutcomes, h5])
      clear hg
      go_enter Try.func45, Try.ntmps45
      go_wp2_with fail
      refine (specCountOutcome_any _ _ _ _ _ h).mono ?_
      rw [HD.out]
      rintro e w1 ⟨rfl, hb1⟩
      go_wp2_with fail
      go_ret2
      exact postRows_no HR.out hb1
  · have HD := hid (outcomes_no hg)
    have HR : Hid (allOutcomes xs = ([], false)) := hid (by simp [allOutcomes, hg])
    clear hg
    go_enter Try.func45, Try.ntmps45
    go_wp2_with fail
    refine (specCountOutcome_any _ _ _ _ _ h).mono ?_
    rw [HD.out]
    rintro e w1 ⟨rfl, hb1⟩
    go_wp2_with fail
    go_ret2
    exact postRows_no HR.out hb1

theorem stepC_nonneg : ∀ (ys ls hs : List Int), (∀ x ∈ ys, 0 ≤ x) → (∀ x ∈ ls, 0 ≤ x) → ∀ x ∈ (stepC ys ls hs).1, 0 ≤ x
  | [], _, _, _, _ => by simp [stepC]
  | y :: ys, [], _, h, _ => by simpa [stepC] using h
  | y :: ys, l :: ls, [], h, _ => by simpa [stepC] using h
  | y :: ys, l :: ls, h' :: hs, h, hl => by
    have ih := stepC_nonneg ys ls hs (fun x hx => h x (by simp [hx])) (fun x hx => hl x (by simp [hx]))
    have h0 := h y (by simp)
    have l0 := hl l (by simp)
    intro x hx
    simp only [stepC] at hx
    split at hx
    · split at hx
      · rcases List.mem_cons.1 hx with rfl | hx
        · omega
        · exact ih x hx
      · rcases List.mem_cons.1 hx with rfl | hx
        · exact l0
        · exact ih x hx
    · rcases List.mem_cons.1 hx with rfl | hx
      · exact h0
      · exact ih x hx

theorem Marked.trans' {w w' w'' : World} {g : Nat} (h : w.grownBy w' (some g)) (h' : w'.grownBy w'' (some g)) : w.grownBy w'' (some g) := grown_trans h h'

/-- What the list holds in the middle of a step: behind k all numbers were the greatest. -/
def midStep (ys ls hs : List Int) (k : Nat) : List Int := ys.take k ++ (stepC (ys.drop k) (ls.drop k) (hs.drop k)).1

theorem grown_drewN {w w' : World} {row : Option Nat} (h : w.grownBy w' row) (k : Nat) : w.grownBy (w'.drewN k) row := ⟨h.os, h.tape, h.output, h.size, h.block⟩

set_option maxHeartbeats 2000000 in
theorem stepBetween_any (B : Nat) (a al ah : Option Addr) (n cap capl caph : Nat) (ys ls hs : List Int) (w : World) (h : Own w B a n cap ys) (hl : Has w al n capl ls) (hh : Has w ah n caph hs)
    (hal : 0 < n → BlkLt al B) (hah : 0 < n → BlkLt ah B) (hbd : ∀ i, i < n → nth hs i ≤ 1000) (hys : ∀ i, i < n → 0 ≤ nth ys i) :
    Calls Try.prog 101 #[.slice a n cap, .slice al n capl, .slice ah n caph] w fun e w' => e = .returned (.tuple #[]) ∧ Own w' B a n cap (stepC ys ls hs).1 ∧ Marked w w' a := by
  have hn := h.le
  have HLY := hid h.len
  have HLL := hid hl.len
  have HLH := hid hh.len
  by_cases h0 : n = 0
  · have hn0 : n ≤ 0 := by omega
    have HR : Hid ((stepC ys ls hs).1 = ys) := hid (by
      have : ys = [] := List.eq_nil_of_length_eq_zero (by rw [HLY.out]; omega)
      subst this
      simp [stepC])
    clear h0
    go_enter Try.func101, Try.ntmps101
    go_wp2_with fail
    refine wp_loop_rounds 1 ?_
    rw [rounds_succ]
    go_wp2_with fail
    go_end0
    exact ⟨rfl, by rw [HR.out]; exact h, ⟨none, World.grownBy.refl _ _, by simp⟩⟩
  · obtain ⟨g, rfl, hg1, hg2, hg3, hg4⟩ := h.opened (by omega)
    obtain ⟨bl, ol, rfl, hbl, hcl⟩ := hl.2.2.2.2 (by omega)
    obtain ⟨bh, oh, rfl, hbh, hch⟩ := hh.2.2.2.2 (by omega)
    have hl1 := hal (by omega) _ rfl
    have hh1 := hah (by omega) _ rfl
    clear hg3 hg4 hal hah
    go_enter Try.func101, Try.ntmps101
    go_wp2_with fail
    go_loopw [6] (fun i wr => ∃ (k : Nat), k ≤ n ∧ i = .int .i64 ((k : Int) - 1) ∧ Own wr B (some ⟨g, 0, none⟩) n cap (midStep ys ls hs k) ∧ Hid ((stepC (ys.drop k) (ls.drop k) (hs.drop k)).2 = true) ∧ w.grownBy wr (some g)) (fun i _ => (intOf i + 1).toNat)
    case atStart =>
      refine ⟨n, Nat.le_refl _, rfl, ?_, hid ?_, World.grownBy.refl _ _⟩
      · unfold midStep
        rw [List.drop_eq_nil_of_le (by rw [HLY.out]; omega), List.take_of_length_le (by rw [HLY.out]; omega)]
        simpa [stepC] using h
      · rw [List.drop_eq_nil_of_le (by rw [HLY.out]; omega)]; simp [stepC]
    case round =>
      obtain ⟨k, hk, rfl, hown, HC, hgr⟩ := hrel
      match k, hk, HC, hown with
      | 0, hk, HC, hown =>
        go_wp2_with fail
        go_end0
        refine ⟨rfl, ?_, ⟨some g, hgr, fun g' hg' => ⟨_, rfl, by simpa using hg'⟩⟩⟩
        simpa [midStep] using hown
      | j + 1, hk, HC, hown =>
        have e : ((j + 1 : Nat) : Int) - 1 = (j : Int) := by omega
        rw [e]
        clear e
        obtain ⟨g', hga, hg1', hg2', hg3', hg4'⟩ := hown.opened (by omega)
        cases hga
        have hcy := hg3' j (by omega)
        have hfy := hg4' j
        have e1 : nth (midStep ys ls hs (j + 1)) j = nth ys j := by
          unfold midStep
          rw [nth_append_left (by simp; rw [HLY.out]; omega), nth_take (by omega)]
        rw [e1] at hcy
        have hcl' : wr.cell? ⟨bl, ol + j, none⟩ = some (.int .i64 (nth ls j)) := grown_cell hgr (hcl j (by omega)) (by omega)
        have hch' : wr.cell? ⟨bh, oh + j, none⟩ = some (.int .i64 (nth hs j)) := grown_cell hgr (hch j (by omega)) (by omega)
        have hb1000 := hbd j (by omega)
        have hy0 := hys j (by omega)
        have hjn : (j : Int) < (n : Int) := by omega
        have hjz : (0 : Int) ≤ (j : Int) := by omega
        have HE := hid (stepC_at (ys := ys) (ls := ls) (hs := hs) (j := j) (by rw [HLY.out]; omega) (by rw [HLL.out]; omega) (by rw [HLH.out]; omega))
        have hset : ∀ z : Int, (midStep ys ls hs (j + 1)).set j z = ys.take j ++ z :: (stepC (ys.drop (j + 1)) (ls.drop (j + 1)) (hs.drop (j + 1))).1 := by
          intro z
          unfold midStep
          rw [take_succ_nth (by rw [HLY.out]; omega), List.append_assoc]
          have hlj : (ys.take j).length = j := by simp; rw [HLY.out]; omega
          rw [List.set_append_right _ _ (by omega), hlj, Nat.sub_self]
          rfl
        have HSET := hid hset
        clear hcl hch hg3' hg4' e1 hset hbd hys hg2' hg1'
        by_cases hlt : nth ys j < nth hs j
        · have htd : decide (nth ys j < nth hs j) = true := by simpa using hlt
          have HR : Hid ((midStep ys ls hs (j + 1)).set j (nth ys j + 1) = (stepC ys ls hs).1) := hid (by
            have he := HE.out
            simp only [HC.out, if_true, if_pos hlt] at he
            rw [HSET.out, stepC_done (ys := ys) (ls := ls) (hs := hs) j (by rw [HLY.out]; omega) (by rw [HLY.out, HLL.out]) (by rw [HLY.out, HLH.out]) (by rw [he]), he])
          go_wp2_with fail
          go_quiet (fail)
          go_wp2_with fail
          refine bodyPost_ret (results_none rfl _ _ _) rfl ?_
          have hd : Own (wr.drewN nq) B (some ⟨g, 0, none⟩) n cap (midStep ys ls hs (j + 1)) := hown
          obtain ⟨s1, s2⟩ := hd.set j (nth ys j + 1)
          rw [HR.out] at s1
          exact ⟨rfl, s1, ⟨some g, grown_trans (grown_drewN hgr nq) s2, fun g' hg' => ⟨_, rfl, by simpa using hg'⟩⟩⟩
        · have htd : decide (nth ys j < nth hs j) = false := by simp; omega
          have HR : Hid ((midStep ys ls hs (j + 1)).set j (nth ls j) = midStep ys ls hs j ∧ (stepC (ys.drop j) (ls.drop j) (hs.drop j)).2 = true) := hid (by
            have he := HE.out
            simp only [HC.out, if_true, if_neg hlt] at he
            refine ⟨?_, by rw [he]⟩
            rw [HSET.out]
            unfold midStep
            rw [he])
          go_wp2_with fail
          go_quiet (fail)
          go_wp2_with fail
          go_roundw
          case rel =>
            have hd : Own (wr.drewN nq) B (some ⟨g, 0, none⟩) n cap (midStep ys ls hs (j + 1)) := hown
            obtain ⟨s1, s2⟩ := hd.set j (nth ls j)
            rw [HR.out.1] at s1
            exact ⟨j, by omega, by go_num, s1, hid HR.out.2, grown_trans (grown_drewN hgr nq) s2⟩
          case measure => simp [intOf]

theorem lex_seq {xs : List Int} (ho : outB xs = true) : SeqTo (fun ys => stepC ys (leasts xs) xs) (leasts xs) (lex (leasts xs) xs) (leasts xs, true) :=
  lex_ne _ _ (fun i hi => by
    rw [length_leasts] at hi
    rw [nth_leasts hi]
    exact (leastOf_bounds (out_nth ho hi).1).2) (length_leasts xs)

theorem take_succ_getD {L : List (List Int)} {k : Nat} (h : k < L.length) : L.take (k + 1) = L.take k ++ [L.getD k []] := by
  rw [List.take_succ_eq_append_getElem h]
  simp [h]

theorem leasts_nonneg {xs : List Int} (ho : outB xs = true) : ∀ x ∈ leasts xs, 0 ≤ x := by
  intro x hx
  obtain ⟨i, hi, rfl⟩ := mem_nth hx
  rw [length_leasts] at hi
  rw [nth_leasts hi]
  exact (leastOf_bounds (out_nth ho hi).1).1

set_option maxHeartbeats 2000000 in
theorem allOutcome_any (a : Option Addr) (n cap : Nat) (xs : List Int) (w : World) (h : Has w a n cap xs) :
    Calls Try.prog 46 #[.slice a n cap] w (PostRows w (allOutcomes xs)) := by
  have HN := hid h.len
  by_cases hg : outB xs = true
  · have HD := hid (outcomes_yes hg)
    by_cases h5 : prodTo xs xs.length ≤ 500
    · have HR : Hid (allOutcomes xs = (lex (leasts xs) xs, true)) := hid (by simp [allOutcomes, hg, h5])
      have hlz := lexAt_zero hg
      obtain ⟨N, hN⟩ : ∃ N : Nat, (lex (leasts xs) xs).length = N := ⟨_, rfl⟩
      have hNp : ((N : Nat) : Int) = prodTo xs xs.length := by rw [← hlz, ← hN]; rfl
      have hN500 : N ≤ 500 := by omega
      have HG := hid hg
      have HNN := hid hN
      have HLS := hid (SeqTo.at [] (lex_seq hg))
      have HLN := hid (leasts_nonneg hg)
      have HXB : Hid (∀ i, i < n → nth xs i ≤ 1000) := hid (fun i hi => by have h1 := out_nth hg (i := i) (by rw [HN.out]; exact hi); have h2 := out_le hg; omega)
      rw [← hNp] at HD
      clear hg hlz hN hNp h5
      go_enter Try.func46, Try.ntmps46
      go_wp2_with fail
      refine (countOutcome_any _ _ _ _ _ h).mono ?_
      rw [HD.out]
      rintro e w1 ⟨rfl, hb1⟩
      go_wp2_with fail
      refine (leastFavourites_any _ _ _ _ _ (h.below hb1 (Nat.le_refl _)) HG.out).mono ?_
      rintro e w2 ⟨al, cl, rfl, ol, hb2⟩
      go_wp2_with fail
      refine (clone_any _ _ _ _ _ ol.has).mono ?_
      rintro e w3 ⟨ac, cc, rfl, oc, hb3⟩
      have ltl := (ol.below hb3 (Nat.le_refl _)).lt
      have ltl2 := ol.lt
      have gec := oc.ge
      have ltc := oc.lt
      have hb12 := hb1.trans (hb2.mono hb1.size)
      have hb13 := hb12.trans (hb3.mono hb12.size)
      have gel := ol.ge
      have ol3 := ol.below hb3 (Nat.le_refl _)
      clear ol hb2 hb3
      go_wp2_with (at_make; refine wpList_make_rows _ rfl _ _ rfl N rfl rfl (by omega) ?_; intro aa ca w4 oa hb4)
      have hsz3 := hb13.size
      have hsz2 := hb12.size
      have hszw : w2.heap.size ≤ w3.heap.size ∨ True := .inr trivial
      have ol4 := ol3.below hb4 (Nat.le_refl _)
      have oc4 := oc.below hb4 (Nat.le_refl _)
      have hB4 := hb13.trans (hb4.mono hsz3)
      have hsz4 := hb4.size
      clear ol3 oc hb4 hszw
      go_loopw [8, 27] (fun o i wr => ∃ (k : Nat) (a' : Option Addr) (cap' : Nat) (rs : List Rw) (zs : List Int), k ≤ N ∧ i = .int .i64 k ∧ o = .slice a' k cap' ∧ OwnR wr w3.heap.size a' k cap' rs ∧ Hid (numsOf rs = (lex (leasts xs) xs).take k) ∧
        Own wr w2.heap.size ac n cc zs ∧ Own wr w1.heap.size al n cl (leasts xs) ∧ Hid (k < N → zs = (lex (leasts xs) xs).getD k []) ∧ Hid (∀ x ∈ zs, 0 ≤ x) ∧ Below w.heap.size w wr ∧ w3.heap.size ≤ wr.heap.size) (fun _ i _ => N - (intOf i).toNat)
      case atStart => exact ⟨0, aa, ca, [], leasts xs, Nat.zero_le _, rfl, rfl, oa, hid rfl, oc4, ol4, hid (fun _ => HLS.out.1.symm), HLN, hB4, hsz4⟩
      case round =>
        obtain ⟨k, a', cap', rs, zs, hk, rfl, rfl, hor, HNU, hoc, hol, HZ, HZN, hb, hsz⟩ := hrel
        clear oa oc4 ol4 hB4
        by_cases hlt : k < N
        · go_wp2_with fail
          refine (clone_any _ _ _ _ _ hoc.has).mono ?_
          rintro e w5 ⟨a5, c5, rfl, o5, hb5⟩
          go_wp2_with (at_builtin; refine wpList_append_row wr w5 rfl _ _ rfl w3.heap.size _ _ _ _ _ _ _ _ rfl rfl hor hb5 o5 (by omega) hsz ?_; intro a6 c6 w6 o6 hb6)
          have hoc6 := (hoc.below hb5 (Nat.le_refl _)).belowB hb6 ltc
          have hol6 := (hol.below hb5 (Nat.le_refl _)).belowB hb6 ltl
          have hb06 := (hb.trans (hb5.mono hb.size)).trans (hb6.mono hsz3)
          have hsz6 := hb6.size
          have hsz5 := hb5.size
          clear hor hoc hol hb5 hb6 o5
          have hlx : 0 < n → BlkLt a w2.heap.size := fun hn p hp => Nat.lt_of_lt_of_le (h.lt hn p hp) hsz2
          have hzb : ∀ i, i < n → 0 ≤ nth zs i := fun i hi => HZN.out _ (nth_mem (by rw [hoc6.len]; exact hi))
          have hh6 := h.below hb06 (Nat.le_refl _)
          have STEP := hid (stepBetween_any w2.heap.size ac al a n cc cl cap zs (leasts xs) xs w6 hoc6 hol6.has hh6 (fun _ => ltl2) hlx HXB.out hzb)
          clear hlx hzb hh6
          refine STEP.out.mono ?_
          rintro e w7 ⟨rfl, oc7, hm7⟩
          have o7 := o6.marked_gt hm7 ltc
          have ol7 := hol6.marked_lt hm7 ltl2 gec
          have hbm := hm7.below (gec.mono hsz2) hb06.size
          have hb07 := hb06.trans hbm
          have hszm := hbm.size
          clear STEP o6 hoc6 hol6 hm7 hbm
          go_wp2_with fail
          go_roundw
          case rel =>
            refine ⟨k + 1, a6, c6, _, _, by omega, by go_num, rfl, o7, hid ?_, oc7, ol7, hid (fun hlt2 => ?_), hid (stepC_nonneg _ _ _ HZN.out HLN.out), hb07, by omega⟩
            · rw [numsOf_append, HNU.out, take_succ_getD (by rw [HNN.out]; exact hlt), ← HZ.out hlt]
              rfl
            · rw [HZ.out hlt]
              exact HLS.out.2 k (by rw [HNN.out]; exact hlt2)
          case measure => simp [intOf]; omega
        · obtain rfl : k = N := by omega
          go_wp2_with fail
          go_ret2
          exact postRows HR.out (hor.mono hsz3) (by rw [HNU.out, List.take_of_length_le (by rw [HNN.out]; omega)]) hb
    · have HR : Hid (allOutcomes xs = ([], false)) := hid (by simp [allOutcomes, h5])
      clear hg
      go_enter Try.func46, Try.ntmps46
      go_wp2_with fail
      refine (countOutcome_any _ _ _ _ _ h).mono ?_
      rw [HD.out]
      rintro e w1 ⟨rfl, hb1⟩
      go_wp2_with fail
      go_ret2
      exact postRows_no HR.out hb1
  · have HD := hid (outcomes_no hg)
    have HR : Hid (allOutcomes xs = ([], false)) := hid (by simp [allOutcomes, hg])
    clear hg
    go_enter Try.func46, Try.ntmps46
    go_wp2_with fail
    refine (countOutcome_any _ _ _ _ _ h).mono ?_
    rw [HD.out]
    rintro e w1 ⟨rfl, hb1⟩
    go_wp2_with fail
    go_ret2
    exact postRows_no HR.out hb1
end Go.Proofs.Ytpjgidjkpcbniab
