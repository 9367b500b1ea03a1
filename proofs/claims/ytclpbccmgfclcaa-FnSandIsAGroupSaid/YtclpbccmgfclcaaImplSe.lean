/- The program's functions of sand, by contract. -/
import Derived.Test.YtclpbccmgfclcaaImplSd
import Derived.Test.YtclpbccmgfclcaaSpecSe
import Derived.Test.YtclpbccmgfclcaaImplC
import Derived.StillTailTactics
namespace Go.Proofs.Ytclpbccmgfclcaa
open Go.RowKit

theorem run_append_emptyS (w : World) {B : Nat} (ty : TypeId) (a0 a1 : Option Addr) (n cap cap1 : Nat) (xs : List Int) (hown : w.ownsRow B 3 1 (.slice a0 n cap) n (xs.map (Value.int .i64))) :
    (Builtin.append_ #[52, 52] ty #[.slice a0 n cap, .slice a1 0 cap1]).run Try.prog w = .ok (.slice a0 n cap) w := by
  obtain ⟨i0, hi, hz0, hz1, hz2⟩ := info_parts Try.infoInt
  rcases hown.2 with ⟨hv, hn⟩ | ⟨g, cap', cur, hv, _, _, hnc, _⟩
  · simp at hv
    obtain ⟨rfl, rfl, rfl⟩ := hv
    cases a1 <;> simp [Builtin.append_, run_underlying Try.underlying52, sizeOf, typeInfo, hi, Builtin.lenOf, Builtin.firstCells, loadCells, loadCellsFrom]
  · simp at hv
    obtain ⟨rfl, rfl⟩ := hv
    cases a1 <;> simp [Builtin.append_, run_underlying Try.underlying52, sizeOf, typeInfo, hi, Builtin.lenOf, Builtin.firstCells, hnc, storeCells, loadCells, loadCellsFrom]

/-- 'append(out, ys...)' to sand of the call's own. -/
theorem wpList_append_sand {ops : Array Oper} {rest : List Oper} {o : Oper} {a : Act} {Q : Exit → Act → World → Prop} (w : World) (hgd : o.guard = none) (s x : Operand)
    (ho : o.op = .call { callee := .builtin .append, args := #[s, x], argTypes := #[52, 52] })
    (B : Nat) (a0 a1 : Option Addr) (n m cap cap1 : Nat) (xs ys : List Int) (hs : a.eval s = .slice a0 n cap) (hx : a.eval x = .slice a1 m cap1)
    (hown : Own w B a0 n cap xs) (hhas : Has w a1 m cap1 ys) (hl : n + m ≤ 2097152) (hB : B ≤ w.heap.size)
    (h : ∀ a' k cap' w', k = n + m → Own w' B a' k cap' (xs ++ ys) → Below B w w' → wpList Try.prog ops Q rest (a.put o.dst (.slice a' k cap')) w') :
    wpList Try.prog ops Q (o :: rest) a w := by
  obtain ⟨i0, hi, hz0, hz1, hz2⟩ := info_parts Try.infoInt
  have hlx := hown.len
  have hly := hhas.len
  by_cases hy : m = 0
  · obtain rfl : ys = [] := List.eq_nil_of_length_eq_zero (by omega)
    subst hy
    refine wpList_plain hgd fun K hK => ?_
    have hrun := run_append_emptyS w o.type a0 a1 n cap cap1 xs hown.1
    have hx' : a.eval x = .slice a1 0 cap1 := hx
    unfold Oper.wp
    simp [execOp, ho, resolve, invoke, builtin, hs, hx', hrun, Result.andThen]
    exact hK _ _ (h a0 n cap w rfl (by simpa using hown) (Below.refl _ _))
  · obtain ⟨b, off, rfl, _, _⟩ := hhas.2.2.2.2 (by omega)
    refine wpList_append_own (P := Try.prog) _ hgd s x 52 ho B 3 i0 (.int .i64 0) 1 8 Try.underlying52 hi hz0 hz1 hz2 rfl (by decide) _ n (xs.map (Value.int .i64)) hs hown.1 ⟨b, off, none⟩ m cap1 (ys.map (Value.int .i64)) hx (by simp [hly]) (has_cells hhas) (ints_oneCell _ _) (by unfold maxLen; omega) (by omega) hB ?_
    intro v' w' hown' hgrow _
    obtain ⟨a', cap', rfl, ho'⟩ := own_of_row (xs := xs ++ ys) hown' (by simp; omega) (by simp) (by simp; omega)
    exact h _ _ _ _ rfl ho' (below_grown hgrow hB fun k hk => (hown.1.lt k hk).1)

set_option maxHeartbeats 400000 in
theorem cloneS_any (a : Option Addr) (n cap : Nat) (xs : List Int) (w : World) (h : Has w a n cap xs) :
    Calls Try.prog 76 #[.slice a n cap] w fun e w' => ∃ a' cap', e = .returned (.slice a' n cap') ∧ Own w' w.heap.size a' n cap' xs ∧ Below w.heap.size w w' := by
  have hle := h.le
  have hb0 : Below w.heap.size w (w.alloc (.cells #[] 3)) := (Below.refl _ _).alloc (Nat.le_refl _) _
  have qn : ∀ (w : World) (a : Option Addr) (n c n' c' : Nat), (binOp .eql 52 (.slice a n c) (.slice none n' c')).run Try.prog w = .ok (.bool a.isNone) w := fun w a n c n' c' => Lib.run_eql_slice_nil w _ _ a n c n' c' Try.underlying52
  cases a with
  | none =>
    have hn : n = 0 := by
      apply Classical.byContradiction
      intro hne
      obtain ⟨b, off, hbo, _⟩ := h.2.2.2.2 (by omega)
      cases hbo
    subst hn
    have hx : xs = [] := List.eq_nil_of_length_eq_zero h.len
    subst hx
    go_enter Try.func76, Try.ntmps76
    go_wp2_with fail
    go_ret
    exact ⟨_, _, rfl, Own.nil _ _, Below.refl _ _⟩
  | some p =>
    go_enter Try.func76, Try.ntmps76
    go_wp2_with (at_builtin; refine wpList_append_sand _ rfl _ _ rfl w.heap.size _ _ _ _ _ _ [] xs rfl rfl (own_lit0 w _ (Nat.le_refl _)) (h.below hb0 (Nat.le_refl _)) (by omega) (by simp) ?_; intro a2 n2 cap2 w2 hn2 hown2 hb2)
    go_ret
    obtain rfl : n2 = n := by omega
    exact ⟨_, _, rfl, by simpa using hown2, hb0.trans hb2⟩

set_option maxHeartbeats 400000 in
theorem equalS_any (a b : Option Addr) (n m cap cap' : Nat) (xs ys : List Int) (w : World) (h : Has w a n cap xs) (h' : Has w b m cap' ys) :
    Calls Try.prog 74 #[.slice a n cap, .slice b m cap'] w fun e w' => e = .returned (.bool (same xs ys)) ∧ Quiet w w' := by
  obtain ⟨h0, h1, h2, h3, h4⟩ := h
  obtain ⟨k0, k1, k2, k3, k4⟩ := h'
  by_cases hnm : n = m
  · have hb : ((n : Int) != (m : Int)) = false := by simp [hnm]
    subst hnm
    go_enter Try.func74, Try.ntmps74
    go_wp2_with fail
    go_loopw [13] (fun i wr => ∃ k : Nat, k ≤ n ∧ i = .int .i64 k ∧ FromTo xs ys k ∧ Quiet w wr) (fun i _ => n - (intOf i).toNat)
    case atStart => exact ⟨0, Nat.zero_le _, rfl, fun i hi => by omega, ⟨0, rfl⟩⟩
    case round =>
      obtain ⟨k, hk, rfl, hft, q, hq⟩ := hrel
      subst hq
      by_cases hlt : k < n
      · obtain ⟨b1, off1, rfl, hb1, hc1⟩ := h4 (by omega)
        obtain ⟨b2, off2, rfl, hb2, hc2⟩ := k4 (by omega)
        have hck := hc1 k hlt
        have hdk := hc2 k hlt
        have hkk : (k : Int) < (n : Int) := by omega
        have hkz : (0 : Int) ≤ (k : Int) := by omega
        clear hc1 hc2 h4 k4
        by_cases he : nth xs k = nth ys k
        · have hbe : (nth xs k != nth ys k) = false := by simp [he]
          have HE := hid he
          clear he
          go_wp2_with fail
          go_quiet (fail)
          go_wp2_with fail
          go_roundw
          case rel => exact ⟨k + 1, by omega, by go_num, fun i hi => by rcases Nat.lt_succ_iff_lt_or_eq.1 hi with h | rfl; exact hft i h; exact HE.out.symm, ⟨_, rfl⟩⟩
          case measure => simp [intOf]; omega
        · have hbe : (nth xs k != nth ys k) = true := by simp [he]
          have HE := hid he
          clear he
          go_wp2_with fail
          go_quiet (fail)
          go_wp2_with fail
          go_ret
          exact ⟨ret_bool (same_no HE.out).symm, (Quiet.more ⟨_, rfl⟩ _)⟩
      · obtain rfl : k = n := by omega
        go_wp2_with fail
        go_ret
        exact ⟨ret_bool (same_yes (by omega) (by rw [h0]; exact hft)).symm, ⟨_, rfl⟩⟩
  · have hb : ((n : Int) != (m : Int)) = true := by simp; omega
    go_enter Try.func74, Try.ntmps74
    go_wp2_with fail
    go_ret
    exact ⟨ret_bool (show false = same xs ys from by unfold same; symm; rw [decide_eq_false_iff_not]; rintro rfl; omega), ⟨0, rfl⟩⟩

theorem Marked.belowN {w w' w0 : World} {a : Option Addr} {K : Nat} (hb : Below K w0 w) (hm : Marked w w' a) (hg : BlkGe a K) (hK : K ≤ w.heap.size) : Below K w0 w' := hb.trans (hm.below hg hK)

set_option maxHeartbeats 1000000 in
theorem fired_any (a : Option Addr) (n cap : Nat) (xs : List Int) (w : World) (h : Has w a n cap xs) (hs : sandB xs = true) :
    Calls Try.prog 57 #[.slice a n cap] w (PostSettle w n (settle (xs.map (· + 1)))) := by
  obtain ⟨h8, hbd⟩ := sand_nth hs h.len
  have U := upS h.len hs
  have HL := hid h.len
  have HB := hid hbd
  clear hs hbd
  go_enter Try.func57, Try.ntmps57
  go_wp2_with (go_at_call 76; refine (cloneS_any _ _ _ _ _ h).mono ?_; rintro e w' ⟨a1, c1, rfl, own1, hb1⟩)
  have hge := own1.ge
  have hs1 := hb1.size
  go_loopw [11] (fun i wr => ∃ k : Nat, k ≤ n ∧ i = .int .i64 k ∧ Own wr w.heap.size a1 n c1 (upK xs k) ∧ Below w.heap.size w wr) (fun i _ => n - (intOf i).toNat)
  case atStart => exact ⟨0, by omega, rfl, by rw [upK_zero]; exact own1, hb1⟩
  case round =>
    clear own1 hb1 hs1
    obtain ⟨k, hk, rfl, hown, hb⟩ := hrel
    by_cases hlt : k < n
    · obtain ⟨g, rfl, hg1, hg2, hg3, hg4⟩ := hown.opened (by omega)
      have hck := hg3 k hlt
      have hfk := hg4 k
      rw [nth_upK (by rw [HL.out]; exact hlt)] at hck
      obtain ⟨hb0, hb1⟩ := HB.out k hlt
      have HS := hid (upK_set (us := xs) (k := k) (by rw [HL.out]; exact hlt))
      clear hg3 hg4
      obtain ⟨s1, s2⟩ := hown.set k (nth xs k + 1)
      rw [HS.out] at s1
      have hb2 := hb.setCell (p := ⟨g, k, none⟩) (by show w.heap.size ≤ g; omega) (.int .i64 (nth xs k + 1))
      go_wp2_with fail
      go_roundw
      case rel => exact ⟨k + 1, by omega, by go_num, s1, hb2⟩
      case measure => simp [intOf]; omega
    · obtain rfl : k = n := by omega
      have e1 : upK xs k = xs.map (· + 1) := by rw [← HL.out]; exact upK_all xs
      rw [e1] at hown
      clear e1
      go_wp2_with (go_at_call 42; refine (settle_any _ _ _ _ _ _ hown h8 U.pile U.tot).mono ?_; rintro e w' ⟨b2, m2, d2, rfl, own2, own3, mk⟩)
      go_ret2
      exact ⟨_, _, _, _, _, rfl, own2, own3.mono hb.size, hb.trans (mk.below hge hb.size)⟩

set_option maxHeartbeats 400000 in
theorem isRecurrent_any (a : Option Addr) (n cap : Nat) (xs : List Int) (w : World) (h : Has w a n cap xs) (hs : sandB xs = true) :
    Calls Try.prog 52 #[.slice a n cap] w (PostBool w (recB xs)) := by
  have HR : Hid (recB xs = same (settle (xs.map (· + 1))).1 xs) := hid rfl
  go_enter Try.func52, Try.ntmps52
  go_wp2_with (first | (go_at_call 57; refine (fired_any _ _ _ _ _ h hs).mono ?_; rintro e w' ⟨a1, c1, b2, m2, d2, rfl, own1, own2, hb1⟩) | (go_at_call 74; refine (equalS_any _ _ _ _ _ _ _ _ _ own1.has (h.below hb1 (Nat.le_refl _))).mono ?_; rintro e w' ⟨rfl, q⟩))
  go_ret
  exact postBool HR.out.symm (hb1.trans (q.below _))

set_option maxHeartbeats 400000 in
theorem isRecurrentSand_any (a : Option Addr) (n cap : Nat) (xs : List Int) (w : World) (h : Has w a n cap xs) :
    Calls Try.prog 54 #[.slice a n cap] w (PostBool w (sandB xs && recB xs)) := by
  by_cases hs : sandB xs = true
  · have HS := hid hs
    have HR : Hid ((sandB xs && recB xs) = recB xs) := hid (by simp [hs])
    clear hs
    go_enter Try.func54, Try.ntmps54
    go_wp2_with (first | (go_at_call 40; refine (isSand_any _ _ _ _ _ h).mono ?_; rintro e w' ⟨rfl, rfl⟩; rw [HS.out]) | (go_at_call 52; refine (isRecurrent_any _ _ _ _ _ h HS.out).mono ?_; rintro e w1 ⟨rfl, hb1⟩))
    go_ret
    exact postBool HR.out.symm hb1
  · have HS := hid (Bool.eq_false_iff.2 hs)
    have HR : Hid ((sandB xs && recB xs) = false) := hid (by simp [hs])
    clear hs
    go_enter Try.func54, Try.ntmps54
    go_wp2_with (go_at_call 40; refine (isSand_any _ _ _ _ _ h).mono ?_; rintro e w' ⟨rfl, rfl⟩; rw [HS.out])
    go_ret
    exact postBool HR.out.symm (Below.refl _ _)

/-- A list told so far, and zeros behind it. -/
def lessAt (xs : List Int) (k : Nat) : List Int := (turnL xs).take k ++ List.replicate (xs.length - k) 0
theorem less_zero (xs : List Int) : lessAt xs 0 = List.replicate xs.length 0 := by simp [lessAt]
theorem less_all (xs : List Int) : lessAt xs xs.length = turnL xs := by simp [lessAt, turnL, List.take_of_length_le]
theorem less_next {xs : List Int} {k n : Nat} (hn : xs.length = n) (h : k < n) : (lessAt xs k).set k ((n : Int) - 1 - nth xs k) = lessAt xs (k + 1) := by
  unfold lessAt
  rw [turn_succ hn h]
  subst hn
  have hl : ((turnL xs).take k).length = k := by simp [turnL]; omega
  rw [List.set_append_right _ _ (by omega), hl, Nat.sub_self, show xs.length - k = (xs.length - (k + 1)) + 1 from by omega, List.replicate_succ, List.set_cons_zero, List.append_assoc]
  rfl
set_option maxHeartbeats 1000000 in
theorem lessEach_any (a : Option Addr) (n cap : Nat) (xs : List Int) (w : World) (h : Has w a n cap xs) (h8 : n ≤ 8) (hb : ∀ i, i < n → 0 ≤ nth xs i ∧ nth xs i ≤ 5000) :
    Calls Try.prog 55 #[.slice a n cap] w fun e w' => ∃ a' cap', e = .returned (.slice a' n cap') ∧ Own w' w.heap.size a' n cap' (turnL xs) ∧ Below w.heap.size w w' := by
  have HL := hid h.len
  have HB := hid hb
  clear hb
  go_enter Try.func55, Try.ntmps55
  go_wp2_with (at_make; refine wpList_make_ints _ rfl _ _ rfl n rfl rfl (by omega) ?_; intro a2 cap2 w2 hown2 hb2)
  have hz := less_zero xs
  rw [HL.out] at hz
  rw [← hz] at hown2
  clear hz
  go_loopw [11] (fun i wr => ∃ k : Nat, k ≤ n ∧ i = .int .i64 k ∧ Own wr w.heap.size a2 n cap2 (lessAt xs k) ∧ Below w.heap.size w wr) (fun i _ => n - (intOf i).toNat)
  case atStart => exact ⟨0, by omega, rfl, hown2, hb2⟩
  case round =>
    clear hown2 hb2
    obtain ⟨k, hk, rfl, hown, hb⟩ := hrel
    by_cases hlt : k < n
    · obtain ⟨b0, off, rfl, hbb, hc⟩ := h.2.2.2.2 (by omega)
      have hck : wr.cell? ⟨b0, off + k, none⟩ = some (.int .i64 (nth xs k)) := by rw [hb.cell (p := ⟨b0, off + k, none⟩) hbb]; exact hc k hlt
      obtain ⟨g, rfl, hg1, hg2, hg3, hg4⟩ := hown.opened (by omega)
      have hgk := hg3 k hlt
      have hfk := hg4 k
      obtain ⟨u0, u1⟩ := HB.out k hlt
      obtain ⟨s1, s2⟩ := hown.set k ((n : Int) - 1 - nth xs k)
      rw [less_next HL.out hlt] at s1
      have hb2 := hb.setCell (p := ⟨g, k, none⟩) (by show w.heap.size ≤ g; omega) (.int .i64 ((n : Int) - 1 - nth xs k))
      clear hg3 hg4 hc
      go_wp2_with fail
      go_roundw
      case rel => exact ⟨k + 1, by omega, by go_num, s1, hb2⟩
      case measure => simp [intOf]; omega
    · obtain rfl : k = n := by omega
      have e1 : lessAt xs k = turnL xs := by rw [← HL.out]; exact less_all xs
      rw [e1] at hown
      clear e1
      go_wp2_with fail
      go_ret
      exact ⟨_, _, rfl, hown, hb⟩

set_option maxHeartbeats 400000 in
theorem implIsStable_any (a : Option Addr) (n cap : Nat) (xs : List Int) (w : World) (h : Has w a n cap xs) :
    Calls Try.prog 14 #[.slice a n cap] w (PostBools w (stableOf xs)) := by
  by_cases hs : sandB xs = true
  · have HS := hid hs
    have HL := hid h.len
    by_cases hf : firstN xs < n
    · obtain ⟨F1, F2⟩ := fst_yes hf
      have HF := hid F2
      clear F1 F2
      have HR : Hid (stableOf xs = (false, true)) := hid (by unfold stableOf; rw [if_pos hs, decide_eq_false (by rw [HL.out]; omega)])
      clear hf hs
      go_enter Try.func14, Try.ntmps14
      go_wp2_with (first | (go_at_call 40; refine (isSand_any _ _ _ _ _ h).mono ?_; rintro e w' ⟨rfl, rfl⟩; rw [HS.out]) | (go_at_call 50; refine (firstToTopple_any _ _ _ _ _ h).mono ?_; rintro e w' ⟨rfl, rfl⟩; rw [HF.out]))
      go_ret2
      exact postBools HR.out (Below.refl _ _)
    · obtain ⟨F1, F2⟩ := fst_no hf
      have HF := hid F2
      clear F1 F2
      have HR : Hid (stableOf xs = (true, true)) := hid (by have := first_le xs; unfold stableOf; rw [if_pos hs, decide_eq_true (by have := HL.out; omega)])
      clear hf hs
      go_enter Try.func14, Try.ntmps14
      go_wp2_with (first | (go_at_call 40; refine (isSand_any _ _ _ _ _ h).mono ?_; rintro e w' ⟨rfl, rfl⟩; rw [HS.out]) | (go_at_call 50; refine (firstToTopple_any _ _ _ _ _ h).mono ?_; rintro e w' ⟨rfl, rfl⟩; rw [HF.out]))
      go_ret2
      exact postBools HR.out (Below.refl _ _)
  · have HR : Hid (stableOf xs = (false, false)) := hid (by simp [stableOf, hs])
    have HS := hid (Bool.eq_false_iff.2 hs)
    clear hs
    go_enter Try.func14, Try.ntmps14
    go_wp2_with (go_at_call 40; refine (isSand_any _ _ _ _ _ h).mono ?_; rintro e w' ⟨rfl, rfl⟩; rw [HS.out])
    go_ret2
    exact postBools HR.out (Below.refl _ _)

set_option maxHeartbeats 400000 in
theorem implIsRecurrent_any (a : Option Addr) (n cap : Nat) (xs : List Int) (w : World) (h : Has w a n cap xs) :
    Calls Try.prog 17 #[.slice a n cap] w (PostBools w (recOf xs)) := by
  by_cases hs : sandB xs = true
  · have HS := hid hs
    have HR : Hid (recOf xs = (recB xs, true)) := hid (by simp [recOf, hs])
    clear hs
    go_enter Try.func17, Try.ntmps17
    go_wp2_with (first | (go_at_call 40; refine (isSand_any _ _ _ _ _ h).mono ?_; rintro e w' ⟨rfl, rfl⟩; rw [HS.out]) | (go_at_call 52; refine (isRecurrent_any _ _ _ _ _ h HS.out).mono ?_; rintro e w1 ⟨rfl, hb1⟩))
    go_ret2
    exact postBools HR.out hb1
  · have HR : Hid (recOf xs = (false, false)) := hid (by simp [recOf, hs])
    have HS := hid (Bool.eq_false_iff.2 hs)
    clear hs
    go_enter Try.func17, Try.ntmps17
    go_wp2_with (go_at_call 40; refine (isSand_any _ _ _ _ _ h).mono ?_; rintro e w' ⟨rfl, rfl⟩; rw [HS.out])
    go_ret2
    exact postBools HR.out (Below.refl _ _)

set_option maxHeartbeats 400000 in
theorem implSandOfParking_any (a : Option Addr) (n cap : Nat) (xs : List Int) (w : World) (h : Has w a n cap xs) :
    Calls Try.prog 24 #[.slice a n cap] w (PostInts w (sandParkOf xs)) := by
  by_cases hp : isPark xs = true
  · have HR : Hid (sandParkOf xs = (turnL xs, true)) := hid (by simp [sandParkOf, hp])
    obtain ⟨p1, p2, -⟩ := isPark_iff.1 hp
    have h8 : n ≤ 8 := by have := h.len; omega
    have hbd : ∀ i, i < n → 0 ≤ nth xs i ∧ nth xs i ≤ 5000 := fun i hi => by
      have := p2 _ (nth_mem (xs := xs) (i := i) (by rw [h.len]; exact hi))
      omega
    have HP := hid hp
    clear hp p1 p2
    go_enter Try.func24, Try.ntmps24
    go_wp2_with (first | (go_at_call 61; refine (isParkingFunction_any _ _ _ _ _ h).mono ?_; rintro e w1 ⟨rfl, hb1⟩; rw [HP.out]) | (go_at_call 55; refine (lessEach_any _ _ _ _ _ (h.below hb1 (Nat.le_refl _)) h8 hbd).mono ?_; rintro e w' ⟨a2, c2, rfl, own2, hb2⟩))
    go_ret2
    exact postInts HR.out (own2.mono hb1.size) (hb1.trans (hb2.mono hb1.size))
  · have HR : Hid (sandParkOf xs = ([], false)) := hid (by simp [sandParkOf, hp])
    have HP := hid (Bool.eq_false_iff.2 hp)
    clear hp
    go_enter Try.func24, Try.ntmps24
    go_wp2_with (go_at_call 61; refine (isParkingFunction_any _ _ _ _ _ h).mono ?_; rintro e w1 ⟨rfl, hb1⟩; rw [HP.out])
    go_ret2
    exact postInts_no HR.out hb1

set_option maxHeartbeats 400000 in
theorem implParkingOfSand_any (a : Option Addr) (n cap : Nat) (xs : List Int) (w : World) (h : Has w a n cap xs) :
    Calls Try.prog 19 #[.slice a n cap] w (PostInts w (parkOf xs)) := by
  by_cases hr : (sandB xs && recB xs) = true
  · have hs : sandB xs = true := by simp at hr; exact hr.1
    have h8 := (sand_nth hs h.len).1
    have hbd := sand_wide hs h.len
    have HR : Hid (parkOf xs = (turnL xs, true)) := hid (by unfold parkOf; rw [if_pos hr])
    have HC := hid hr
    clear hs hr
    go_enter Try.func19, Try.ntmps19
    go_wp2_with (first | (go_at_call 54; refine (isRecurrentSand_any _ _ _ _ _ h).mono ?_; rintro e w1 ⟨rfl, hb1⟩; rw [HC.out]) | (go_at_call 55; refine (lessEach_any _ _ _ _ _ (h.below hb1 (Nat.le_refl _)) h8 hbd).mono ?_; rintro e w' ⟨a2, c2, rfl, own2, hb2⟩))
    go_ret2
    exact postInts HR.out (own2.mono hb1.size) (hb1.trans (hb2.mono hb1.size))
  · have HR : Hid (parkOf xs = ([], false)) := hid (by unfold parkOf; rw [if_neg hr])
    have HC := hid (Bool.eq_false_iff.2 hr)
    clear hr
    go_enter Try.func19, Try.ntmps19
    go_wp2_with (go_at_call 54; refine (isRecurrentSand_any _ _ _ _ _ h).mono ?_; rintro e w1 ⟨rfl, hb1⟩; rw [HC.out])
    go_ret2
    exact postInts_no HR.out hb1

set_option maxHeartbeats 400000 in
theorem implFireOrder_any (a : Option Addr) (n cap : Nat) (xs : List Int) (w : World) (h : Has w a n cap xs) :
    Calls Try.prog 21 #[.slice a n cap] w (PostInts w (fireOf xs)) := by
  by_cases hr : (sandB xs && recB xs) = true
  · have hs : Hid (sandB xs = true) := hid (by simp at hr; exact hr.1)
    have HR : Hid (fireOf xs = ((settle (xs.map (· + 1))).2, true)) := hid (by unfold fireOf; rw [if_pos hr])
    have HC := hid hr
    clear hr
    go_enter Try.func21, Try.ntmps21
    go_wp2_with (first | (go_at_call 54; refine (isRecurrentSand_any _ _ _ _ _ h).mono ?_; rintro e w1 ⟨rfl, hb1⟩; rw [HC.out]) | (go_at_call 57; refine (fired_any _ _ _ _ _ (h.below hb1 (Nat.le_refl _)) hs.out).mono ?_; rintro e w' ⟨a1, c1, b2, m2, d2, rfl, own1, own2, hb2⟩))
    go_ret2
    exact postInts HR.out (own2.mono hb1.size) (hb1.trans (hb2.mono hb1.size))
  · have HR : Hid (fireOf xs = ([], false)) := hid (by unfold fireOf; rw [if_neg hr])
    have HC := hid (Bool.eq_false_iff.2 hr)
    clear hr
    go_enter Try.func21, Try.ntmps21
    go_wp2_with (go_at_call 54; refine (isRecurrentSand_any _ _ _ _ _ h).mono ?_; rintro e w1 ⟨rfl, hb1⟩; rw [HC.out])
    go_ret2
    exact postInts_no HR.out hb1
end Go.Proofs.Ytclpbccmgfclcaa
