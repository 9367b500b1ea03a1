/- The model's words of trees, by their contracts. -/
import Derived.Test.YtochmifhhigfhabSpecTv
import Derived.Test.YtochmifhhigfhabMathUn
import Derived.Deep.AppendLies
namespace Go.Proofs.Ytochmifhhigfhab
open Go.RowKit

/-- Two slices lie in different blocks. -/
def Apart (a b : Option Addr) : Prop := ∀ p q : Addr, a = some p → b = some q → p.block ≠ q.block
theorem Apart.symm {a b : Option Addr} (h : Apart a b) : Apart b a := fun p q hp hq e => h q p hq hp e.symm
theorem Apart.noneL (b : Option Addr) : Apart none b := fun _ _ h => by cases h
theorem Apart.noneR (a : Option Addr) : Apart a none := fun _ _ _ h => by cases h

/-- 'append(out, y)' of one number to a slice of the call's own, beside another one. -/
theorem wpList_append_two {ops : Array Oper} {rest : List Oper} {o : Oper} {a : Act} {Q : Exit → Act → World → Prop} (w : World) (hgd : o.guard = none) (s x : Operand)
    (ho : o.op = .call { callee := .builtin .append, args := #[s, x], argTypes := #[22, 22] })
    (B : Nat) (a0 : Option Addr) (n cap : Nat) (xs : List Int) (y : Int) (hs : a.eval s = .slice a0 n cap) (hx : a.eval x = .slice (some ⟨w.heap.size, 0, none⟩) 1 1)
    (hown : Own w B a0 n cap xs) (hl : n + 1 ≤ 1048576) (hB : B ≤ w.heap.size) (B2 : Nat) (a2 : Option Addr) (n2 cap2 : Nat) (ys : List Int) (h2 : Own w B2 a2 n2 cap2 ys) (hap : Apart a0 a2)
    (h : ∀ a' cap' w', Own w' B a' (n + 1) cap' (xs ++ [y]) → Own w' B2 a2 n2 cap2 ys → Apart a' a2 → Below B w w' → wpList Try.prog ops Q rest (a.put o.dst (.slice a' (n + 1) cap')) w') :
    wpList Try.prog ops Q (o :: rest) a (w.alloc (.cells #[.int .i64 y] 3)) := by
  obtain ⟨i0, hi, hz0, hz1, hz2⟩ := info_parts Try.infoInt
  have hlen := hown.len
  have hba : Below w.heap.size w (w.alloc (.cells #[.int .i64 y] 3)) := (Below.refl _ _).alloc (Nat.le_refl _) _
  refine wpList_append_lies (P := Try.prog) _ hgd s x 22 ho B 3 i0 (.int .i64 0) 1 8 Try.underlying22 hi hz0 hz1 hz2 rfl (by decide) _ n (xs.map (Value.int .i64)) hs (hown.1.alloc _) ⟨w.heap.size, 0, none⟩ 1 1 [.int .i64 y] hx rfl (one_cell w y) (by intro u hu; simp at hu; subst hu; rfl) (by decide) (by unfold maxLen; omega) (by omega) (by simp; omega) _ rfl ?_
  intro g cap' w' hown' hgrow hg hlt
  have hb : Below B w w' := ((Below.refl B w).alloc hB _).grown hgrow (by simp; omega) (fun k hk => (hown.1.lt k hk).1)
  have h2a := h2.below hba (Nat.le_refl _)
  have hk2 : Own w' B2 a2 n2 cap2 ys := by
    cases a0 with
    | none =>
      exact ⟨h2a.1.kept hgrow ((Classical.em _).elim .inl fun h => .inr h), h2.2⟩
    | some p =>
      refine Own.kept (g := p.block) h2a (by simpa [Value.ownBlock] using hgrow) (.inr fun q hq e => hap p q rfl hq e.symm)
  obtain ⟨a', cap'', hv, ho'⟩ := own_of_row (xs := xs ++ [y]) hown' (by simp [hlen]) (by simp) (by simp; omega)
  cases hv
  refine h _ _ _ ho' hk2 (fun p q hp hq => ?_) hb
  cases hp
  rcases hg with hg | hg
  · cases a0 with
    | none => simp [Value.ownBlock] at hg
    | some p0 =>
      simp [Value.ownBlock] at hg
      have := hap p0 q rfl hq
      rw [hg] at this
      exact this
  · have hq2 : q.block < w.heap.size := by subst hq; exact (h2.1.lt q.block rfl).2
    simp at hg
    show g ≠ q.block
    omega

def pruB (xs : List Int) : List Int × Bool := if treeB xs && decide (0 < xs.length) then (pruOf xs, true) else ([], false)

set_option maxRecDepth 10000 in
set_option maxHeartbeats 4000000 in
theorem trPrufer_any (a : Option Addr) (n cap : Nat) (xs : List Int) (w : World) (h : Has w a n cap xs) (ht : Tree xs n) (hn : 1 ≤ n) :
    Calls Try.prog 66 #[.slice a n cap] w fun e w' => ∃ a' m cap', e = .returned (.slice a' m cap') ∧ Own w' w.heap.size a' m cap' (pruOf xs) ∧ Below w.heap.size w w' := by
  have HT := hid ht
  have h8 := ht.le
  have HL := hid h.len
  clear ht
  go_enter Try.func66, Try.ntmps66
  go_wp2_with fail
  go_loopg [3, 4] (n - 1) (fun q wd gn wr => ∃ (k : Nat) (a1 : Option Addr) (c1 : Nat) (a2 : Option Addr) (c2 : Nat), k + q = n - 1 ∧ wd = .slice a1 k c1 ∧ gn = .slice a2 k c2 ∧ Own wr w.heap.size a1 k c1 (pruW xs k) ∧ Own wr w.heap.size a2 k c2 (pruG xs k) ∧ Apart a1 a2 ∧ Below w.heap.size w wr)
  case atStart => exact ⟨0, none, 0, none, 0, by omega, rfl, rfl, Own.nil _ _, Own.nil _ _, Apart.noneL _, Below.refl _ _⟩
  case round =>
    obtain ⟨k, a1, c1, a2, c2, hkq, rfl, rfl, hown1, hown2, hap, hb⟩ := hrel
    cases gk with
    | zero =>
      have HF : Hid (pruW xs k = pruOf xs) := hid (by unfold pruOf; rw [HL.out, show n - 1 = k by omega])
      have hkk : ¬ (k : Int) < (n : Int) - 1 := by omega
      go_wp2_with fail
      go_ret
      exact ⟨_, _, _, rfl, by rw [← HF.out]; exact hown1, hb⟩
    | succ q =>
      have HG := hid (pruG_gone HT.out k (by omega))
      obtain ⟨x, x1, x2, x3, x4, x5, x6⟩ := gone_step HT.out HG.out (by omega)
      have X3 := hid x3
      have X5 := hid x5
      have HW : Hid (pruW xs (k + 1) = pruW xs k ++ [par xs x]) := hid (by rw [pruW_succ, HL.out, x4])
      have HG1 : Hid (pruG xs (k + 1) = pruG xs k ++ [(x : Int)]) := hid (by simp only [pruG]; rw [HL.out, x4])
      have hkk : (k : Int) < (n : Int) - 1 := by omega
      clear x3 x4 x5 x6
      go_wp2_with fail
      go_loopg [3, 4, 5] (n + 1) (fun q2 wd gn nd wr => ∃ (j : Nat), j + 1 = q2 ∧ wd = .slice a1 k c1 ∧ gn = .slice a2 k c2 ∧ nd = .int .i64 j ∧ x ≤ j ∧ j ≤ n ∧ Own wr w.heap.size a1 k c1 (pruW xs k) ∧ Own wr w.heap.size a2 k c2 (pruG xs k) ∧ Below w.heap.size w wr)
      case atStart => exact ⟨n, rfl, rfl, rfl, rfl, x2, Nat.le_refl _, hown1, hown2, hb⟩
      case round =>
        clear hown1 hown2 hb
        obtain ⟨j, hjq, rfl, rfl, rfl, hxj, hjn, hown1, hown2, hb⟩ := hrel
        have hj0 : (0 : Int) < (j : Int) := by omega
        have hbn := h.below hb (Nat.le_refl _)
        have hsz := hb.size
        go_wp2_with fail
        refine (trNear_any _ _ _ _ j _ _ rfl hbn hjn h8).mono ?_
        rintro e w2 ⟨a3, m3, c3, rfl, hown3, hb3⟩
        have hm3 : m3 ≤ 1000 := by
          have := length_nearTo xs (j : Int) xs.length
          have h2 := hown3.len
          unfold nearP at h2
          rw [HL.out] at this h2
          omega
        have hg2 := hown2.below hb3 (Nat.le_refl _)
        go_wp2_with fail
        refine (trLeft_any _ _ _ _ _ _ _ _ _ hown3.has hg2.has hm3).mono ?_
        rintro e w3 ⟨a4, m4, c4, rfl, hown4, hb4⟩
        have hg3 := hg2.below hb4 (Nat.le_refl _)
        have hw3 := (hown1.below hb3 (Nat.le_refl _)).below hb4 (Nat.le_refl _)
        have hbb := hb.trans ((hb3.trans (hb4.mono hb3.size)).mono hsz)
        have HIFF := hid (leftP HT.out HG.out (v := j) (by omega) hjn)
        have hle := hown4.le
        by_cases hjx : j = x
        · have HL4 : Hid (leftL (nearP xs j) (pruG xs k) = [par xs x]) := hid (by rw [hjx]; exact leftP_one HT.out HG.out x1 x2 X3.out)
          have HHF : Hid (hasB (pruG xs k) j = false) := hid (HIFF.out.2 (by rw [hjx]; exact X3.out)).1
          rw [HL4.out] at hown4
          have hm4 : m4 = 1 := hown4.len.symm
          subst hm4
          obtain ⟨g, rfl, hh1, hh2, hh3, hh4⟩ := hown4.opened (by omega)
          have hh0 := hh3 0 (by omega)
          have e0 : nth [par xs x] 0 = par xs x := rfl
          rw [e0] at hh0
          have hkb : k ≤ 8 := by omega
          have hsz3 := hbb.size
          clear hh3 hh4 e0 hown3 hb3 hg2 hown1 hown2
          rw [hjx]
          rw [hjx] at HHF
          go_wp2_with (first | (go_at_call 82; refine (l1Has_any _ _ _ _ _ _ hg3.has).mono ?_; rintro e w' ⟨rfl, rfl⟩; rw [HHF.out]) | (at_builtin; refine wpList_append_two _ rfl _ _ rfl w.heap.size _ _ _ _ _ rfl rfl hw3 (by omega) hsz3 w.heap.size _ _ _ _ hg3 hap ?_; intro a5 c5 w5 hown5 hg5 hap5 hb5; have hsz5 := (hbb.trans hb5).size; clear hw3 hg3) | (at_builtin; refine wpList_append_two _ rfl _ _ rfl w.heap.size _ _ _ _ _ rfl rfl hg5 (by omega) hsz5 w.heap.size _ _ _ _ hown5 hap5.symm ?_; intro a6 c6 w6 hown6 hw6 hap6 hb6))
          go_roundg q
          case rel => exact ⟨k + 1, a5, c5, a6, c6, by omega, rfl, rfl, by rw [HW.out]; exact hw6, by rw [HG1.out]; exact hown6, hap6.symm, (hbb.trans hb5).trans hb6⟩
          case measure => omega
        · have HNL : Hid (lf xs (pruG xs k) j = false) := hid (X5.out j (by omega) hjn)
          by_cases hh : hasB (pruG xs k) j = true
          · have HH := hid hh
            clear hh
            go_wp2_with (go_at_call 82; refine (l1Has_any _ _ _ _ _ _ hg3.has).mono ?_; rintro e w' ⟨rfl, rfl⟩; rw [HH.out])
            go_roundg (gk - 1)
            case rel => exact ⟨j - 1, by omega, rfl, rfl, by go_num, by omega, by omega, hw3, hg3, hbb⟩
            case measure => omega
          · have HH := hid (Bool.eq_false_iff.2 hh)
            have hm41 : ¬ m4 = 1 := fun e => by
              have := HIFF.out.1 ⟨HH.out, by rw [hown4.len]; exact e⟩
              rw [HNL.out] at this
              cases this
            have hbe : ((m4 : Int) == 1) = false := by simp; omega
            clear hh
            go_wp2_with (go_at_call 82; refine (l1Has_any _ _ _ _ _ _ hg3.has).mono ?_; rintro e w' ⟨rfl, rfl⟩; rw [HH.out])
            go_roundg (gk - 1)
            case rel => exact ⟨j - 1, by omega, rfl, rfl, by go_num, by omega, by omega, hw3, hg3, hbb⟩
            case measure => omega
      
theorem pruB_yes {xs : List Int} (h : treeB xs = true) (hn : 0 < xs.length) : pruB xs = (pruOf xs, true) := by simp [pruB, h, hn]
theorem pruB_no {xs : List Int} (h : treeB xs = false ∨ xs.length = 0) : pruB xs = ([], false) := by
  unfold pruB
  rcases h with h | h <;> simp [h]

set_option maxHeartbeats 400000 in
theorem specPrufer_any (a : Option Addr) (n cap : Nat) (xs : List Int) (w : World) (h : Has w a n cap xs) :
    Calls Try.prog 30 #[.slice a n cap] w (PostInts w (pruB xs)) := by
  have HL := hid h.len
  by_cases hg : treeB xs = true
  · have HT := hid (tree_of hg h.len)
    by_cases hn : n = 0
    · have HR : Hid (pruB xs = ([], false)) := hid (pruB_no (.inr (by rw [HL.out]; exact hn)))
      have HG := hid hg
      clear hg
      have hbe : ((n : Int) == 0) = true := by simp [hn]
      have HN := hid hn
      clear hn
      go_enter Try.func30, Try.ntmps30
      go_wp2_with (go_at_call 50; refine (trGood_any _ _ _ _ _ h).mono ?_; rintro e w' ⟨rfl, rfl⟩; rw [HG.out])
      go_ret2
      exact postInts_no HR.out (Below.refl _ _)
    · have HR : Hid (pruB xs = (pruOf xs, true)) := hid (pruB_yes hg (by rw [HL.out]; omega))
      have HG := hid hg
      clear hg
      have hbe : ((n : Int) == 0) = false := by simp; omega
      go_enter Try.func30, Try.ntmps30
      go_wp2_with (go_at_call 50; refine (trGood_any _ _ _ _ _ h).mono ?_; rintro e w' ⟨rfl, rfl⟩; rw [HG.out])
      refine (trPrufer_any _ _ _ _ _ h HT.out (by omega)).mono ?_
      rintro e w1 ⟨a1, m1, cap1, rfl, hown1, hb1⟩
      go_wp2_with fail
      go_ret2
      exact postInts HR.out hown1 hb1
  · have HR : Hid (pruB xs = ([], false)) := hid (pruB_no (.inl (Bool.eq_false_iff.2 hg)))
    have HG := hid (Bool.eq_false_iff.2 hg)
    clear hg
    go_enter Try.func30, Try.ntmps30
    go_wp2_with (go_at_call 50; refine (trGood_any _ _ _ _ _ h).mono ?_; rintro e w' ⟨rfl, rfl⟩; rw [HG.out])
    go_ret2
    exact postInts_no HR.out (Below.refl _ _)
end Go.Proofs.Ytochmifhhigfhab
