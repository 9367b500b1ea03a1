/- The spread of walks: the program's side. -/
import Derived.Test.YtakadjhbomggbaaLawKit
import Derived.Deep.AppendLies
import Derived.Test.YtakadjhbomggbaaSpecTv
import Derived.Test.YtakadjhbomggbaaMathUn
import Derived.Test.YtakadjhbomggbaaWkH
import Derived.Test.YtakadjhbomggbaaMathSprG
import Derived.Test.YtakadjhbomggbaaSpecB
import Derived.Test.YtakadjhbomggbaaImplC
import Derived.Deep.DeepCutAuto
import Derived.Test.YtakadjhbomggbaaImplWk
import Derived.Test.YtakadjhbomggbaaSpecC
import Derived.Test.YtakadjhbomggbaaSpecD
import Derived.StillTailTactics
import Derived.Test.YtakadjhbomggbaaSrt
import Derived.Test.YtakadjhbomggbaaBase
import Derived.Laws.CopyOwn
import Derived.Test.YtakadjhbomggbaaSpecS
import Derived.BigQuiet
import Derived.IntWalk
import Derived.Test.YtakadjhbomggbaaMathX
import Derived.Test.YtakadjhbomggbaaJsp
namespace Go.Proofs.Ytakadjhbomggbaa
open Go.RowKit

/-- Two slices lie in different blocks. -/
def Apart (a b : Option Addr) : Prop := ∀ p q : Addr, a = some p → b = some q → p.block ≠ q.block
theorem Apart.symm {a b : Option Addr} (h : Apart a b) : Apart b a := fun p q hp hq e => h q p hq hp e.symm
theorem Apart.noneL (b : Option Addr) : Apart none b := fun _ _ h => by cases h
theorem Apart.noneR (a : Option Addr) : Apart a none := fun _ _ _ h => by cases h

/-- 'append(out, y)' of one number to a slice of the call's own, beside another one. -/
theorem wpList_append_two {ops : Array Oper} {rest : List Oper} {o : Oper} {a : Act} {Q : Exit → Act → World → Prop} (w : World) (hgd : o.guard = none) (s x : Operand)
    (ho : o.op = .call { callee := .builtin .append, args := #[s, x], argTypes := #[24, 24] })
    (B : Nat) (a0 : Option Addr) (n cap : Nat) (xs : List Int) (y : Int) (hs : a.eval s = .slice a0 n cap) (hx : a.eval x = .slice (some ⟨w.heap.size, 0, none⟩) 1 1)
    (hown : Own w B a0 n cap xs) (hl : n + 1 ≤ 2097152) (hB : B ≤ w.heap.size) (B2 : Nat) (a2 : Option Addr) (n2 cap2 : Nat) (ys : List Int) (h2 : Own w B2 a2 n2 cap2 ys) (hap : Apart a0 a2)
    (h : ∀ a' cap' w', Own w' B a' (n + 1) cap' (xs ++ [y]) → Own w' B2 a2 n2 cap2 ys → Apart a' a2 → Below B w w' → wpList Try.prog ops Q rest (a.put o.dst (.slice a' (n + 1) cap')) w') :
    wpList Try.prog ops Q (o :: rest) a (w.alloc (.cells #[.int .i64 y] 3)) := by
  obtain ⟨i0, hi, hz0, hz1, hz2⟩ := info_parts Try.infoInt
  have hlen := hown.len
  have hba : Below w.heap.size w (w.alloc (.cells #[.int .i64 y] 3)) := (Below.refl _ _).alloc (Nat.le_refl _) _
  refine wpList_append_lies (P := Try.prog) _ hgd s x 24 ho B 3 i0 (.int .i64 0) 1 8 Try.underlying24 hi hz0 hz1 hz2 rfl (by decide) _ n (xs.map (Value.int .i64)) hs (hown.1.alloc _) ⟨w.heap.size, 0, none⟩ 1 1 [.int .i64 y] hx rfl (one_cell w y) (by intro u hu; simp at hu; subst hu; rfl) (by decide) (by unfold maxLen; omega) (by omega) (by simp; omega) _ rfl ?_
  intro g cap' w' hown' hgrow hg hlt
  have hb : Below B w w' := ((Below.refl B w).alloc hB _).grown hgrow (by simp; omega) (fun k hk => (hown.1.lt k hk).1)
  have h2a := h2.below hba (Nat.le_refl _)
  have hk2 : Own w' B2 a2 n2 cap2 ys := by
    cases a0 with
    | none =>
      exact ⟨h2a.1.kept hgrow ((Classical.em _).elim .inl fun h => .inr h), h2.2⟩
    | some p =>
      refine Own.kept (g := p.block) h2a (by simpa [Value.ownBlock] using hgrow) (.inr fun q hq e => hap p q rfl hq e.symm)
  obtain ⟨a', cap'', hv, ho'⟩ := own_of_row (xs := xs ++ [y]) hown' (by simp [hlen]) (by simp) (by simp; omega)
  cases hv
  refine h _ _ _ ho' hk2 (fun p q hp hq => ?_) hb
  cases hp
  rcases hg with hg | hg
  · cases a0 with
    | none => simp [Value.ownBlock] at hg
    | some p0 =>
      simp [Value.ownBlock] at hg
      have := hap p0 q rfl hq
      rw [hg] at this
      exact this
  · have hq2 : q.block < w.heap.size := by subst hq; exact (h2.1.lt q.block rfl).2
    simp at hg
    show g ≠ q.block
    omega
theorem apart_of {a b : Option Addr} {K : Nat} (h : BlkLt a K) (h' : BlkGe b K) : Apart a b := fun p q hp hq e => by
  have := h p hp
  have := h' q hq
  omega

end Go.Proofs.Ytakadjhbomggbaa

namespace Go.Proofs.Ytakadjhbomggbaa
open Go.RowKit

def pruB (xs : List Int) : List Int × Bool := if treeB xs && decide (0 < xs.length) then (pruOf xs, true) else ([], false)

theorem pruB_yes {xs : List Int} (h : treeB xs = true) (hn : 0 < xs.length) : pruB xs = (pruOf xs, true) := by simp [pruB, h, hn]
theorem pruB_no {xs : List Int} (h : treeB xs = false ∨ xs.length = 0) : pruB xs = ([], false) := by
  unfold pruB
  rcases h with h | h <;> simp [h]

end Go.Proofs.Ytakadjhbomggbaa

namespace Go.Proofs.Ytakadjhbomggbaa
open Go.RowKit

theorem park_facts {xs : List Int} {n : Nat} (h : isPark xs = true) (hl : xs.length = n) : n ≤ 8 ∧ ∀ c, c < n → 0 ≤ nth xs c ∧ nth xs c < (n : Int) := by
  subst hl
  obtain ⟨h1, h2, _⟩ := isPark_iff.1 h
  exact ⟨h1, fun c hc => by have := h2 _ (nth_mem hc); omega⟩
theorem carsL_nth {xs : List Int} {n : Nat} (hl : xs.length = n) (h8 : n ≤ 8) (hb : ∀ c, c < n → 0 ≤ nth xs c ∧ nth xs c < (n : Int)) {k : Nat} (hk : k < n) : ∃ c : Nat, nth (carsL xs) k = (c : Int) ∧ c < n := by
  have hp := carsL_perm hl (by omega) hb
  have hm : nth (carsL xs) k ∈ carsL xs := nth_mem (by rw [length_carsL hl (by omega) hb]; exact hk)
  have := hp.subset hm
  unfold upto at this
  obtain ⟨c, hc, e⟩ := List.mem_map.1 this
  exact ⟨c, e.symm, List.mem_range.1 hc⟩
def HgAt (xs ls ys : List Int) (k : Nat) : Prop := ∀ i, i < k → nth ys i = (i : Int) - nth xs (nth ls i).toNat
theorem hg_all {xs ls ys : List Int} {n : Nat} (h : HgAt xs ls ys n) (hl : ys.length = n) (hn : ls.length = n) : ys = hgtOf xs ls := ext_nth (by rw [length_hgtOf]; omega) fun i hi => by rw [h i (by omega), nth_hgtOf (by omega)]
theorem hg_step {xs ls ys : List Int} {k c n : Nat} (h : HgAt xs ls ys k) (hl : ys.length = n) (hk : k < n) (hc : nth ls k = (c : Int)) : HgAt xs ls (ys.set k ((k : Int) - nth xs c)) (k + 1) := fun i hi => by
  rw [nth_set (by omega)]
  split
  · subst_vars; rw [hc, Int.toNat_natCast]
  · exact h i (by omega)
theorem walk_of_none {xs : List Int} (h : xs.length = 0) : carsL xs = [] := by obtain rfl := List.eq_nil_of_length_eq_zero h; rfl

/-- The stable sort of the cars in order. -/
theorem sortCars_any (B n : Nat) (a al : Option Addr) (cap cl bx : Nat) (xs : List Int) (w : World) (h8 : n ≤ 8) (hl : xs.length = n) (hbd : ∀ c, c < n → 0 ≤ nth xs c ∧ nth xs c < (n : Int)) (hBw : B ≤ w.heap.size)
    (h : Own w B a n cap (upto n)) (hx : Has w al n cl xs) (hal : 0 < n → BlkLt al B) (hbx : w.cell? ⟨bx, 0, none⟩ = some (.slice al n cl)) (hbg : bx < B) :
    Calls Try.prog 95 #[.slice a n cap, .func (.func 96) #[] #[.pointer (some ⟨bx, 0, none⟩)]] w fun e w' =>
      e = .returned (.tuple #[]) ∧ Own w' B a n cap (carsL xs) ∧ Below B w w' := by
  by_cases hn : n = 0
  · subst hn
    refine (stableNone_any _ _ _ _).mono ?_
    rintro e w1 ⟨rfl, rfl⟩
    exact ⟨rfl, by rw [walk_of_none hl]; exact h, Below.refl _ _⟩
  · obtain ⟨m, rfl⟩ : ∃ m, n = m + 1 := ⟨n - 1, by omega⟩
    obtain ⟨g, rfl, hg1, hg2, _, _⟩ := h.opened (by omega)
    refine (stableCars_any B m g cap bx al cl xs w h8 hl (fun c hc => by have := hbd c hc; omega) h hx ((hal (by omega)).ne hg1) hbx (by omega)).mono ?_
    rintro e w1 ⟨rfl, ho, hgr⟩
    exact ⟨rfl, ho, below_grown hgr hBw (fun k hk => by simp at hk; omega)⟩

set_option maxHeartbeats 1000000 in
theorem carsBy_any (a : Option Addr) (n cap : Nat) (xs : List Int) (w : World) (h : Has w a n cap xs) (h8 : n ≤ 8) (hbd : ∀ c, c < n → 0 ≤ nth xs c ∧ nth xs c < (n : Int)) :
    Calls Try.prog 54 #[.slice a n cap] w fun e w' => ∃ a2 c2, e = .returned (.slice a2 n c2) ∧ Own w' w.heap.size a2 n c2 (carsL xs) ∧ Below w.heap.size w w' := by
  have HL := hid h.len
  have HBD := hid hbd
  have hle := h.le
  clear hbd
  go_enter Try.func54, Try.ntmps54
  go_wp2_with fail
  generalize hW : w.alloc (.cells #[.slice a n cap] 24) = W
  have hbW : Below w.heap.size w W := by rw [← hW]; exact (Below.refl _ w).alloc (Nat.le_refl _) _
  have hsz : W.heap.size = w.heap.size + 1 := by rw [← hW]; simp
  have hbx : W.cell? ⟨w.heap.size, 0, none⟩ = some (.slice a n cap) := by rw [← hW, World.cell?_alloc_at _ _ _ _ rfl]; rfl
  clear hW
  refine (indicesOf_any n _ (by omega)).mono ?_
  rintro e w2 ⟨a2, c2, rfl, own2, st⟩
  have hs2 := st.size
  replace hbx : w2.cell? ⟨w.heap.size, 0, none⟩ = some (.slice a n cap) := by rw [st.cell (p := ⟨w.heap.size, 0, none⟩) (by simp; omega)]; exact hbx
  have hb2 := hbW.trans (st.mono hbW.size)
  clear st hbW
  go_wp2_with fail
  refine (sortCars_any W.heap.size n a2 a c2 cap w.heap.size xs w2 h8 HL.out HBD.out hs2 own2 (h.below hb2 (Nat.le_refl _)) (fun hn => (h.lt hn).mono (by omega)) hbx (by omega)).mono ?_
  rintro e w3 ⟨rfl, own3, st⟩
  have hb3 := hb2.trans (st.mono (by omega))
  clear st hb2 own2
  go_wp2_with fail
  go_ret
  exact ⟨_, _, rfl, own3.mono (by omega), hb3⟩
set_option maxHeartbeats 2000000 in
theorem implWalkOf_any (a : Option Addr) (n cap : Nat) (xs : List Int) (w : World) (h : Has w a n cap xs) :
    Calls Try.prog 10 #[.slice a n cap] w (PostWalk w (walkOf xs)) := by
  have HL := hid h.len
  have hle := h.le
  go_enter Try.func10, Try.ntmps10
  go_wp2_with fail
  generalize hW : w.alloc (.cells #[.slice none 0 0, .slice none 0 0] 27) = W
  have hbW : Below w.heap.size w W := by rw [← hW]; exact (Below.refl _ w).alloc (Nat.le_refl _) _
  have hsz : W.heap.size = w.heap.size + 1 := by rw [← hW]; simp
  have BR : BoxAt W w.heap.size (.slice none 0 0) (.slice none 0 0) := by rw [← hW]; exact boxAt_new _ _ _ _
  clear hW
  refine (isParkingFunction_any _ _ _ _ _ (h.below hbW (Nat.le_refl _))).mono ?_
  rintro e w1 ⟨rfl, st⟩
  have hs1 := st.size
  replace BR := BR.below st (by omega)
  have hb1 := hbW.trans (st.mono hbW.size)
  clear st hbW
  by_cases hp : isPark xs = true
  · rw [hp]
    have HR : Hid (walkOf xs = ((hgtOf xs (carsL xs), carsL xs), true)) := hid (by unfold walkOf; rw [if_pos hp])
    obtain ⟨h8, hbd⟩ := park_facts hp h.len
    have HBD := hid hbd
    have HN : Hid (∀ k, k < n → ∃ c : Nat, nth (carsL xs) k = (c : Int) ∧ c < n) := hid (fun k hk => carsL_nth HL.out h8 hbd hk)
    have HCL := hid (length_carsL HL.out (by omega) hbd)
    clear hp hbd
    go_wp2_with fail
    refine (carsBy_any _ _ _ _ _ (h.below hb1 (Nat.le_refl _)) h8 HBD.out).mono ?_
    rintro e w3 ⟨a2, c2, rfl, own3, st⟩
    have hs3 := st.size
    replace BR := BR.below st (by omega)
    have hb3 := hb1.trans (st.mono hb1.size)
    clear st hb1
    go_wp2_with (at_make; refine wpList_make_ints _ rfl _ _ rfl n rfl rfl (by omega) ?_; intro a4 c4 w4 own4 st4)
    have lt3 := own3.lt
    replace BR := BR.below st4 (by omega)
    replace own3 := own3.below st4 (Nat.le_refl _)
    have hb4 := hb3.trans (st4.mono hb3.size)
    clear st4 hb3
    go_loopw [19] (fun i wr => ∃ (k : Nat) (ys : List Int), k ≤ n ∧ i = .int .i64 k ∧ Own wr w3.heap.size a4 n c4 ys ∧ Hid (HgAt xs (carsL xs) ys k) ∧ Own wr w1.heap.size a2 n c2 (carsL xs) ∧ BoxAt wr w.heap.size (.slice none 0 0) (.slice none 0 0) ∧ Below w.heap.size w wr) (fun i _ => n - (intOf i).toNat)
    case atStart => exact ⟨0, _, Nat.zero_le _, rfl, own4, hid (fun i hi => by omega), own3, BR, hb4⟩
    case round =>
      obtain ⟨k, ys, hk, rfl, oh, HH, oc, BR, hb⟩ := hrel
      clear own3 own4 hb4
      by_cases hlt : k < n
      · obtain ⟨b1, off1, rfl, hbb1, hc1⟩ := h.2.2.2.2 (by omega)
        obtain ⟨c, hcv, hcn⟩ := HN.out k hlt
        have hxc := HBD.out c hcn
        have hck : wr.cell? ⟨b1, off1 + c, none⟩ = some (.int .i64 (nth xs c)) := by rw [hb.cell (p := ⟨b1, off1 + c, none⟩) hbb1]; exact hc1 c hcn
        obtain ⟨q, rfl, hq1, hq2, hq3, hq4⟩ := oc.opened (by omega)
        have hqk := hq3 k hlt
        rw [hcv] at hqk
        obtain ⟨g, rfl, hg1, hg2, hg3, hg4⟩ := oh.opened (by omega)
        have hqg := lt3 _ rfl
        have hgx := hg3 k hlt
        have hgf := hg4 k
        have HH2 := hid (hg_step HH.out oh.len hlt hcv)
        obtain ⟨s1, s2⟩ := oh.set k ((k : Int) - nth xs c)
        have oc2 := oc.setNe (g := g) (i := k) (lt3.ne hg1) (.int .i64 ((k : Int) - nth xs c))
        have BR2 := BR.apart (g' := g) (i := k) (z := .int .i64 ((k : Int) - nth xs c)) (by omega)
        have hb5 := hb.setCell (p := ⟨g, k, none⟩) (by simp; omega) (.int .i64 ((k : Int) - nth xs c))
        have z1 : (c : Int) < (n : Int) := by omega
        clear hc1 hq3 hq4 hg3 hg4
        go_wp2_with fail
        go_roundw
        case rel => exact ⟨k + 1, _, by omega, by go_num, s1, HH2, oc2, BR2, hb5⟩
        case measure => simp [intOf]; omega
      · obtain rfl : k = n := by omega
        have HE := hid (hg_all HH.out oh.len HCL.out)
        have ap := (apart_lt lt3 oh.ge).symm
        rw [HE.out] at oh
        have f1 := ((oh.mono (show w.heap.size ≤ w3.heap.size by omega)).setNe (g := w.heap.size) (i := 0) (oh.ge.ne (by omega)) (.slice a4 k c4)).setNe (g := w.heap.size) (i := 1) (oh.ge.ne (by omega)) (.slice a2 k c2)
        have f2 := ((oc.mono (show w.heap.size ≤ w1.heap.size by omega)).setNe (g := w.heap.size) (i := 0) (oc.ge.ne (by omega)) (.slice a4 k c4)).setNe (g := w.heap.size) (i := 1) (oc.ge.ne (by omega)) (.slice a2 k c2)
        have B2f := (BR.set0 (z := .slice a4 k c4)).set1 (z := .slice a2 k c2)
        have hb5 := (hb.setCell (p := ⟨w.heap.size, 0, none⟩) (by simp) (.slice a4 k c4)).setCell (p := ⟨w.heap.size, 1, none⟩) (by simp) (.slice a2 k c2)
        obtain ⟨t1, t2, t3, t4⟩ := id BR
        go_wp2_with fail
        obtain ⟨y1, y2, y3, y4⟩ := id B2f
        refine bodyPost_ret (v := .tuple #[.agg #[.slice a4 k c4, .slice a2 k c2], .bool true]) (by simp [results, Try.results10, go_sem, *]) rfl (postWalk HR.out f1 f2 ap hb5)
  · rw [Bool.eq_false_iff.2 hp]
    have HR : Hid (walkOf xs = (([], []), false)) := hid (by unfold walkOf; rw [if_neg hp])
    have B2 := (BR.set0 (z := .slice none 0 0)).set1 (z := .slice none 0 0)
    obtain ⟨x1, x2, x3, x4⟩ := id BR
    go_wp2_with fail
    obtain ⟨y1, y2, y3, y4⟩ := id B2
    refine bodyPost_ret (v := .tuple #[.agg #[.slice none 0 0, .slice none 0 0], .bool false]) (by simp [results, Try.results10, go_sem, *]) rfl (postWalk_no HR.out ((hb1.setCell (by simp) _).setCell (by simp) _))

/-- The cars with a favourite less than x, and those of the first c with the favourite x. -/
def lx (xs : List Int) (x c : Nat) : List Int := carsTo xs x ++ idxs (fun i => decide (nth xs i = (x : Int))) c
theorem lx_zero (xs : List Int) (x : Nat) : lx xs x 0 = carsTo xs x := by simp [lx, idxs]
theorem lx_full {xs : List Int} {n x : Nat} (hl : xs.length = n) : lx xs x n = carsTo xs (x + 1) := by subst hl; rfl
theorem lx_yes {xs : List Int} {x c : Nat} (h : nth xs c = (x : Int)) : lx xs x (c + 1) = lx xs x c ++ [(c : Int)] := by unfold lx; rw [idxs_succ, if_pos (by simp [h]), List.append_assoc]
theorem lx_no {xs : List Int} {x c : Nat} (h : ¬ nth xs c = (x : Int)) : lx xs x (c + 1) = lx xs x c := by unfold lx; rw [idxs_succ, if_neg (by simp [h]), List.append_nil]
theorem hgtOf_snoc (xs ls : List Int) (c : Nat) : hgtOf xs (ls ++ [(c : Int)]) = hgtOf xs ls ++ [(ls.length : Int) - nth xs c] := by
  refine ext_nth (by simp [length_hgtOf]) fun i hi => ?_
  rw [length_hgtOf, List.length_append, List.length_singleton] at hi
  rw [nth_hgtOf (by simp; omega)]
  by_cases e : i < ls.length
  · rw [nth_append_left e, nth_append_left (by rw [length_hgtOf]; exact e), nth_hgtOf e]
  · obtain rfl : i = ls.length := by omega
    rw [nth_append_at, Int.toNat_natCast]
    have : nth (hgtOf xs ls ++ [(ls.length : Int) - nth xs c]) (hgtOf xs ls).length = (ls.length : Int) - nth xs c := nth_append_at
    rw [length_hgtOf] at this
    exact this.symm

set_option maxRecDepth 100000 in
set_option maxHeartbeats 4000000 in
theorem waOf_any (a : Option Addr) (n cap : Nat) (xs : List Int) (w : World) (h : Has w a n cap xs) (h8 : n ≤ 8) :
    Calls Try.prog 56 #[.slice a n cap] w fun e w' => ∃ ah q ch al cl, e = .returned (.agg #[.slice ah q ch, .slice al q cl]) ∧ Own w' w.heap.size ah q ch (hgtOf xs (carsL xs)) ∧ Own w' w.heap.size al q cl (carsL xs) ∧ Apart2 ah al ∧ Below w.heap.size w w' := by
  have HL := hid h.len
  go_enter Try.func56, Try.ntmps56
  go_wp2_with fail
  generalize hW : (w.alloc (.cells #[.slice none 0 0, .slice none 0 0] 27)).alloc (.cells #[.slice none 0 0, .slice none 0 0] 27) = W
  have hbW : Below w.heap.size w W := by rw [← hW]; exact ((Below.refl _ w).alloc (Nat.le_refl _) _).alloc (by simp) _
  have hsz : W.heap.size = w.heap.size + 2 := by rw [← hW]; simp
  have BR : BoxAt W w.heap.size (.slice none 0 0) (.slice none 0 0) := by rw [← hW]; exact (boxAt_new _ _ _ _).alloc _
  have BX : BoxAt W (w.heap.size + 1) (.slice none 0 0) (.slice none 0 0) := by rw [← hW]; have := boxAt_new (w.alloc (.cells #[.slice none 0 0, .slice none 0 0] 27)) (.slice none 0 0) (.slice none 0 0) 27; simpa using this
  clear hW
  go_loopw [10] (fun i wr => ∃ (x q : Nat) (ah al : Option Addr) (ch cl : Nat), x ≤ n ∧ q ≤ 8 * x ∧ i = .int .i64 x ∧ Own wr (w.heap.size + 2) ah q ch (hgtOf xs (carsTo xs x)) ∧ Own wr (w.heap.size + 2) al q cl (carsTo xs x) ∧ Apart ah al ∧ w.heap.size + 2 ≤ wr.heap.size ∧ BoxAt wr w.heap.size (.slice none 0 0) (.slice none 0 0) ∧ BoxAt wr (w.heap.size + 1) (.slice ah q ch) (.slice al q cl) ∧ Below w.heap.size w wr) (fun i _ => n - (intOf i).toNat)
  case atStart => exact ⟨0, 0, none, none, 0, 0, Nat.zero_le _, Nat.zero_le _, rfl, Own.nil _ _, Own.nil _ _, Apart.noneL _, by omega, BR, BX, hbW⟩
  case round =>
    obtain ⟨wo, rfl⟩ : ∃ wo : World, wo = wr := ⟨_, rfl⟩
    obtain ⟨x, q, ah, al, ch, cl, hx, hq, rfl, oh, ol, hap, hszr, hR, hX, hb⟩ := hrel
    clear BR BX hbW
    by_cases hlt : x < n
    · go_wp2_with fail
      go_loopw [15] (fun i wr => ∃ (c q : Nat) (ah al : Option Addr) (ch cl : Nat), c ≤ n ∧ q ≤ 8 * x + c ∧ i = .int .i64 c ∧ Own wr (w.heap.size + 2) ah q ch (hgtOf xs (lx xs x c)) ∧ Own wr (w.heap.size + 2) al q cl (lx xs x c) ∧ Apart ah al ∧ w.heap.size + 2 ≤ wr.heap.size ∧ BoxAt wr w.heap.size (.slice none 0 0) (.slice none 0 0) ∧ BoxAt wr (w.heap.size + 1) (.slice ah q ch) (.slice al q cl) ∧ Below w.heap.size w wr) (fun i _ => n - (intOf i).toNat)
      case atStart => exact ⟨0, q, ah, al, ch, cl, Nat.zero_le _, by omega, rfl, by rw [lx_zero]; exact oh, by rw [lx_zero]; exact ol, hap, hszr, hR, hX, hb⟩
      case round =>
        clear oh ol hap hR hX hb
        obtain ⟨c, q, ah, al, ch, cl, hc, hq, rfl, oh, ol, hap, hszr, hR, hX, hb⟩ := hrel
        by_cases hlc : c < n
        · obtain ⟨b1, off1, rfl, hbb1, hc1⟩ := h.2.2.2.2 (by omega)
          have hck : wr.cell? ⟨b1, off1 + c, none⟩ = some (.int .i64 (nth xs c)) := by rw [hb.cell (p := ⟨b1, off1 + c, none⟩) hbb1]; exact hc1 c hlc
          have z1 : (c : Int) < (n : Int) := by omega
          clear hc1
          by_cases he : nth xs c = (x : Int)
          · have hbe : ((x : Int) == nth xs c) = true := by simp [he]
            have HS := hid (lx_yes he)
            have HQ := hid ol.len
            have HH : Hid (hgtOf xs (lx xs x (c + 1)) = hgtOf xs (lx xs x c) ++ [(q : Int) - (x : Int)]) := hid (by rw [HS.out, hgtOf_snoc, HQ.out, he])
            obtain ⟨x1, x2, x3, x4⟩ := id hX
            clear he
            go_upto_region 10 with (at_builtin; refine wpList_append_two _ rfl _ _ rfl (w.heap.size + 2) _ _ _ _ _ rfl rfl oh (by omega) hszr (w.heap.size + 2) _ _ _ _ ol hap ?_; intro a5 c5 w5 oh5 ol5 hap5 st5; have X5 := hX.below st5 (by omega); obtain ⟨y1, y2, y3, y4⟩ := id X5)
            have X6 := X5.set0 (z := .slice a5 (q + 1) c5)
            have oh6 := oh5.setNe (g := w.heap.size + 1) (i := 0) (oh5.ge.ne (by omega)) (.slice a5 (q + 1) c5)
            have ol6 := ol5.setNe (g := w.heap.size + 1) (i := 0) (ol5.ge.ne (by omega)) (.slice a5 (q + 1) c5)
            have hR6 := (hR.below st5 (by omega)).apart (g' := w.heap.size + 1) (i := 0) (z := .slice a5 (q + 1) c5) (by omega)
            have hb6 := (hb.trans (st5.mono (by omega))).setCell (p := ⟨w.heap.size + 1, 0, none⟩) (by simp) (.slice a5 (q + 1) c5)
            have hsz6 : w.heap.size + 2 ≤ (w5.setCell ⟨w.heap.size + 1, 0, none⟩ (.slice a5 (q + 1) c5)).heap.size := by have := st5.size; simp; omega
            clear oh ol hX hR hb X5 oh5 ol5 st5 x1 x2 x3 x4 y1 y2 y3 y4
            generalize w5.setCell ⟨w.heap.size + 1, 0, none⟩ (.slice a5 (q + 1) c5) = V at *
            obtain ⟨x1, x2, x3, x4⟩ := id X6
            go_wp2_with (at_builtin; refine wpList_append_two _ rfl _ _ rfl (w.heap.size + 2) _ _ _ _ _ rfl rfl ol6 (by omega) hsz6 (w.heap.size + 2) _ _ _ _ oh6 hap5.symm ?_; intro a7 c7 w7 ol7 oh7 hap7 st7; have X7 := X6.below st7 (by omega); obtain ⟨y1, y2, y3, y4⟩ := id X7)
            have X8 := X7.set1 (z := .slice a7 (q + 1) c7)
            have oh8 := oh7.setNe (g := w.heap.size + 1) (i := 1) (oh7.ge.ne (by omega)) (.slice a7 (q + 1) c7)
            have ol8 := ol7.setNe (g := w.heap.size + 1) (i := 1) (ol7.ge.ne (by omega)) (.slice a7 (q + 1) c7)
            have hR8 := (hR6.below st7 (by omega)).apart (g' := w.heap.size + 1) (i := 1) (z := .slice a7 (q + 1) c7) (by omega)
            have hb8 := (hb6.trans (st7.mono (by omega))).setCell (p := ⟨w.heap.size + 1, 1, none⟩) (by simp) (.slice a7 (q + 1) c7)
            go_roundw
            case rel => exact ⟨c + 1, q + 1, a5, a7, c5, c7, by omega, by omega, by go_num, by rw [HH.out]; exact oh8, by rw [HS.out]; exact ol8, hap7.symm, by have := st7.size; simp; omega, hR8, X8, hb8⟩
            case measure => simp [intOf]; omega
          · have hbe : ((x : Int) == nth xs c) = false := by simp; exact fun e => he e.symm
            have HS := hid (lx_no he)
            clear he
            go_wp2_with fail
            go_roundw
            case rel => exact ⟨c + 1, q, ah, al, ch, cl, by omega, by omega, by go_num, by rw [HS.out]; exact oh, by rw [HS.out]; exact ol, hap, hszr, hR, hX, hb⟩
            case measure => simp [intOf]; omega
        · obtain rfl : c = n := by omega
          have HF := hid (lx_full (x := x) HL.out)
          go_wp2_with fail
          go_roundw
          case rel => exact ⟨x + 1, q, ah, al, ch, cl, by omega, by omega, by go_num, by rw [← HF.out]; exact oh, by rw [← HF.out]; exact ol, hap, hszr, hR, hX, hb⟩
          case measure => simp [intOf]; omega
    · obtain rfl : x = n := by omega
      have HC : Hid (carsL xs = carsTo xs x) := hid (by unfold carsL; rw [HL.out])
      have f1 := ((oh.mono (show w.heap.size ≤ w.heap.size + 2 by omega)).setNe (g := w.heap.size) (i := 0) (oh.ge.ne (by omega)) (.slice ah q ch)).setNe (g := w.heap.size) (i := 1) (oh.ge.ne (by omega)) (.slice al q cl)
      have f2 := ((ol.mono (show w.heap.size ≤ w.heap.size + 2 by omega)).setNe (g := w.heap.size) (i := 0) (ol.ge.ne (by omega)) (.slice ah q ch)).setNe (g := w.heap.size) (i := 1) (ol.ge.ne (by omega)) (.slice al q cl)
      have B2f := (hR.set0 (z := .slice ah q ch)).set1 (z := .slice al q cl)
      have hb5 := (hb.setCell (p := ⟨w.heap.size, 0, none⟩) (by simp) (.slice ah q ch)).setCell (p := ⟨w.heap.size, 1, none⟩) (by simp) (.slice al q cl)
      rw [← HC.out] at f1 f2
      obtain ⟨t1, t2, t3, t4⟩ := id hX
      obtain ⟨s1, s2, s3, s4⟩ := id hR
      go_wp2_with fail
      obtain ⟨y1, y2, y3, y4⟩ := id B2f
      refine bodyPost_ret (v := .agg #[.slice ah q ch, .slice al q cl]) (by simp [results, Try.results56, go_sem, *]) rfl ⟨ah, q, ch, al, cl, rfl, f1, f2, hap, hb5⟩

set_option maxHeartbeats 1000000 in
theorem specWalkOf_any (a : Option Addr) (n cap : Nat) (xs : List Int) (w : World) (h : Has w a n cap xs) :
    Calls Try.prog 11 #[.slice a n cap] w (PostWalk w (walkOf xs)) := by
  have hbW : Below w.heap.size w (w.alloc (.cells #[.slice none 0 0, .slice none 0 0] 27)) := (Below.refl _ w).alloc (Nat.le_refl _) _
  have BR := boxAt_new w (.slice none 0 0) (.slice none 0 0) 27
  go_enter Try.func11, Try.ntmps11
  go_wp2_with fail
  have hsz : (w.alloc (.cells #[.slice none 0 0, .slice none 0 0] 27)).heap.size = w.heap.size + 1 := by simp
  generalize w.alloc (.cells #[.slice none 0 0, .slice none 0 0] 27) = W at *
  refine (paParking_any _ _ _ _ _ (h.below hbW (Nat.le_refl _))).mono ?_
  rintro e w1 ⟨rfl, st⟩
  have hs1 := st.size
  replace BR := BR.below st (by omega)
  have hb1 := hbW.trans (st.mono hbW.size)
  clear st hbW
  by_cases hp : isPark xs = true
  · rw [hp]
    have HR : Hid (walkOf xs = ((hgtOf xs (carsL xs), carsL xs), true)) := hid (by unfold walkOf; rw [if_pos hp])
    obtain ⟨h8, _⟩ := park_facts hp h.len
    clear hp
    go_wp2_with fail
    refine (waOf_any _ _ _ _ _ (h.below hb1 (Nat.le_refl _)) h8).mono ?_
    rintro e w2 ⟨ah, q, ch, al, cl, rfl, oh, ol, ap, st⟩
    replace BR := BR.below st (by omega)
    have hb2 := hb1.trans (st.mono hb1.size)
    have f1 := ((oh.mono (show w.heap.size ≤ w1.heap.size by omega)).setNe (g := w.heap.size) (i := 0) (oh.ge.ne (by omega)) (.slice ah q ch)).setNe (g := w.heap.size) (i := 1) (oh.ge.ne (by omega)) (.slice al q cl)
    have f2 := ((ol.mono (show w.heap.size ≤ w1.heap.size by omega)).setNe (g := w.heap.size) (i := 0) (ol.ge.ne (by omega)) (.slice ah q ch)).setNe (g := w.heap.size) (i := 1) (ol.ge.ne (by omega)) (.slice al q cl)
    have B2f := (BR.set0 (z := .slice ah q ch)).set1 (z := .slice al q cl)
    have hb5 := (hb2.setCell (p := ⟨w.heap.size, 0, none⟩) (by simp) (.slice ah q ch)).setCell (p := ⟨w.heap.size, 1, none⟩) (by simp) (.slice al q cl)
    obtain ⟨t1, t2, t3, t4⟩ := id BR
    go_wp2_with fail
    obtain ⟨y1, y2, y3, y4⟩ := id B2f
    refine bodyPost_ret (v := .tuple #[.agg #[.slice ah q ch, .slice al q cl], .bool true]) (by simp [results, Try.results11, go_sem, *]) rfl (postWalk HR.out f1 f2 ap hb5)
  · rw [Bool.eq_false_iff.2 hp]
    have HR : Hid (walkOf xs = (([], []), false)) := hid (by unfold walkOf; rw [if_neg hp])
    have B2 := (BR.set0 (z := .slice none 0 0)).set1 (z := .slice none 0 0)
    obtain ⟨x1, x2, x3, x4⟩ := id BR
    go_wp2_with fail
    obtain ⟨y1, y2, y3, y4⟩ := id B2
    refine bodyPost_ret (v := .tuple #[.agg #[.slice none 0 0, .slice none 0 0], .bool false]) (by simp [results, Try.results11, go_sem, *]) rfl (postWalk_no HR.out ((hb1.setCell (by simp) _).setCell (by simp) _))
end Go.Proofs.Ytakadjhbomggbaa

namespace Go.Proofs.Ytakadjhbomggbaa
open Go.RowKit

theorem hgt_small {hs : List Int} {n : Nat} (hl : hs.length = n) (h8 : n ≤ 8) (hb : ∀ i, i < n → 0 ≤ nth hs i ∧ nth hs i ≤ (i : Int)) : Small hs := fun i hi => by
  have := hb i (by omega)
  omega
set_option maxHeartbeats 400000 in
theorem area_any (a : Option Addr) (n cap : Nat) (ys : List Int) (w : World) (h : Has w a n cap ys) (hs : Small ys) :
    Calls Try.prog 62 #[.slice a n cap] w fun e w' => e = .returned (.int .i64 (total ys)) ∧ w = w' := by
  obtain ⟨h0, h1, h2, h3, h4⟩ := h
  go_enter Try.func62, Try.ntmps62
  go_wp2_with fail
  go_loop [3, 8] (fun c i => ∃ k : Nat, k ≤ n ∧ i = .int .i64 k ∧ c = .int .i64 (total (ys.take k))) (fun _ i => n - (intOf i).toNat)
  case atStart => exact ⟨0, Nat.zero_le _, rfl, rfl⟩
  case round =>
    obtain ⟨k, hk, rfl, rfl⟩ := hrel
    by_cases hlt : k < n
    · obtain ⟨b, off, rfl, hb, hc⟩ := h4 (by omega)
      have hck := hc k hlt
      have ht := total_bounds hs k (by omega)
      obtain ⟨hv0, hv1⟩ := hs k (by omega)
      have HS := hid (total_succ (xs := ys) (k := k) (by omega))
      clear hc h4 hs
      go_wp2_with fail
      go_round
      case rel => exact ⟨k + 1, by omega, by go_num, by rw [HS.out]⟩
      case measure => simp [intOf]; omega
    · obtain rfl : k = n := by omega
      go_wp2_with fail
      go_ret
      exact ⟨ret_int (by rw [List.take_of_length_le (by omega)]), rfl⟩

set_option maxHeartbeats 1000000 in
theorem implArea_any (a b : Option Addr) (n cap m cap' : Nat) (hs ls : List Int) (w : World) (h : Has w a n cap hs) (h' : Has w b m cap' ls) :
    Calls Try.prog 19 #[.agg #[.slice a n cap, .slice b m cap']] w (PostInt w (areaOf hs ls)) := by
  have HL := hid h.len
  have HL' := hid h'.len
  have hle := h.le
  have hle' := h'.le
  go_enter Try.func19, Try.ntmps19
  go_wp2_with fail
  generalize hW : w.alloc (.cells #[.slice a n cap, .slice b m cap'] 27) = W
  have hbW : Below w.heap.size w W := by rw [← hW]; exact (Below.refl _ w).alloc (Nat.le_refl _) _
  have B1 : BoxAt W w.heap.size (.slice a n cap) (.slice b m cap') := by rw [← hW]; exact boxAt_new _ _ _ _
  clear hW
  refine (rowsOf_any _ _ _ _ _ _ _ _ _ (h.below hbW (Nat.le_refl _)) (h'.below hbW (Nat.le_refl _))).mono ?_
  rintro e w1 ⟨⟨hw, rfl⟩ | ⟨hw, rfl⟩, st⟩
  · have hb1 := hbW.trans (st.mono hbW.size)
    clear st hbW B1
    have HR : Hid (areaOf hs ls = (total hs, true)) := hid (by simp only [areaOf]; rw [if_pos hw])
    have hnm : n = m := by have := (walkB_iff.1 hw).2.1; rw [HL.out, HL'.out] at this; exact this
    subst hnm
    have HW := hid (walkB_iff.1 hw)
    obtain ⟨h8, hbd⟩ := hgt_of HW.out.1 HL.out
    have C1 := boxAt_new w1 (.slice a n cap) (.slice b n cap') 64
    have hb2 := hb1.alloc hb1.size (.cells #[.slice a n cap, .slice b n cap'] 64)
    have g1 := h.below hb2 (Nat.le_refl _)
    have g2 := h'.below hb2 (Nat.le_refl _)
    have hsz : (w1.alloc (.cells #[.slice a n cap, .slice b n cap'] 64)).heap.size = w1.heap.size + 1 := by simp
    have hs1 := hb1.size
    clear hw h h'
    go_wp2_with fail
    refine (area_any _ _ _ _ _ g1 (hgt_small HL.out h8 hbd)).mono ?_
    rintro e w' ⟨rfl, rfl⟩
    go_wp2_with fail
    go_ret2
    exact postInt HR.out hb2
  · have hb1 := hbW.trans (st.mono hbW.size)
    clear st hbW B1
    have HR : Hid (areaOf hs ls = (0, false)) := hid (by simp only [areaOf]; rw [if_neg (by rw [hw]; decide)])
    go_wp2_with fail
    go_ret2
    exact postInt HR.out (hb1.alloc hb1.size _)

set_option maxHeartbeats 1000000 in
theorem implTouches_any (a b : Option Addr) (n cap m cap' : Nat) (hs ls : List Int) (w : World) (h : Has w a n cap hs) (h' : Has w b m cap' ls) :
    Calls Try.prog 20 #[.agg #[.slice a n cap, .slice b m cap']] w (PostInts w (touchesOf hs ls)) := by
  have HL := hid h.len
  have HL' := hid h'.len
  have hle := h.le
  have hle' := h'.le
  go_enter Try.func20, Try.ntmps20
  go_wp2_with fail
  generalize hW : w.alloc (.cells #[.slice a n cap, .slice b m cap'] 27) = W
  have hbW : Below w.heap.size w W := by rw [← hW]; exact (Below.refl _ w).alloc (Nat.le_refl _) _
  have B1 : BoxAt W w.heap.size (.slice a n cap) (.slice b m cap') := by rw [← hW]; exact boxAt_new _ _ _ _
  clear hW
  refine (rowsOf_any _ _ _ _ _ _ _ _ _ (h.below hbW (Nat.le_refl _)) (h'.below hbW (Nat.le_refl _))).mono ?_
  rintro e w1 ⟨⟨hw, rfl⟩ | ⟨hw, rfl⟩, st⟩
  · have hb1 := hbW.trans (st.mono hbW.size)
    clear st hbW B1
    have HR : Hid (touchesOf hs ls = (idxs (touchAt hs) hs.length, true)) := hid (by simp only [touchesOf]; rw [if_pos hw])
    have hnm : n = m := by have := (walkB_iff.1 hw).2.1; rw [HL.out, HL'.out] at this; exact this
    subst hnm
    have HW := hid (walkB_iff.1 hw)
    obtain ⟨h8, hbd⟩ := hgt_of HW.out.1 HL.out
    have C1 := boxAt_new w1 (.slice a n cap) (.slice b n cap') 64
    have hb2 := hb1.alloc hb1.size (.cells #[.slice a n cap, .slice b n cap'] 64)
    have g1 := h.below hb2 (Nat.le_refl _)
    have g2 := h'.below hb2 (Nat.le_refl _)
    have hsz : (w1.alloc (.cells #[.slice a n cap, .slice b n cap'] 64)).heap.size = w1.heap.size + 1 := by simp
    have hs1 := hb1.size
    clear hw h'
    have G1 := hid h
    clear g1 g2
    go_wp2_with fail
    go_loopw [6, 19] (fun o i wr => ∃ (k q : Nat) (a' : Option Addr) (cq : Nat), k ≤ n ∧ q ≤ k ∧ i = .int .i64 k ∧ o = .slice a' q cq ∧ Own wr w.heap.size a' q cq (idxs (touchAt hs) k) ∧ Below w.heap.size w wr) (fun _ i _ => n - (intOf i).toNat)
    case atStart => exact ⟨0, 0, none, 0, Nat.zero_le _, Nat.zero_le _, rfl, rfl, Own.nil _ _, hb2⟩
    case round =>
      obtain ⟨k, q, a', cq, hk, hq, rfl, rfl, hown, hb⟩ := hrel
      by_cases hlt : k < n
      · obtain ⟨b1, off1, rfl, hbb1, hc1⟩ := G1.out.2.2.2.2 (by omega)
        have hck : wr.cell? ⟨b1, off1 + k, none⟩ = some (.int .i64 (nth hs k)) := by rw [hb.cell (p := ⟨b1, off1 + k, none⟩) hbb1]; exact hc1 k hlt
        have hi := idxs_succ (touchAt hs) k
        clear hc1
        by_cases hk0 : k = 0
        · have HI : Hid (idxs (touchAt hs) (k + 1) = idxs (touchAt hs) k) := hid (by rw [hi]; simp [touchAt, hk0])
          have hp0 : ¬ 0 < k := by omega
          have hp1 : ¬ ((0 : Int) < (k : Int)) := by omega
          clear hi hk0
          go_wp2_with fail
          go_roundw
          case rel => exact ⟨k + 1, q, a', cq, by omega, by omega, by go_num, rfl, by rw [HI.out]; exact hown, hb⟩
          case measure => simp [intOf]; omega
        · have hp1 : (0 : Int) < (k : Int) := by omega
          by_cases hz : nth hs k = 0
          · have HI : Hid (idxs (touchAt hs) (k + 1) = idxs (touchAt hs) k ++ [(k : Int)]) := hid (by rw [hi]; simp [touchAt, hz]; omega)
            have hbe : (nth hs k == 0) = true := by simp [hz]
            clear hi hz
            go_wp2_with (at_builtin; refine wpList_append_int _ rfl _ _ rfl w.heap.size _ _ _ _ _ rfl rfl hown (by omega) hb.size ?_; intro a2 cap2 w2 hown2 hb2)
            go_roundw
            case rel => exact ⟨k + 1, q + 1, a2, cap2, by omega, by omega, by go_num, rfl, by rw [HI.out]; exact hown2, hb.trans hb2⟩
            case measure => simp [intOf]; omega
          · have HI : Hid (idxs (touchAt hs) (k + 1) = idxs (touchAt hs) k) := hid (by rw [hi]; simp [touchAt, hz])
            have hbe : (nth hs k == 0) = false := by simp [hz]
            clear hi hz
            go_wp2_with fail
            go_roundw
            case rel => exact ⟨k + 1, q, a', cq, by omega, by omega, by go_num, rfl, by rw [HI.out]; exact hown, hb⟩
            case measure => simp [intOf]; omega
      · obtain rfl : k = n := by omega
        go_wp2_with fail
        go_ret2
        exact postInts (HR.out.trans (by rw [HL.out])) hown hb
  · have hb1 := hbW.trans (st.mono hbW.size)
    clear st hbW B1
    have HR : Hid (touchesOf hs ls = ([], false)) := hid (by simp only [touchesOf]; rw [if_neg (by rw [hw]; decide)])
    go_wp2_with fail
    go_ret2
    exact postInts_no HR.out (hb1.alloc hb1.size _)
end Go.Proofs.Ytakadjhbomggbaa

namespace Go.Proofs.Ytakadjhbomggbaa
open Go.RowKit

end Go.Proofs.Ytakadjhbomggbaa

namespace Go.Proofs.Ytakadjhbomggbaa
open Go.RowKit

/-- The first k numbers of a mixture are laid. -/
def Mixed (zs ys : List Int) (k : Nat) : Prop := ∀ i, i < k → nth ys i = nth zs i

theorem mix_nth {xs ys : List Int} {low : Bool} {k : Nat} (hx : k < xs.length) (hy : k < ys.length) : nth (mixWith xs ys low) k = if low then min (nth xs k) (nth ys k) else max (nth xs k) (nth ys k) := by
  simp [nth, mixWith, List.getElem?_zipWith, hx, hy]

end Go.Proofs.Ytakadjhbomggbaa

namespace Go.Proofs.Ytakadjhbomggbaa
open Go.RowKit

set_option maxHeartbeats 800000 in
theorem isUnder_any (a b : Option Addr) (n cap m capb : Nat) (xs bs : List Int) (w : World) (h : Has w a n cap xs) (h' : Has w b m capb bs) (hnm : n ≤ m) :
    Calls Try.prog 139 #[.slice a n cap, .slice b m capb] w fun e w' => e = .returned (.bool (undTo (insSort xs) bs n)) ∧ Below w.heap.size w w' := by
  go_enter Try.func139, Try.ntmps139
  go_wp2_with fail
  refine (clone_any _ _ _ _ _ h).mono ?_
  rintro e w1 ⟨a1, cap1, rfl, hown1, hb1⟩
  go_wp2_with fail
  refine (sort_any _ _ _ _ _ _ hown1).mono ?_
  rintro e w2 ⟨rfl, hown2, hm2⟩
  have hb2 := hb1.trans (hm2.below hown1.ge hb1.size)
  have h2 := h'.below hb2 (Nat.le_refl _)
  obtain ⟨k0, k1, k2, k3, k4⟩ := hown2.has
  obtain ⟨-, j1, j2, -, j4⟩ := h2
  clear k0 hm2 hown1 hown2 hb1
  go_wp2_with fail
  go_loop [14] (fun i => ∃ k : Nat, k ≤ n ∧ i = .int .i64 k ∧ Hid (undTo (insSort xs) bs k = true)) (fun i => n - (intOf i).toNat)
  case atStart => exact ⟨0, Nat.zero_le _, rfl, hid rfl⟩
  case round =>
    obtain ⟨k, hk, rfl, HF⟩ := hrel
    by_cases hlt : k < n
    · obtain ⟨b1, off1, rfl, hbb1, hc1⟩ := k4 (by omega)
      obtain ⟨b2, off2, rfl, hbb2, hc2⟩ := j4 (by omega)
      have hck1 := hc1 k hlt
      have hck2 := hc2 k (by omega)
      have hkm : (k : Int) < (m : Int) := by omega
      have hkz : (0 : Int) ≤ (k : Int) := by omega
      clear hc1 hc2 k4 j4
      by_cases hz : nth (insSort xs) k < 0
      · have HU2 : Hid (undTo (insSort xs) bs n = false) := hid (undTo_no hlt fun hh => by omega)
        go_wp2_with fail
        go_ret
        exact ⟨ret_bool HU2.out.symm, hb2⟩
      · by_cases ht : nth (insSort xs) k ≤ nth bs k
        · have HU2 : Hid (undTo (insSort xs) bs (k + 1) = true) := hid (by rw [undTo_succ, HF.out]; simp [ht]; omega)
          go_wp2_with fail
          go_round
          case rel => exact ⟨k + 1, by omega, by go_num, HU2⟩
          case measure => simp [intOf]; omega
        · have HU2 : Hid (undTo (insSort xs) bs n = false) := hid (undTo_no hlt fun hh => ht hh.2)
          go_wp2_with fail
          go_ret
          exact ⟨ret_bool HU2.out.symm, hb2⟩
    · obtain rfl : k = n := by omega
      go_wp2_with fail
      go_ret
      exact ⟨ret_bool HF.out.symm, hb2⟩

end Go.Proofs.Ytakadjhbomggbaa

namespace Go.Proofs.Ytakadjhbomggbaa
open Go.RowKit

/-- Numbers laid over the first ones. -/
def over0 (xs ys : List Int) : List Int := ys.take xs.length ++ xs.drop ys.length
theorem length_over0 (xs ys : List Int) : (over0 xs ys).length = xs.length := by simp [over0]; omega
theorem over0_all {xs ys : List Int} (h : ys.length = xs.length) : over0 xs ys = ys := by
  simp [over0, h, List.take_of_length_le (Nat.le_of_eq h)]
theorem over0_nth {xs ys : List Int} (h : ys.length ≤ xs.length) (i : Nat) : nth (over0 xs ys) i = if i < ys.length then nth ys i else nth xs i := by
  unfold over0
  rw [List.take_of_length_le h]
  split
  · rw [nth_append_left (by assumption)]
  · simp only [nth, List.getD_eq_getElem?_getD, List.getElem?_append, List.getElem?_drop]
    rw [if_neg (by assumption), show ys.length + (i - ys.length) = i by omega]

theorem wpList_copy_intsT (T S : TypeId) (hT : Try.prog.underlying T = some (.slice 3)) {ops : Array Oper} {rest : List Oper} {o : Oper} {a : Act} {Q : Exit → Act → World → Prop} (w : World) (hgd : o.guard = none) (d s : Operand)
    (ho : o.op = .call { callee := .builtin .copy, args := #[d, s], argTypes := #[T, S] })
    (B : Nat) (a0 a1 : Option Addr) (n m cap cap1 : Nat) (xs ys : List Int) (hd : a.eval d = .slice a0 n cap) (hs : a.eval s = .slice a1 m cap1)
    (hown : Own w B a0 n cap xs) (hhas : Has w a1 m cap1 ys) (hmn : m ≤ n)
    (h : ∀ w', Own w' B a0 n cap (over0 xs ys) → Below B w w' → wpList Try.prog ops Q rest (a.put o.dst (.int .i64 (m : Int))) w') :
    wpList Try.prog ops Q (o :: rest) a w := by
  have hlx := hown.len
  have hly := hhas.len
  obtain ⟨⟨h1, h2⟩, h3⟩ := hown
  obtain ⟨i0, hi, hz0, hz1, hz2⟩ := info_parts Try.infoInt
  have hsz : (Try.prog.info? 3).map (·.size) = some 1 := by rw [hi]; simp [hz1]
  rcases h2 with ⟨hv, hn⟩ | ⟨g, cap', cur, hv, hg, hh, hnc, hcm, hcs, htake⟩
  · simp at hv
    obtain ⟨rfl, _, rfl⟩ := hv
    obtain rfl : m = 0 := by omega
    refine wpList_copy_nothing hgd d s T S ho 3 hT hsz none a1 n 0 0 cap1 hd hs (by simp) ?_
    have hx : xs = [] := List.eq_nil_of_length_eq_zero (by omega)
    have hy : ys = [] := List.eq_nil_of_length_eq_zero (by omega)
    subst hx hy
    exact h w ⟨⟨h1, .inl ⟨by simp; omega, hn⟩⟩, h3⟩ (Below.refl _ _)
  · simp at hv
    obtain ⟨rfl, rfl⟩ := hv
    refine wpList_copy_splice hgd d s T S ho 3 hT hsz (some ⟨g, 0, none⟩) a1 n cap m cap1 hd hs g 0 cur.toList 3 (by simpa using hh) (ys.map (Value.int .i64)) (by rw [List.length_map, hly]; exact (Nat.min_eq_left hmn).symm) (fun hp => ⟨rfl, ?_⟩) (by simp; omega) (by intro v hv; obtain ⟨y, _, rfl⟩ := List.mem_map.1 hv; rfl) B w (Below.refl _ _) hg ?_
    · obtain ⟨b, off, rfl, _, _⟩ := hhas.2.2.2.2 (by simp at hp; omega)
      exact ⟨_, rfl, has_cells hhas⟩
    · intro w' hw' hb
      have e : (a.put o.dst (goInt (ys.map (Value.int .i64)).length)) = a.put o.dst (.int .i64 (m : Int)) := by simp [goInt, hly]
      rw [e]
      refine h w' ⟨⟨by rw [List.length_map, length_over0]; simpa using h1, .inr ⟨g, cap, _, rfl, hg, hw'.out, hnc, hcm, ?_, ?_⟩⟩, by rw [length_over0]; exact h3.1, h3.2⟩ hb
      · simp only [splice, Nat.zero_add, List.length_map]
        simp
        omega
      · have ht : cur.toList.take n = xs.map (Value.int .i64) := by simpa using htake
        simp only [splice, List.take_zero, List.nil_append, Nat.zero_add, List.length_map, Nat.mul_one, over0, List.map_append, List.map_take, List.map_drop]
        rw [List.take_append, List.take_of_length_le (by simp; omega), List.length_map, ← ht, List.take_of_length_le (l := ys.map (Value.int .i64)) (by simp; omega), List.drop_take]
theorem wpList_copy_ints {ops : Array Oper} {rest : List Oper} {o : Oper} {a : Act} {Q : Exit → Act → World → Prop} (w : World) (hgd : o.guard = none) (d s : Operand)
    (ho : o.op = .call { callee := .builtin .copy, args := #[d, s], argTypes := #[24, 24] })
    (B : Nat) (a0 a1 : Option Addr) (n m cap cap1 : Nat) (xs ys : List Int) (hd : a.eval d = .slice a0 n cap) (hs : a.eval s = .slice a1 m cap1)
    (hown : Own w B a0 n cap xs) (hhas : Has w a1 m cap1 ys) (hmn : m ≤ n)
    (h : ∀ w', Own w' B a0 n cap (over0 xs ys) → Below B w w' → wpList Try.prog ops Q rest (a.put o.dst (.int .i64 (m : Int))) w') :
    wpList Try.prog ops Q (o :: rest) a w := wpList_copy_intsT 24 24 Try.underlying24 w hgd d s ho B a0 a1 n m cap cap1 xs ys hd hs hown hhas hmn h

/-- 'make(T, n)' of integers. -/
theorem wpList_make_intsT (T : TypeId) (hT : Try.prog.underlying T = some (.slice 3)) {ops : Array Oper} {rest : List Oper} {o : Oper} {a : Act} {Q : Exit → Act → World → Prop} (w : World) (hgd : o.guard = none) (l c : Operand) (ho : o.op = Op.makeSlice T l c)
    (n : Nat) (hl : a.eval l = .int .i64 (n : Int)) (hc : a.eval c = .int .i64 (n : Int)) (hn : n ≤ 2097152)
    (h : ∀ a' cap' w', Own w' w.heap.size a' n cap' (List.replicate n 0) → Below w.heap.size w w' → wpList Try.prog ops Q rest (a.put o.dst (.slice a' n cap')) w') :
    wpList Try.prog ops Q (o :: rest) a w := by
  obtain ⟨i0, hi, hz0, hz1, hz2⟩ := info_parts Try.infoInt
  refine wpList_make_full (P := Try.prog) w hgd l c T ho w.heap.size 3 i0 (.int .i64 0) 1 hT hi hz0 hz1 .i64 .i64 n n n hl hc rfl rfl (by rw [hz2]; omega) (by unfold maxLen; omega) (Nat.le_refl _) ?_
  intro w' hown hgrow
  obtain ⟨a', cap', hv, ho'⟩ := own_of_row (xs := List.replicate n 0) hown (by simp) (by rw [show (Value.int IntKind.i64 0).cells = #[.int .i64 0] from rfl, toList_madeCells_one]; simp) (by simpa using hn)
  rw [hv]
  exact h _ _ _ ho' (below_grown hgrow (Nat.le_refl _) (by simp))
end Go.Proofs.Ytakadjhbomggbaa

namespace Go.Proofs.Ytakadjhbomggbaa
open Go.RowKit

theorem over0_candU {xs : List Int} {n c : Nat} (hn : xs.length = n) (hc : c < n) : (over0 (List.replicate n 0) (xs.take (c + 1))).set c (nth xs c + 1) = cand xs c := by
  refine ext_nth (by rw [List.length_set, length_over0, length_cand (by omega)]; simp [hn]) fun i hi => ?_
  rw [List.length_set, length_over0, List.length_replicate] at hi
  rw [nth_set (by rw [length_over0, List.length_replicate]; omega), over0_nth (by simp; omega)]
  have hl : (xs.take c).length = c := by simp; omega
  unfold cand
  by_cases e : c = i
  · subst e
    rw [if_pos rfl]
    simp only [nth, List.getD_eq_getElem?_getD]
    rw [List.getElem?_append_right (by omega)]
    simp [hl]
  · rw [if_neg e]
    by_cases h : i < c
    · rw [if_pos (by simp; omega), nth_take (by omega), nth_append_left (by omega), nth_take h]
    · rw [if_neg (by simp; omega)]
      simp only [nth, List.getD_eq_getElem?_getD]
      rw [List.getElem?_append_right (by omega), hl]
      obtain ⟨d, hd⟩ : ∃ d, i - c = d + 1 := ⟨i - c - 1, by omega⟩
      rw [hd]
      simp only [List.getElem?_cons_succ, List.getElem?_replicate]
      split <;> split <;> rfl

set_option maxRecDepth 100000 in
set_option maxHeartbeats 2000000 in
theorem nextU_any (a b : Option Addr) (n cap capb : Nat) (xs bs : List Int) (w : World) (h : Has w a n cap xs) (h' : Has w b n capb bs) (h8 : n ≤ 8) (hx : ∀ i, i < n → 0 ≤ nth xs i ∧ nth xs i ≤ 13) :
    Calls Try.prog 130 #[.slice a n cap, .slice b n capb] w (PostInts w (nextU bs xs n)) := by
  have HLEN := hid h.len
  have HX := hid hx
  have hcap := h.2.1
  have hmx : cap ≤ maxLen := h.2.2.1
  have hcapb := h'.2.1
  clear hx
  go_enter Try.func130, Try.ntmps130
  go_wp2_with fail
  go_loopw [6] (fun i wr => ∃ c : Nat, c ≤ n ∧ i = .int .i64 ((c : Int) - 1) ∧ Hid (nextU bs xs n = nextU bs xs c) ∧ Below w.heap.size w wr) (fun i _ => (intOf i + 1).toNat)
  case atStart => exact ⟨n, Nat.le_refl _, rfl, hid rfl, Below.refl _ _⟩
  case round =>
    obtain ⟨c, hc, rfl, HN, hb⟩ := hrel
    match c, hc, HN with
    | 0, hc, HN =>
      go_wp2_with fail
      go_ret2
      exact postInts_no (by rw [HN.out]; rfl) hb
    | c + 1, hc, HN =>
      have e : ((c + 1 : Nat) : Int) - 1 = (c : Int) := by omega
      rw [e]
      have hsz := hb.size
      have ht := (h.take (k := c + 1) (by omega)).below hb (Nat.le_refl _)
      have ht' := h'.below hb (Nat.le_refl _)
      obtain ⟨bk, off, rfl, hbb, hcc⟩ := h.2.2.2.2 (by omega)
      obtain ⟨x0, x1⟩ := HX.out c (by omega)
      have HC := hid (over0_candU HLEN.out (show c < n by omega))
      have HS : Hid (nextU bs xs (c + 1) = if und bs (cand xs c) then (cand xs c, true) else nextU bs xs c) := hid rfl
      have HUN : Hid (undTo (insSort (cand xs c)) bs n = und bs (cand xs c)) := hid (by unfold und; rw [length_cand (by rw [HLEN.out]; omega), HLEN.out])
      have hcn : (c : Int) < (n : Int) := by omega
      have hnth : nth (over0 (List.replicate n 0) (xs.take (c + 1))) c = nth xs c := by
        rw [over0_nth (by simp; omega), if_pos (by simp [HLEN.out]; omega), nth_take (by omega)]
      have HNTH := hid hnth
      clear e hcc hnth
      go_wp2_with (first
        | (at_make; refine wpList_make_ints _ rfl _ _ rfl n rfl rfl (by omega) ?_; intro a1 cap1 w1 hown1 hb1)
        | (with_reducible refine wpList_copy_ints _ rfl _ _ rfl wr.heap.size _ _ _ _ _ _ _ _ rfl rfl hown1 (ht.below hb1 (Nat.le_refl _)) (by omega) ?_; intro w2 hown2 hb2; obtain ⟨g1, rfl, hg1, hg2, hg3, hg4⟩ := hown2.opened (by omega); have hgk := hg3 c (by omega); rw [HNTH.out] at hgk; have hgf := hg4 c; clear hg3 hg4))
      obtain ⟨s1, s2⟩ := hown2.set c (nth xs c + 1)
      rw [HC.out] at s1
      have hb3 := (hb1.trans hb2).setCell (p := ⟨g1, c, none⟩) hg1 (.int .i64 (nth xs c + 1))
      clear hown1 hown2 hb1 hb2 s2 hgk hgf
      refine (isUnder_any _ _ _ _ _ _ _ _ _ s1.has (ht'.below hb3 (Nat.le_refl _)) (Nat.le_refl _)).mono ?_
      rw [HUN.out]
      rintro e w4 ⟨rfl, hb4⟩
      have s4 := s1.below hb4 (Nat.le_refl _)
      have hb5 := hb3.trans (hb4.mono hb3.size)
      have hbw := hb.trans (hb5.mono hsz)
      by_cases hp : und bs (cand xs c) = true
      · have HR : Hid (nextU bs xs n = (cand xs c, true)) := hid (by rw [HN.out, HS.out, if_pos hp])
        rw [hp]
        clear hp
        go_wp2_with fail
        go_ret2
        exact postInts HR.out (s4.mono hsz) hbw
      · have HR : Hid (nextU bs xs n = nextU bs xs c) := hid (by rw [HN.out, HS.out, if_neg hp])
        rw [Bool.eq_false_iff.2 hp]
        clear hp
        go_wp2_with fail
        go_roundw
        case rel => exact ⟨c, by omega, by go_num, HR, hbw⟩
        case measure => simp [intOf]

/-- The list behind, as far as laid out: from c on, those before i are new. -/
def SPartU (xs : List Int) (c i : Nat) (zs : List Int) : Prop := ∀ j, j < xs.length → nth zs j = if c ≤ j ∧ j < i then nth xs c + 1 else nth xs j
theorem spartU_step {xs zs : List Int} {c i : Nat} (h : SPartU xs c i zs) (hl : zs.length = xs.length) (hi : i < xs.length) (hc : c ≤ i) : SPartU xs c (i + 1) (zs.set i (nth xs c + 1)) := fun j hj => by
  rw [nth_set (by omega)]
  by_cases e : i = j
  · subst e; rw [if_pos rfl, if_pos ⟨hc, by omega⟩]
  · rw [if_neg e, h j hj]
    have : (c ≤ j ∧ j < i) = (c ≤ j ∧ j < i + 1) := by apply propext; omega
    simp only [this]
theorem spartU_done {xs zs : List Int} {c : Nat} (h : SPartU xs c xs.length zs) (hl : zs.length = xs.length) (hc : c < xs.length) : xs.take c ++ List.replicate (xs.length - c) (nth xs c + 1) = zs := by
  have hlt : (xs.take c).length = c := by simp; omega
  refine ext_nth (by simp; omega) fun j hj => ?_
  simp at hj
  rw [h j (by omega)]
  by_cases e : j < c
  · rw [nth_append_left (by omega), nth_take e, if_neg (by omega)]
  · rw [if_pos ⟨by omega, by omega⟩]
    simp only [nth, List.getD_eq_getElem?_getD]
    rw [List.getElem?_append_right (by omega), hlt, List.getElem?_replicate, if_pos (by omega)]
    rfl

end Go.Proofs.Ytakadjhbomggbaa

namespace Go.Proofs.Ytakadjhbomggbaa
open Go.RowKit

set_option maxHeartbeats 800000 in
theorem pnext_any (a : Option Addr) (n cap : Nat) (xs : List Int) (w : World) (h : Has w a n cap xs) (h8 : n ≤ 8) (hx : ∀ i, i < n → 0 ≤ nth xs i ∧ nth xs i ≤ 8) :
    Calls Try.prog 110 #[.slice a n cap] w (PostInts w (nextP xs n)) := by
  have HE := hid (nextU_idx h.len h8 n (Nat.le_refl _))
  have HX : Hid (∀ i, i < n → 0 ≤ nth xs i ∧ nth xs i ≤ 13) := hid (fun i hi => by have := hx i hi; omega)
  obtain ⟨⟨ys, ok⟩, hr⟩ : ∃ r, nextP xs n = r := ⟨_, rfl⟩
  have HR := hid hr
  clear hr hx
  go_enter Try.func110, Try.ntmps110
  go_wp2_with fail
  refine (indices_any n _ (by omega)).mono ?_
  rintro e w1 ⟨a1, cap1, rfl, hown1, hb1⟩
  go_wp2_with fail
  refine (nextU_any _ _ _ _ _ _ _ _ (h.below hb1 (Nat.le_refl _)) hown1.has h8 HX.out).mono ?_
  rw [HE.out, HR.out]
  rintro e w2 ⟨a2, m2, cap2, rfl, hown2, hb2⟩
  go_wp2_with fail
  go_ret2
  exact postInts HR.out (hown2.mono hb1.size) (hb1.trans (hb2.mono hb1.size))

theorem parks_small {xs : List Int} {n : Nat} (h : isPark xs = true) (hn : xs.length = n) : n ≤ 8 ∧ ∀ i, i < n → 0 ≤ nth xs i ∧ nth xs i ≤ 8 := by
  obtain ⟨h1, h2⟩ := isPark_bounds h
  refine ⟨by omega, fun i hi => ?_⟩
  have := h2 _ (nth_mem (xs := xs) (i := i) (by omega))
  omega
theorem nextOf_none {xs : List Int} (h : ¬ isPark xs = true) : nextOf xs = ([], false) := by simp [nextOf, h]

end Go.Proofs.Ytakadjhbomggbaa

namespace Go.Proofs.Ytakadjhbomggbaa
open Go.RowKit

/-- How many favourites there are up to a place. -/
def upB (xs : List Int) (P : Nat) : Nat := below xs ((P : Int) + 1)
theorem upB_le (xs : List Int) (P : Nat) : upB xs P ≤ xs.length := below_le _ _
theorem N_upB (xs : List Int) (n : Nat) : N xs n = V (upB xs) n (n - xs.length) := rfl
/-- Those that are asked for at a place, among the first. -/
theorem count_at {xs : List Int} {P k : Nat} (h : k < xs.length) : (below (xs.take (k + 1)) ((P : Int) + 1) : Int) - below (xs.take (k + 1)) P = (below (xs.take k) ((P : Int) + 1) : Int) - below (xs.take k) P + if nth xs k = P then 1 else 0 := by
  rw [below_succ h, below_succ h]
  split <;> split <;> split <;> omega
theorem below_mono (xs : List Int) (P : Int) : below xs P ≤ below xs (P + 1) := by
  unfold below
  exact List.countP_mono_left fun x _ h => by simp at *; omega

end Go.Proofs.Ytakadjhbomggbaa

namespace Go.Proofs.Ytakadjhbomggbaa
open Go.RowKit

/-- The rank of the first k numbers. -/
def rkTo (xs : List Int) (n k : Nat) : Nat := rk n [] (toN (xs.take k))
/-- What the first j choices of the next number add. -/
def rkAt (xs : List Int) (n k j : Nat) : Nat := sumTo (fun y => N (xs.take k ++ [(y : Int)]) n) j
/-- What the first j choices behind p are. -/
def rkAtP (p : List Int) (n j : Nat) : Nat := sumTo (fun y => N (p ++ [(y : Int)]) n) j
theorem rkAtP_succ (p : List Int) (n j : Nat) : rkAtP p n (j + 1) = rkAtP p n j + N (p ++ [(j : Int)]) n := rfl
theorem rkTo_zero (xs : List Int) (n : Nat) : rkTo xs n 0 = 0 := rfl
theorem rkTo_succ {xs : List Int} {n k x : Nat} (h0 : ∀ y ∈ xs, 0 ≤ y) (hk : k < xs.length) (hx : nth xs k = (x : Int)) : rkTo xs n (k + 1) = rkTo xs n k + rkAt xs n k x := by
  unfold rkTo rkAt
  rw [take_succ_nth hk, hx]
  have e : toN (xs.take k ++ [(x : Int)]) = toN (xs.take k) ++ [x] := by simp [toN]
  rw [e, rk_append, toI_toN fun y hy => h0 y (List.mem_of_mem_take hy)]
  simp [rk]
theorem rkAt_succ (xs : List Int) (n k j : Nat) : rkAt xs n k (j + 1) = rkAt xs n k j + N (xs.take k ++ [(j : Int)]) n := rfl
theorem rkAt_le {xs : List Int} {n k : Nat} (hn : n ≤ 8) : ∀ j, j ≤ 8 → rkAt xs n k j ≤ j * 16777216
  | 0, _ => by simp [rkAt, sumTo]
  | j + 1, h => by
    have := rkAt_le (xs := xs) (n := n) (k := k) hn j (by omega)
    have := N_le (p := xs.take k ++ [(j : Int)]) hn
    rw [rkAt_succ]
    omega
theorem rkTo_le {xs : List Int} {n : Nat} (hn : n ≤ 8) (h0 : ∀ y ∈ xs, 0 ≤ y ∧ y ≤ 8) : ∀ k, k ≤ xs.length → rkTo xs n k ≤ k * 134217728
  | 0, _ => by simp [rkTo, toN, rk]
  | k + 1, h => by
    have ih := rkTo_le hn h0 k (by omega)
    have hx := h0 _ (nth_mem (xs := xs) (i := k) (by omega))
    rw [rkTo_succ (x := (nth xs k).toNat) (fun y hy => (h0 y hy).1) (by omega) (by omega)]
    have := rkAt_le (xs := xs) (k := k) hn (nth xs k).toNat (by omega)
    omega
theorem rankOf_yes {xs : List Int} (h : isPark xs = true) : rankOf xs = ((rkTo xs xs.length xs.length : Int), true) := by
  simp [rankOf, h, rkTo]
theorem rankOf_no {xs : List Int} (h : ¬ isPark xs = true) : rankOf xs = (0, false) := by simp [rankOf, h]
theorem parks_nth {xs : List Int} {n : Nat} (h : isPark xs = true) (hn : xs.length = n) : n ≤ 8 ∧ (∀ i, i < n → 0 ≤ nth xs i ∧ nth xs i ≤ 7 ∧ nth xs i < n) ∧ (∀ x ∈ xs, 0 ≤ x ∧ x ≤ 8) := by
  obtain ⟨h1, h2⟩ := isPark_bounds h
  refine ⟨by omega, fun i hi => ?_, fun x hx => by have := h2 x hx; omega⟩
  have := h2 _ (nth_mem (xs := xs) (i := i) (by omega))
  omega
theorem rk_lt_cnt {xs : List Int} (h : isPark xs = true) : rk xs.length [] (toN xs) < cnt xs.length := by
  obtain ⟨h1, h2⟩ := isPark_bounds h
  have h3 := (isPark_zpark h1 fun x hx => (h2 x hx).1).1 h
  have e := toI_toN (xs := xs) fun x hx => (h2 x hx).1
  have := rk_lt (n := xs.length) (toN xs) [] (by simp [length_toN]) (fun x hx => by
    obtain ⟨y, hy, rfl⟩ := List.mem_map.1 hx
    have := h2 y hy
    omega) (by rw [e]; simpa using h3)
  rw [N_nil h1] at this
  exact this
theorem rkTo_all {xs : List Int} {n : Nat} (h : xs.length = n) : rkTo xs n n = rk n [] (toN xs) := by
  unfold rkTo
  rw [List.take_of_length_le (by omega)]
end Go.Proofs.Ytakadjhbomggbaa

namespace Go.Proofs.Ytakadjhbomggbaa
open Go.RowKit

/-- A list and one number more. -/
theorem nth_snoc_nonneg {ys : List Int} {k j : Nat} (hl : ys.length = k) (h : ∀ i, i < k → 0 ≤ nth ys i) : ∀ i, i < k + 1 → 0 ≤ nth (ys ++ [(j : Int)]) i := by
  intro i hi
  by_cases e : i < k
  · rw [nth_append_left (by omega)]; exact h i e
  · obtain rfl : i = ys.length := by omega
    rw [nth_append_at]; omega

end Go.Proofs.Ytakadjhbomggbaa

namespace Go.Proofs.Ytakadjhbomggbaa
open Go.RowKit

/-- What is left to choose behind p, at r. -/
def AtLeft (n R : Nat) (p : List Int) (k r : Nat) : Prop := r < N p n ∧ toI (atL n n [] R) = p ++ toI (atL n (n - k) p r)
theorem atLeft_first {n R : Nat} (hn : n ≤ 8) (hR : R < cnt n) : AtLeft n R [] 0 R := ⟨by rw [N_nil hn]; exact hR, by simp⟩
theorem atLeft_step {n R k r x ρ : Nat} {p : List Int} (h : AtLeft n R p k r) (hk : k < n) (hp : p.length = k) (h1 : r = rkAtP p n x + ρ) (h2 : ρ < N (p ++ [(x : Int)]) n) : AtLeft n R (p ++ [(x : Int)]) (k + 1) ρ := by
  refine ⟨h2, ?_⟩
  rw [h.2, show n - k = (n - (k + 1)) + 1 by omega, at_step ⟨h1, h2⟩ (by omega) h.1, snoc_toI]
theorem atLeft_room {n R k r y ρ : Nat} {p : List Int} (h : AtLeft n R p k r) (hk : k < n) (hp : p.length = k) (h1 : r = rkAtP p n y + ρ) : y < n := by
  have h2 := h.1
  rw [N_split (by omega)] at h2
  apply Classical.byContradiction
  intro hn
  have := sumTo_mono (fun y => N (p ++ [(y : Int)]) n) (show n ≤ y by omega)
  unfold rkAtP at h1
  omega

theorem atOf_yes {n R : Nat} (hn : n ≤ 8) (hR : R < cnt n) : atOf n R = (toI (atL n n [] R), true) := by
  have h1 : inB (n : Int) 0 8 = true := inB_iff.2 ⟨by omega, by omega⟩
  have h2 : inB (R : Int) 0 ((cnt n : Int) - 1) = true := inB_iff.2 ⟨by omega, by omega⟩
  simp only [atOf, Int.toNat_natCast, h1, h2, Bool.and_true, if_true]
theorem atOf_no1 {n r : Int} (h : ¬ inB n 0 8 = true) : atOf n r = ([], false) := by simp [atOf, h]
theorem atOf_no2 {n : Nat} {r : Int} (h : ¬ inB r 0 ((cnt n : Int) - 1) = true) : atOf n r = ([], false) := by simp [atOf, h]

theorem nextOf_yes {xs : List Int} {n : Nat} (h : isPark xs = true) (hn : xs.length = n) : nextOf xs = atOf n ((rkTo xs n n : Int) + 1) := by
  rw [rkTo_all hn]
  subst hn
  simp [nextOf, h]
theorem nextOf_no {xs : List Int} (h : ¬ isPark xs = true) : nextOf xs = ([], false) := by simp [nextOf, h]

/-- One number, written out. -/
theorem has_lit1 (w : World) (y : Int) : Has (w.alloc (.cells #[.int .i64 y] 3)) (some ⟨w.heap.size, 0, none⟩) 1 1 [y] := by
  refine ⟨rfl, Nat.le_refl _, by unfold maxLen; omega, by omega, fun _ => ⟨_, _, rfl, by simp, fun i hi => ?_⟩⟩
  obtain rfl : i = 0 := by omega
  rw [World.cell?_alloc_at _ _ _ _ rfl]
  rfl
theorem one_nonneg (k : Nat) : ∀ i, i < 1 → 0 ≤ nth [(k : Int)] i := fun i hi => by
  obtain rfl : i = 0 := by omega
  simp [nth]
/-- How many begin with each of the first k numbers. -/
def firsts (n k : Nat) : List Int := (List.range k).map fun (x : Nat) => (N [(x : Int)] n : Int)
theorem firsts_succ (n k : Nat) : firsts n (k + 1) = firsts n k ++ [(N [(k : Int)] n : Int)] := by simp [firsts, List.range_succ]
theorem firstOf_yes {n : Nat} (h : inB (n : Int) 1 8 = true) : firstOf n = (firsts n n, true) := by simp [firstOf, h, firsts]
theorem firstOf_no {n : Int} (h : ¬ inB n 1 8 = true) : firstOf n = ([], false) := by simp [firstOf, h]

end Go.Proofs.Ytakadjhbomggbaa

namespace Go.Proofs.Ytakadjhbomggbaa
open Go.RowKit

/-- Those that go on a beginning with the first c choices of the next number. -/
def listTo (n k : Nat) (p : List Int) (c : Nat) : List (List Int) := (List.range c).flatMap fun (x : Nat) => listL n k (p ++ [(x : Int)])
theorem listTo_succ (n k : Nat) (p : List Int) (c : Nat) : listTo n k p (c + 1) = listTo n k p c ++ listL n k (p ++ [(c : Int)]) := by simp [listTo, List.range_succ]
theorem length_listL {n k : Nat} {p : List Int} (h : p.length + k = n) : (listL n k p).length = N p n := by rw [list_at k p h]; simp
theorem length_listTo {n k : Nat} {p : List Int} (h : p.length + (k + 1) = n) : ∀ c, (listTo n k p c).length = rkAtP p n c
  | 0 => rfl
  | c + 1 => by rw [listTo_succ, List.length_append, length_listTo h c, length_listL (by simp; omega), rkAtP_succ]
theorem N_le5 {p : List Int} {n : Nat} (h : n ≤ 5) : N p n ≤ 3125 := by
  unfold N
  refine Nat.le_trans (V_le _ n (by omega) _ (by omega)) ?_
  refine Nat.le_trans (Nat.pow_le_pow_left h _) ?_
  exact Nat.le_trans (Nat.pow_le_pow_right (by omega) (show n - p.length ≤ 5 by omega)) (by decide)
theorem rkAtP_le5 {p : List Int} {n : Nat} (hn : n ≤ 5) : ∀ j, j ≤ 5 → rkAtP p n j ≤ j * 3125
  | 0, _ => by simp [rkAtP, sumTo]
  | j + 1, h => by
    have := rkAtP_le5 (p := p) (n := n) hn j (by omega)
    have := N_le5 (p := p ++ [(j : Int)]) hn
    rw [rkAtP_succ]
    omega

set_option maxHeartbeats 4000000 in
theorem cnAll_any (n : Nat) (h5 : n ≤ 5) : ∀ (k m : Nat) (a : Option Addr) (cap : Nat) (p : List Int) (w : World), m + k = n → Has w a m cap p → Hid (∀ i, i < m → 0 ≤ nth p i) →
    Calls Try.prog 108 #[.slice a m cap, .int .i64 (n : Int)] w (PostRowsOnly w (listL n k p)) := by
  intro k
  induction k with
  | zero =>
    intro m a cap p w hmk h H0
    obtain rfl : m = n := by omega
    have hlen := h.len
    have hz : isPark p = true ↔ zpark p m := by
      have := isPark_zpark (xs := p) (by omega) (fun x hx => by
        obtain ⟨i, hi, rfl⟩ := mem_nth hx
        exact H0.out i (by omega))
      rw [hlen] at this
      exact this
    have hbe : ((m : Int) == (m : Int)) = true := by simp
    by_cases hp : isPark p = true
    · have HR : Hid (listL m 0 p = [p]) := hid (by simp only [listL]; rw [if_pos (hz.1 hp)])
      have HP := hid hp
      clear hz hp hlen
      go_enter Try.func108, Try.ntmps108
      go_wp2_with (go_at_call 55; refine (paParking_any _ _ _ _ _ h).mono ?_; rintro e w0 ⟨rfl, hb0⟩; rw [HP.out])
      refine (l1Own_any _ _ _ _ _ (h.below hb0 (Nat.le_refl _))).mono ?_
      rintro e w1 ⟨a1, cap1, rfl, hown1, hb1⟩
      have hown1' := hown1.mono hb0.size
      have hb01 := hb0.trans (hb1.mono hb0.size)
      have hlit := ownR_lit1 hown1' hb01.size
      have hba := hb01.alloc hb01.size (.cells #[.slice a1 m cap1] 24)
      go_wp2_with fail
      go_ret
      exact ⟨_, _, _, _, rfl, hlit, by rw [HR.out]; rfl, hba⟩
    · have HR : Hid (listL m 0 p = []) := hid (by simp only [listL]; rw [if_neg (fun h => hp (hz.2 h))])
      have HP := hid hp
      clear hz hp hlen
      go_enter Try.func108, Try.ntmps108
      go_wp2_with (go_at_call 55; refine (paParking_any _ _ _ _ _ h).mono ?_; rintro e w0 ⟨rfl, hb0⟩; rw [Bool.eq_false_iff.2 HP.out])
      go_ret
      exact ⟨_, _, _, _, rfl, OwnR.nil _ _, by rw [HR.out]; rfl, hb0⟩
  | succ k ih =>
    intro m a cap p w hmk h H0
    have IH := hid ih
    have hbe : ((m : Int) == (n : Int)) = false := by simp; omega
    have HLEN := hid h.len
    have HL := hid (fun c => length_listTo (n := n) (k := k) (p := p) (by rw [HLEN.out]; omega) c)
    have HR : Hid (listL n (k + 1) p = listTo n k p n) := hid rfl
    clear ih
    go_enter Try.func108, Try.ntmps108
    go_wp2_with fail
    go_loopw [5, 6] (fun o x wr => ∃ (c : Nat) (a' : Option Addr) (q cap' : Nat) (rs : List Rw), c ≤ n ∧ x = .int .i64 (c : Int) ∧ o = .slice a' q cap' ∧ OwnR wr w.heap.size a' q cap' rs ∧ Hid (numsOf rs = listTo n k p c) ∧ Below w.heap.size w wr) (fun _ x _ => n - (intOf x).toNat)
    case atStart => exact ⟨0, none, 0, 0, [], Nat.zero_le _, rfl, rfl, OwnR.nil _ _, hid rfl, Below.refl _ _⟩
    case round =>
      obtain ⟨c, a', q, cap', rs, hc, rfl, rfl, hown, HNU, hb⟩ := hrel
      by_cases hlt : c < n
      · have hq : q ≤ 15625 := by
          have h1 := numsOf_len hown
          rw [HNU.out, HL.out] at h1
          have := rkAtP_le5 (p := p) h5 c (by omega)
          omega
        have hh := h.below hb (Nat.le_refl _)
        have hszr := hb.size
        have HNN := hid (nth_snoc_nonneg (j := c) HLEN.out H0.out)
        go_wp2_with fail
        refine (l1Own_any _ _ _ _ _ hh).mono ?_
        rintro e w3 ⟨a3, cap3, rfl, hown3, hb3⟩
        go_wp2_with (at_builtin; refine wpList_append_int _ rfl _ _ rfl wr.heap.size _ _ _ _ _ rfl rfl hown3 (by omega) hb3.size ?_; intro a4 cap4 w4 hown4 hb4)
        have hb34 := hb3.trans hb4
        refine (IH.out (m + 1) _ _ _ _ (by omega) hown4.has HNN).mono ?_
        rintro e w5 ⟨a5, q5, cap5, rs5, rfl, hown5, hn5, hb5⟩
        have hb35 := hb34.trans (hb5.mono hb34.size)
        have HN5 := hid hn5
        have hq5 : q5 ≤ 3125 := by
          have h1 := numsOf_len hown5
          rw [hn5, length_listL (by simp [HLEN.out]; omega)] at h1
          have := N_le5 (p := p ++ [(c : Int)]) h5
          omega
        have hown5' := hown5.mono hb34.size
        clear hn5 hown3 hown4 hb3 hb4 hb5 hb34 hown5
        go_wp2_with (at_builtin; refine wpList_append_rowsAny wr w5 rfl _ _ rfl w.heap.size _ _ _ _ _ _ _ _ rfl rfl hown hb35 hown5' (by omega) hszr ?_; intro a6 q6 cap6 w6 hq6 hown6 hb6)
        go_roundw
        case rel =>
          refine ⟨c + 1, a6, q6, cap6, _, by omega, by go_num, rfl, hown6, hid ?_, (hb.trans (hb35.mono hszr)).trans hb6⟩
          rw [numsOf_app, HNU.out, HN5.out, listTo_succ]
        case measure => simp [intOf]; omega
      · obtain rfl : n = c := by omega
        go_wp2_with fail
        go_ret
        exact ⟨a', q, cap', rs, rfl, hown, by rw [HR.out, HNU.out], hb⟩

theorem allOf_yes {n : Nat} (h : inB (n : Int) 0 5 = true) : allOf n = (listL n n [], true) := by simp [allOf, h]
theorem allOf_no {n : Int} (h : ¬ inB n 0 5 = true) : allOf n = ([], false) := by simp [allOf, h]

set_option maxHeartbeats 400000 in
theorem specAll_any (n : Int) (w : World) : Calls Try.prog 79 #[.int .i64 n] w (PostRows w (allOf n)) := by
  by_cases hg : inB n 0 5 = true
  · obtain ⟨m, rfl⟩ : ∃ m : Nat, n = (m : Int) := ⟨n.toNat, by have := inB_iff.1 hg; omega⟩
    have hm : m ≤ 5 := by have := inB_iff.1 hg; omega
    have HA := hid (allOf_yes hg)
    have HG := hid hg
    clear hg
    go_enter Try.func79, Try.ntmps79
    go_wp2_with (go_at_call 78; refine (l1In_any _ _ _ _).mono ?_; rintro e w' ⟨rfl, rfl⟩; rw [HG.out])
    refine (cnAll_any m hm m 0 none 0 [] _ (by omega) (Has.nilAt none (by unfold maxLen; omega)) (hid (fun i hi => by omega))).mono ?_
    rintro e w2 ⟨a2, q2, cap2, rs2, rfl, hown2, hn2, hb2⟩
    go_wp2_with fail
    go_ret2
    exact postRows HA.out hown2 hn2 hb2
  · have HA := hid (allOf_no hg)
    have HG := hid hg
    clear hg
    go_enter Try.func79, Try.ntmps79
    go_wp2_with (go_at_call 78; refine (l1In_any _ _ _ _).mono ?_; rintro e w' ⟨rfl, rfl⟩; rw [Bool.eq_false_iff.2 HG.out])
    go_ret2
    exact postRows_no HA.out (Below.refl _ _)

/-- The least choice behind a beginning. -/
def lastOf (p : List Int) : Int := nth p (p.length - 1)
/-- Those that do not fall and go on a beginning with the first c choices. -/
def sortTo (k : Nat) (p : List Int) (c : Nat) : List (List Int) := (upFrom (lastOf p) c).flatMap fun x => sortL k (p ++ [x])
theorem sortTo_succ (k : Nat) (p : List Int) (c : Nat) : sortTo k p (c + 1) = sortTo k p c ++ sortL k (p ++ [lastOf p + c]) := by
  simp [sortTo, upFrom_snoc]
theorem lastOf_snoc (p : List Int) (x : Int) : lastOf (p ++ [x]) = x := by
  unfold lastOf
  rw [List.length_append, List.length_singleton, Nat.add_sub_cancel, nth_append_at]
theorem length_sortL : ∀ (k : Nat) (p : List Int), p.length + k ≤ 6 → 0 ≤ lastOf p → (sortL k p).length ≤ 7 ^ k ∧ ∀ j c, k = j + 1 → c ≤ 7 → (sortTo j p c).length ≤ c * 7 ^ j
  | 0, p, _, _ => ⟨by simp [sortL], fun j c h => by omega⟩
  | k + 1, p, h, h0 => by
    have hto : ∀ c, c ≤ 7 → (sortTo k p c).length ≤ c * 7 ^ k := by
      intro c
      induction c with
      | zero => intro _; simp [sortTo, upFrom]
      | succ c ih =>
        intro hc
        have h1 := ih (by omega)
        have h2 := (length_sortL k (p ++ [lastOf p + c]) (by simp; omega) (by rw [lastOf_snoc]; omega)).1
        rw [sortTo_succ, List.length_append, Nat.add_mul]
        omega
    refine ⟨?_, fun j c hj hc => by cases hj; exact hto c hc⟩
    have h1 := hto ((p.length : Int) + 1 - lastOf p).toNat (by omega)
    have h2 := Nat.mul_le_mul_right (7 ^ k) (show ((p.length : Int) + 1 - lastOf p).toNat ≤ 7 by omega)
    show (sortTo k p ((p.length : Int) + 1 - lastOf p).toNat).length ≤ 7 ^ (k + 1)
    rw [Nat.pow_succ]
    omega
theorem pow7 : ∀ k, k < 7 → 7 ^ k ≤ 117649 := by decide +kernel
theorem nth_last_le {p : List Int} {m : Nat} (h : p.length = m) : lastOf p = nth p (m - 1) := by unfold lastOf; rw [h]
theorem lastOf_none {p : List Int} (h : p.length = 0) : lastOf p = 0 := by
  have : p = [] := List.eq_nil_of_length_eq_zero h
  subst this
  rfl

theorem allSortedOf_yes' {n : Nat} (h : inB (n : Int) 0 6 = true) : allSortedOf n = (sortL n [], true) := by simp [allSortedOf, h]
theorem allSortedOf_no' {n : Int} (h : ¬ inB n 0 6 = true) : allSortedOf n = ([], false) := by simp [allSortedOf, h]

end Go.Proofs.Ytakadjhbomggbaa

namespace Go.Proofs.Ytakadjhbomggbaa
open Go.RowKit

set_option maxHeartbeats 4000000 in
theorem allNext_any (n : Nat) (L : List (List Int)) (hch : Chain (fun xs => nextP xs xs.length) L) (h8 : n ≤ 8) (hq : L.length ≤ 100000) (hv : ∀ k, k < L.length → (L.getD k []).length = n ∧ ∀ i, i < n → 0 ≤ nth (L.getD k []) i ∧ nth (L.getD k []) i ≤ 8)
    (w0 w : World) (a : Option Addr) (m cap : Nat) (xs : List Int) (hb0 : Below w0.heap.size w0 w) (hfirst : Own w w0.heap.size a m cap xs) (hx : L.getD 0 [] = xs) :
    Calls Try.prog 109 #[.slice a m cap, .func (.func 110) #[] #[]] w (PostRowsOnly w0 L) := by
  obtain ⟨hL0, hL1, hL2⟩ := hch
  have H1 := hid hL1
  have H2 := hid hL2
  have HV := hid hv
  have HX := hid hx
  clear hL1 hL2 hv hx
  go_enter Try.func109, Try.ntmps109
  go_wp2_with fail
  go_loopw [5, 6, 7] (fun o s b wr => ∃ (k : Nat) (wk : World) (a' : Option Addr) (cap' : Nat) (rs : List Rw) (a1 : Option Addr) (m1 c1 : Nat) (ys : List Int) (ok : Bool), k ≤ L.length ∧ o = .slice a' k cap' ∧ s = .slice a1 m1 c1 ∧ b = .bool ok ∧ Hid (ok = decide (k < L.length)) ∧
    OwnR wk w0.heap.size a' k cap' rs ∧ Hid (numsOf rs = L.take k) ∧ Below wk.heap.size wk wr ∧ w0.heap.size ≤ wk.heap.size ∧ Own wr wk.heap.size a1 m1 c1 ys ∧ Hid (k < L.length → L.getD k [] = ys) ∧ Below w0.heap.size w0 wr) (fun o _ _ _ => L.length + 1 - (match o with | .slice _ k _ => k | _ => 0))
  case atStart => exact ⟨0, w0, none, 0, [], a, m, cap, xs, true, Nat.zero_le _, rfl, rfl, rfl, hid (by simp [hL0]), OwnR.nil _ _, hid rfl, hb0, Nat.le_refl _, hfirst, hid (fun _ => HX.out), hb0⟩
  case round =>
    clear hb0 hfirst
    obtain ⟨k, wk, a', cap', rs, a1, m1, c1, ys, ok, hk, rfl, rfl, rfl, HOK, hrows, HR, hbk, hwk, hys, HY, hb⟩ := hrel
    by_cases hlt : k < L.length
    · obtain rfl : ok = true := by rw [HOK.out]; simp [hlt]
      obtain ⟨v1, v2⟩ := HV.out k hlt
      have hyl := HY.out hlt
      rw [hyl] at v1 v2
      obtain rfl : n = m1 := by rw [← v1]; exact hys.len
      have V2 := hid v2
      have V1 := hid v1
      have HYL := hid hyl
      have HT := hid (take_getD hlt)
      have HR' : Hid (numsOf rs ++ [ys] = L.take (k + 1)) := hid (by rw [HT.out, HR.out, HYL.out])
      have hlen := hrows.len
      have HLEN := hid hlen
      clear v1 v2 hyl hlen
      go_wp2_with (at_builtin; refine wpList_append_row wk wr rfl _ _ rfl w0.heap.size _ _ _ _ _ _ _ _ rfl rfl hrows hbk hys (by omega) hwk ?_; intro a2 cap2 w2 hrows2 hb2)
      have hrow : Has w2 a1 n c1 ys := by
        have := hrows2.has.2.2.2.2.2 k (by omega)
        rw [nthR_append_right (by rw [HLEN.out]; exact Nat.le_refl _), HLEN.out, Nat.sub_self, nthR_one] at this
        simpa [V1.out] using this
      refine (pnext_any _ _ _ _ _ hrow h8 V2.out).mono ?_
      have hw2 : w0.heap.size ≤ w2.heap.size := Nat.le_trans (Nat.le_trans hwk hbk.size) hb2.size
      have hbw := hb.trans hb2
      by_cases hk1 : k + 1 < L.length
      · have HF := H1.out k hk1
        rw [HYL.out] at HF
        simp only [V1.out] at HF
        rw [HF]
        rintro e w3 ⟨a3, m3, cap3, rfl, hown3, hb3⟩
        clear HF
        go_wp2_with fail
        go_roundw
        case rel => exact ⟨k + 1, w2, a2, cap2, _, a3, m3, cap3, _, true, by omega, rfl, rfl, rfl, hid (by simp [hk1]), hrows2, hid (by rw [← HR'.out]; simp [numsOf]), hb3, hw2, hown3, hid (fun _ => rfl), hbw.trans (hb3.mono hw2)⟩
        case measure => simp; omega
      · have HF := H2.out
        rw [show L.length - 1 = k by omega, HYL.out] at HF
        simp only [V1.out] at HF
        rw [HF]
        rintro e w3 ⟨a3, m3, cap3, rfl, hown3, hb3⟩
        clear HF
        go_wp2_with fail
        go_roundw
        case rel => exact ⟨k + 1, w2, a2, cap2, _, a3, m3, cap3, _, false, by omega, rfl, rfl, rfl, hid (by simp [hk1]), hrows2, hid (by rw [← HR'.out]; simp [numsOf]), hb3, hw2, hown3, hid (fun h => absurd h hk1), hbw.trans (hb3.mono hw2)⟩
        case measure => simp; omega
    · obtain rfl : ok = false := by rw [HOK.out]; simp [hlt]
      have HE : Hid (numsOf rs = L) := hid (by rw [HR.out, List.take_of_length_le (by omega)])
      go_wp2_with fail
      go_ret
      exact ⟨a', k, cap', rs, rfl, hrows.below hbk (Nat.le_refl _), HE.out, hb⟩

theorem chain_next {n : Nat} (h8 : n ≤ 8) : Chain (fun xs => nextP xs xs.length) (listL n n []) := by
  obtain ⟨⟨c1, c2, c3⟩, _, _, hp⟩ := all_chain h8
  refine ⟨c1, fun k hk => ?_, ?_⟩
  · show nextP _ _ = _
    rw [nextP_eq (hp k (by omega)).1]
    exact c2 k hk
  · show nextP _ _ = _
    rw [nextP_eq (hp _ (by omega)).1]
    exact c3
theorem cnt_le5 {n : Nat} (h : n ≤ 5) : cnt n ≤ 1296 := by
  have : ∀ n, n < 6 → cnt n ≤ 1296 := by decide +kernel
  exact this n (by omega)

set_option maxHeartbeats 400000 in
theorem allParking_any (n : Int) (w : World) : Calls Try.prog 82 #[.int .i64 n] w (PostRows w (allOf n)) := by
  by_cases h1 : 0 ≤ n
  · by_cases h2 : n ≤ 5
    · obtain ⟨m, rfl⟩ : ∃ m : Nat, n = (m : Int) := ⟨n.toNat, by omega⟩
      have hm : m ≤ 5 := by omega
      have HA := hid (allOf_yes (inB_iff.2 ⟨h1, h2⟩))
      obtain ⟨_, hf, hl, hp⟩ := all_chain (n := m) (by omega)
      have hc5 := cnt_le5 hm
      have HF := hid hf
      have HC := hid (chain_next (n := m) (by omega))
      have HV : Hid (∀ k, k < (listL m m []).length → ((listL m m []).getD k []).length = m ∧ ∀ i, i < m → 0 ≤ nth ((listL m m []).getD k []) i ∧ nth ((listL m m []).getD k []) i ≤ 8) := hid (fun k hk => ⟨(hp k hk).2, (parks_small (hp k hk).1 (hp k hk).2).2⟩)
      have HL : Hid ((listL m m []).length ≤ 100000) := hid (by omega)
      clear hf hl hp
      go_enter Try.func82, Try.ntmps82
      go_wp2_with (refine wpList_make_intsT 96 Try.underlying96 _ rfl _ _ rfl m rfl rfl (by omega) ?_; intro a1 cap1 w1 hown1 hb1)
      refine (allNext_any m (listL m m []) HC.out (by omega) HL.out HV.out w _ _ _ _ _ hb1 hown1 HF.out).mono ?_
      rintro e w2 ⟨a2, q2, cap2, rs2, rfl, hown2, hn2, hb2⟩
      go_wp2_with fail
      go_ret2
      exact postRows HA.out hown2 hn2 hb2
    · have HA := hid (allOf_no (n := n) (by rw [Bool.not_eq_true, inB_not]; omega))
      go_enter Try.func82, Try.ntmps82
      go_wp2_with fail
      go_ret2
      exact postRows_no HA.out (Below.refl _ _)
  · have HA := hid (allOf_no (n := n) (by rw [Bool.not_eq_true, inB_not]; omega))
    go_enter Try.func82, Try.ntmps82
    go_wp2_with fail
    go_ret2
    exact postRows_no HA.out (Below.refl _ _)

theorem allSortedOf_yes {n : Nat} (h : inB (n : Int) 0 6 = true) : allSortedOf n = (sortL n [], true) := by simp [allSortedOf, h]
theorem allSortedOf_no {n : Int} (h : ¬ inB n 0 6 = true) : allSortedOf n = ([], false) := by simp [allSortedOf, h]
theorem sorted_facts {n : Nat} (h : n ≤ 6) : Chain (fun xs => nextS xs xs.length) (sortL n []) ∧ (sortL n []).getD 0 [] = List.replicate n 0 ∧ (sortL n []).length ≤ 132 ∧
    ∀ k, k < (sortL n []).length → ((sortL n []).getD k []).length = n ∧ ∀ i, i < n → 0 ≤ nth ((sortL n []).getD k []) i ∧ nth ((sortL n []).getD k []) i ≤ 8 := by
  obtain ⟨c1, c2, c3, c4⟩ := sorted_chain n (by omega)
  refine ⟨chain_of c1, c2, c3, fun k hk => ?_⟩
  have hm : (sortL n []).getD k [] ∈ sortL n [] := by simp [hk]
  have := List.all_eq_true.1 c4 _ hm
  simp only [Bool.and_eq_true, decide_eq_true_eq] at this
  refine ⟨this.1, fun i hi => ?_⟩
  have := allB_nth this.2 (k := i) (by omega)
  omega

end Go.Proofs.Ytakadjhbomggbaa

namespace Go.Proofs.Ytakadjhbomggbaa
open Go.RowKit

theorem numsOf_append' (rs ss : List Rw) : numsOf (rs ++ ss) = numsOf rs ++ numsOf ss := by simp [numsOf]
theorem sp_num {N : Nat} (h : N < 5) : ∃ K q : Int, max 0 ((N : Int) - 1) = K ∧ (N : Int) * K = 2 * q ∧ (N : Int) * ((N : Int) - 1) = 2 * q ∧ q + 1 = (spM N : Int) ∧ 0 ≤ K ∧ K ≤ 3 ∧ 0 ≤ q ∧ q ≤ 6 := by
  rcases (show N = 0 ∨ N = 1 ∨ N = 2 ∨ N = 3 ∨ N = 4 by omega) with rfl | rfl | rfl | rfl | rfl
  · exact ⟨0, 0, by decide, by decide, by decide, by decide, by decide, by decide, by decide, by decide⟩
  · exact ⟨0, 0, by decide, by decide, by decide, by decide, by decide, by decide, by decide, by decide⟩
  · exact ⟨1, 1, by decide, by decide, by decide, by decide, by decide, by decide, by decide, by decide⟩
  · exact ⟨2, 3, by decide, by decide, by decide, by decide, by decide, by decide, by decide, by decide⟩
  · exact ⟨3, 6, by decide, by decide, by decide, by decide, by decide, by decide, by decide, by decide⟩
/-- What is asked of a list's walk. -/
theorem sp_walk {xs : List Int} {n : Nat} (h : isPark xs = true) (hl : xs.length = n) : n ≤ 8 ∧ (carsL xs).length = n ∧ (spH xs).length = n ∧ walkB (spH xs) (carsL xs) = true ∧ Small (spH xs) ∧ (∀ i, i < n → 0 ≤ nth (spH xs) i ∧ nth (spH xs) i ≤ (i : Int)) ∧ total (spH xs) = (spA xs : Int) := by
  obtain ⟨h8, h1, -, -, -, -⟩ := cars_facts h
  have hw := walk_park h
  have hg := (walkB_iff.1 hw).1
  have hlh : (spH xs).length = n := by unfold spH; rw [length_hgtOf, h1, hl]
  have hb := (hgt_of hg (show (hgtOf xs (carsL xs)).length = n from hlh)).2
  refine ⟨by omega, by omega, hlh, hw, hgt_small hlh (by omega) hb, hb, ?_⟩
  have : 0 ≤ total (spH xs) := total_nonneg fun x hx => by
    obtain ⟨i, hi, rfl⟩ := mem_nth hx
    have := hb i (by omega)
    show 0 ≤ nth (hgtOf xs (carsL xs)) i
    omega
  unfold spA
  omega
theorem spTo_b {N : Nat} (h : N < 5) : ∀ k, k ≤ (listL N N []).length → TbB (spM N) k (spTo (spM N) (listL N N []) k)
  | 0, _ => tbB_start _
  | k + 1, hk => by
    obtain ⟨-, -, h1, h2⟩ := sp_at h (k := k) (by omega)
    exact tbB_inc (spTo_b h k (by omega)) h1 h2
theorem rep_snoc {α : Type} (k : Nat) (x : α) : List.replicate k x ++ [x] = List.replicate (k + 1) x := by rw [← List.replicate_succ']
set_option maxRecDepth 100000 in
set_option maxHeartbeats 8000000 in
theorem specSpread_any (n : Int) (w : World) : Calls Try.prog 42 #[.int .i64 n] w (PostRows w (spreadOf n)) := by
  by_cases hg : inB n 0 4 = true
  · obtain ⟨N, rfl⟩ : ∃ N : Nat, n = (N : Int) := ⟨n.toNat, by have := inB_iff.1 hg; omega⟩
    have hN : N < 5 := by have := inB_iff.1 hg; omega
    have HG := hid hg
    have HR : Hid (spreadOf (N : Int) = (spTo (spM N) (listL N N []) (listL N N []).length, true)) := hid (by unfold spreadOf; rw [if_pos hg]; simp)
    have HAL : Hid (allOf (N : Int) = (listL N N [], true)) := hid (by have : inB (N : Int) 0 5 = true := inB_iff.2 ⟨by omega, by omega⟩; simp [allOf, this])
    obtain ⟨-, hL125, hM7⟩ := sp_all N hN
    obtain ⟨K, q, e1, e2, e3, e4, k0, k3, q0, q6⟩ := sp_num hN
    have HSA := hid (fun k (hk : k < (listL N N []).length) => sp_at hN hk)
    have HTB := hid (fun k (hk : k ≤ (listL N N []).length) => spTo_b hN k hk)
    obtain ⟨M, hM⟩ : ∃ M, spM N = M := ⟨_, rfl⟩
    rw [hM] at e4 hM7 HR HSA HTB
    have hM1 : 1 ≤ M := by omega
    have HK := hid e1
    have HQ := hid e2
    have hw1 : IntKind.i64.wrap ((N : Int) - 1) = (N : Int) - 1 := by rw [IntKind.wrap_i64]; omega
    have hw2 : IntKind.i64.wrap (2 * q) = 2 * q := by rw [IntKind.wrap_i64]; omega
    have hd1 : (2 * q).tdiv 2 = q := by rw [Int.tdiv_eq_ediv_of_nonneg (by omega)]; omega
    have hw3 : IntKind.i64.wrap q = q := by rw [IntKind.wrap_i64]; omega
    have hw4 : IntKind.i64.wrap (q + 1) = (M : Int) := by rw [IntKind.wrap_i64]; omega
    have HSN := hid (fun k => rep_snoc k (List.replicate M (0 : Int)))
    generalize listL N N [] = L at *
    clear hg hM e1 e3 e4
    go_enter Try.func42, Try.ntmps42
    go_wp2_with (go_at_call 78; refine (l1In_any _ _ _ _).mono ?_; rintro e w' ⟨rfl, rfl⟩; rw [HG.out])
    refine (specAll_any _ _).mono ?_
    rw [HAL.out]
    rintro e w1 ⟨aL, qL, cL, rl, rfl, RL, hnL, hb1⟩
    replace hnL : numsOf rl = L := hnL
    have hqL : L.length = qL := by rw [← hnL]; simpa [numsOf] using RL.len
    have HNL := hid hnL
    clear hnL
    go_wp2_with fail
    refine (l1Most_any _ _ _).mono ?_
    rintro e _ ⟨rfl, rfl⟩
    rw [HK.out]
    have hmul := HQ.out
    go_wp2_with fail
    clear hmul
    go_loopw [6, 8] (fun t i wr => ∃ (j : Nat) (a' : Option Addr) (c' : Nat) (rs : List Rw), j ≤ M ∧ i = .int .i64 (j : Int) ∧ t = .slice a' j c' ∧ OwnR wr w1.heap.size a' j c' rs ∧ Hid (numsOf rs = List.replicate j (List.replicate M 0)) ∧ Below w1.heap.size w1 wr) (fun _ i _ => M - (intOf i).toNat)
    case atStart => exact ⟨0, none, 0, [], Nat.zero_le _, rfl, rfl, OwnR.nil _ _, hid rfl, Below.refl _ _⟩
    case round =>
      obtain ⟨j, a', c', rs, hj, rfl, rfl, R, HNR, hb⟩ := hrel
      have hsz := hb.size
      by_cases hlt : j < M
      · go_wp2_with (first | (at_make; refine wpList_make_ints _ rfl _ _ rfl M rfl rfl (by omega) ?_; intro a1 c1 w3 own1 st1) | (at_builtin; refine wpList_append_row wr w3 rfl _ _ rfl w1.heap.size _ _ _ _ _ _ _ _ rfl rfl R st1 own1 (by omega) hsz ?_; intro a2 c2 w4 R2 st2))
        have hb2 := (hb.trans (st1.mono hsz)).trans st2
        go_roundw
        case rel => exact ⟨j + 1, a2, c2, _, by omega, by go_num, rfl, R2, hid (by rw [numsOf_append', HNR.out]; exact HSN.out j), hb2⟩
        case measure => simp [intOf]; omega
      · obtain rfl : M = j := by omega
        obtain ⟨gtb, rfl, g1, g2, g3, g4⟩ := R.cellAt hM1
        clear g3 g4
        go_wp2_with fail
        go_loopw [39] (fun i wr => ∃ (k : Nat) (rs : List Rw), k ≤ qL ∧ i = .int .i64 (k : Int) ∧ OwnR wr w1.heap.size (some ⟨gtb, 0, none⟩) M c' rs ∧ Hid (numsOf rs = spTo M L k) ∧ Below w1.heap.size w1 wr) (fun i _ => qL - (intOf i).toNat)
        case atStart => exact ⟨0, rs, Nat.zero_le _, rfl, R, hid HNR.out, hb⟩
        case round =>
          obtain ⟨wo, rfl⟩ : ∃ wo : World, wo = wr := ⟨_, rfl⟩
          clear R HNR hb hsz g2
          obtain ⟨k, rs, hk, rfl, R, HNR, hb⟩ := hrel
          have hsz := hb.size
          by_cases hkl : k < qL
          · obtain ⟨pk, ln, h1, h2⟩ := HSA.out k (by omega)
            have RLw := RL.below hb (Nat.le_refl _)
            obtain ⟨gL, rfl, l1, l2, l3, l4⟩ := RLw.cellAt (by omega)
            have cL1 := l3 k hkl
            have hrowL := (RLw.row hkl).has
            have exL : (nthR rl k).xs = rowT L k := by rw [← HNL.out]; exact (numsOf_nth (by rw [RL.len]; exact hkl)).symm
            rw [exL] at cL1 hrowL
            obtain ⟨xs, hxs⟩ : ∃ xs, rowT L k = xs := ⟨_, rfl⟩
            rw [hxs] at pk ln h1 h2 cL1 hrowL
            obtain ⟨h8, lc, lh, hwb, hsmall, hhb, hA1⟩ := sp_walk pk ln
            have HX := hid hxs
            rw [ln] at cL1 hrowL
            clear l3 l4 exL hxs
            go_wp2_with fail
            refine (waOf_any _ _ _ _ _ hrowL (by omega)).mono ?_
            rintro e w3 ⟨ah, nh, ch, al, cl, rfl, oh, ol, ap, st⟩
            obtain rfl : N = nh := by have := ol.len; omega
            have hbA : Below w3.heap.size w3 (w3.alloc (.cells #[.slice ah N ch, .slice al N cl] 27)) := (Below.refl _ _).alloc (Nat.le_refl _) _
            have BX := boxAt_new w3 (.slice ah N ch) (.slice al N cl) 27
            go_wp2_with fail
            replace oh := oh.below hbA (Nat.le_refl _)
            replace ol := ol.below hbA (Nat.le_refl _)
            replace st := st.trans (hbA.mono st.size)
            generalize w3.alloc (.cells #[.slice ah N ch, .slice al N cl] 27) = V at *
            clear hbA
            generalize w3.heap.size = X at *
            have R5 := R.below st (Nat.le_refl _)
            have hb5 := hb.trans (st.mono hsz)
            obtain ⟨A, hA⟩ : ∃ A, spA xs = A := ⟨_, rfl⟩
            obtain ⟨Q, hQ⟩ : ∃ Q, spQ xs = Q := ⟨_, rfl⟩
            have hQ1 : (pairsL (hgtOf xs (carsL xs)) (carsL xs)).length = Q := hQ
            rw [hA] at h1 hA1
            rw [hQ] at h2
            have hNT := HTB.out k (by omega)
            have hrn : rowT (spTo M L k) A = (nthR rs A).xs := by rw [← HNR.out]; exact numsOf_nth (by rw [R5.len]; exact h1)
            obtain ⟨hrl, hrb⟩ := hNT.2 A h1
            obtain ⟨hx0, hx1'⟩ := hrb Q h2
            rw [hrn] at hrl hx0 hx1'
            have hx1 : nth (nthR rs A).xs Q ≤ 1000000 := by omega
            have HIN := hid (numsOf_inc (rs := rs) HNR.out (a := A) (b := Q) (by rw [R5.len]; exact h1))
            have HSS : Hid (spTo M L (k + 1) = incAt (spTo M L k) A Q) := hid (by rw [← hA, ← hQ, ← HX.out]; rfl)
            obtain ⟨gt', eg, u1, hgtb, u3, u4⟩ := R5.cellAt hM1
            obtain rfl : gtb = gt' := by injection eg with h; injection h
            have cH := u3 A h1
            have hrow := R5.row h1
            obtain ⟨gr, hra, v1, hgr, v3, v4⟩ := hrow.opened (by omega)
            have cR := v3 Q (by omega)
            have zR := v4 Q
            rw [hra, hrl] at cH
            obtain ⟨x, hx⟩ : ∃ x, nth (nthR rs A).xs Q = x := ⟨_, rfl⟩
            rw [hx] at cR hx0 hx1 HIN
            have R6 := fun w4 (st4 : Below V.heap.size V w4) => (R5.below st4 (Nat.le_refl _)).setIn h1 hra Q (x + 1)
            generalize (nthR rs A).c = cr at *
            replace cH : V.cell? ⟨gtb, 0 + A, none⟩ = some (.slice (some ⟨gr, 0, none⟩) M cr) := by rw [Nat.zero_add]; exact cH
            replace cR : V.cell? ⟨gr, 0 + Q, none⟩ = some (.int .i64 x) := by rw [Nat.zero_add]; exact cR
            replace zR : V.frozen? ⟨gr, 0 + Q, none⟩ = false := by rw [Nat.zero_add]; exact zR
            have hAM : (A : Int) < (M : Int) := by omega
            have hQM : (Q : Int) < (M : Int) := by omega
            have R7 := hid R6
            clear u3 u4 v3 v4 hrn hNT hrb hrl R6 eg
            refine wp_region_of (by kernel_rfl) (by kernel_rfl) ?_
            intro A0 hA
            have eT : A0.eval (.tmp 6) = .slice (some ⟨gtb, 0, none⟩) M c' := by rw [hA]; rfl
            have eX : A0.eval (.tmp 11) = .pointer (some ⟨X, 0, none⟩) := by rw [hA]; rfl
            have hsz : A0.tmps.size = 60 := by rw [hA]; rfl
            have LA := hid hA
            clear hA
            refine ⟨fun L x' w' => (L 13 = false ∧ ∃ T, x' = updW A0 spD T ∧ JSp V gtb M c' X ah N ch al N cl A Q gr cr x L T w') ∨ ((∀ j, j < 14 → L j = true) ∧ ∃ T, x' = updW A0 spD T ∧ ∃ w4, Below V.heap.size V w4 ∧ w' = w4.setCell ⟨gr, 0 + Q, none⟩ (.int .i64 (x + 1))), .inl ⟨rfl, _, updW_self.symm, JSp.start ((Below.refl _ _).drew)⟩, ?_, ?_⟩
            · rintro L x1 w2 (⟨h13, T, rfl, J⟩ | ⟨hall, _⟩) i o ho hi hd
              · have hi14 : i < 14 := (Array.getElem?_eq_some_iff.1 ho).1
                have gT := (updW_eval_ne (a0 := A0) (ds := spD) (T := T) (d := 6) (by decide)).trans eT
                have gX := (updW_eval_ne (a0 := A0) (ds := spD) (T := T) (d := 11) (by decide)).trans eX
                have gt : ∀ d, d ∈ spD → d < 60 → (updW A0 spD T).eval (.tmp d) = T d := fun d h1 h2 => updW_eval h1 (by rw [hsz]; exact h2)
                have kH := (J.bel.cell (p := ⟨gtb, 0 + A, none⟩) hgtb).trans cH
                have kR := (J.bel.cell (p := ⟨gr, 0 + Q, none⟩) hgr).trans cR
                have fR := (J.bel.frozen (p := ⟨gr, 0 + Q, none⟩) hgr).trans zR
                have BXw := BX.below J.bel (boxAt_lt BX)
                have ohw := (oh.below J.bel (Nat.le_refl _)).has
                have olw := (ol.below J.bel (Nat.le_refl _)).has
                clear LA eT eX hsz
                rcases (by omega : i = 0 ∨ i = 1 ∨ i = 2 ∨ i = 3 ∨ i = 4 ∨ i = 5 ∨ i = 6 ∨ i = 7 ∨ i = 8 ∨ i = 9 ∨ i = 10 ∨ i = 11 ∨ i = 12 ∨ i = 13) with rfl | rfl | rfl | rfl | rfl | rfl | rfl | rfl | rfl | rfl | rfl | rfl | rfl | rfl
                all_goals (simp only [List.getElem?_toArray, List.getElem?_cons_succ, List.getElem?_cons_zero, Option.some.injEq] at ho; subst ho)
                · exact op_pure rfl rfl _ (exS_move rfl gT) (.inl ⟨h13, _, updW_put _ (by decide), J.s0⟩)
                · exact op_pure rfl rfl _ (exS_fieldW rfl gX) (.inl ⟨h13, _, updW_put _ (by decide), J.s1⟩)
                · have d1 := hd ⟨1, .data⟩ (by simp) rfl
                  exact op_pure rfl rfl _ (exS_load rfl ((gt 46 (by decide) (by decide)).trans (J.p1 d1)) BXw.c0) (.inl ⟨h13, _, updW_put _ (by decide), J.s2⟩)
                · have d2 := hd ⟨2, .data⟩ (by simp) rfl
                  refine op_call rfl rfl 81 _ _ rfl (fun args => ent_paSum args) #[.slice ah N ch] (by simp [(gt 47 (by decide) (by decide)), J.p2 d2]) (paSum_any _ _ _ _ w2 ohw hsmall) ?_
                  rintro e w3 ⟨rfl, rfl⟩
                  exact ⟨.int .i64 (A : Int), congrArg (fun v => Ending.returned (Value.int .i64 v)) hA1, (.inl ⟨h13, _, updW_put _ (by decide), J.s3 (Below.refl _ _)⟩)⟩
                · have d0 := hd ⟨0, .data⟩ (by simp) rfl
                  have d3 := hd ⟨3, .data⟩ (by simp) rfl
                  exact op_pure rfl rfl _ (exS_at rfl ((gt 45 (by decide) (by decide)).trans (J.p0 d0)) ((gt 48 (by decide) (by decide)).trans (J.p3 d3)) hAM) (.inl ⟨h13, _, updW_put _ (by decide), J.s4⟩)
                · have d4 := hd ⟨4, .data⟩ (by simp) rfl
                  exact op_pure rfl rfl _ (exS_load rfl ((gt 49 (by decide) (by decide)).trans (J.p4 d4)) kH) (.inl ⟨h13, _, updW_put _ (by decide), J.s5⟩)
                · exact op_pure rfl rfl _ (exS_boxW rfl gX BXw) (.inl ⟨h13, _, updW_put _ (by decide), J.s6⟩)
                · have d6 := hd ⟨6, .data⟩ (by simp) rfl
                  refine op_call rfl rfl 67 _ _ rfl (fun args => ent_waPairs args) #[.agg #[.slice ah N ch, .slice al N cl]] (by simp [(gt 51 (by decide) (by decide)), J.p6 d6]) (waPairs_any _ _ _ _ _ _ _ w2 ohw olw h8 hhb) ?_
                  rintro e w3 ⟨a4, q4, c4, rs4, rfl, oR4, hn4, st4⟩
                  obtain rfl : q4 = Q := by
                    have h1 := oR4.len
                    have h2 := congrArg List.length hn4
                    have h3 : (numsOf rs4).length = rs4.length := by simp [numsOf]
                    omega
                  exact ⟨_, rfl, (.inl ⟨h13, _, updW_put _ (by decide), J.s7 st4⟩)⟩
                · have d7 := hd ⟨7, .data⟩ (by simp) rfl
                  obtain ⟨a4, c4, h7⟩ := J.p7 d7
                  exact op_pure rfl rfl _ (exS_len rfl ((gt 52 (by decide) (by decide)).trans h7)) (.inl ⟨h13, _, updW_put _ (by decide), J.s8⟩)
                · have d5 := hd ⟨5, .data⟩ (by simp) rfl
                  have d8 := hd ⟨8, .data⟩ (by simp) rfl
                  exact op_pure rfl rfl _ (exS_at1 rfl ((gt 50 (by decide) (by decide)).trans (J.p5 d5)) ((gt 53 (by decide) (by decide)).trans (J.p8 d8)) hQM) (.inl ⟨h13, _, updW_put _ (by decide), J.s9⟩)
                · have d9 := hd ⟨9, .data⟩ (by simp) rfl
                  exact op_pure rfl rfl _ (exS_loadI rfl ((gt 54 (by decide) (by decide)).trans (J.p9 d9)) kR) (.inl ⟨h13, _, updW_put _ (by decide), J.s10⟩)
                · have d10 := hd ⟨10, .data⟩ (by simp) rfl
                  exact op_pure rfl rfl _ (exS_add rfl ((gt 55 (by decide) (by decide)).trans (J.p10 d10)) rfl hx0 hx1) (.inl ⟨h13, _, updW_put _ (by decide), J.s11⟩)
                · have d5 := hd ⟨5, .data⟩ (by simp) rfl
                  have d8 := hd ⟨8, .data⟩ (by simp) rfl
                  exact op_pure rfl rfl _ (exS_at1 rfl ((gt 50 (by decide) (by decide)).trans (J.p5 d5)) ((gt 53 (by decide) (by decide)).trans (J.p8 d8)) hQM) (.inl ⟨h13, _, updW_put _ (by decide), J.s12⟩)
                · have d11 := hd ⟨11, .data⟩ (by simp) rfl
                  have d12 := hd ⟨12, .data⟩ (by simp) rfl
                  refine op_skip rfl rfl (exS_store rfl ((gt 57 (by decide) (by decide)).trans (J.p12 d12)) ((gt 56 (by decide) (by decide)).trans (J.p11 d11)) kR fR) (.inr ⟨fun j hj => ?_, T, rfl, w2, J.bel, rfl⟩)
                  rcases (by omega : j = 13 ∨ j = 0 ∨ j = 1 ∨ j = 2 ∨ j = 3 ∨ j = 4 ∨ j = 5 ∨ j = 6 ∨ j = 7 ∨ j = 8 ∨ j = 9 ∨ j = 10 ∨ j = 11 ∨ j = 12) with rfl | rfl | rfl | rfl | rfl | rfl | rfl | rfl | rfl | rfl | rfl | rfl | rfl | rfl
                  · rfl
                  · exact hd ⟨0, .phase⟩ (by simp) rfl
                  · exact hd ⟨1, .phase⟩ (by simp) rfl
                  · exact hd ⟨2, .phase⟩ (by simp) rfl
                  · exact hd ⟨3, .phase⟩ (by simp) rfl
                  · exact hd ⟨4, .phase⟩ (by simp) rfl
                  · exact hd ⟨5, .phase⟩ (by simp) rfl
                  · exact hd ⟨6, .phase⟩ (by simp) rfl
                  · exact hd ⟨7, .phase⟩ (by simp) rfl
                  · exact hd ⟨8, .phase⟩ (by simp) rfl
                  · exact hd ⟨9, .phase⟩ (by simp) rfl
                  · exact hd ⟨10, .phase⟩ (by simp) rfl
                  · exact hd ⟨11, .phase⟩ (by simp) rfl
                  · exact d12
              · exact absurd (hall i (Array.getElem?_eq_some_iff.1 ho).1) (by rw [hi]; decide)
            · rintro L x1 w2 (⟨h13, _⟩ | ⟨_, T, rfl, w4, st4, rfl⟩) hall
              · exact absurd (hall 13 (by decide)) (by rw [h13]; decide)
              · have hA := LA.out
                subst hA
                unfold updW spD
                simp only [List.foldl]
                rw [Nat.zero_add]
                have o6 := R7.out w4 st4
                have hb6 := (hb5.trans (st4.mono (by have := hb5.size; omega))).setCell (p := ⟨gr, Q, none⟩) (show w1.heap.size ≤ gr from v1) (.int .i64 (x + 1))
                go_wp2_with fail
                go_roundw
                case rel => exact ⟨k + 1, _, by omega, by go_num, o6, hid (by rw [HIN.out, HSS.out]), hb6⟩
                case measure => simp [intOf]; omega
          · obtain rfl : k = qL := by omega
            go_wp2_with fail
            go_ret2
            exact postRows HR.out (R.mono (by have := hb1.size; omega)) (by rw [HNR.out, hqL]) (hb1.trans (hb.mono hb1.size))
  · have HG := hid (Bool.eq_false_iff.2 hg)
    have HR : Hid (spreadOf n = ([], false)) := hid (by unfold spreadOf; rw [if_neg hg])
    clear hg
    go_enter Try.func42, Try.ntmps42
    go_wp2_with (go_at_call 78; refine (l1In_any _ _ _ _).mono ?_; rintro e w' ⟨rfl, rfl⟩; rw [HG.out])
    go_ret2
    exact postRows_no HR.out (Below.refl _ _)
end Go.Proofs.Ytakadjhbomggbaa

namespace Go.Proofs.Ytakadjhbomggbaa
open Go.RowKit

theorem OwnR.setOffR {w : World} {B g i n cap : Nat} {a : Option Addr} {rs : List Rw} (h : OwnR w B a n cap rs) (hg : g < B) (v : Value) : OwnR (w.setCell ⟨g, i, none⟩ v) B a n cap rs := by
  obtain ⟨⟨g1, g2⟩, h2, h3, h4, h5⟩ := h
  refine ⟨⟨g1, ?_⟩, h2, h3, fun j hj => (h4 j hj).setBelow hg v, h5⟩
  rcases g2 with g2 | ⟨g', cap', cur, hv', hgB, hh, r⟩
  · exact .inl g2
  · exact .inr ⟨g', cap', cur, hv', hgB, (Below.heap_setCell w ⟨g, i, none⟩ _ g' (show g' ≠ g by omega)).trans hh, r⟩
theorem numsOf_all {ss : List Rw} {M : Nat} {Z : List Int} (hl : ss.length = M) (h : ∀ j, j < M → (nthR ss j).xs = Z) : numsOf ss = List.replicate M Z := by
  apply List.ext_getElem?
  intro i
  by_cases hi : i < M
  · rw [show numsOf ss = ss.map Rw.xs from rfl, map_nthR _ (by omega), h i hi]
    simp [hi]
  · rw [List.getElem?_eq_none (by simp [numsOf]; omega), List.getElem?_eq_none (by simp; omega)]

set_option maxRecDepth 100000 in
set_option maxHeartbeats 8000000 in
theorem implSpread_any (n : Int) (w : World) : Calls Try.prog 43 #[.int .i64 n] w (PostRows w (spreadOf n)) := by
  by_cases hg : inB n 0 4 = true
  · obtain ⟨N, rfl⟩ : ∃ N : Nat, n = (N : Int) := ⟨n.toNat, by have := inB_iff.1 hg; omega⟩
    have hN : N < 5 := by have := inB_iff.1 hg; omega
    have HR : Hid (spreadOf (N : Int) = (spTo (spM N) (listL N N []) (listL N N []).length, true)) := hid (by unfold spreadOf; rw [if_pos hg]; simp)
    have HAL : Hid (allOf (N : Int) = (listL N N [], true)) := hid (by have : inB (N : Int) 0 5 = true := inB_iff.2 ⟨by omega, by omega⟩; simp [allOf, this])
    obtain ⟨-, hL125, hM7⟩ := sp_all N hN
    obtain ⟨K, q, e1, e2, e3, e4, k0, k3, q0, q6⟩ := sp_num hN
    have HSA := hid (fun k (hk : k < (listL N N []).length) => sp_at hN hk)
    have HTB := hid (fun k (hk : k ≤ (listL N N []).length) => spTo_b hN k hk)
    obtain ⟨M, hM⟩ : ∃ M, spM N = M := ⟨_, rfl⟩
    rw [hM] at e4 hM7 HR HSA HTB
    have hM1 : 1 ≤ M := by omega
    have HQ := hid e3
    have hw1 : IntKind.i64.wrap ((N : Int) - 1) = (N : Int) - 1 := by rw [IntKind.wrap_i64]; omega
    have hw2 : IntKind.i64.wrap (2 * q) = 2 * q := by rw [IntKind.wrap_i64]; omega
    have hd1 : (2 * q).tdiv 2 = q := by rw [Int.tdiv_eq_ediv_of_nonneg (by omega)]; omega
    have hw3 : IntKind.i64.wrap q = q := by rw [IntKind.wrap_i64]; omega
    have hw4 : IntKind.i64.wrap (q + 1) = (M : Int) := by rw [IntKind.wrap_i64]; omega
    have hn0 : ¬ (N : Int) < 0 := by omega
    have hn4 : ¬ (4 : Int) < (N : Int) := by omega
    have hn4' : ¬ 4 < N := by omega
    generalize listL N N [] = L at *
    clear hg hM e1 e2 e3 e4
    have hmul := HQ.out
    go_enter Try.func43, Try.ntmps43
    go_wp2_with (at_make; refine wpList_make_rowsN _ rfl _ _ rfl M (by first | (simp [Act.eval]; done) | rfl) (by first | (simp [Act.eval]; done) | rfl) (by omega) ?_; intro w1 o1 hb1)
    clear hmul
    go_loopw [29] (fun i wr => ∃ (k : Nat) (ss : List Rw), k ≤ M ∧ i = .int .i64 (k : Int) ∧ OwnR wr w.heap.size (some ⟨w.heap.size, 0, none⟩) M M ss ∧ Hid (∀ j, j < k → (nthR ss j).xs = List.replicate M 0) ∧ Hid (∀ j, k ≤ j → j < M → nthR ss j = ⟨none, 0, []⟩) ∧ Below w.heap.size w wr) (fun i _ => M - (intOf i).toNat)
    case atStart => exact ⟨0, _, Nat.zero_le _, rfl, o1, hid (fun j hj => by omega), hid (fun j _ hj => by simp [nthR, hj]), hb1⟩
    case round =>
      obtain ⟨k, ss, hk, rfl, o, HN, HE, hb⟩ := hrel
      clear o1 hb1
      by_cases hlt : k < M
      · have E := hid (HE.out k (Nat.le_refl _) hlt)
        have hkn : (k : Int) < (M : Int) := by omega
        have hw0 := hb.size
        have hrl := hid o.len
        go_wp2_with (at_make; refine wpList_make_ints _ rfl _ _ rfl M rfl rfl (by omega) ?_; intro a5 c5 w5 o5 hb5; obtain ⟨hf5, hc5⟩ := o.ready (k := k) (w1 := w5) hlt (by rw [E.out]; exact grown_none hb5))
        have hloc : Value.ownBlock (.slice a5 M c5) = Value.ownBlock (.slice (nthR ss k).a (nthR ss k).xs.length (nthR ss k).c) ∨ ∃ g', Value.ownBlock (.slice a5 M c5) = some g' ∧ wr.heap.size ≤ g' := by
          cases a5 with
          | none => left; rw [E.out]; rfl
          | some p => right; exact ⟨p.block, rfl, o5.ge _ rfl⟩
        obtain ⟨s1, s2⟩ := o.setRow (k := k) hlt (w1 := w5) (by rw [E.out]; exact grown_none hb5) (o5.mono hw0) hloc
        have hb6 := (hb.trans (hb5.mono hw0)).setCell (p := ⟨w.heap.size, k, none⟩) (Nat.le_refl _) (.slice a5 M c5)
        go_roundw
        case rel => exact ⟨k + 1, _, by omega, by go_num, s1, hid (fun j hj => by rw [nthR_setB (by rw [hrl.out]; exact hlt)]; split; rfl; exact HN.out j (by omega)), hid (fun j h1 h2 => by rw [nthR_setB (by rw [hrl.out]; exact hlt), if_neg (by omega)]; exact HE.out j (by omega) h2), hb6⟩
        case measure => simp [intOf]; omega
      · obtain rfl : M = k := by omega
        have HN0 := hid (numsOf_all o.len HN.out)
        have hlt0 := o.lt
        have HLT0 := hid (fun j (hj : j < M) => hlt0.2 j (by rw [o.len]; exact hj))
        clear HN HE hlt0
        go_wp2_with fail
        refine (allParking_any _ _).mono ?_
        rw [HAL.out]
        rintro e w2 ⟨aL, qL, cL, rl, rfl, RL, hnL, st0⟩
        replace hnL : numsOf rl = L := hnL
        have hqL : L.length = qL := by rw [← hnL]; simpa [numsOf] using RL.len
        have HNL := hid hnL
        have R0 := o.below st0 (Nat.le_refl _)
        have hb0 := hb.trans (st0.mono hb.size)
        have hs0 := st0.size
        obtain ⟨W2, hW2⟩ : ∃ W2, wr.heap.size = W2 := ⟨_, rfl⟩
        rw [hW2] at RL HLT0 hs0
        clear hnL st0 hb hW2 o
        go_wp2_with fail
        go_loopw [46] (fun i wr => ∃ (k : Nat) (rs : List Rw), k ≤ qL ∧ i = .int .i64 (k : Int) ∧ OwnR wr w.heap.size (some ⟨w.heap.size, 0, none⟩) M M rs ∧ Hid (numsOf rs = spTo M L k) ∧ Hid (∀ j, j < M → BlkLt (nthR rs j).a W2) ∧ OwnR wr W2 aL qL cL rl ∧ Below w.heap.size w wr ∧ W2 ≤ wr.heap.size) (fun i _ => qL - (intOf i).toNat)
        case atStart => exact ⟨0, ss, Nat.zero_le _, rfl, R0, hid HN0.out, HLT0, RL, hb0, hs0⟩
        case round =>
          obtain ⟨wo, rfl⟩ : ∃ wo : World, wo = wr := ⟨_, rfl⟩
          clear R0 HN0 HLT0 RL hb0 hs0
          obtain ⟨k, rs, hk, rfl, R, HNR, HLT, RL, hb, hsz2⟩ := hrel
          have hsz := hb.size
          by_cases hkl : k < qL
          · obtain ⟨pk, ln, h1, h2⟩ := HSA.out k (by omega)
            obtain ⟨gL, rfl, l1, l2, l3, l4⟩ := RL.cellAt (by omega)
            have cL1 := l3 k hkl
            have hrowL := (RL.row hkl).has
            have exL : (nthR rl k).xs = rowT L k := by rw [← HNL.out]; exact (numsOf_nth (by rw [RL.len]; exact hkl)).symm
            rw [exL] at cL1 hrowL
            obtain ⟨xs, hxs⟩ : ∃ xs, rowT L k = xs := ⟨_, rfl⟩
            rw [hxs] at pk ln h1 h2 cL1 hrowL
            obtain ⟨h8, lc, lh, hwb, hsmall, hhb, hA1⟩ := sp_walk pk ln
            have HX := hid hxs
            have HWO : Hid (walkOf xs = ((hgtOf xs (carsL xs), carsL xs), true)) := hid (by simp [walkOf, pk])
            have hwb' : walkB (hgtOf xs (carsL xs)) (carsL xs) = true := hwb
            rw [ln] at cL1 hrowL
            clear l3 l4 exL hxs
            go_wp2_with fail
            refine (implWalkOf_any _ _ _ _ _ hrowL).mono ?_
            rw [HWO.out]
            rintro e w3 ⟨ah, nh, ch, al, ml, cl, rfl, oh, ol, ap, st⟩
            obtain rfl : N = ml := by have h1 : (carsL xs).length = ml := ol.len; omega
            obtain rfl : N = nh := by have h1 : (hgtOf xs (carsL xs)).length = nh := oh.len; have h2 : (spH xs).length = (hgtOf xs (carsL xs)).length := rfl; omega
            replace oh : Own w3 wo.heap.size ah N ch (hgtOf xs (carsL xs)) := oh
            replace ol : Own w3 wo.heap.size al N cl (carsL xs) := ol
            have hbA : Below w3.heap.size w3 (w3.alloc (.cells #[.slice ah N ch, .slice al N cl] 27)) := (Below.refl _ _).alloc (Nat.le_refl _) _
            have BW := boxAt_new w3 (.slice ah N ch) (.slice al N cl) 27
            obtain ⟨y1, y2, y3, y4⟩ := id BW
            go_wp2_with fail
            clear y1 y2 y3 y4
            replace oh := oh.below hbA (Nat.le_refl _)
            replace ol := ol.below hbA (Nat.le_refl _)
            replace st := st.trans (hbA.mono st.size)
            generalize w3.alloc (.cells #[.slice ah N ch, .slice al N cl] 27) = V1 at *
            clear hbA BW
            refine (rowsOf_any _ _ _ _ _ _ _ _ _ oh.has ol.has).mono ?_
            rintro e V2 ⟨hcase, st2⟩
            rcases hcase with ⟨_, rfl⟩ | ⟨hno, _⟩
            rotate_left
            · rw [hwb'] at hno; cases hno
            replace oh := oh.below st2 (Nat.le_refl _)
            replace ol := ol.below st2 (Nat.le_refl _)
            replace st := st.trans (st2.mono st.size)
            clear st2
            have hbA : Below V2.heap.size V2 (V2.alloc (.cells #[.slice ah N ch, .slice al N cl] 64)) := (Below.refl _ _).alloc (Nat.le_refl _) _
            have BX := boxAt_new V2 (.slice ah N ch) (.slice al N cl) 64
            go_wp2_with fail
            replace oh := oh.below hbA (Nat.le_refl _)
            replace ol := ol.below hbA (Nat.le_refl _)
            replace st := st.trans (hbA.mono st.size)
            generalize V2.alloc (.cells #[.slice ah N ch, .slice al N cl] 64) = V at *
            clear hbA
            generalize V2.heap.size = X at *
            have R5 := R.below st (Nat.le_refl _)
            have hb5 := hb.trans (st.mono hb.size)
            have RL5 := RL.below st (Nat.le_refl _)
            obtain ⟨A, hA⟩ : ∃ A, spA xs = A := ⟨_, rfl⟩
            obtain ⟨Q, hQ⟩ : ∃ Q, spQ xs = Q := ⟨_, rfl⟩
            have hQ1 : (pairsL (hgtOf xs (carsL xs)) (carsL xs)).length = Q := hQ
            rw [hA] at h1 hA1
            rw [hQ] at h2
            have hNT := HTB.out k (by omega)
            have hrn : rowT (spTo M L k) A = (nthR rs A).xs := by rw [← HNR.out]; exact numsOf_nth (by rw [R5.len]; exact h1)
            obtain ⟨hrl, hrb⟩ := hNT.2 A h1
            obtain ⟨hx0, hx1'⟩ := hrb Q h2
            rw [hrn] at hrl hx0 hx1'
            have hx1 : nth (nthR rs A).xs Q ≤ 1000000 := by omega
            have HIN := hid (numsOf_inc (rs := rs) HNR.out (a := A) (b := Q) (by rw [R5.len]; exact h1))
            have HSS : Hid (spTo M L (k + 1) = incAt (spTo M L k) A Q) := hid (by rw [← hA, ← hQ, ← HX.out]; rfl)
            obtain ⟨gt', eg, u1, hgtb, u3, u4⟩ := R5.cellAt hM1
            obtain rfl : w.heap.size = gt' := by injection eg with h; injection h
            have cH := u3 A h1
            have hrow := R5.row h1
            obtain ⟨gr, hra, v1, hgr, v3, v4⟩ := hrow.opened (by omega)
            have cR := v3 Q (by omega)
            have zR := v4 Q
            rw [hra, hrl] at cH
            obtain ⟨x, hx⟩ : ∃ x, nth (nthR rs A).xs Q = x := ⟨_, rfl⟩
            rw [hx] at cR hx0 hx1 HIN
            have R6 := fun w4 (st4 : Below V.heap.size V w4) => (R5.below st4 (Nat.le_refl _)).setIn h1 hra Q (x + 1)
            generalize (nthR rs A).c = cr at *
            replace cH : V.cell? ⟨w.heap.size, 0 + A, none⟩ = some (.slice (some ⟨gr, 0, none⟩) M cr) := by rw [Nat.zero_add]; exact cH
            replace cR : V.cell? ⟨gr, 0 + Q, none⟩ = some (.int .i64 x) := by rw [Nat.zero_add]; exact cR
            replace zR : V.frozen? ⟨gr, 0 + Q, none⟩ = false := by rw [Nat.zero_add]; exact zR
            have hAM : (A : Int) < (M : Int) := by omega
            have hQM : (Q : Int) < (M : Int) := by omega
            have R7 := hid R6
            have hgrW : gr < W2 := by have := HLT.out A h1 _ hra; simpa using this
            have HLT2 := hid (fun j (hj : j < M) => (show BlkLt (nthR (rs.set A ⟨(nthR rs A).a, cr, (nthR rs A).xs.set Q (x + 1)⟩) j).a W2 from by
              rw [nthR_setB (by rw [R.len]; exact h1)]
              split
              · exact HLT.out A h1
              · exact HLT.out j hj))
            clear u3 u4 v3 v4 hrn hNT hrb hrl R6 eg
            refine wp_region_of (by kernel_rfl) (by kernel_rfl) ?_
            intro A0 hA
            have eT : A0.eval (.tmp 4) = .slice (some ⟨w.heap.size, 0, none⟩) M M := by rw [hA]; rfl
            have eX : A0.eval (.tmp 12) = .pointer (some ⟨X, 0, none⟩) := by rw [hA]; rfl
            have hsz : A0.tmps.size = 75 := by rw [hA]; rfl
            have LA := hid hA
            clear hA
            refine ⟨fun L x' w' => (L 13 = false ∧ ∃ T, x' = updW A0 imD T ∧ JIm V w.heap.size M M X ah N ch al N cl A Q gr cr x L T w') ∨ ((∀ j, j < 14 → L j = true) ∧ ∃ T, x' = updW A0 imD T ∧ ∃ w4, Below V.heap.size V w4 ∧ w' = w4.setCell ⟨gr, 0 + Q, none⟩ (.int .i64 (x + 1))), .inl ⟨rfl, _, updW_self.symm, JIm.start ((Below.refl _ _).drew)⟩, ?_, ?_⟩
            · rintro L x1 w2 (⟨h13, T, rfl, J⟩ | ⟨hall, _⟩) i o ho hi hd
              · have hi14 : i < 14 := (Array.getElem?_eq_some_iff.1 ho).1
                have gT := (updW_eval_ne (a0 := A0) (ds := imD) (T := T) (d := 4) (by decide)).trans eT
                have gX := (updW_eval_ne (a0 := A0) (ds := imD) (T := T) (d := 12) (by decide)).trans eX
                have gt : ∀ d, d ∈ imD → d < 75 → (updW A0 imD T).eval (.tmp d) = T d := fun d h1 h2 => updW_eval h1 (by rw [hsz]; exact h2)
                have kH := (J.bel.cell (p := ⟨w.heap.size, 0 + A, none⟩) hgtb).trans cH
                have kR := (J.bel.cell (p := ⟨gr, 0 + Q, none⟩) hgr).trans cR
                have fR := (J.bel.frozen (p := ⟨gr, 0 + Q, none⟩) hgr).trans zR
                have BXw := BX.below J.bel (boxAt_lt BX)
                have ohw := (oh.below J.bel (Nat.le_refl _)).has
                have olw := (ol.below J.bel (Nat.le_refl _)).has
                clear LA eT eX hsz
                rcases (by omega : i = 0 ∨ i = 1 ∨ i = 2 ∨ i = 3 ∨ i = 4 ∨ i = 5 ∨ i = 6 ∨ i = 7 ∨ i = 8 ∨ i = 9 ∨ i = 10 ∨ i = 11 ∨ i = 12 ∨ i = 13) with rfl | rfl | rfl | rfl | rfl | rfl | rfl | rfl | rfl | rfl | rfl | rfl | rfl | rfl
                all_goals (simp only [List.getElem?_toArray, List.getElem?_cons_succ, List.getElem?_cons_zero, Option.some.injEq] at ho; subst ho)
                · exact op_pure rfl rfl _ (exS_move rfl gT) (.inl ⟨h13, _, updW_put _ (by decide), J.s0⟩)
                · exact op_pure rfl rfl _ (exS_fieldR rfl gX) (.inl ⟨h13, _, updW_put _ (by decide), J.s1⟩)
                · have d1 := hd ⟨1, .data⟩ (by simp) rfl
                  exact op_pure rfl rfl _ (exS_loadH rfl ((gt 61 (by decide) (by decide)).trans (J.p1 d1)) BXw.c0) (.inl ⟨h13, _, updW_put _ (by decide), J.s2⟩)
                · have d2 := hd ⟨2, .data⟩ (by simp) rfl
                  refine op_call rfl rfl 62 _ _ rfl (fun args => ent_area args) #[.slice ah N ch] (by simp [(gt 62 (by decide) (by decide)), J.p2 d2]) (area_any _ _ _ _ w2 ohw hsmall) ?_
                  rintro e w3 ⟨rfl, rfl⟩
                  exact ⟨.int .i64 (A : Int), congrArg (fun v => Ending.returned (Value.int .i64 v)) hA1, (.inl ⟨h13, _, updW_put _ (by decide), J.s3 (Below.refl _ _)⟩)⟩
                · have d0 := hd ⟨0, .data⟩ (by simp) rfl
                  have d3 := hd ⟨3, .data⟩ (by simp) rfl
                  exact op_pure rfl rfl _ (exS_at rfl ((gt 60 (by decide) (by decide)).trans (J.p0 d0)) ((gt 63 (by decide) (by decide)).trans (J.p3 d3)) hAM) (.inl ⟨h13, _, updW_put _ (by decide), J.s4⟩)
                · have d4 := hd ⟨4, .data⟩ (by simp) rfl
                  exact op_pure rfl rfl _ (exS_load rfl ((gt 64 (by decide) (by decide)).trans (J.p4 d4)) kH) (.inl ⟨h13, _, updW_put _ (by decide), J.s5⟩)
                · exact op_pure rfl rfl _ (exS_boxR rfl gX BXw) (.inl ⟨h13, _, updW_put _ (by decide), J.s6⟩)
                · have d6 := hd ⟨6, .data⟩ (by simp) rfl
                  refine op_call rfl rfl 66 _ _ rfl (fun args => ent_pairs args) #[.agg #[.slice ah N ch, .slice al N cl]] (by simp [(gt 66 (by decide) (by decide)), J.p6 d6]) (pairs_any _ _ _ _ _ _ _ w2 ohw olw h8 hhb) ?_
                  rintro e w3 ⟨a4, q4, c4, rs4, rfl, oR4, hn4, st4⟩
                  obtain rfl : q4 = Q := by
                    have h1 := oR4.len
                    have h2 := congrArg List.length hn4
                    have h3 : (numsOf rs4).length = rs4.length := by simp [numsOf]
                    omega
                  exact ⟨_, rfl, (.inl ⟨h13, _, updW_put _ (by decide), J.s7 st4⟩)⟩
                · have d7 := hd ⟨7, .data⟩ (by simp) rfl
                  obtain ⟨a4, c4, h7⟩ := J.p7 d7
                  exact op_pure rfl rfl _ (exS_len rfl ((gt 67 (by decide) (by decide)).trans h7)) (.inl ⟨h13, _, updW_put _ (by decide), J.s8⟩)
                · have d5 := hd ⟨5, .data⟩ (by simp) rfl
                  have d8 := hd ⟨8, .data⟩ (by simp) rfl
                  exact op_pure rfl rfl _ (exS_at1 rfl ((gt 65 (by decide) (by decide)).trans (J.p5 d5)) ((gt 68 (by decide) (by decide)).trans (J.p8 d8)) hQM) (.inl ⟨h13, _, updW_put _ (by decide), J.s9⟩)
                · have d9 := hd ⟨9, .data⟩ (by simp) rfl
                  exact op_pure rfl rfl _ (exS_loadI rfl ((gt 69 (by decide) (by decide)).trans (J.p9 d9)) kR) (.inl ⟨h13, _, updW_put _ (by decide), J.s10⟩)
                · have d10 := hd ⟨10, .data⟩ (by simp) rfl
                  exact op_pure rfl rfl _ (exS_add rfl ((gt 70 (by decide) (by decide)).trans (J.p10 d10)) rfl hx0 hx1) (.inl ⟨h13, _, updW_put _ (by decide), J.s11⟩)
                · have d5 := hd ⟨5, .data⟩ (by simp) rfl
                  have d8 := hd ⟨8, .data⟩ (by simp) rfl
                  exact op_pure rfl rfl _ (exS_at1 rfl ((gt 65 (by decide) (by decide)).trans (J.p5 d5)) ((gt 68 (by decide) (by decide)).trans (J.p8 d8)) hQM) (.inl ⟨h13, _, updW_put _ (by decide), J.s12⟩)
                · have d11 := hd ⟨11, .data⟩ (by simp) rfl
                  have d12 := hd ⟨12, .data⟩ (by simp) rfl
                  refine op_skip rfl rfl (exS_store rfl ((gt 72 (by decide) (by decide)).trans (J.p12 d12)) ((gt 71 (by decide) (by decide)).trans (J.p11 d11)) kR fR) (.inr ⟨fun j hj => ?_, T, rfl, w2, J.bel, rfl⟩)
                  rcases (by omega : j = 13 ∨ j = 0 ∨ j = 1 ∨ j = 2 ∨ j = 3 ∨ j = 4 ∨ j = 5 ∨ j = 6 ∨ j = 7 ∨ j = 8 ∨ j = 9 ∨ j = 10 ∨ j = 11 ∨ j = 12) with rfl | rfl | rfl | rfl | rfl | rfl | rfl | rfl | rfl | rfl | rfl | rfl | rfl | rfl
                  · rfl
                  · exact hd ⟨0, .phase⟩ (by simp) rfl
                  · exact hd ⟨1, .phase⟩ (by simp) rfl
                  · exact hd ⟨2, .phase⟩ (by simp) rfl
                  · exact hd ⟨3, .phase⟩ (by simp) rfl
                  · exact hd ⟨4, .phase⟩ (by simp) rfl
                  · exact hd ⟨5, .phase⟩ (by simp) rfl
                  · exact hd ⟨6, .phase⟩ (by simp) rfl
                  · exact hd ⟨7, .phase⟩ (by simp) rfl
                  · exact hd ⟨8, .phase⟩ (by simp) rfl
                  · exact hd ⟨9, .phase⟩ (by simp) rfl
                  · exact hd ⟨10, .phase⟩ (by simp) rfl
                  · exact hd ⟨11, .phase⟩ (by simp) rfl
                  · exact d12
              · exact absurd (hall i (Array.getElem?_eq_some_iff.1 ho).1) (by rw [hi]; decide)
            · rintro L x1 w2 (⟨h13, _⟩ | ⟨_, T, rfl, w4, st4, rfl⟩) hall
              · exact absurd (hall 13 (by decide)) (by rw [h13]; decide)
              · have hA := LA.out
                subst hA
                unfold updW imD
                simp only [List.foldl]
                rw [Nat.zero_add]
                have o6 := R7.out w4 st4
                have RL6 := (RL5.below st4 (Nat.le_refl _)).setOffR hgrW (i := Q) (.int .i64 (x + 1))
                have hb6 := (hb5.trans (st4.mono (by have := hb5.size; omega))).setCell (p := ⟨gr, Q, none⟩) (show w.heap.size ≤ gr from v1) (.int .i64 (x + 1))
                have hs6 : W2 ≤ (w4.setCell ⟨gr, Q, none⟩ (.int .i64 (x + 1))).heap.size := by have := st.size; have := st4.size; simp; omega
                go_wp2_with fail
                go_roundw
                case rel => exact ⟨k + 1, _, by omega, by go_num, o6, hid (by rw [HIN.out, HSS.out]), HLT2, RL6, hb6, hs6⟩
                case measure => simp [intOf]; omega
          · obtain rfl : k = qL := by omega
            go_wp2_with fail
            go_ret2
            exact postRows HR.out R (by rw [HNR.out, hqL]) hb
  · have HR : Hid (spreadOf n = ([], false)) := hid (by unfold spreadOf; rw [if_neg hg])
    by_cases h0 : n < 0
    · go_enter Try.func43, Try.ntmps43
      go_wp2_with fail
      go_ret2
      exact postRows_no HR.out (Below.refl _ _)
    · have h4 : 4 < n := by
        apply Classical.byContradiction
        intro h4
        exact hg (inB_iff.2 ⟨by omega, by omega⟩)
      go_enter Try.func43, Try.ntmps43
      go_wp2_with fail
      go_ret2
      exact postRows_no HR.out (Below.refl _ _)
end Go.Proofs.Ytakadjhbomggbaa

