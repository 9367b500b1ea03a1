/- Chapter 4: a text as a walk, by the model. -/
import Derived.Test.YtakadjhbomggbabDoorHelp2
import Derived.Test.YtakadjhbomggbabDoorImplWk
import Derived.Test.YtakadjhbomggbabDoorSpecC
import Derived.Test.YtakadjhbomggbabDoorImplC
import Derived.Test.YtakadjhbomggbabDoorSpecO
import Derived.Test.YtakadjhbomggbabDoorSpecS
import Derived.Test.YtakadjhbomggbabDoorMathPu
import Derived.Deep.LoopGhost
import Derived.Test.YtakadjhbomggbabDoorSpecTr
import Derived.Test.YtakadjhbomggbabDoorMathNr
import Derived.Test.YtakadjhbomggbabDoorMathBe
import Derived.Test.YtakadjhbomggbabDoorShelf
import Derived.Test.YtakadjhbomggbabDoorLawKit
import Derived.Sort.OwnSortedInts
import Derived.Test.YtakadjhbomggbabDoorRows2
import Derived.Test.YtakadjhbomggbabDoorMathPw
import Derived.Test.YtakadjhbomggbabDoorImplPa
import Derived.Test.YtakadjhbomggbabDoorWkX
import Derived.Test.YtakadjhbomggbabDoorWkY
import Derived.Test.YtakadjhbomggbabDoorJpw
namespace Go.Proofs.YtakadjhbomggbabDoor
open Go.RowKit

/-- Rows handed back. -/
def RowsRet (w : World) (ls : List (List Int)) (e : Ending) (w' : World) : Prop := ∃ a q cap rs, e = .returned (.slice a q cap) ∧ OwnR w' w.heap.size a q cap rs ∧ numsOf rs = ls ∧ Below w.heap.size w w'
theorem own_lit2 (w : World) (B : Nat) (x y : Int) (hB : B ≤ w.heap.size) : Own (w.alloc (.cells #[.int .i64 x, .int .i64 y] 3)) B (some ⟨w.heap.size, 0, none⟩) 2 2 [x, y] :=
  ⟨World.ownsRow_lit w #[.int .i64 x, .int .i64 y] 2 hB (by unfold maxLen; omega) (by simp), by simp⟩
end Go.Proofs.YtakadjhbomggbabDoor

namespace Go.Proofs.YtakadjhbomggbabDoor
open Go.RowKit

theorem pair_yes1 {hs ls : List Int} {i j : Nat} (h1 : nth hs i = nth hs j) (h2 : nth ls i < nth ls j) : pairB hs ls i j = true := by simp [pairB, h1, h2]
theorem pair_no1 {hs ls : List Int} {i j : Nat} (h1 : nth hs i = nth hs j) (h2 : ¬ nth ls i < nth ls j) : pairB hs ls i j = false := by
  simp only [pairB, h1, decide_true, Bool.true_and, decide_eq_false h2, Bool.false_or, Bool.and_eq_false_iff, decide_eq_false_iff_not]
  left; omega
theorem pair_yes2 {hs ls : List Int} {i j : Nat} (h1 : nth hs i = nth hs j + 1) (h2 : nth ls j < nth ls i) : pairB hs ls i j = true := by simp [pairB, h1, h2]
theorem pair_no2 {hs ls : List Int} {i j : Nat} (h1 : nth hs i = nth hs j + 1) (h2 : ¬ nth ls j < nth ls i) : pairB hs ls i j = false := by
  have : ¬ nth hs i = nth hs j := by omega
  simp [pairB, this, h2]
theorem pair_no3 {hs ls : List Int} {i j : Nat} (h1 : ¬ nth hs i = nth hs j) (h2 : ¬ nth hs i = nth hs j + 1) : pairB hs ls i j = false := by simp [pairB, h1, h2]
theorem prow_yes {hs ls : List Int} {i c : Nat} (h : pairB hs ls i (i + 1 + c) = true) : pairRow hs ls i (c + 1) = pairRow hs ls i c ++ [[(i : Int), ((i + 1 + c : Nat) : Int)]] := by rw [pairRow_succ, if_pos h]
theorem prow_no {hs ls : List Int} {i c : Nat} (h : pairB hs ls i (i + 1 + c) = false) : pairRow hs ls i (c + 1) = pairRow hs ls i c := by rw [pairRow_succ, if_neg (by rw [h]; decide), List.append_nil]

end Go.Proofs.YtakadjhbomggbabDoor

namespace Go.Proofs.YtakadjhbomggbabDoor
open Go.RowKit

/-- The first k numbers are the starts. -/
def StAt (hs ys : List Int) (k : Nat) : Prop := ∀ i, i < k → nth ys i = (i : Int) - nth hs i
theorem st_all {hs ys : List Int} {n : Nat} (h : StAt hs ys n) (hl : ys.length = n) : ys = startsTo hs n := ext_nth (by rw [hl, length_startsTo]) fun i hi => by rw [h i (by omega), nth_startsTo (by omega)]
theorem st_step {hs ys : List Int} {k n : Nat} (h : StAt hs ys k) (hl : ys.length = n) (hk : k < n) : StAt hs (ys.set k ((k : Int) - nth hs k)) (k + 1) := fun i hi => by
  rw [nth_set (by omega)]
  split
  · subst_vars; rfl
  · exact h i (by omega)

theorem powTo_step {hs ls : List Int} {k u : Nat} (hu : nth ls k = (u : Int)) : powTo hs ls (k + 1) = (powTo hs ls k).set u ((k : Int) - nth hs k) := by simp only [powTo]; rw [hu, Int.toNat_natCast]
theorem pow_zero {hs ls : List Int} {n : Nat} (hl : ls.length = n) : powTo hs ls 0 = List.replicate n 0 := by subst hl; rfl

end Go.Proofs.YtakadjhbomggbabDoor

namespace Go.Proofs.YtakadjhbomggbabDoor
open Go.RowKit


theorem run_up {hs : List Int} {k : Nat} (h : nth hs (k + 1) = nth hs k + 1) : runAt hs (k + 1 + 1) = runAt hs (k + 1) + 1 := by simp [runAt, raisedB, h]
theorem run_flat {hs : List Int} {k : Nat} (h : ¬ nth hs (k + 1) = nth hs k + 1) : runAt hs (k + 1 + 1) = 1 := by simp [runAt, raisedB, h]
theorem run_one (hs : List Int) : runAt hs 1 = 1 := by simp [runAt, raisedB]
theorem cl_step (hs : List Int) (k : Nat) {r : Int} (h : runAt hs (k + 1) = r) : clTo hs (k + 1) = clTo hs k * ((k : Int) + 1) / r := by simp only [clTo]; rw [h]

theorem bnext_loop {hs : List Int} {n k i : Nat} (hl : hs.length = n) (hk : k ≤ i) (hi : i < n) : below (((startsL hs).drop k).take (i + 1 - k)) ((k : Int) + 1) = below (((startsL hs).drop k).take (i - k)) ((k : Int) + 1) + if (i : Int) - nth hs i ≤ (k : Int) then 1 else 0 := by
  subst hl
  have hlen : (startsL hs).length = hs.length := by unfold startsL; rw [length_startsTo]
  rw [show i + 1 - k = (i - k) + 1 by omega, below_succ (by rw [List.length_drop, hlen]; omega)]
  have e : nth ((startsL hs).drop k) (i - k) = (i : Int) - nth hs i := by
    have : nth ((startsL hs).drop k) (i - k) = nth (startsL hs) (k + (i - k)) := by simp [nth]
    rw [this, show k + (i - k) = i by omega]
    exact nth_startsTo hi
  rw [e]
  by_cases h : (i : Int) - nth hs i ≤ (k : Int)
  · rw [if_pos h, if_pos (by omega)]
  · rw [if_neg h, if_neg (by omega)]
theorem bnext_full {hs : List Int} {n k : Nat} (hl : hs.length = n) : k + below (((startsL hs).drop k).take (n - k)) ((k : Int) + 1) = bnext hs k := by
  subst hl
  unfold bnext
  rw [List.take_of_length_le]
  rw [List.length_drop]
  unfold startsL
  rw [length_startsTo]
  exact Nat.le_refl _
theorem bnext_facts {hs : List Int} {n k : Nat} (hg : hgtB hs = true) (hl : hs.length = n) (hk : k < n) : k < bnext hs k ∧ bnext hs k ≤ n := by
  subst hl
  exact ⟨bnext_gt hg hk, bnext_le (by omega)⟩
theorem bnc_step {hs : List Int} {n f k : Nat} (hl : hs.length = n) (hk : k < n) : bncF hs (f + 1) k = (n - bnext hs k) + bncF hs f (bnext hs k) := by subst hl; exact bncF_step hk
theorem bnc_end {hs : List Int} {n f k : Nat} (hl : hs.length = n) (hk : ¬ k < n) : bncF hs f k = 0 := by subst hl; exact bncF_end hk
theorem bounce_le {hs : List Int} {n : Nat} (hl : hs.length = n) (h8 : n ≤ 8) : bncF hs n 0 ≤ 64 := by
  have := bncF_le (hs := hs) (by omega) n 0
  omega

end Go.Proofs.YtakadjhbomggbabDoor

namespace Go.Proofs.YtakadjhbomggbabDoor
open Go.RowKit

theorem own_lit1 (w : World) (B : Nat) (x : Int) (hB : B ≤ w.heap.size) : Own (w.alloc (.cells #[.int .i64 x] 3)) B (some ⟨w.heap.size, 0, none⟩) 1 1 [x] :=
  ⟨World.ownsRow_lit w #[.int .i64 x] 1 hB (by unfold maxLen; omega) (by simp), by simp⟩

end Go.Proofs.YtakadjhbomggbabDoor

namespace Go.Proofs.YtakadjhbomggbabDoor
open Go.RowKit

end Go.Proofs.YtakadjhbomggbabDoor

namespace Go.Proofs.YtakadjhbomggbabDoor
open Go.RowKit

def brOf (xs : List Int) : List Int × Bool := if treeB xs then (brOrder xs, true) else ([], false)
def tpOf (xs : List Int) : List Int × Bool := if isPark xs then (tpL xs, true) else ([], false)
def potOf (xs : List Int) : List Int × Bool := if treeB xs then (potL xs, true) else ([], false)
def degOf (xs : List Int) : List Int × Bool := if treeB xs then (degL xs, true) else ([], false)
def leavesOf (xs : List Int) : List Int × Bool := if treeB xs then (leavesL xs, true) else ([], false)

/-- What lies in a block below K is left in peace. -/
theorem own_kept {w w' : World} {B K g n cap : Nat} {xs : List Int} (h : Own w B (some ⟨g, 0, none⟩) n cap xs) (hb : Below K w w') (hg : g < K) : Own w' B (some ⟨g, 0, none⟩) n cap xs := by
  obtain ⟨⟨h1, h2⟩, h3⟩ := h
  refine ⟨⟨h1, ?_⟩, h3⟩
  rcases h2 with h2 | ⟨g', cap', cur, hv, hg', hh, r⟩
  · exact .inl h2
  · have hv' := hv
    simp at hv'
    obtain ⟨rfl, _⟩ := hv'
    exact .inr ⟨g, cap', cur, hv, hg', by rw [hb.block g hg]; exact hh, r⟩

end Go.Proofs.YtakadjhbomggbabDoor

namespace Go.Proofs.YtakadjhbomggbabDoor
open Go.RowKit

theorem degL_succ {xs : List Int} {v : Nat} (h : v ≤ xs.length) : (degL xs).take (v + 1) = (degL xs).take v ++ [(deg xs v : Int)] := by
  rw [take_succ_nth (by rw [length_degL]; omega), nth_degL h]
theorem deg_le {xs : List Int} (v : Nat) (h : xs.length ≤ 8) : deg xs v ≤ 9 := by
  unfold deg
  have : xs.count (v : Int) ≤ xs.length := List.count_le_length
  split <;> omega

theorem leaves_nth {xs : List Int} {k : Nat} (h : k < xs.length) : nth (List.drop 1 (degL xs)) k = (deg xs (k + 1) : Int) := by
  rw [nth_dropP, Nat.add_comm, nth_degL (by omega)]

end Go.Proofs.YtakadjhbomggbabDoor

namespace Go.Proofs.YtakadjhbomggbabDoor
open Go.RowKit

def depL (xs : List Int) : List Int := (List.range xs.length).map fun (i : Nat) => (dep xs ((i : Int) + 1) : Int)
def depOf (xs : List Int) : List Int × Bool := if treeB xs then (depL xs, true) else ([], false)
theorem length_depL (xs : List Int) : (depL xs).length = xs.length := by simp [depL]
theorem nth_depL {xs : List Int} {i : Nat} (h : i < xs.length) : nth (depL xs) i = (dep xs ((i : Int) + 1) : Int) := by simp [nth, depL, h]
theorem depL_succ {xs : List Int} {k : Nat} (h : k < xs.length) : (depL xs).take (k + 1) = (depL xs).take k ++ [(dep xs ((k : Int) + 1) : Int)] := by
  rw [take_succ_nth (by rw [length_depL]; exact h), nth_depL h]
theorem length_abv (xs : List Int) (v : Int) : (abv xs v).length = dep xs v := by simp [abv, length_upTo]

theorem nth_upTo {xs : List Int} {v : Int} {k j : Nat} (h : j < k) : nth (upTo xs v k) j = up xs v (j + 1) := by simp [nth, upTo, h]
theorem nth_abv {xs : List Int} {v : Int} {j : Nat} (h : j < dep xs v) : nth (abv xs v) j = up xs v (j + 1) := nth_upTo h

end Go.Proofs.YtakadjhbomggbabDoor

namespace Go.Proofs.YtakadjhbomggbabDoor
open Go.RowKit

end Go.Proofs.YtakadjhbomggbabDoor

namespace Go.Proofs.YtakadjhbomggbabDoor
open Go.RowKit

theorem run_up2 {hs : List Int} {k : Nat} (h0 : 0 < k) (h : nth hs k = nth hs (k - 1) + 1) : runAt hs (k + 1) = runAt hs k + 1 := by simp [runAt, raisedB, h, h0]
theorem run_flat2 {hs : List Int} {k : Nat} (_h0 : 0 < k) (h : ¬ nth hs k = nth hs (k - 1) + 1) : runAt hs (k + 1) = 1 := by simp [runAt, raisedB, h]

/-- A walk and a bool. -/
def PostWalk (w : World) (r : (List Int × List Int) × Bool) (e : Ending) (w' : World) : Prop :=
  ∃ a n c b m d, e = .returned (.tuple #[.agg #[.slice a n c, .slice b m d], .bool r.2]) ∧ Own w' w.heap.size a n c r.1.1 ∧ Own w' w.heap.size b m d r.1.2 ∧ Apart2 a b ∧ Below w.heap.size w w'
theorem postWalk {w w' : World} {r : (List Int × List Int) × Bool} {xs ys : List Int} {ok : Bool} {a b : Option Addr} {n c m d : Nat} (hr : r = ((xs, ys), ok)) (h : Own w' w.heap.size a n c xs) (h' : Own w' w.heap.size b m d ys) (hap : Apart2 a b) (hb : Below w.heap.size w w') :
    PostWalk w r (.returned (.tuple #[.agg #[.slice a n c, .slice b m d], .bool ok])) w' := by subst hr; exact ⟨_, _, _, _, _, _, rfl, h, h', hap, hb⟩
theorem postWalk_no {w w' : World} {r : (List Int × List Int) × Bool} (hr : r = (([], []), false)) (hb : Below w.heap.size w w') : PostWalk w r (.returned (.tuple #[.agg #[.slice none 0 0, .slice none 0 0], .bool false])) w' :=
  postWalk hr (Own.nil _ _) (Own.nil _ _) (apart_none _) hb

/-- The first k numbers are their indices. -/
def IxAt (ys : List Int) (k : Nat) : Prop := ∀ i, i < k → nth ys i = (i : Int)
theorem ix_all {ys : List Int} {n : Nat} (h : IxAt ys n) (hl : ys.length = n) : ys = upto n := ext_nth (by rw [hl, length_upto]) fun i hi => by rw [h i (by omega), nth_upto (by omega)]
theorem ix_step {ys : List Int} {k n : Nat} (h : IxAt ys k) (hl : ys.length = n) (hk : k < n) : IxAt (ys.set k (k : Int)) (k + 1) := fun i hi => by
  rw [nth_set (by omega)]
  split
  · subst_vars; rfl
  · exact h i (by omega)
theorem Own.setNe {w : World} {B g i n cap : Nat} {a : Option Addr} {xs : List Int} (h : Own w B a n cap xs) (hg : ∀ p, a = some p → p.block ≠ g) (u : Value) : Own (w.setCell ⟨g, i, none⟩ u) B a n cap xs := by
  refine ⟨?_, h.2⟩
  have h1 := h.1
  refine ⟨by simpa using h1.1, ?_⟩
  rcases h1.2 with h2 | ⟨k, cap', cur, hv, hk, hh, r⟩
  · exact .inl h2
  · refine .inr ⟨k, cap', cur, hv, hk, ?_, r⟩
    simp at hv
    have := hg _ hv.1
    rw [Below.heap_setCell _ _ _ _ (by simpa using this)]
    exact hh
theorem BlkLt.mono {a : Option Addr} {K K' : Nat} (h : BlkLt a K) (hK : K ≤ K') : BlkLt a K' := fun p hp => Nat.lt_of_lt_of_le (h p hp) hK
theorem BlkLt.ne {a : Option Addr} {K g : Nat} (h : BlkLt a K) (hg : K ≤ g) : ∀ p, a = some p → p.block ≠ g := fun p hp e => by have := h p hp; omega
theorem BlkGe.ne {a : Option Addr} {K g : Nat} (h : BlkGe a K) (hg : g < K) : ∀ p, a = some p → p.block ≠ g := fun p hp e => by have := h p hp; omega

end Go.Proofs.YtakadjhbomggbabDoor

namespace Go.Proofs.YtakadjhbomggbabDoor
open Go.RowKit

theorem cut_at (s : ByteArray) (w : World) (h : LibAt w) (hs : s.size ≤ 1048576) :
    Calls Tryd.prog 13 #[.string s, .string ⟨#[58]⟩] w fun e w' => e = .returned (.tuple #[.string (bs (Lib.cut s.data.toList [58]).1), .string (bs (Lib.cut s.data.toList [58]).2.1), .bool (Lib.cut s.data.toList [58]).2.2]) ∧ Below w.heap.size w w' := by
  obtain ⟨⟨m, hm⟩, _, _, _⟩ := h
  refine (Tryd.strings_Cut s ⟨#[58]⟩ m w (by omega) hm).mono ?_
  rintro e w' ⟨rfl, n, rfl⟩
  exact ⟨rfl, ⟨rfl, rfl, rfl, Nat.le_refl _, fun _ _ => rfl⟩⟩
theorem cut_sizes (s : ByteArray) : (bs (Lib.cut s.data.toList [58]).1).size ≤ s.size ∧ (bs (Lib.cut s.data.toList [58]).2.1).size ≤ s.size := by
  have hz : s.size = s.data.toList.length := Array.length_toList.symm
  rw [bs_size, bs_size, hz]
  rcases cut_cases 58 s.data.toList with ⟨_, h2, _⟩ | ⟨x, y, _, h2, h3, _⟩
  · rw [h2]
    simp
  · rw [h3, h2]
    simp
    omega

set_option maxRecDepth 100000 in
set_option maxHeartbeats 2000000 in
theorem implParseWalk_any (s : ByteArray) (w : World) (h : LibAt w) (hs : s.size ≤ 1048576) :
    Calls Tryd.prog 5 #[.string s] w (PostWalk w (walkCt s)) := by
  obtain ⟨hz1, hz2⟩ := cut_sizes s
  have HC : Hid (walkCt s = _) := hid (by unfold walkCt; rfl)
  obtain ⟨cu, hcu⟩ : ∃ cu, Lib.cut s.data.toList [58] = cu := ⟨_, rfl⟩
  have HCU := hid hcu
  rw [hcu] at HC hz1 hz2
  obtain ⟨p, q, ob⟩ := cu
  dsimp only at HC hz1 hz2
  clear hcu
  obtain ⟨hl, okh, ehl⟩ : ∃ l ok, listR (bs p) = (l, ok) := ⟨_, _, rfl⟩
  obtain ⟨ll, okl, ell⟩ : ∃ l ok, listR (bs q) = (l, ok) := ⟨_, _, rfl⟩
  rw [ehl, ell] at HC
  dsimp only at HC
  have HEH := hid ehl
  have HEL := hid ell
  clear ehl ell
  go_enter Tryd.func5, Tryd.ntmps5
  go_wp2_with fail
  have hbW : Below w.heap.size w (w.alloc (.cells #[.slice none 0 0, .slice none 0 0] 24)) := (Below.refl _ w).alloc (Nat.le_refl _) _
  have BR : BoxAt (w.alloc (.cells #[.slice none 0 0, .slice none 0 0] 24)) w.heap.size (.slice none 0 0) (.slice none 0 0) := boxAt_new _ _ _ _
  have hsz : (w.alloc (.cells #[.slice none 0 0, .slice none 0 0] 24)).heap.size = w.heap.size + 1 := by simp
  generalize w.alloc (.cells #[.slice none 0 0, .slice none 0 0] 24) = W at *
  refine (cut_at s _ (h.below hbW (Nat.le_refl _)) hs).mono ?_
  rw [HCU.out]
  rintro e w1 ⟨rfl, st⟩
  have hs1 := st.size
  replace BR := BR.below st (by omega)
  have hb1 := hbW.trans (st.mono hbW.size)
  clear st hbW
  go_wp2_with fail
  refine (parseList_any (bs p) _ (h.below hb1 (Nat.le_refl _)) (by omega)).mono ?_
  rw [HEH.out]
  rintro e w2 ⟨ah, n, ch, rfl, oh, st⟩
  have hs2 := st.size
  replace BR := BR.below st (by omega)
  have hb2 := hb1.trans (st.mono hb1.size)
  clear st hb1
  cases okh
  · have HR : Hid (walkCt s = (([], []), false)) := hid (by rw [HC.out, if_neg (by simp)])
    have B2 := (BR.set0 (z := .slice none 0 0)).set1 (z := .slice none 0 0)
    obtain ⟨x1, x2, x3, x4⟩ := id BR
    dsimp only
    go_wp2_with fail
    obtain ⟨y1, y2, y3, y4⟩ := id B2
    refine bodyPost_ret (v := .tuple #[.agg #[.slice none 0 0, .slice none 0 0], .bool false]) (by simp [results, Tryd.results5, go_sem, *]) rfl (postWalk_no HR.out ((hb2.setCell (by simp) _).setCell (by simp) _))
  · dsimp only
    go_wp2_with fail
    refine (parseList_any (bs q) _ (h.below hb2 (Nat.le_refl _)) (by omega)).mono ?_
    rw [HEL.out]
    rintro e w3 ⟨al, m, cl, rfl, ol, st⟩
    have hs3 := st.size
    replace BR := BR.below st (by omega)
    have ap := apart_lt (oh.lt) ol.ge
    replace oh := oh.below st (Nat.le_refl _)
    have hb3 := hb2.trans (st.mono hb2.size)
    clear st hb2
    dsimp only
    have hbV := hb3.alloc (by omega) (.cells #[.slice ah n ch, .slice al m cl] 24)
    have st : Below w3.heap.size w3 (w3.alloc (.cells #[.slice ah n ch, .slice al m cl] 24)) := (Below.refl _ w3).alloc (Nat.le_refl _) _
    have BRV := BR.alloc (.cells #[.slice ah n ch, .slice al m cl] 24)
    have BV : BoxAt (w3.alloc (.cells #[.slice ah n ch, .slice al m cl] 24)) w3.heap.size (.slice ah n ch) (.slice al m cl) := boxAt_new _ _ _ _
    have ohV := oh.below st (Nat.le_refl _)
    have olV := ol.below st (Nat.le_refl _)
    have hsV := st.size
    clear st
    cases okl
    · have HR : Hid (walkCt s = (([], []), false)) := hid (by rw [HC.out, if_neg (by simp)])
      have B2 := (BRV.set0 (z := .slice none 0 0)).set1 (z := .slice none 0 0)
      obtain ⟨x1, x2, x3, x4⟩ := id BRV
      go_wp2_with fail
      obtain ⟨y1, y2, y3, y4⟩ := id B2
      refine bodyPost_ret (v := .tuple #[.agg #[.slice none 0 0, .slice none 0 0], .bool false]) (by simp [results, Tryd.results5, go_sem, *]) rfl (postWalk_no HR.out ((hbV.setCell (by simp) _).setCell (by simp) _))
    · obtain ⟨v1, v2, v3, v4⟩ := id BV
      go_wp2_with fail
      refine (implIsWalk_any _ _ _ _ _ _ _ _ _ ohV.has olV.has).mono ?_
      rintro e w5 ⟨rfl, st⟩
      have hs5 := st.size
      replace BRV := BRV.below st (by omega)
      replace BV := BV.below st (boxAt_lt BV)
      replace ohV := ohV.below st (Nat.le_refl _)
      replace olV := olV.below st (Nat.le_refl _)
      have hb5 := hbV.trans (st.mono hbV.size)
      clear st hbV v1 v2 v3 v4
      by_cases hw : walkB hl ll = true
      · rw [hw]
        have HR : Hid (walkCt s = ((hl, ll), true)) := hid (by rw [HC.out, if_pos (by simp [hw])])
        have f1 := ((ohV.mono (show w.heap.size ≤ w1.heap.size by omega)).setNe (g := w.heap.size) (i := 0) (ohV.ge.ne (by omega)) (.slice ah n ch)).setNe (g := w.heap.size) (i := 1) (ohV.ge.ne (by omega)) (.slice al m cl)
        have f2 := ((olV.mono (show w.heap.size ≤ w2.heap.size by omega)).setNe (g := w.heap.size) (i := 0) (olV.ge.ne (by omega)) (.slice ah n ch)).setNe (g := w.heap.size) (i := 1) (olV.ge.ne (by omega)) (.slice al m cl)
        have B2f := (BRV.set0 (z := .slice ah n ch)).set1 (z := .slice al m cl)
        have hb6 := (hb5.setCell (p := ⟨w.heap.size, 0, none⟩) (by simp) (.slice ah n ch)).setCell (p := ⟨w.heap.size, 1, none⟩) (by simp) (.slice al m cl)
        obtain ⟨t1, t2, t3, t4⟩ := id BRV
        obtain ⟨v1, v2, v3, v4⟩ := id BV
        clear hw
        go_wp2_with fail
        obtain ⟨y1, y2, y3, y4⟩ := id B2f
        refine bodyPost_ret (v := .tuple #[.agg #[.slice ah n ch, .slice al m cl], .bool true]) (by simp [results, Tryd.results5, go_sem, *]) rfl (postWalk HR.out f1 f2 ap hb6)
      · have HR : Hid (walkCt s = (([], []), false)) := hid (by rw [HC.out, if_neg (fun hh => hw hh.2.2)])
        rw [Bool.eq_false_iff.2 hw]
        have B2 := (BRV.set0 (z := .slice none 0 0)).set1 (z := .slice none 0 0)
        obtain ⟨x1, x2, x3, x4⟩ := id BRV
        clear hw
        go_wp2_with fail
        obtain ⟨y1, y2, y3, y4⟩ := id B2
        refine bodyPost_ret (v := .tuple #[.agg #[.slice none 0 0, .slice none 0 0], .bool false]) (by simp [results, Tryd.results5, go_sem, *]) rfl (postWalk_no HR.out ((hb5.setCell (by simp) _).setCell (by simp) _))
end Go.Proofs.YtakadjhbomggbabDoor

namespace Go.Proofs.YtakadjhbomggbabDoor
open Go.RowKit

theorem two_parts {s : ByteArray} (h : (cutL s 58).length = 2) : ∃ x y, cutL s 58 = [bs x, bs y] ∧ x.length + y.length + 1 = s.size := by
  have hz : s.size = s.data.toList.length := Array.length_toList.symm
  rw [cutL_bs, List.length_map] at h
  rcases cut_cases 58 s.data.toList with ⟨_, _, h3⟩ | ⟨x, y, _, h2, _, h4⟩
  · rw [h3] at h
    simp at h
  · rw [h4, List.length_cons] at h
    rcases cut_cases 58 y with ⟨_, _, h5⟩ | ⟨u, v, _, _, _, h5⟩
    · refine ⟨x, y, by rw [cutL_bs, h4, h5]; rfl, ?_⟩
      rw [hz, h2]
      simp
      omega
    · rw [h5, List.length_cons] at h
      have := List.length_pos_iff.2 (sp_ne 58 v)
      omega

set_option maxRecDepth 100000 in
set_option maxHeartbeats 4000000 in
theorem specParseWalk_any (s : ByteArray) (w : World) (hs : s.size ≤ 1048576) :
    Calls Tryd.prog 4 #[.string s] w (PostWalk w (walkRd s)) := by
  go_enter Tryd.func4, Tryd.ntmps4
  go_wp2_with fail
  have hbW : Below w.heap.size w (w.alloc (.cells #[.slice none 0 0, .slice none 0 0] 24)) := (Below.refl _ w).alloc (Nat.le_refl _) _
  have BR : BoxAt (w.alloc (.cells #[.slice none 0 0, .slice none 0 0] 24)) w.heap.size (.slice none 0 0) (.slice none 0 0) := boxAt_new _ _ _ _
  have hsz : (w.alloc (.cells #[.slice none 0 0, .slice none 0 0] 24)).heap.size = w.heap.size + 1 := by simp
  generalize w.alloc (.cells #[.slice none 0 0, .slice none 0 0] 24) = W at *
  refine (l1Split_any s 58 58 _ rfl hs).mono ?_
  rintro e w1 ⟨a1, n1, cap1, rfl, hn1, hown1, st⟩
  have hs1 := st.size
  replace BR := BR.below st (by omega)
  have hb1 := hbW.trans (st.mono hbW.size)
  have HL1 := hid hown1.len
  clear st hbW
  by_cases h2 : n1 = 2
  · have hl : (cutL s 58).length = 2 := by rw [HL1.out, h2]
    obtain ⟨x, y, hxy, hlen⟩ := two_parts hl
    have HR : Hid (walkRd s = if walkB (waR (bs x)) (waR (bs y)) = true ∧ (bs (walkTx (waR (bs x)) (waR (bs y)))).toList = s.toList then ((waR (bs x), waR (bs y)), true) else (([], []), false)) := hid (by
      unfold walkRd
      rw [hxy]
      by_cases hc : walkB (waR (bs x)) (waR (bs y)) = true ∧ (bs (walkTx (waR (bs x)) (waR (bs y)))).toList = s.toList
      · rw [if_pos hc, if_pos ⟨rfl, hc⟩]; rfl
      · rw [if_neg hc, if_neg (fun hh => hc hh.2)])
    obtain ⟨b, off, rfl, hbb, hc⟩ := hown1.has.2.2.2.2 (by omega)
    have c0 := hc 0 (by omega)
    have c1 := hc 1 (by omega)
    rw [hxy] at c0 c1
    have sx : (bs x).size ≤ 1048576 := by rw [bs_size]; omega
    have sy : (bs y).size ≤ 1048576 := by rw [bs_size]; omega
    clear hc hown1 hxy hl
    subst h2
    replace c0 : w1.cell? ⟨b, off, none⟩ = some (.string (bs x)) := c0
    replace c1 : w1.cell? ⟨b, off + 1, none⟩ = some (.string (bs y)) := c1
    clear hn1
    go_wp2_with fail
    refine wp_region_of (by kernel_rfl) (by kernel_rfl) ?_
    intro A0 hA
    have e4 : A0.eval (.tmp 4) = .slice (some ⟨b, off, none⟩) 2 cap1 := by rw [hA]; rfl
    have hsz : A0.tmps.size = 32 := by rw [hA]; rfl
    have LA := hid hA
    clear hA
    refine ⟨fun L X w' => (L 10 = false ∧ ∃ T, X = upd A0 pwD T ∧ JPw w1 b off cap1 (bs x) (bs y) (waR (bs x)) (waR (bs y)) L T w') ∨ ((∀ j, j < 11 → L j = true) ∧ ∃ T, X = upd A0 pwD T ∧ FinPw w1 (waR (bs x)) (waR (bs y)) T w'), .inl ⟨rfl, _, upd_self.symm, JPw.start ((Below.refl _ _).drew)⟩, ?_, ?_⟩
    · rintro L x1 w2 (⟨h10, T, rfl, J⟩ | ⟨hall, _⟩) i o ho hi hd
      · have hi11 : i < 11 := (Array.getElem?_eq_some_iff.1 ho).1
        have g4 := (upd_eval_ne (a0 := A0) (ds := pwD) (T := T) (d := 4) (by decide)).trans e4
        have gt : ∀ d, d ∈ pwD → d < 32 → (upd A0 pwD T).eval (.tmp d) = T d := fun d h1 h2 => upd_eval h1 (by rw [hsz]; exact h2)
        have k0 := (J.bel.cell (p := ⟨b, off, none⟩) hbb).trans c0
        have k1 := (J.bel.cell (p := ⟨b, off + 1, none⟩) hbb).trans c1
        have hbw1 : Below w2.heap.size w2 w2 := Below.refl _ _
        clear LA e4 hsz
        rcases (by omega : i = 0 ∨ i = 1 ∨ i = 2 ∨ i = 3 ∨ i = 4 ∨ i = 5 ∨ i = 6 ∨ i = 7 ∨ i = 8 ∨ i = 9 ∨ i = 10) with rfl | rfl | rfl | rfl | rfl | rfl | rfl | rfl | rfl | rfl | rfl
        all_goals (simp only [List.getElem?_toArray, List.getElem?_cons_succ, List.getElem?_cons_zero, Option.some.injEq] at ho; subst ho)
        · exact op_pure rfl rfl _ (exW_move rfl g4) (.inl ⟨h10, _, upd_put _ (by decide), J.s0⟩)
        · have d0 := hd ⟨0, .data⟩ (by simp) rfl
          exact op_pure rfl rfl _ (exW_at (k := 0) rfl ((gt 12 (by decide) (by decide)).trans (J.p0 d0)) rfl (by decide)) (.inl ⟨h10, _, upd_put _ (by decide), J.s1⟩)
        · have d1 := hd ⟨1, .data⟩ (by simp) rfl
          exact op_pure rfl rfl _ (exW_load rfl ((gt 13 (by decide) (by decide)).trans (J.p1 d1)) k0) (.inl ⟨h10, _, upd_put _ (by decide), J.s2⟩)
        · have d2 := hd ⟨2, .data⟩ (by simp) rfl
          refine op_call rfl rfl 10 _ _ rfl (fun args => ent_waRead args) #[.string (bs x)] (by simp [(gt 14 (by decide) (by decide)), J.p2 d2]) (waRead_any (bs x) w2 sx) ?_
          rintro e w3 ⟨a4, n4, c4, rfl, hown, hb4⟩
          exact ⟨_, rfl, (.inl ⟨h10, _, upd_put _ (by decide), J.s3 hi hown hb4⟩)⟩
        · exact op_pure rfl rfl _ (exW_move rfl g4) (.inl ⟨h10, _, upd_put _ (by decide), J.s4⟩)
        · have d4 := hd ⟨4, .data⟩ (by simp) rfl
          exact op_pure rfl rfl _ (exW_at (k := 1) rfl ((gt 16 (by decide) (by decide)).trans (J.p4 d4)) rfl (by decide)) (.inl ⟨h10, _, upd_put _ (by decide), J.s5⟩)
        · have d5 := hd ⟨5, .data⟩ (by simp) rfl
          exact op_pure rfl rfl _ (exW_load rfl ((gt 17 (by decide) (by decide)).trans (J.p5 d5)) k1) (.inl ⟨h10, _, upd_put _ (by decide), J.s6⟩)
        · have d6 := hd ⟨6, .data⟩ (by simp) rfl
          refine op_call rfl rfl 10 _ _ rfl (fun args => ent_waRead args) #[.string (bs y)] (by simp [(gt 18 (by decide) (by decide)), J.p6 d6]) (waRead_any (bs y) w2 sy) ?_
          rintro e w3 ⟨a4, n4, c4, rfl, hown, hb4⟩
          exact ⟨_, rfl, (.inl ⟨h10, _, upd_put _ (by decide), J.s7 hi hown hb4⟩)⟩
        · have d3 := hd ⟨3, .data⟩ (by simp) rfl
          have d7 := hd ⟨7, .data⟩ (by simp) rfl
          obtain ⟨a4, n4, c4, h15, -⟩ := J.A d3
          obtain ⟨b4, m4, c5, h19, -⟩ := J.B d7
          refine op_pure rfl rfl (.agg #[T 15, T 19]) (by rw [h15, h19]; exact exW_build rfl ((gt 15 (by decide) (by decide)).trans h15) ((gt 19 (by decide) (by decide)).trans h19)) (.inl ⟨h10, _, upd_put _ (by decide), J.s8 d3 d7⟩)
        · exact op_pure rfl rfl _ (exW_alloc rfl) (.inl ⟨h10, _, upd_put _ (by decide), J.s9 (hbw1.alloc (Nat.le_refl _) _) (boxAt_new _ _ _ _)⟩)
        · have d8 := hd ⟨8, .data⟩ (by simp) rfl
          have d9 := hd ⟨9, .data⟩ (by simp) rfl
          obtain ⟨g, a3, n3, c3, b3, m3, c5, hg, h20, hbx, hfin⟩ := J.last d8 d9
          refine op_skip rfl rfl (exW_store rfl ((gt 5 (by decide) (by decide)).trans hg) ((gt 20 (by decide) (by decide)).trans h20) hbx) (.inr ⟨fun j hj => ?_, T, rfl, hfin⟩)
          rcases (by omega : j = 10 ∨ j = 0 ∨ j = 1 ∨ j = 2 ∨ j = 3 ∨ j = 4 ∨ j = 5 ∨ j = 6 ∨ j = 7 ∨ j = 8 ∨ j = 9) with rfl | rfl | rfl | rfl | rfl | rfl | rfl | rfl | rfl | rfl | rfl
          · rfl
          · exact hd ⟨0, .phase⟩ (by simp) rfl
          · exact hd ⟨1, .phase⟩ (by simp) rfl
          · exact hd ⟨2, .phase⟩ (by simp) rfl
          · exact hd ⟨3, .phase⟩ (by simp) rfl
          · exact hd ⟨4, .phase⟩ (by simp) rfl
          · exact hd ⟨5, .phase⟩ (by simp) rfl
          · exact hd ⟨6, .phase⟩ (by simp) rfl
          · exact hd ⟨7, .phase⟩ (by simp) rfl
          · exact hd ⟨8, .phase⟩ (by simp) rfl
          · exact hd ⟨9, .phase⟩ (by simp) rfl
      · exact absurd (hall i (Array.getElem?_eq_some_iff.1 ho).1) (by rw [hi]; decide)
    · rintro L x1 w2 (⟨h10, _⟩ | ⟨_, T, rfl, g, ah, n, ch, al, m, cl, hg, hgV, BV, oh, ol, ap, hbV⟩) hall
      · exact absurd (hall 10 (by decide)) (by rw [h10]; decide)
      · have hA := LA.out
        subst hA
        unfold upd pwD
        simp only [List.foldl]
        rw [hg]
        replace BR := BR.below hbV (by omega)
        have hb5 := hb1.trans (hbV.mono (by omega))
        have hgl := boxAt_lt BV
        clear c0 c1
        generalize waR (bs x) = xs at *
        generalize waR (bs y) = ys at *
        obtain ⟨v1, v2, v3, v4⟩ := id BV
        go_wp2_with fail
        clear v1 v2 v3 v4
        refine (waGood_any _ _ _ _ _ _ _ _ w2 oh.has ol.has).mono ?_
        rintro e w3 ⟨rfl, st⟩
        replace BR := BR.below st (boxAt_lt BR)
        replace BV := BV.below st hgl
        replace oh := oh.below st (Nat.le_refl _)
        replace ol := ol.below st (Nat.le_refl _)
        have hb6 := hb5.trans (st.mono hb5.size)
        clear st hb5
        by_cases hw : walkB xs ys = true
        · rw [hw]
          obtain ⟨hg1, hll, ho1, -⟩ := walkB_iff.1 hw
          have hd1 := hgt_digits hg1
          have hd2 := out_digits ho1
          have h81 := (hgt_of hg1 oh.len).1
          have h82 : m ≤ 8 := by have := oh.len; have := ol.len; omega
          have HW := hid hw
          clear hw hg1 hll ho1
          obtain ⟨v1, v2, v3, v4⟩ := id BV
          go_wp2_with fail
          clear v1 v2 v3 v4
          refine (waText_any _ _ _ _ _ _ _ _ w3 oh.has ol.has hd1 hd2 h81 h82).mono ?_
          rintro e w4 ⟨rfl, st⟩
          replace BR := BR.below st (boxAt_lt BR)
          replace BV := BV.below st (boxAt_lt BV)
          replace oh := oh.below st (Nat.le_refl _)
          replace ol := ol.below st (Nat.le_refl _)
          have hb7 := hb6.trans (st.mono hb6.size)
          clear st hb6 hd1 hd2
          by_cases hq : (bs (walkTx xs ys)).toList = s.toList
          · have hbe : ((bs (walkTx xs ys)).toList == s.toList) = true := by rw [hq]; simp
            have HR2 : Hid (walkRd s = ((xs, ys), true)) := hid (by rw [HR.out, if_pos ⟨HW.out, hq⟩])
            have f1 := ((oh.mono (show w.heap.size ≤ w1.heap.size by omega)).setNe (g := w.heap.size) (i := 0) (oh.ge.ne (by omega)) (.slice ah n ch)).setNe (g := w.heap.size) (i := 1) (oh.ge.ne (by omega)) (.slice al m cl)
            have f2 := ((ol.mono (show w.heap.size ≤ w1.heap.size by omega)).setNe (g := w.heap.size) (i := 0) (ol.ge.ne (by omega)) (.slice ah n ch)).setNe (g := w.heap.size) (i := 1) (ol.ge.ne (by omega)) (.slice al m cl)
            have B2f := (BR.set0 (z := .slice ah n ch)).set1 (z := .slice al m cl)
            have hb8 := (hb7.setCell (p := ⟨w.heap.size, 0, none⟩) (by simp) (.slice ah n ch)).setCell (p := ⟨w.heap.size, 1, none⟩) (by simp) (.slice al m cl)
            obtain ⟨t1, t2, t3, t4⟩ := id BR
            obtain ⟨v1, v2, v3, v4⟩ := id BV
            clear hq HR
            go_wp2_with fail
            obtain ⟨y1, y2, y3, y4⟩ := id B2f
            refine bodyPost_ret (v := .tuple #[.agg #[.slice ah n ch, .slice al m cl], .bool true]) (by simp [results, Tryd.results4, go_sem, *]) rfl (postWalk HR2.out f1 f2 ap hb8)
          · have hbe : ((bs (walkTx xs ys)).toList == s.toList) = false := by simpa using hq
            have HR2 : Hid (walkRd s = (([], []), false)) := hid (by rw [HR.out, if_neg (fun hh => hq hh.2)])
            have B2 := (BR.set0 (z := .slice none 0 0)).set1 (z := .slice none 0 0)
            obtain ⟨x1, x2, x3, x4⟩ := id BR
            obtain ⟨v1, v2, v3, v4⟩ := id BV
            clear hq HR
            go_wp2_with fail
            obtain ⟨y1, y2, y3, y4⟩ := id B2
            refine bodyPost_ret (v := .tuple #[.agg #[.slice none 0 0, .slice none 0 0], .bool false]) (by simp [results, Tryd.results4, go_sem, *]) rfl (postWalk_no HR2.out ((hb7.setCell (by simp) _).setCell (by simp) _))
        · rw [Bool.eq_false_iff.2 hw]
          have HR2 : Hid (walkRd s = (([], []), false)) := hid (by rw [HR.out, if_neg (fun hh => hw hh.1)])
          have B2 := (BR.set0 (z := .slice none 0 0)).set1 (z := .slice none 0 0)
          obtain ⟨x1, x2, x3, x4⟩ := id BR
          obtain ⟨v1, v2, v3, v4⟩ := id BV
          clear hw HR
          go_wp2_with fail
          obtain ⟨y1, y2, y3, y4⟩ := id B2
          refine bodyPost_ret (v := .tuple #[.agg #[.slice none 0 0, .slice none 0 0], .bool false]) (by simp [results, Tryd.results4, go_sem, *]) rfl (postWalk_no HR2.out ((hb6.setCell (by simp) _).setCell (by simp) _))
  · have HR : Hid (walkRd s = (([], []), false)) := hid (by
      unfold walkRd
      rw [if_neg]
      intro hh
      exact h2 (by rw [← HL1.out, hh.1]))
    have hbe : ((n1 : Int) == 2) = false := by simp; omega
    have B2 := (BR.set0 (z := .slice none 0 0)).set1 (z := .slice none 0 0)
    obtain ⟨x1, x2, x3, x4⟩ := id BR
    go_wp2_with fail
    obtain ⟨y1, y2, y3, y4⟩ := id B2
    refine bodyPost_ret (v := .tuple #[.agg #[.slice none 0 0, .slice none 0 0], .bool false]) (by simp [results, Tryd.results4, go_sem, *]) rfl (postWalk_no HR.out ((hb1.setCell (by simp) _).setCell (by simp) _))
theorem implParseWalkR_any (s : ByteArray) (w : World) (h : LibAt w) (hs : s.size ≤ 1048576) : Calls Tryd.prog 5 #[.string s] w (PostWalk w (walkRd s)) := by
  rw [walk_cut]
  exact implParseWalk_any s w h hs
end Go.Proofs.YtakadjhbomggbabDoor

