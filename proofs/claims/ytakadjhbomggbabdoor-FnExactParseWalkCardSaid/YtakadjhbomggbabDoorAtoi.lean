/- The library's reader of numbers and its split, at a world whose variables are as they were laid. -/
import Derived.Test.YtakadjhbomggbabDoorStrs
import Derived.Test.YtakadjhbomggbabDoorShelf
import Derived.Test.YtakadjhbomggbabDoorHelp
import Derived.Lib.LaidTab
import Derived.Lib.AppendIntMem
import Derived.Lib.ConvBytes
import Derived.Lib.SplitLaws
namespace Go.Proofs.YtakadjhbomggbabDoor
open Go.RowKit

/-- The library's variables that a text's reader asks for. -/
structure LibAt (w : World) : Prop where
  len : ∃ m : Int, w.cell? ⟨Tryd.laysM146_ren.g 1, 0, none⟩ = some (.int .i64 m)
  syn : ∃ te pe, w.var? Tryd.prog "strconv.ErrSyntax" = some #[.iface te pe]
  ran : ∃ te pe, w.var? Tryd.prog "strconv.ErrRange" = some #[.iface te pe]
  tab : Lib.TabIs Tryd.prog w "internal/strconv.uint64pow10" .u64 Lib.pow10Tab
theorem var_below {P : Program} {w w' : World} {K : Nat} {name : String} {vs : Array Value} (h : w.var? P name = some vs) (hb : Below K w w') (hK : w.heap.size ≤ K) : w'.var? P name = some vs := by
  unfold World.var? at *
  rw [Option.bind_eq_some_iff] at *
  obtain ⟨g, hg, hh⟩ := h
  refine ⟨g, hg, ?_⟩
  have hlt : g < w.heap.size := by
    apply Classical.byContradiction
    intro hn
    rw [Array.getElem?_eq_none (by omega)] at hh
    cases hh
  rw [hb.block g (by omega)]
  exact hh
theorem LibAt.below {w w' : World} {K : Nat} (h : LibAt w) (hb : Below K w w') (hK : w.heap.size ≤ K) : LibAt w' := by
  obtain ⟨⟨m, h1⟩, ⟨t1, p1, h2⟩, ⟨t2, p2, h3⟩, h4⟩ := h
  exact ⟨⟨m, by rw [hb.cell (Nat.lt_of_lt_of_le (World.block_lt_of_cell? _ _ h1) hK)]; exact h1⟩, ⟨t1, p1, var_below h2 hb hK⟩, ⟨t2, p2, var_below h3 hb hK⟩, var_below h4 hb hK⟩
theorem var_cell {P : Program} {w : World} {name : String} {v : Value} {g : Nat} (h : w.var? P name = some #[v]) (hg : P.globalNamed name = some g) : w.cell? ⟨g, 0, none⟩ = some v := by
  unfold World.var? at h
  rw [hg] at h
  simp only [Option.bind_some] at h
  unfold World.cell?
  split at h
  · next cs t f hh =>
    simp only [Option.some.injEq] at h
    subst h
    simp [hh]
  · cases h

theorem has_litS (w : World) (xs : List ByteArray) {n : Nat} (hl : xs.length = n) (hx : n ≤ 2097152) : HasS (w.alloc (.cells (xs.map Value.string).toArray 9)) (some ⟨w.heap.size, 0, none⟩) n n xs := by
  subst hl
  have := World.ownsRow_lit (base := w.heap.size) (e := 9) (size := 1) w (xs.map Value.string).toArray xs.length (Nat.le_refl _) (by unfold maxLen; omega) (by simp)
  exact OwnS.has (B := w.heap.size) ⟨by simpa using this, rfl, hx⟩
/-- What the library's reader answers: a number, or none. -/
def readI (s : ByteArray) : Option Int := match Lib.atoiAll s.data.toList with
  | .ok v => some v
  | _ => none
set_option maxHeartbeats 800000 in
theorem atoi_any (s : ByteArray) (w : World) (h : LibAt w) (hs : s.size ≤ 1048576) :
    Calls Tryd.prog 31 #[.string s] w fun e w' => (∃ (x : Int) (er : Value), e = .returned (.tuple #[.int .i64 x, er]) ∧ ((readI s = some x ∧ er = .nilIface ∧ -9223372036854775808 ≤ x ∧ x ≤ 9223372036854775807) ∨ (readI s = none ∧ ∃ te pe, er = .iface te pe))) ∧ Below w.heap.size w w' := by
  obtain ⟨_, ⟨t1, p1, h2⟩, ⟨t2, p2, h3⟩, _⟩ := h
  cases hc : Lib.atoiAll s.data.toList
  · rename_i v
    refine (Tryd.strconv_Atoi_ok s (by omega) v hc w).mono ?_
    rintro e w' ⟨rfl, hw⟩
    obtain ⟨vb0, vb1⟩ := Lib.atoiAll_bounds hc
    refine ⟨⟨v, _, rfl, .inl ⟨by simp [readI, hc], rfl, vb0, by omega⟩⟩, ?_⟩
    rcases hw with rfl | ⟨t, rfl⟩
    · exact Below.refl _ _
    · exact ⟨rfl, rfl, rfl, by rw [Lib.bytesWorld_size]; omega, fun j hj => Lib.bytesWorld_at_old _ _ _ j hj⟩
  · refine (Any.strconv_Atoi_syntax Tryd.laysC172 s (by omega) hc _ w (var_cell h2 (by kernel_rfl)) (.inr ⟨_, _, rfl⟩)).mono ?_
    rintro e w' ⟨N, rfl, _, _, hb⟩
    exact ⟨⟨_, _, rfl, .inr ⟨by simp [readI, hc], _, _, rfl⟩⟩, hb⟩
  · refine (Any.strconv_Atoi_range Tryd.laysC172 s (by omega) hc _ w (var_cell h3 (by kernel_rfl)) (.inr ⟨_, _, rfl⟩)).mono ?_
    rintro e w' ⟨N, rfl, _, _, hb⟩
    exact ⟨⟨_, _, rfl, .inr ⟨by simp [readI, hc], _, _, rfl⟩⟩, hb⟩

theorem itoa_at (n : Int) (w : World) (h : LibAt w) (h0 : -9223372036854775808 ≤ n) (h1 : n ≤ 9223372036854775807) :
    Calls Tryd.prog 32 #[.int .i64 n] w fun e w' => e = .returned (.string ⟨(Lib.itoa n).toArray⟩) ∧ Below w.heap.size w w' := by
  refine (Tryd.strconv_Itoa n h0 h1 w h.tab).mono ?_
  rintro e w' ⟨rfl, k, os, rfl⟩
  exact ⟨rfl, Lib.below_grow _ w (Nat.le_refl _) k os⟩
theorem split_at (s sep : ByteArray) (w : World) (h : LibAt w) (hs : s.size ≤ 1048576) (h1 : 1 ≤ sep.size) :
    Calls Tryd.prog 30 #[.string s, .string sep] w fun e w' => ∃ a n cap, e = .returned (.slice a n cap) ∧ HasS w' a n cap (Lib.splitB sep 0 (Lib.countB s sep) s) ∧ Below w.heap.size w w' := by
  obtain ⟨⟨m, hm⟩, _, _, _⟩ := h
  refine (Tryd.strings_Split s sep m w (by omega) hm h1).mono ?_
  rintro e w' ⟨rfl, rfl⟩
  have hl := Lib.splitB_all sep h1 0 _ s rfl
  have hc := Lib.countB_le sep h1 s.size s (Nat.le_refl _)
  exact ⟨_, _, _, rfl, has_litS w _ hl (by omega), (Below.refl _ _).alloc (Nat.le_refl _) _⟩
theorem splitB_sizes (sep : ByteArray) (sv : Nat) : ∀ (k : Nat) (s : ByteArray), ∀ R ∈ Lib.splitB sep sv k s, R.size ≤ s.size
  | 0, s, R, h => by
    simp only [Lib.splitB, List.mem_singleton] at h
    subst h
    exact Nat.le_refl _
  | k + 1, s, R, h => by
    unfold Lib.splitB at h
    split at h
    · simp only [List.mem_singleton] at h
      subst h
      exact Nat.le_refl _
    · rcases List.mem_cons.1 h with rfl | h
      · simp; omega
      · have := splitB_sizes sep sv k _ R h
        simp at this
        omega

/-- The number that a word writes as numbers are written. -/
def canI (s : ByteArray) : Option Int := match readI s with
  | some v => if Lib.itoa v = s.toList then some v else none
  | none => none
/-- The words between separators. -/
def wordsB (s sep : ByteArray) : List ByteArray := Lib.splitB sep 0 (Lib.countB s sep) s
/-- All words' numbers, if each has one. -/
def splitR (s sep : ByteArray) : List Int × Bool := if ((wordsB s sep).all fun p => (canI p).isSome) = true then ((wordsB s sep).map fun p => (canI p).getD 0, true) else ([], false)
theorem splitR_no {s sep : ByteArray} {k : Nat} (hk : k < (wordsB s sep).length) (h : canI (nthS (wordsB s sep) k) = none) : splitR s sep = ([], false) := by
  unfold splitR
  rw [if_neg]
  intro hh
  have := List.all_eq_true.1 hh _ (nth_memS hk)
  rw [h] at this
  cases this
def CanTo (ps : List ByteArray) (k : Nat) : Prop := ∀ i, i < k → (canI (nthS ps i)).isSome = true
theorem splitR_yes {s sep : ByteArray} {ps : List ByteArray} (h : wordsB s sep = ps) (hc : CanTo ps ps.length) : splitR s sep = (ps.map fun p => (canI p).getD 0, true) := by
  subst h
  unfold splitR
  rw [if_pos]
  rw [List.all_eq_true]
  intro p hp
  obtain ⟨i, hi, rfl⟩ := mem_nthS hp
  exact hc i hi
theorem canTo_succ {ps : List ByteArray} {k : Nat} {v : Int} (h : CanTo ps k) (hv : canI (nthS ps k) = some v) : CanTo ps (k + 1) := fun i hi => by
  by_cases e : i = k
  · subst e; rw [hv]; rfl
  · exact h i (by omega)
theorem take_can {ps : List ByteArray} {k : Nat} {v : Int} (h : k < ps.length) (hv : canI (nthS ps k) = some v) : (ps.map fun p => (canI p).getD 0).take (k + 1) = (ps.map fun p => (canI p).getD 0).take k ++ [v] := by
  rw [← List.map_take, take_succ_nthS h, List.map_append, List.map_take]
  simp [hv]

set_option maxHeartbeats 4000000 in
theorem splitNumbers_any (s sep : ByteArray) (w : World) (h : LibAt w) (hs : s.size ≤ 1048576) (h1 : 1 ≤ sep.size) :
    Calls Tryd.prog 25 #[.string s, .string sep] w (PostInts w (splitR s sep)) := by
  go_enter Tryd.func25, Tryd.ntmps25
  go_wp2_with fail
  refine (split_at s sep _ h hs h1).mono ?_
  rintro e w1 ⟨a1, n1, cap1, rfl, hh1, hb1⟩
  have hsz := splitB_sizes sep 0 (Lib.countB s sep) s
  obtain ⟨ps, hps⟩ : ∃ ps, wordsB s sep = ps := ⟨_, rfl⟩
  rw [show Lib.splitB sep 0 (Lib.countB s sep) s = ps from hps] at hh1 hsz
  have HPS := hid hps
  have HL1 := hid hh1.len
  have HHS := hid hh1
  have HSZ := hid hsz
  have HLIB := hid (h.below hb1 (Nat.le_refl _))
  clear hps hsz hh1 h
  go_wp2_with fail
  go_loopw [6, 15] (fun o i wr => ∃ (k : Nat) (a' : Option Addr) (cap' : Nat), k ≤ n1 ∧ i = .int .i64 (k : Int) ∧ o = .slice a' k cap' ∧ Own wr w1.heap.size a' k cap' ((ps.map fun p => (canI p).getD 0).take k) ∧ Hid (CanTo ps k) ∧ Below w1.heap.size w1 wr) (fun _ i _ => n1 - (intOf i).toNat)
  case atStart => exact ⟨0, none, 0, Nat.zero_le _, rfl, rfl, Own.nil _ _, hid (fun i hi => by omega), Below.refl _ _⟩
  case round =>
    obtain ⟨k, a', cap', hk, rfl, rfl, hown, HC, hbw⟩ := hrel
    by_cases hlt : k < n1
    · obtain ⟨b, off, rfl, hbb, hc⟩ := (HHS.out.below hbw (Nat.le_refl _)).2.2.2.2 (by omega)
      have hck := hc k hlt
      have hn1 := HHS.out.le
      have HKL : Hid (k < ps.length) := hid (by rw [HL1.out]; exact hlt)
      clear hc
      go_wp2_with fail
      refine (atoi_any _ _ (HLIB.out.below hbw (Nat.le_refl _)) (Nat.le_trans (HSZ.out _ (nth_memS HKL.out)) hs)).mono ?_
      rintro e w2 ⟨⟨x, er, rfl, hx⟩, hb2⟩
      replace hown := hown.below hb2 (Nat.le_refl _)
      replace hbw := hbw.trans (hb2.mono hbw.size)
      clear hb2
      rcases hx with ⟨hr, rfl, hx0, hx1⟩ | ⟨hr, te, pe, rfl⟩
      · have HR := hid hr
        clear hr
        by_cases hq : Lib.itoa x = (nthS ps k).toList
        · have HV : Hid (canI (nthS ps k) = some x) := hid (by unfold canI; rw [HR.out]; simp only [if_pos hq])
          have hbe : (Lib.itoa x == (nthS ps k).toList) = true := by rw [hq]; simp
          clear hq
          go_wp2_with fail
          refine (itoa_at x _ (HLIB.out.below hbw (Nat.le_refl _)) hx0 hx1).mono ?_
          rintro e w3 ⟨rfl, hb3⟩
          replace hown := hown.below hb3 (Nat.le_refl _)
          replace hbw := hbw.trans (hb3.mono hbw.size)
          have hsz := hbw.size
          clear hb3
          go_wp2_with (at_builtin; refine wpList_append_int _ rfl _ _ rfl w1.heap.size _ _ _ _ _ rfl rfl hown (by omega) hsz ?_; intro a4 cap4 w4 hown4 hb4)
          go_roundw
          case rel => exact ⟨k + 1, a4, cap4, by omega, by go_num, rfl, by rw [take_can HKL.out HV.out]; exact hown4, hid (canTo_succ HC.out HV.out), hbw.trans hb4⟩
          case measure => simp [intOf]; omega
        · have HV : Hid (canI (nthS ps k) = none) := hid (by unfold canI; rw [HR.out]; simp only [if_neg hq])
          have hbe : (Lib.itoa x == (nthS ps k).toList) = false := by simpa using hq
          have HN : Hid (splitR s sep = ([], false)) := hid (splitR_no (by rw [HPS.out]; exact HKL.out) (by rw [HPS.out]; exact HV.out))
          clear hq
          go_wp2_with fail
          refine (itoa_at x _ (HLIB.out.below hbw (Nat.le_refl _)) hx0 hx1).mono ?_
          rintro e w3 ⟨rfl, hb3⟩
          replace hbw := hbw.trans (hb3.mono hbw.size)
          clear hb3
          go_wp2_with fail
          go_ret2
          exact postInts_no HN.out (hb1.trans (hbw.mono hb1.size))
      · have HV : Hid (canI (nthS ps k) = none) := hid (by unfold canI; rw [hr])
        have HN : Hid (splitR s sep = ([], false)) := hid (splitR_no (by rw [HPS.out]; exact HKL.out) (by rw [HPS.out]; exact HV.out))
        clear hr
        go_wp2_with fail
        go_ret2
        exact postInts_no HN.out (hb1.trans (hbw.mono hb1.size))
    · obtain rfl : k = n1 := by omega
      have HY := hid (splitR_yes HPS.out (by rw [HL1.out]; exact HC.out))
      rw [List.take_of_length_le (by simp [HL1.out])] at hown
      go_wp2_with fail
      go_ret2
      exact postInts HY.out (hown.mono hb1.size) (hb1.trans (hbw.mono hb1.size))
end Go.Proofs.YtakadjhbomggbabDoor
