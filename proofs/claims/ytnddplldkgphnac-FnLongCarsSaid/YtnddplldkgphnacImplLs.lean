/- The program's ways of driving: where all cars stand (written by gensw.py). -/
import Derived.Test.YtnddplldkgphnacImplLr
namespace Go.Proofs.Ytnddplldkgphnac
open Go.RowKit

/-- What standsOf keeps, round by round: the street with the places T (its copy in block b8) and the places zs of the cars. -/
structure Std (w wr : World) (bt bp g P b8 : Nat) (T : List Int) (a : Option Addr) (n cap : Nat) (zs : List Int) : Prop where
  on : On wr w.heap.size bt bp g P T
  lt : bt < b8 ∧ bp < b8 ∧ g < b8 ∧ w.heap.size ≤ b8 ∧ b8 < wr.heap.size
  own : Own wr (b8 + 1) a n cap zs
  c1 : wr.cell? ⟨b8, 0, none⟩ = some (.func (.func 96) #[] #[.pointer (some ⟨bt, 0, none⟩)])
  c2 : wr.cell? ⟨b8, 1, none⟩ = some (.func (.func 97) #[] #[.pointer (some ⟨bp, 0, none⟩)])
  below : Below w.heap.size w wr

theorem Std.brought {w wr w2 : World} {bt bp g P b8 : Nat} {T T' : List Int} {a : Option Addr} {n cap : Nat} {zs : List Int} (S : Std w wr bt bp g P b8 T a n cap zs) (hg : wr.grownBy w2 (some g)) (hon : On w2 w.heap.size bt bp g P T') : Std w w2 bt bp g P b8 T' a n cap zs := by
  obtain ⟨l1, l2, l3, l4, l5⟩ := S.lt
  have hs := hg.size
  have ho := S.on.lt
  exact ⟨hon, ⟨l1, l2, l3, l4, by omega⟩, S.own.kept hg (.inl (by omega)), grown_cell hg S.c1 (by omega), grown_cell hg S.c2 (by omega), S.below.trans (below_grown hg S.below.size (by intro j hj; cases hj; exact ho.2.2.1))⟩
theorem Std.stored {w wr : World} {bt bp g P b8 g1 : Nat} {T : List Int} {n cap : Nat} {zs : List Int} (S : Std w wr bt bp g P b8 T (some ⟨g1, 0, none⟩) n cap zs) (hg1 : b8 + 1 ≤ g1) (i : Nat) (y : Int) : Std w (wr.setCell ⟨g1, i, none⟩ (.int .i64 y)) bt bp g P b8 T (some ⟨g1, 0, none⟩) n cap (zs.set i y) := by
  obtain ⟨l1, l2, l3, l4, l5⟩ := S.lt
  have hb : Below (b8 + 1) wr (wr.setCell ⟨g1, i, none⟩ (.int .i64 y)) := (Below.refl _ _).setCell (by simpa using hg1) _
  refine ⟨S.on.below' hb ⟨by omega, by omega, by omega⟩, ⟨l1, l2, l3, l4, by simpa using l5⟩, (S.own.set i y).1, ?_, ?_, S.below.setCell (by simp; omega) _⟩
  · rw [hb.cell (p := ⟨b8, 0, none⟩) (by simp)]; exact S.c1
  · rw [hb.cell (p := ⟨b8, 1, none⟩) (by simp)]; exact S.c2

theorem take_set {zs : List Int} {k : Nat} (h : k < zs.length) (y : Int) : (zs.set k y).take (k + 1) = zs.take k ++ [y] := by
  refine ext_nth (by simp; omega) fun i hi => ?_
  simp at hi
  rw [nth_take (by omega), nth_set h]
  by_cases e : i = k
  · subst e
    rw [if_pos rfl]
    have : (zs.take i).length = i := by simp; omega
    rw [show nth (zs.take i ++ [y]) i = nth (zs.take i ++ [y]) (zs.take i).length from by rw [this], nth_append_at]
  · rw [if_neg (by omega), nth_append_left (by simp; omega), nth_take (by omega)]

/-- A list of places with -1 at its end tells the same places. -/
theorem On.none {w : World} {B bt bp g p : Nat} {T : List Int} {y : Int} (h : On w B bt bp g p T) (hy : y < 0) : On w B bt bp g p (T ++ [y]) := by
  obtain ⟨tk, h, e⟩ := h
  refine ⟨tk, h, fun z hz => ?_⟩
  have : ¬ (z : Int) = y := by omega
  rw [e z hz, hasB_append]
  simp [hasB, this]

def backSomeOf (xs : List Int) (p k : Int) : List Int × Bool := if backB xs p k then (backs p k.toNat xs, true) else ([], false)
/-- The places of long cars, as far as the first blocked one, which stands nowhere. -/
def LongZ (p : Int) (xs ls zs : List Int) (k : Nat) : Prop := ((longAt p xs ls k).2.2 = true → zs.take k = (longAt p xs ls k).1) ∧ ((longAt p xs ls k).2.2 = false → (longAt p xs ls k).1.length < k ∧ zs.take ((longAt p xs ls k).1.length + 1) = (longAt p xs ls k).1 ++ [-1])
/-- What it comes to for long cars: any places behind the first blocked one. -/
def PostStands (w : World) (p : Int) (xs ls : List Int) (e : Ending) (w' : World) : Prop :=
  ∃ a n cap zs, e = .returned (.tuple #[.slice a n cap, .bool (good xs p && decide (ls.length = xs.length))]) ∧ Own w' w.heap.size a n cap zs ∧ Below w.heap.size w w' ∧ ((good xs p && decide (ls.length = xs.length)) = true → zs.length = xs.length ∧ LongZ p xs ls zs xs.length) ∧ ((good xs p && decide (ls.length = xs.length)) = false → n = 0)
theorem postStands_no {w w' : World} {p : Int} {xs ls : List Int} (h : (good xs p && decide (ls.length = xs.length)) = false) (hb : Below w.heap.size w w') : PostStands w p xs ls (.returned (.tuple #[.slice none 0 0, .bool false])) w' :=
  ⟨none, 0, 0, [], by rw [h], Own.nil _ _, hb, fun e => by rw [h] at e; simp at e, fun _ => rfl⟩
theorem postStands_yes {w w' : World} {p : Int} {xs ls zs : List Int} {a : Option Addr} {n cap : Nat} (h : (good xs p && decide (ls.length = xs.length)) = true) (ho : Own w' w.heap.size a n cap zs) (hb : Below w.heap.size w w') (hl : zs.length = xs.length) (hz : LongZ p xs ls zs xs.length) : PostStands w p xs ls (.returned (.tuple #[.slice a n cap, .bool true])) w' :=
  ⟨a, n, cap, zs, by rw [h], ho, hb, fun _ => ⟨hl, hz⟩, fun e => by rw [h] at e; simp at e⟩
theorem take_set_le {zs : List Int} {k j : Nat} (y : Int) (h : j ≤ k) : (zs.set k y).take j = zs.take j := by
  rw [List.take_set, List.set_eq_of_length_le (by simp; omega)]
theorem longZ_late {p : Int} {xs ls zs : List Int} {k : Nat} {y : Int} (hz : LongZ p xs ls zs k) (hb : (longAt p xs ls k).2.2 = false) : LongZ p xs ls (zs.set k y) (k + 1) := by
  obtain ⟨h1, h2⟩ := hz.2 hb
  refine ⟨fun e => ?_, fun e => ?_⟩
  · rw [longAt_stays hb, hb] at e; simp at e
  · rw [longAt_stays hb, take_set_le _ (by omega)]
    exact ⟨by omega, h2⟩
theorem longZ_fail {p : Int} {xs ls zs T T' : List Int} {k : Nat} (h : LongZ p xs ls zs k ∧ ((longAt p xs ls k).2.2 = true → T = (longAt p xs ls k).2.1)) (hk : k < zs.length)
    (hn : ¬ (0 ≤ place p T (nth xs k) ∧ fits T p (place p T (nth xs k)) (nth ls k).toNat = true)) : LongZ p xs ls (zs.set k (-1)) (k + 1) ∧ ((longAt p xs ls (k + 1)).2.2 = true → T' = (longAt p xs ls (k + 1)).2.1) := by
  obtain ⟨hz, ht⟩ := h
  by_cases hb : (longAt p xs ls k).2.2 = true
  · obtain rfl := ht hb
    have hs := longAt_stop (p := p) (xs := xs) (ls := ls) (k := k) (out := (longAt p xs ls k).1) (T := (longAt p xs ls k).2.1) (by rw [← hb]) hn
    have hl := (longAt_facts p xs ls k).2.1 hb
    refine ⟨⟨fun e => by rw [hs] at e; simp at e, fun _ => ?_⟩, fun e => by rw [hs] at e; simp at e⟩
    rw [hs]
    simp only
    rw [hl]
    exact ⟨by omega, by rw [take_set hk, hz.1 hb]⟩
  · have hb' : (longAt p xs ls k).2.2 = false := by simpa using hb
    exact ⟨longZ_late hz hb', fun e => by rw [longAt_stays hb', hb'] at e; simp at e⟩
theorem longZ_ok {p : Int} {xs ls zs T : List Int} {k L : Nat} {y : Int} (h : LongZ p xs ls zs k ∧ ((longAt p xs ls k).2.2 = true → T = (longAt p xs ls k).2.1)) (hk : k < zs.length)
    (hy : place p T (nth xs k) = y) (h0 : 0 ≤ y) (hf : fits T p y (nth ls k).toNat = true) (hL : (nth ls k).toNat = L) : LongZ p xs ls (zs.set k y) (k + 1) ∧ ((longAt p xs ls (k + 1)).2.2 = true → T ++ cover y L = (longAt p xs ls (k + 1)).2.1) := by
  obtain ⟨hz, ht⟩ := h
  by_cases hb : (longAt p xs ls k).2.2 = true
  · obtain rfl := ht hb
    have hs := longAt_go (p := p) (xs := xs) (ls := ls) (k := k) (out := (longAt p xs ls k).1) (T := (longAt p xs ls k).2.1) (by rw [← hb]) hy h0 hf
    refine ⟨⟨fun _ => ?_, fun e => by rw [hs] at e; simp at e⟩, fun _ => by rw [hs, hL]⟩
    rw [hs]
    simp only
    rw [take_set hk, hz.1 hb]
  · have hb' : (longAt p xs ls k).2.2 = false := by simpa using hb
    exact ⟨longZ_late hz hb', fun e => by rw [longAt_stays hb', hb'] at e; simp at e⟩

set_option maxHeartbeats 4000000 in
theorem standsF_any (a : Option Addr) (n cap : Nat) (xs : List Int) (p : Int) (w : World) (h : Has w a n cap xs) :
    Calls Try.prog 60 #[.slice a n cap, .int .i64 p, .iface 171 (.agg #[])] w (PostInts w (driveSomeOf xs p)) := by
  have HN := hid h.len
  by_cases hg : good xs p = true
  · obtain ⟨g1, g2, g3, g4⟩ := good_nth hg HN.out
    have HG := hid hg
    by_cases hk : True
    · have HK := hid hk
      have HR : Hid (driveSomeOf xs p = (drive p xs, true)) := hid (by simp [driveSomeOf, HG.out])
      clear hg hk
      obtain ⟨P, rfl⟩ : ∃ P : Nat, p = (P : Int) := ⟨p.toNat, by omega⟩
      have hP : P ≤ 12 := by omega
      have G4 := hid g4
      clear g4
      go_enter Try.func60, Try.ntmps60
      go_wp2_with (first | (go_at_call 36; refine (areFavourites_any _ _ _ _ _ _ h).mono ?_; rintro e w' ⟨rfl, rfl⟩; rw [HG.out]) | (go_at_call 74; refine (wayF_any _ _).mono ?_; rintro e w' ⟨rfl, rfl⟩))
      refine (newStreet_any P hP _).mono ?_
      rintro e w2 ⟨bt, bp, g, rfl, hst, hb2⟩
      have hon : On w2 w.heap.size bt bp g P [] := ⟨fun _ => false, ⟨⟨by have := hst.lt; have := (Below.refl w.heap.size w).size; omega, by have := hst.lt; have := (Below.refl w.heap.size w).size; omega, by have := hst.lt; have := (Below.refl w.heap.size w).size; omega, hst.lt.2.2.2⟩, hst.ne, hst.taken, hst.places, hst.cells, hst.free⟩, fun z _ => by simp [hasB]⟩
      have hbw : Below w.heap.size w w2 := (Below.refl w.heap.size w).trans (hb2.mono (Below.refl w.heap.size w).size)
      clear hst hb2
      go_wp2_with (at_make; refine wpList_make_ints _ rfl _ _ rfl n rfl rfl (by omega) ?_; intro a1 cap1 w3 hown3 hb3)
      have S0 : Std w w3 bt bp g P w2.heap.size [] a1 n cap1 (List.replicate n 0) := by
        obtain ⟨o1, o2, o3, o4, o5, o6⟩ := hon.lt
        have hs3 := hb3.size
        have hbs := hbw.size
        simp at hs3
        have hb3' : Below w2.heap.size w2 w3 := ((Below.refl _ _).alloc (Nat.le_refl _) _).trans (hb3.mono (by simp))
        refine ⟨hon.below hb3' (Nat.le_refl _), ⟨o4, o5, o6, hbs, by omega⟩, hown3.mono (by simp), ?_, ?_, hbw.trans (hb3'.mono hbs)⟩
        · rw [hb3.cell (p := ⟨w2.heap.size, 0, none⟩) (by simp), World.cell?_alloc_at _ _ _ _ rfl]; rfl
        · rw [hb3.cell (p := ⟨w2.heap.size, 1, none⟩) (by simp), World.cell?_alloc_at _ _ _ _ rfl]; rfl
      clear hown3 hb3 hbw hon
      go_loopw [32] (fun i wr => ∃ (k : Nat) (zs : List Int) (T : List Int), k ≤ n ∧ i = .int .i64 k ∧ Std w wr bt bp g P w2.heap.size T a1 n cap1 zs ∧ Hid (T = drive P (xs.take k) ∧ zs.take k = drive P (xs.take k))) (fun i _ => n - (intOf i).toNat)
      case atStart => exact ⟨0, _, [], Nat.zero_le _, rfl, S0, hid (⟨rfl, rfl⟩)⟩
      case round =>
        clear S0
        obtain ⟨k, zs, T, hk, rfl, S, HI⟩ := hrel
        by_cases hlt : k < n
        · obtain ⟨b0, off, rfl, hbb, hc⟩ := h.2.2.2.2 (by omega)
          have hck : wr.cell? ⟨b0, off + k, none⟩ = some (.int .i64 (nth xs k)) := by rw [S.below.cell (p := ⟨b0, off + k, none⟩) hbb]; exact hc k hlt
          obtain ⟨hx0, hx1⟩ := G4.out k hlt
          obtain ⟨x, hx⟩ : ∃ x : Nat, nth xs k = (x : Int) := ⟨_, (Int.toNat_of_nonneg hx0).symm⟩
          rw [hx] at hck hx0 hx1
          have HX := hid hx
          obtain ⟨ga, rfl, hga1, hga2, hga3, hga4⟩ := S.own.opened (by omega)
          have c1 := S.c1
          have c2 := S.c2
          have HZL := hid S.own.len
          have hszs := S.lt
          have hbsz := S.below.size
          clear hc hx hga3 hga4
          go_wp2_with fail
          refine (forward_any w.heap.size bt bp g P _ x T wr S.on (by omega) hP).mono ?_
          rintro e w4 ⟨hg4, ⟨hy, rfl, hon4⟩ | ⟨hy, hyp, rfl, hon4⟩⟩
          · have S4 := S.brought hg4 (hon4.none hy)
            obtain ⟨ga', hga', -, -, hc4, hf4⟩ := S4.own.opened (by omega)
            cases hga'
            have hck4 := hc4 k hlt
            have hfk4 := hf4 k
            have HY := hid hy
            clear S hg4 hck c1 c2 hc4 hf4 hy
            go_wp2_with fail
            go_roundw
            case rel => exact ⟨k + 1, _, _, by omega, by go_num, S4.stored hga1 k (-1), hid (by
              obtain ⟨i1, i2⟩ := HI.out
              have e : T ++ [place P T x] = drive P (xs.take (k + 1)) := by rw [drive_succ (by rw [HN.out]; omega), HX.out, ← i1]
              have b := place_bounds (p := (P : Int)) (out := T) (x := (x : Int)) (by omega)
              have hy1 : place P T x = -1 := by have := HY.out; omega
              exact ⟨e, by rw [take_set (by rw [HZL.out]; omega), i2, ← e, ← i1, hy1]⟩)⟩
            case measure => simp [intOf]; omega
          · have S4 := S.brought hg4 hon4
            obtain ⟨ga', hga', -, -, hc4, hf4⟩ := S4.own.opened (by omega)
            cases hga'
            have hck4 := hc4 k hlt
            have hfk4 := hf4 k
            clear S hg4 hck c1 c2 hc4 hf4
            go_wp2_with fail
            go_roundw
            case rel => exact ⟨k + 1, _, _, by omega, by go_num, S4.stored hga1 k (place P T x), hid (by
              obtain ⟨i1, i2⟩ := HI.out
              have e : T ++ [place P T x] = drive P (xs.take (k + 1)) := by rw [drive_succ (by rw [HN.out]; omega), HX.out, ← i1]
              exact ⟨e, by rw [take_set (by rw [HZL.out]; omega), i2, ← e, ← i1]⟩)⟩
            case measure => simp [intOf]; omega
        · obtain rfl : k = n := by omega
          have HZL := hid S.own.len
          go_wp2_with fail
          go_ret2
          obtain ⟨i1, i2⟩ := HI.out
          rw [List.take_of_length_le (by rw [HZL.out]; omega), List.take_of_length_le (by rw [HN.out]; omega)] at i2
          subst i2
          exact postInts HR.out (S.own.mono (by have := S.lt; omega)) S.below
    · exact absurd trivial hk
  · have HG := hid hg
    have HR : Hid (driveSomeOf xs p = ([], false)) := hid (by simp [driveSomeOf, hg])
    clear hg
    go_enter Try.func60, Try.ntmps60
    go_wp2_with (go_at_call 36; refine (areFavourites_any _ _ _ _ _ _ h).mono ?_; rintro e w' ⟨rfl, rfl⟩; rw [Bool.eq_false_iff.2 HG.out])
    go_ret2
    exact postInts_no HR.out (Below.refl _ _)

set_option maxHeartbeats 4000000 in
theorem standsB_any (a : Option Addr) (n cap : Nat) (xs : List Int) (p : Int) (k0 : Int) (w : World) (h : Has w a n cap xs) :
    Calls Try.prog 60 #[.slice a n cap, .int .i64 p, .iface 81 (.agg #[.int .i64 k0])] w (PostInts w (backSomeOf xs p k0)) := by
  have HN := hid h.len
  by_cases hg : good xs p = true
  · obtain ⟨g1, g2, g3, g4⟩ := good_nth hg HN.out
    have HG := hid hg
    by_cases hk : inB k0 0 8 = true
    · have HK := hid hk
      obtain ⟨m, rfl⟩ : ∃ m : Nat, k0 = (m : Int) := ⟨k0.toNat, by have := inB_iff.1 hk; omega⟩
      have hm8 : m ≤ 8 := by have := inB_iff.1 hk; omega
      have HR : Hid (backSomeOf xs p m = (backs p m xs, true)) := hid (by simp [backSomeOf, backB, HG.out, hk])
      clear hg hk
      obtain ⟨P, rfl⟩ : ∃ P : Nat, p = (P : Int) := ⟨p.toNat, by omega⟩
      have hP : P ≤ 12 := by omega
      have G4 := hid g4
      clear g4
      go_enter Try.func60, Try.ntmps60
      go_wp2_with (first | (go_at_call 36; refine (areFavourites_any _ _ _ _ _ _ h).mono ?_; rintro e w' ⟨rfl, rfl⟩; rw [HG.out]) | (go_at_call 74; refine (wayB_any _ _ _).mono ?_; rintro e w1 ⟨rfl, hb1⟩; rw [HK.out]))
      refine (newStreet_any P hP _).mono ?_
      rintro e w2 ⟨bt, bp, g, rfl, hst, hb2⟩
      have hon : On w2 w.heap.size bt bp g P [] := ⟨fun _ => false, ⟨⟨by have := hst.lt; have := (hb1).size; omega, by have := hst.lt; have := (hb1).size; omega, by have := hst.lt; have := (hb1).size; omega, hst.lt.2.2.2⟩, hst.ne, hst.taken, hst.places, hst.cells, hst.free⟩, fun z _ => by simp [hasB]⟩
      have hbw : Below w.heap.size w w2 := (hb1).trans (hb2.mono (hb1).size)
      clear hst hb2 hb1
      go_wp2_with (at_make; refine wpList_make_ints _ rfl _ _ rfl n rfl rfl (by omega) ?_; intro a1 cap1 w3 hown3 hb3)
      have S0 : Std w w3 bt bp g P w2.heap.size [] a1 n cap1 (List.replicate n 0) := by
        obtain ⟨o1, o2, o3, o4, o5, o6⟩ := hon.lt
        have hs3 := hb3.size
        have hbs := hbw.size
        simp at hs3
        have hb3' : Below w2.heap.size w2 w3 := ((Below.refl _ _).alloc (Nat.le_refl _) _).trans (hb3.mono (by simp))
        refine ⟨hon.below hb3' (Nat.le_refl _), ⟨o4, o5, o6, hbs, by omega⟩, hown3.mono (by simp), ?_, ?_, hbw.trans (hb3'.mono hbs)⟩
        · rw [hb3.cell (p := ⟨w2.heap.size, 0, none⟩) (by simp), World.cell?_alloc_at _ _ _ _ rfl]; rfl
        · rw [hb3.cell (p := ⟨w2.heap.size, 1, none⟩) (by simp), World.cell?_alloc_at _ _ _ _ rfl]; rfl
      clear hown3 hb3 hbw hon
      go_loopw [32] (fun i wr => ∃ (k : Nat) (zs : List Int) (T : List Int), k ≤ n ∧ i = .int .i64 k ∧ Std w wr bt bp g P w2.heap.size T a1 n cap1 zs ∧ Hid (T = backs P m (xs.take k) ∧ zs.take k = backs P m (xs.take k))) (fun i _ => n - (intOf i).toNat)
      case atStart => exact ⟨0, _, [], Nat.zero_le _, rfl, S0, hid (⟨rfl, rfl⟩)⟩
      case round =>
        clear S0
        obtain ⟨k, zs, T, hk, rfl, S, HI⟩ := hrel
        by_cases hlt : k < n
        · obtain ⟨b0, off, rfl, hbb, hc⟩ := h.2.2.2.2 (by omega)
          have hck : wr.cell? ⟨b0, off + k, none⟩ = some (.int .i64 (nth xs k)) := by rw [S.below.cell (p := ⟨b0, off + k, none⟩) hbb]; exact hc k hlt
          obtain ⟨hx0, hx1⟩ := G4.out k hlt
          obtain ⟨x, hx⟩ : ∃ x : Nat, nth xs k = (x : Int) := ⟨_, (Int.toNat_of_nonneg hx0).symm⟩
          rw [hx] at hck hx0 hx1
          have HX := hid hx
          obtain ⟨ga, rfl, hga1, hga2, hga3, hga4⟩ := S.own.opened (by omega)
          have c1 := S.c1
          have c2 := S.c2
          have HZL := hid S.own.len
          have hszs := S.lt
          have hbsz := S.below.size
          clear hc hx hga3 hga4
          go_wp2_with fail
          refine (back_any w.heap.size bt bp g P _ m x T wr S.on (by omega) hP hm8).mono ?_
          rintro e w4 ⟨hg4, ⟨hy, rfl, hon4⟩ | ⟨hy, hyp, rfl, hon4⟩⟩
          · have S4 := S.brought hg4 (hon4.none hy)
            obtain ⟨ga', hga', -, -, hc4, hf4⟩ := S4.own.opened (by omega)
            cases hga'
            have hck4 := hc4 k hlt
            have hfk4 := hf4 k
            have HY := hid hy
            clear S hg4 hck c1 c2 hc4 hf4 hy
            go_wp2_with fail
            go_roundw
            case rel => exact ⟨k + 1, _, _, by omega, by go_num, S4.stored hga1 k (-1), hid (by
              obtain ⟨i1, i2⟩ := HI.out
              have e : T ++ [backPlace P m T x] = backs P m (xs.take (k + 1)) := by rw [backs_succ (by rw [HN.out]; omega), HX.out, ← i1]
              have b := backPlace_bounds (p := (P : Int)) (m := m) (out := T) (x := (x : Int)) (by omega) (by omega)
              have hy1 : backPlace P m T x = -1 := by have := HY.out; omega
              exact ⟨e, by rw [take_set (by rw [HZL.out]; omega), i2, ← e, ← i1, hy1]⟩)⟩
            case measure => simp [intOf]; omega
          · have S4 := S.brought hg4 hon4
            obtain ⟨ga', hga', -, -, hc4, hf4⟩ := S4.own.opened (by omega)
            cases hga'
            have hck4 := hc4 k hlt
            have hfk4 := hf4 k
            clear S hg4 hck c1 c2 hc4 hf4
            go_wp2_with fail
            go_roundw
            case rel => exact ⟨k + 1, _, _, by omega, by go_num, S4.stored hga1 k (backPlace P m T x), hid (by
              obtain ⟨i1, i2⟩ := HI.out
              have e : T ++ [backPlace P m T x] = backs P m (xs.take (k + 1)) := by rw [backs_succ (by rw [HN.out]; omega), HX.out, ← i1]
              exact ⟨e, by rw [take_set (by rw [HZL.out]; omega), i2, ← e, ← i1]⟩)⟩
            case measure => simp [intOf]; omega
        · obtain rfl : k = n := by omega
          have HZL := hid S.own.len
          go_wp2_with fail
          go_ret2
          obtain ⟨i1, i2⟩ := HI.out
          rw [List.take_of_length_le (by rw [HZL.out]; omega), List.take_of_length_le (by rw [HN.out]; omega)] at i2
          subst i2
          exact postInts HR.out (S.own.mono (by have := S.lt; omega)) S.below
    · have HK := hid hk
      have HR : Hid (backSomeOf xs p k0 = ([], false)) := hid (by simp [backSomeOf, backB, hk])
      clear hg hk
      go_enter Try.func60, Try.ntmps60
      go_wp2_with (first | (go_at_call 36; refine (areFavourites_any _ _ _ _ _ _ h).mono ?_; rintro e w' ⟨rfl, rfl⟩; rw [HG.out]) | (go_at_call 74; refine (wayB_any _ _ _).mono ?_; rintro e w1 ⟨rfl, hb1⟩; rw [Bool.eq_false_iff.2 HK.out]))
      go_ret2
      exact postInts_no HR.out (hb1)
  · have HG := hid hg
    have HR : Hid (backSomeOf xs p k0 = ([], false)) := hid (by simp [backSomeOf, backB, hg])
    clear hg
    go_enter Try.func60, Try.ntmps60
    go_wp2_with (go_at_call 36; refine (areFavourites_any _ _ _ _ _ _ h).mono ?_; rintro e w' ⟨rfl, rfl⟩; rw [Bool.eq_false_iff.2 HG.out])
    go_ret2
    exact postInts_no HR.out (Below.refl _ _)

set_option maxHeartbeats 4000000 in
theorem standsL_any (a : Option Addr) (n cap : Nat) (xs : List Int) (p : Int) (b : Option Addr) (m capl : Nat) (ls : List Int) (w : World) (h : Has w a n cap xs) (h' : Has w b m capl ls) (hl : lenB ls = true) :
    Calls Try.prog 60 #[.slice a n cap, .int .i64 p, .iface 69 (.agg #[.slice b m capl])] w (PostStands w p xs ls) := by
  have HN := hid h.len
  have HM := hid h'.len
  have HLB := hid hl
  clear hl
  by_cases hg : good xs p = true
  · obtain ⟨g1, g2, g3, g4⟩ := good_nth hg HN.out
    have HG := hid hg
    by_cases hk : decide (m = n) = true
    · have HK := hid hk
      have hmn : m = n := by simpa using hk
      have HR : Hid ((good xs p && decide (ls.length = xs.length)) = true) := hid (by rw [HG.out, HN.out, HM.out, hmn]; simp)
      have hls := (lenB_iff.1 HLB.out).2.1
      have HLS := hid (fun i (hi : i < m) => hls _ (nth_mem (xs := ls) (i := i) (by rw [HM.out]; exact hi)))
      have HMN := hid hmn
      clear hls hmn
      clear hg hk
      obtain ⟨P, rfl⟩ : ∃ P : Nat, p = (P : Int) := ⟨p.toNat, by omega⟩
      have hP : P ≤ 12 := by omega
      have G4 := hid g4
      clear g4
      go_enter Try.func60, Try.ntmps60
      go_wp2_with (first | (go_at_call 36; refine (areFavourites_any _ _ _ _ _ _ h).mono ?_; rintro e w' ⟨rfl, rfl⟩; rw [HG.out]) | (go_at_call 74; refine (wayL_any _ _ _ _ _).mono ?_; rintro e w1 ⟨rfl, hb1⟩; rw [HK.out]))
      refine (newStreet_any P hP _).mono ?_
      rintro e w2 ⟨bt, bp, g, rfl, hst, hb2⟩
      have hon : On w2 w.heap.size bt bp g P [] := ⟨fun _ => false, ⟨⟨by have := hst.lt; have := (hb1).size; omega, by have := hst.lt; have := (hb1).size; omega, by have := hst.lt; have := (hb1).size; omega, hst.lt.2.2.2⟩, hst.ne, hst.taken, hst.places, hst.cells, hst.free⟩, fun z _ => by simp [hasB]⟩
      have hbw : Below w.heap.size w w2 := (hb1).trans (hb2.mono (hb1).size)
      clear hst hb2 hb1
      go_wp2_with (at_make; refine wpList_make_ints _ rfl _ _ rfl n rfl rfl (by omega) ?_; intro a1 cap1 w3 hown3 hb3)
      have S0 : Std w w3 bt bp g P w2.heap.size [] a1 n cap1 (List.replicate n 0) := by
        obtain ⟨o1, o2, o3, o4, o5, o6⟩ := hon.lt
        have hs3 := hb3.size
        have hbs := hbw.size
        simp at hs3
        have hb3' : Below w2.heap.size w2 w3 := ((Below.refl _ _).alloc (Nat.le_refl _) _).trans (hb3.mono (by simp))
        refine ⟨hon.below hb3' (Nat.le_refl _), ⟨o4, o5, o6, hbs, by omega⟩, hown3.mono (by simp), ?_, ?_, hbw.trans (hb3'.mono hbs)⟩
        · rw [hb3.cell (p := ⟨w2.heap.size, 0, none⟩) (by simp), World.cell?_alloc_at _ _ _ _ rfl]; rfl
        · rw [hb3.cell (p := ⟨w2.heap.size, 1, none⟩) (by simp), World.cell?_alloc_at _ _ _ _ rfl]; rfl
      clear hown3 hb3 hbw hon
      go_loopw [32] (fun i wr => ∃ (k : Nat) (zs : List Int) (T : List Int), k ≤ n ∧ i = .int .i64 k ∧ Std w wr bt bp g P w2.heap.size T a1 n cap1 zs ∧ Hid (LongZ P xs ls zs k ∧ ((longAt P xs ls k).2.2 = true → T = (longAt P xs ls k).2.1))) (fun i _ => n - (intOf i).toNat)
      case atStart => exact ⟨0, _, [], Nat.zero_le _, rfl, S0, hid (⟨⟨fun _ => rfl, fun e => by simp [longAt] at e⟩, fun _ => rfl⟩)⟩
      case round =>
        clear S0
        obtain ⟨k, zs, T, hk, rfl, S, HI⟩ := hrel
        by_cases hlt : k < n
        · obtain ⟨b0, off, rfl, hbb, hc⟩ := h.2.2.2.2 (by omega)
          have hck : wr.cell? ⟨b0, off + k, none⟩ = some (.int .i64 (nth xs k)) := by rw [S.below.cell (p := ⟨b0, off + k, none⟩) hbb]; exact hc k hlt
          obtain ⟨hx0, hx1⟩ := G4.out k hlt
          obtain ⟨x, hx⟩ : ∃ x : Nat, nth xs k = (x : Int) := ⟨_, (Int.toNat_of_nonneg hx0).symm⟩
          rw [hx] at hck hx0 hx1
          have HX := hid hx
          obtain ⟨ga, rfl, hga1, hga2, hga3, hga4⟩ := S.own.opened (by omega)
          have c1 := S.c1
          have c2 := S.c2
          have HZL := hid S.own.len
          have hszs := S.lt
          have hbsz := S.below.size
          have hkm : k < m := by rw [HMN.out]; exact hlt
          obtain ⟨v1, v2⟩ := HLS.out k hkm
          obtain ⟨L, hL⟩ : ∃ L : Nat, nth ls k = (L : Int) := ⟨(nth ls k).toNat, by omega⟩
          have HL := hid hL
          have hl1 : 1 ≤ L ∧ L ≤ 12 := by omega
          have hag : ∀ q, b = some q → q.block ≠ g := fun q hq => by
            obtain ⟨b9, off9, e9, hb9, -⟩ := h'.2.2.2.2 (by omega)
            rw [e9] at hq
            cases hq
            have := S.on.lt
            simp
            omega
          have hwr := h'.below S.below (Nat.le_refl _)
          have HAG := hid hag
          clear v1 v2 hL hag
          clear hc hx hga3 hga4
          go_wp2_with fail
          refine (long_any w.heap.size bt bp g P k x L b m capl ls T wr hwr hkm HL.out hl1.1 hl1.2 HAG.out S.on (by omega) hP).mono ?_
          rintro e w4 ⟨hg4, ⟨hy, ⟨z, rfl⟩, T2, hon4⟩ | ⟨hy, hf, hyp, rfl, hon4⟩⟩
          · have S4 := S.brought hg4 hon4
            obtain ⟨ga', hga', -, -, hc4, hf4⟩ := S4.own.opened (by omega)
            cases hga'
            have hck4 := hc4 k hlt
            have hfk4 := hf4 k
            have HY := hid hy
            clear S hg4 hck c1 c2 hc4 hf4 hy hwr
            go_wp2_with fail
            go_roundw
            case rel => exact ⟨k + 1, _, _, by omega, by go_num, S4.stored hga1 k (-1), hid (by
              exact longZ_fail HI.out (by rw [HZL.out]; exact hlt) (by rw [HX.out, HL.out]; simpa using HY.out))⟩
            case measure => simp [intOf]; omega
          · have S4 := S.brought hg4 hon4
            obtain ⟨ga', hga', -, -, hc4, hf4⟩ := S4.own.opened (by omega)
            cases hga'
            have hck4 := hc4 k hlt
            have hfk4 := hf4 k
            clear S hg4 hck c1 c2 hc4 hf4 hwr
            go_wp2_with fail
            go_roundw
            case rel => exact ⟨k + 1, _, _, by omega, by go_num, S4.stored hga1 k (place P T x), hid (by
              exact longZ_ok HI.out (by rw [HZL.out]; exact hlt) (by rw [HX.out]) hy (by rw [HL.out]; simpa using hf) (by rw [HL.out]; rfl))⟩
            case measure => simp [intOf]; omega
        · obtain rfl : k = n := by omega
          have HZL := hid S.own.len
          go_wp2_with fail
          go_ret2
          exact postStands_yes HR.out (S.own.mono (by have := S.lt; omega)) S.below (by rw [HZL.out, HN.out]) (by have := HI.out.1; rw [HN.out]; exact this)
    · have HK := hid hk
      have HR : Hid ((good xs p && decide (ls.length = xs.length)) = false) := hid (by rw [HN.out, HM.out]; simp at hk; simp [hk])
      clear hg hk
      go_enter Try.func60, Try.ntmps60
      go_wp2_with (first | (go_at_call 36; refine (areFavourites_any _ _ _ _ _ _ h).mono ?_; rintro e w' ⟨rfl, rfl⟩; rw [HG.out]) | (go_at_call 74; refine (wayL_any _ _ _ _ _).mono ?_; rintro e w1 ⟨rfl, hb1⟩; rw [Bool.eq_false_iff.2 HK.out]))
      go_ret2
      exact postStands_no HR.out (hb1)
  · have HG := hid hg
    have HR : Hid ((good xs p && decide (ls.length = xs.length)) = false) := hid (by simp [hg])
    clear hg
    go_enter Try.func60, Try.ntmps60
    go_wp2_with (go_at_call 36; refine (areFavourites_any _ _ _ _ _ _ h).mono ?_; rintro e w' ⟨rfl, rfl⟩; rw [Bool.eq_false_iff.2 HG.out])
    go_ret2
    exact postStands_no HR.out (Below.refl _ _)
end Go.Proofs.Ytnddplldkgphnac
