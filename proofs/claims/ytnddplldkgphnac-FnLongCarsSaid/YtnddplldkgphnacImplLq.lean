/- The program's ways of driving: what a long car is brought to. -/
import Derived.Test.YtnddplldkgphnacImplLp
namespace Go.Proofs.Ytnddplldkgphnac
open Go.RowKit

/-- What a long car is brought to. -/
def PostLong (w : World) (B bt bp g p L : Nat) (T : List Int) (y : Int) (e : Ending) (w' : World) : Prop :=
  w.grownBy w' (some g) ∧ ((¬ (0 ≤ y ∧ fits T p y L = true) ∧ (∃ z, e = .returned (.tuple #[.int .i64 z, .bool false])) ∧ ∃ T', On w' B bt bp g p T') ∨
    (0 ≤ y ∧ fits T p y L = true ∧ y < p ∧ e = .returned (.tuple #[.int .i64 y, .bool true]) ∧ On w' B bt bp g p (T ++ cover y L)))

/-- What the walk of a long car keeps. -/
structure Longs (w wr : World) (bt bp g : Nat) (a : Option Addr) (n cap : Nat) : Prop where
  ls : wr.cell? ⟨w.heap.size, 0, none⟩ = some (.slice a n cap)
  c1 : wr.cell? ⟨w.heap.size + 1, 0, none⟩ = some (.func (.func 96) #[] #[.pointer (some ⟨bt, 0, none⟩)])
  c2 : wr.cell? ⟨w.heap.size + 1, 1, none⟩ = some (.func (.func 97) #[] #[.pointer (some ⟨bp, 0, none⟩)])
  grown : w.grownBy wr (some g)
theorem Longs.more {w wr w2 : World} {bt bp g : Nat} {a : Option Addr} {n cap : Nat} (h : Longs w wr bt bp g a n cap) (hg : wr.grownBy w2 (some g)) (hl : g < w.heap.size) : Longs w w2 bt bp g a n cap :=
  ⟨grown_cell hg h.ls (by omega), grown_cell hg h.c1 (by omega), grown_cell hg h.c2 (by omega), grown_trans h.grown hg⟩

set_option maxHeartbeats 4000000 in
theorem long_any (B bt bp g p : Nat) (k x L : Nat) (a : Option Addr) (n cap : Nat) (ls : List Int) (T : List Int) (w : World) (h : Has w a n cap ls) (hk : k < n) (hL : nth ls k = (L : Int)) (hL1 : 1 ≤ L) (hL2 : L ≤ 12) (hag : ∀ q, a = some q → q.block ≠ g) (hst : On w B bt bp g p T) (hxp : x < p) (hp : p ≤ 12) :
    Calls Try.prog 169 #[.agg #[.slice a n cap], .int .i64 (k : Int), .int .i64 (x : Int), .agg #[.func (.func 96) #[] #[.pointer (some ⟨bt, 0, none⟩)], .func (.func 97) #[] #[.pointer (some ⟨bp, 0, none⟩)]]] w (PostLong w B bt bp g p L T (place p T x)) := by
  obtain ⟨l1, l2, l3, l4, l5, l6⟩ := hst.lt
  obtain ⟨b, off, rfl, hbb, hc⟩ := h.2.2.2.2 (by omega)
  have hbg := hag _ rfl
  have hck := hc k hk
  rw [hL] at hck
  clear hc hag hL h
  go_enter Try.func169, Try.ntmps169
  go_wp2_with fail
  have hw2 : ∀ O1 O2, Below w.heap.size w ((w.alloc O1).alloc O2) := fun O1 O2 => (((Below.refl _ _).alloc (Nat.le_refl _) _).alloc (by simp) _)
  have L0 : Longs w ((w.alloc (.cells #[.slice (some ⟨b, off, none⟩) n cap] 69)).alloc (.cells #[.func (.func 96) #[] #[.pointer (some ⟨bt, 0, none⟩)], .func (.func 97) #[] #[.pointer (some ⟨bp, 0, none⟩)]] 75)) bt bp g (some ⟨b, off, none⟩) n cap := by
    refine ⟨?_, ?_, ?_, grown_below (World.grownBy.refl _ _) (hw2 _ _) (Nat.le_refl _)⟩
    · rw [World.cell?_alloc_past _ _ _ (by simp), World.cell?_alloc_at _ _ _ _ rfl]; rfl
    · rw [World.cell?_alloc_at _ _ _ _ (by simp)]; rfl
    · rw [World.cell?_alloc_at _ _ _ _ (by simp)]; rfl
  refine (forward_any B bt bp g p k x T _ (hst.below (hw2 _ _) (Nat.le_refl _)) hxp hp).mono ?_
  clear hst hw2
  rintro e w2 ⟨hg2, ⟨hy, rfl, hon2⟩ | ⟨hy, hyp, rfl, hon2⟩⟩
  · have L2 := L0.more hg2 l6
    have HY := hid hy
    clear L0 hg2 hy
    go_wp2_with fail
    go_loopw [11, 12, 13] (fun ok _ _ wr => ok = .bool false ∧ wr = w2) (fun _ _ _ _ => 0)
    case atStart => exact ⟨rfl, rfl⟩
    case round =>
      obtain ⟨rfl, rfl⟩ := hrel
      go_wp2_with fail
      go_ret2
      exact ⟨L2.grown, .inl ⟨fun e => by have := HY.out; omega, ⟨_, rfl⟩, T, hon2⟩⟩
  · have L2 := L0.more hg2 l6
    obtain ⟨y, hyy⟩ : ∃ y : Nat, place p T x = (y : Int) := ⟨(place p T x).toNat, by omega⟩
    rw [hyy] at hy hyp hon2 ⊢
    have HY := hid hyy
    clear L0 hg2 hyy
    go_wp2_with fail
    go_loopw [11, 12, 13] (fun ok pl cv wr => ∃ (c q : Nat), cv = .int .i64 (c : Int) ∧ 1 ≤ c ∧ c ≤ L ∧ pl = .int .i64 (q : Int) ∧ Longs w wr bt bp g (some ⟨b, off, none⟩) n cap ∧
      ((ok = .bool true ∧ q + 1 ≤ y + c ∧ y + c ≤ q + 1 ∧ q < p ∧ Hid (fits T p y c = true) ∧ On wr B bt bp g p (T ++ cover y c)) ∨ (ok = .bool false ∧ Hid (fits T p y L = false) ∧ ∃ T', On wr B bt bp g p T'))) (fun _ _ cv _ => L - (intOf cv).toNat)
    case atStart => exact ⟨1, y, rfl, Nat.le_refl _, hL1, rfl, L2, .inl ⟨rfl, by omega, by omega, by omega, hid (by
        have : hasB T y = false := by
          rw [hasB_not]
          have := place_new (p := (p : Int)) (out := T) (x := (x : Int)) (by omega)
          rw [HY.out] at this
          rcases this with h | h
          · omega
          · exact h.1
        simp [fits, this]
        omega), by simpa [cover] using hon2⟩⟩
    case round =>
      clear L2 hon2
      obtain ⟨c, q, rfl, hc1, hcL, rfl, LL, ⟨rfl, hq1, hq2, hqp, HF, hon⟩ | ⟨rfl, HF, T', hon⟩⟩ := hrel
      · have hls := LL.ls
        have c1 := LL.c1
        have c2 := LL.c2
        have hck' : wr.cell? ⟨b, off + k, none⟩ = some (.int .i64 (L : Int)) := grown_cell LL.grown hck hbg
        clear hck
        by_cases hlt : c < L
        · go_wp2_with fail
          refine (next_on hon hqp hp).mono ?_
          rintro e w3 ⟨rfl, hon3, hq3⟩
          have hg3 := grown_quiet (World.grownBy.refl wr (some g)) hq3
          have L3 := LL.more hg3 l6
          clear LL hls c1 c2 hck' hon hq3 hg3
          have c1 := L3.c1
          have c2 := L3.c2
          by_cases hlast : q + 1 < p
          · have hd : decide ((q : Int) + 1 < (p : Int)) = true := by simp; omega
            have hyq : ((q + 1 : Nat) : Int) = (y : Int) + (c : Int) := by omega
            have hcov : hasB (T ++ cover y c) ((q + 1 : Nat) : Int) = hasB T ((y : Int) + (c : Int)) := by rw [hyq]; exact hasB_cover (by omega)
            have HQ := hid hyq
            have HC := hid hcov
            have tk := take_on hon3 hlast
            rw [show ((q + 1 : Nat) : Int) = (q : Int) + 1 from by omega] at tk
            have TK := hid tk
            rw [hd]
            clear hd tk hyq hcov
            go_wp2_with fail
            refine TK.out.mono ?_
            rintro e w4 ⟨rfl, hon4, -, hg4⟩
            have L4 := L3.more hg4 l6
            rw [show (q : Int) + 1 = ((q + 1 : Nat) : Int) from by omega, HC.out]
            rw [show (q : Int) + 1 = ((q + 1 : Nat) : Int) from by omega, HQ.out] at hon4
            clear L3 c1 c2 hon3 hg4 TK
            by_cases hf : hasB T ((y : Int) + (c : Int)) = true
            · have HN := hid (fits_no (T := T) (p := (p : Int)) (y := (y : Int)) (L := c) (M := L) (by rw [hf]; simp) hlt)
              rw [hf]
              clear hf
              go_wp2_with fail
              go_roundw
              case rel => exact ⟨c + 1, q + 1, by go_num, by omega, by omega, by go_num, L4, .inr ⟨rfl, HN, _, hon4⟩⟩
              case measure => simp [intOf]; omega
            · have hff : hasB T ((y : Int) + (c : Int)) = false := by simpa using hf
              have HN := hid (fits_yes (T := T) (p := (p : Int)) (y := (y : Int)) (L := c) HF.out (by omega) hff)
              rw [hff]
              clear hf hff
              go_wp2_with fail
              go_roundw
              case rel => exact ⟨c + 1, q + 1, by go_num, by omega, by omega, by go_num, L4, .inl ⟨rfl, by omega, by omega, by omega, HN, by rw [cover, ← List.append_assoc]; exact hon4⟩⟩
              case measure => simp [intOf]; omega
          · have hd : decide ((q : Int) + 1 < (p : Int)) = false := by simp; omega
            have HN := hid (fits_no (T := T) (p := (p : Int)) (y := (y : Int)) (L := c) (M := L) (by omega) hlt)
            rw [hd]
            clear hd
            go_wp2_with fail
            go_roundw
            case rel => exact ⟨c + 1, q + 1, by go_num, by omega, by omega, by go_num, L3, .inr ⟨rfl, HN, _, hon3⟩⟩
            case measure => simp [intOf]; omega
        · obtain rfl : c = L := by omega
          go_wp2_with fail
          go_ret2
          rw [HY.out]
          exact ⟨LL.grown, .inr ⟨by omega, HF.out, by omega, rfl, hon⟩⟩
      · go_wp2_with fail
        go_ret2
        rw [HY.out]
        exact ⟨LL.grown, .inl ⟨fun e => by rw [HF.out] at e; simp at e, ⟨_, rfl⟩, T', hon⟩⟩
end Go.Proofs.Ytnddplldkgphnac
