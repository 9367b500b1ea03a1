/- The law that trees are measured, walked. -/
import Derived.Test.YtdemcjciijlbeaaCur
import Derived.Test.YtdemcjciijlbeaaSpecS
import Derived.Test.YtdemcjciijlbeaaMathT
import Derived.Deep.LoopGhost
import Derived.Test.YtdemcjciijlbeaaImplC
import Derived.Test.YtdemcjciijlbeaaSpecD
import Derived.Test.YtdemcjciijlbeaaSpecO
import Derived.Test.YtdemcjciijlbeaaMathG
import Derived.StillTailTactics
import Derived.Test.YtdemcjciijlbeaaSpecA
import Derived.Test.YtdemcjciijlbeaaSpecTq
import Derived.Test.YtdemcjciijlbeaaMathBf
import Derived.Test.YtdemcjciijlbeaaMathBe
import Derived.Test.YtdemcjciijlbeaaMathIv
import Derived.Test.YtdemcjciijlbeaaSpecTw
import Derived.Test.YtdemcjciijlbeaaSpecTu
import Derived.Test.YtdemcjciijlbeaaSpecTv
import Derived.Test.YtdemcjciijlbeaaLit2
import Derived.Test.YtdemcjciijlbeaaHelp
import Derived.Test.YtdemcjciijlbeaaMathL
import Derived.Test.YtdemcjciijlbeaaMathP
import Derived.Test.YtdemcjciijlbeaaHelp2
import Derived.Test.YtdemcjciijlbeaaImplIv
import Derived.Test.YtdemcjciijlbeaaImplTw
import Derived.Test.YtdemcjciijlbeaaImplTb
import Derived.Test.YtdemcjciijlbeaaImplTs
namespace Go.Proofs.Ytdemcjciijlbeaa
open Go.RowKit

theorem HasB.below {w w' : World} {a : Option Addr} {n K : Nat} (h : HasB w a n K) (hb : Below K w w') : HasB w' a n K := by
  refine ⟨h.1, fun hx => ?_⟩
  obtain ⟨b, off, ha, hbk, hc⟩ := h.2 hx
  refine ⟨b, off, ha, hbk, fun i hi => ?_⟩
  obtain ⟨u, u0, u1, hu⟩ := hc i hi
  exact ⟨u, u0, u1, by rw [hb.cell (p := ⟨b, off + i, none⟩) hbk]; exact hu⟩

/-- An argument's slice of bytes. -/
theorem hasB_of_row {w : World} {a : Option Addr} {len cap : Nat} {zs : List Int}
    (h : (a = none ∧ len = 0 ∧ cap = 0 ∧ zs = []) ∨ ∃ x, a = some x ∧ len ≤ cap ∧ cap ≤ maxLen ∧ zs.length = cap ∧ (∀ i, i < zs.length → w.cell? (x.add i) = some (.int .u8 (zs.getD i 0))) ∧ ∀ n ∈ zs, (Lit.int .u8 n).wf = true) :
    len ≤ maxLen ∧ (len ≤ 1048576 → HasB w a len w.heap.size) := by
  rcases h with ⟨rfl, rfl, rfl, rfl⟩ | ⟨x, rfl, h1, h2, h3, h4, h5⟩
  · exact ⟨by unfold maxLen; omega, fun _ => ⟨by omega, by omega⟩⟩
  · refine ⟨by omega, fun hl => ⟨by omega, fun hx => ?_⟩⟩
    obtain ⟨b, off, spot⟩ := x
    have hc := h4 0 (by omega)
    have hspot : spot = none := by simpa [Addr.add] using World.cell?_spot hc
    subst hspot
    refine ⟨b, off, rfl, by have := World.block_lt_of_cell? w _ hc; simpa [Addr.add] using this, fun i hi => ?_⟩
    have := h4 i (by omega)
    have e : (⟨b, off, none⟩ : Addr).add i = ⟨b, off + i, none⟩ := by unfold Addr.add; split <;> simp_all
    rw [e] at this
    have hm : zs.getD i 0 ∈ zs := by simp [show i < zs.length by omega]
    have hw := h5 _ hm
    generalize zs.getD i 0 = u at *
    have hw' : (0 : Int) ≤ u ∧ u ≤ 255 := by simpa [Lit.wf, IntKind.min, IntKind.max, IntKind.signed, IntKind.bits] using hw
    exact ⟨u, hw'.1, hw'.2, this⟩

/-- The law's answer. -/
def Holds (w : World) (e : Ending) (w' : World) : Prop := e = .returned (.bool true) ∧ Below w.heap.size w w'
end Go.Proofs.Ytdemcjciijlbeaa

namespace Go.Proofs.Ytdemcjciijlbeaa
open Go.RowKit

/-- Whether the bytes are too many. -/
def Big (n m : Nat) (w : World) (e : Ending) (w' : World) : Prop := ∃ r : Bool, e = .returned (.bool r) ∧ (r = false → n + m ≤ 1048576) ∧ w = w'

theorem big_any (a b : Option Addr) (n m cap cap' : Nat) (w : World) (hn : n ≤ 9223372036854775807) :
    Calls Try.prog 4 #[.slice a n cap, .slice b m cap'] w (Big n m w) := by
  by_cases h1 : (1048576 : Int) < (n : Int)
  · go_enter Try.func4, Try.ntmps4
    go_wp2_with fail
    go_ret
    exact ⟨true, ret_bool (by simp), by simp, rfl⟩
  · by_cases h2 : (1048576 : Int) - n < (m : Int)
    · go_enter Try.func4, Try.ntmps4
      go_wp2_with fail
      go_ret
      exact ⟨true, ret_bool (by simp), by simp, rfl⟩
    · go_enter Try.func4, Try.ntmps4
      go_wp2_with fail
      go_ret
      exact ⟨false, ret_bool (by simp), fun _ => by omega, rfl⟩

end Go.Proofs.Ytdemcjciijlbeaa

namespace Go.Proofs.Ytdemcjciijlbeaa
open Go.RowKit

/-- The cursor stands, and below its block all is as it was. -/
structure At (w0 w : World) (g t : Nat) : Prop where
  cur : Cur w g t
  below : Below g w0 w

theorem At.pick {w0 w w' : World} {g t t' : Nat} (h : At w0 w g t) (hc : Cur w' g t') (hg : w.grownBy w' (some g)) : At w0 w' g t' :=
  ⟨hc, h.below.trans (below_grown hg (Nat.le_of_lt h.cur.lt) (by intro k hk; cases hk; exact Nat.le_refl _))⟩
theorem At.later {w0 w w' : World} {g t K : Nat} (h : At w0 w g t) (hb : Below K w w') (hK : g < K) : At w0 w' g t :=
  ⟨h.cur.below hb hK, h.below.trans (hb.mono (Nat.le_of_lt hK))⟩
theorem At.size {w0 w : World} {g t : Nat} (h : At w0 w g t) : w0.heap.size ≤ w.heap.size := h.below.size

theorem has_lit (w : World) (xs : List Int) (hx : xs.length ≤ 100) : Has (w.alloc (.cells (xs.map (Value.int .i64)).toArray 3)) (some ⟨w.heap.size, 0, none⟩) xs.length xs.length xs := by
  have := World.ownsRow_lit (base := w.heap.size) (e := 3) (size := 1) w (xs.map (Value.int .i64)).toArray xs.length (Nat.le_refl _) (by unfold maxLen; omega) (by simp)
  exact Own.has (B := w.heap.size) ⟨by simpa using this, rfl, by omega⟩
theorem has_lit3 (w : World) (a b c : Int) : Has (w.alloc (.cells #[.int .i64 a, .int .i64 b, .int .i64 c] 3)) (some ⟨w.heap.size, 0, none⟩) 3 3 [a, b, c] := has_lit w [a, b, c] (by simp)
theorem has_lit4 (w : World) (a b c d : Int) : Has (w.alloc (.cells #[.int .i64 a, .int .i64 b, .int .i64 c, .int .i64 d] 3)) (some ⟨w.heap.size, 0, none⟩) 4 4 [a, b, c, d] := has_lit w [a, b, c, d] (by simp)
theorem has_lit6 (w : World) (a b c d e f : Int) : Has (w.alloc (.cells #[.int .i64 a, .int .i64 b, .int .i64 c, .int .i64 d, .int .i64 e, .int .i64 f] 3)) (some ⟨w.heap.size, 0, none⟩) 6 6 [a, b, c, d, e, f] := has_lit w [a, b, c, d, e, f] (by simp)
theorem alloc_below (w : World) (o : Obj) : Below w.heap.size w (w.alloc o) := (Below.refl _ _).alloc (Nat.le_refl _) _
theorem lit_ne {w : World} {g t : Nat} (h : Cur w g t) : ∀ p, (some ⟨w.heap.size, 0, none⟩ : Option Addr) = some p → p.block ≠ g := by
  intro p hp
  cases hp
  have := h.lt
  simp
  omega

/-- Favourites and a number of places, whatever they are. -/
def DrewFav (w : World) (g : Nat) (e : Ending) (w' : World) : Prop :=
  ∃ a n cap xs p, e = .returned (.tuple #[.slice a n cap, .int .i64 p]) ∧ Own w' w.heap.size a n cap xs ∧ n ≤ 10 ∧ -1 ≤ p ∧ p ≤ 13 ∧ Below g w w'

/-- The same, and the cursor stands. -/
def DrewFavC (w : World) (g : Nat) (e : Ending) (w' : World) : Prop :=
  ∃ a n cap xs p, e = .returned (.tuple #[.slice a n cap, .int .i64 p]) ∧ Own w' w.heap.size a n cap xs ∧ n ≤ 10 ∧ -1 ≤ p ∧ p ≤ 13 ∧ ∃ t', At w w' g t' ∧ t' ≤ 4000

/-- A slice of bytes that came in. -/
theorem cur_new {w : World} {a : Option Addr} {n cap : Nat} (h : HasB w a n w.heap.size) : Cur (w.alloc (.cells #[.slice a n cap, .int .i64 0, .int .u64 0] 39)) w.heap.size 0 := by
  refine ⟨⟨a, n, cap, ?_, h.1, fun hp => ?_⟩, ?_, ⟨0, by omega, by omega, ?_⟩, fun i => ?_, by simp⟩
  · rw [World.cell?_alloc_at _ _ _ _ rfl]; rfl
  · obtain ⟨b, off, ha, hb, hc⟩ := h.2 hp
    refine ⟨b, off, ha, hb, fun i hi => ?_⟩
    obtain ⟨u, u0, u1, hu⟩ := hc i hi
    exact ⟨u, u0, u1, by rw [World.cell?_alloc_past _ _ _ hb]; exact hu⟩
  · rw [World.cell?_alloc_at _ _ _ _ rfl]; rfl
  · rw [World.cell?_alloc_at _ _ _ _ rfl]; rfl
  · rw [World.frozen?_alloc_at _ _ _ _ rfl]

/-- What a draw of favourites leaves to its caller. -/
def DrewFav' (w : World) (e : Ending) (w' : World) : Prop :=
  ∃ a n cap xs p, e = .returned (.tuple #[.slice a n cap, .int .i64 p]) ∧ Own w' w.heap.size a n cap xs ∧ n ≤ 10 ∧ -1 ≤ p ∧ p ≤ 13 ∧ Below w.heap.size w w'

end Go.Proofs.Ytdemcjciijlbeaa

namespace Go.Proofs.Ytdemcjciijlbeaa
open Go.RowKit

theorem HasB.grow {w w' : World} {a : Option Addr} {n K : Nat} (h : HasB w a n K) (hb : Below K w w') (hK : K ≤ w.heap.size) : HasB w' a n w'.heap.size := by
  refine ⟨h.1, fun hx => ?_⟩
  obtain ⟨b, off, ha, hbk, hc⟩ := h.2 hx
  refine ⟨b, off, ha, Nat.lt_of_lt_of_le hbk (Nat.le_trans hK hb.size), fun i hi => ?_⟩
  obtain ⟨u, u0, u1, hu⟩ := hc i hi
  exact ⟨u, u0, u1, by rw [hb.cell (p := ⟨b, off + i, none⟩) hbk]; exact hu⟩

/-- A number put into a list. -/
def putIn (xs : List Int) (j : Nat) (x : Int) : List Int := xs.take j ++ [x] ++ xs.drop j
theorem mem_putIn {xs : List Int} {j : Nat} {x y : Int} : y ∈ putIn xs j x ↔ y = x ∨ y ∈ xs := by
  unfold putIn
  have : y ∈ xs ↔ y ∈ xs.take j ∨ y ∈ xs.drop j := by rw [← List.mem_append, List.take_append_drop]
  simp only [List.mem_append, List.mem_singleton, this]
  constructor
  · rintro ((h | h) | h)
    · exact .inr (.inl h)
    · exact .inl h
    · exact .inr (.inr h)
  · rintro (h | h | h)
    · exact .inl (.inr h)
    · exact .inl (.inl h)
    · exact .inr h
def Within (xs : List Int) (lo hi : Int) : Prop := ∀ x ∈ xs, lo ≤ x ∧ x ≤ hi
theorem Within.put {xs : List Int} {lo hi x : Int} {j : Nat} (h : Within xs lo hi) (hx : lo ≤ x ∧ x ≤ hi) : Within (putIn xs j x) lo hi := by
  intro y hy
  rcases mem_putIn.1 hy with rfl | hy
  · exact hx
  · exact h y hy
theorem Within.snoc {xs : List Int} {lo hi x : Int} (h : Within xs lo hi) (hx : lo ≤ x ∧ x ≤ hi) : Within (xs ++ [x]) lo hi := by
  intro y hy
  rcases List.mem_append.1 hy with hy | hy
  · exact h y hy
  · rw [List.mem_singleton] at hy; subst hy; exact hx
theorem Within.set {xs : List Int} {lo hi x : Int} {i : Nat} (h : Within xs lo hi) (hx : lo ≤ x ∧ x ≤ hi) : Within (xs.set i x) lo hi := by
  intro y hy
  rcases List.mem_or_eq_of_mem_set hy with hy | rfl
  · exact h y hy
  · exact hx
theorem Within.wide {xs : List Int} {lo hi lo' hi' : Int} (h : Within xs lo hi) (h1 : lo' ≤ lo) (h2 : hi ≤ hi') : Within xs lo' hi' := fun y hy => by have := h y hy; omega

/-- The cursor stands; its block alone was written among those that were there. -/
structure AtG (w0 w : World) (g t : Nat) : Prop where
  cur : Cur w g t
  grew : w0.grownBy w (some g)
  lt : g < w0.heap.size
theorem AtG.new {w : World} {g t : Nat} (h : Cur w g t) : AtG w w g t := ⟨h, World.grownBy.refl _ _, h.lt⟩
theorem AtG.size {w0 w : World} {g t : Nat} (h : AtG w0 w g t) : w0.heap.size ≤ w.heap.size := h.grew.size
theorem grown_then {w w1 w2 : World} {r : Option Nat} (h : w.grownBy w1 r) (h' : w1.grownBy w2 r) : w.grownBy w2 r :=
  ⟨h'.os.trans h.os, h'.tape.trans h.tape, h'.output.trans h.output, Nat.le_trans h.size h'.size, fun j hj hne => (h'.block j (Nat.lt_of_lt_of_le hj h.size) hne).trans (h.block j hj hne)⟩
theorem AtG.pick {w0 w w' : World} {g t t' : Nat} (h : AtG w0 w g t) (hc : Cur w' g t') (hg : w.grownBy w' (some g)) : AtG w0 w' g t' := ⟨hc, grown_then h.grew hg, h.lt⟩
theorem AtG.later {w0 w w' : World} {g t K : Nat} (h : AtG w0 w g t) (hb : Below K w w') (hK : w0.heap.size ≤ K) : AtG w0 w' g t :=
  ⟨h.cur.below hb (Nat.lt_of_lt_of_le h.lt hK), ⟨hb.os.trans h.grew.os, hb.tape.trans h.grew.tape, hb.output.trans h.grew.output, Nat.le_trans h.grew.size hb.size, fun j hj hne => (hb.block j (Nat.lt_of_lt_of_le hj hK)).trans (h.grew.block j hj hne)⟩, h.lt⟩
theorem AtG.below {w0 w : World} {g t : Nat} (h : AtG w0 w g t) : Below g w0 w := below_grown h.grew (Nat.le_of_lt h.lt) fun k hk => by cases hk; exact Nat.le_refl _
theorem AtG.trans {w0 w w' : World} {g t t' : Nat} (h : AtG w0 w g t) (h' : AtG w w' g t') : AtG w0 w' g t' := ⟨h'.cur, grown_then h.grew h'.grew, h.lt⟩

/-- A list that was drawn. -/
def DrewList (w : World) (g t : Nat) (e : Ending) (w' : World) : Prop :=
  ∃ a n cap xs t', e = .returned (.slice a n cap) ∧ Own w' w.heap.size a n cap xs ∧ n ≤ 10 ∧ Within xs (-1) 100 ∧ AtG w w' g t' ∧ t' ≤ t + 100

end Go.Proofs.Ytdemcjciijlbeaa

namespace Go.Proofs.Ytdemcjciijlbeaa
open Go.RowKit

set_option maxHeartbeats 800000 in
theorem pick_wide (g t : Nat) (n : Int) (w : World) (h : Cur w g t) (ht : t ≤ 100000) (hn : n ≤ 100000000) :
    Calls Try.prog 27 #[.pointer (some ⟨g, 0, none⟩), .int .i64 n] w fun e w' => ∃ v : Int, e = .returned (.int .i64 v) ∧ 0 ≤ v ∧ (v < n ∨ n ≤ 1 ∧ v = 0) ∧ v ≤ 65535 ∧ (∃ t', t ≤ t' ∧ t' ≤ t + 2 ∧ Cur w' g t') ∧ w.grownBy w' (some g) := by
  by_cases h1 : n ≤ 1
  · go_enter Try.func27, Try.ntmps27
    go_wp2_with fail
    go_ret
    exact ⟨0, rfl, Int.le_refl _, .inr ⟨h1, rfl⟩, by omega, ⟨t, Nat.le_refl _, by omega, h⟩, World.grownBy.refl _ _⟩
  · have h2 : 1 < n := by omega
    by_cases h3 : 200 < n
    · go_enter Try.func27, Try.ntmps27
      go_wp2_with fail
      refine (next_cur g t _ h (by omega)).mono ?_
      rintro e w1 ⟨v, rfl, v0, v1, hc1, hg1⟩
      go_wp2_with fail
      refine (next_cur g (t + 1) _ hc1 (by omega)).mono ?_
      rintro e w2 ⟨u, rfl, u0, u1, hc2, hg2⟩
      have hm0 : 0 ≤ (v * 256 + u) % n := Int.emod_nonneg _ (by omega)
      have hm1 : (v * 256 + u) % n < n := Int.emod_lt_of_pos _ (by omega)
      have hm2 : (v * 256 + u) % n ≤ v * 256 + u := by
        have e1 := Int.mul_ediv_add_emod (v * 256 + u) n
        have e2 : 0 ≤ n * ((v * 256 + u) / n) := Int.mul_nonneg (by omega) (Int.ediv_nonneg (by omega) (by omega))
        omega
      go_wp2_with fail
      go_ret
      exact ⟨_, rfl, hm0, .inl hm1, by omega, ⟨t + 2, by omega, by omega, hc2⟩, ⟨hg2.os.trans hg1.os, hg2.tape.trans hg1.tape, hg2.output.trans hg1.output, Nat.le_trans hg1.size hg2.size, fun j hj hne => (hg2.block j (Nat.lt_of_lt_of_le hj hg1.size) hne).trans (hg1.block j hj hne)⟩⟩
    · go_enter Try.func27, Try.ntmps27
      go_wp2_with fail
      refine (next_cur g t _ h (by omega)).mono ?_
      rintro e w1 ⟨v, rfl, v0, v1, hc1, hg1⟩
      have hm0 : 0 ≤ v % n := Int.emod_nonneg _ (by omega)
      have hm1 : v % n < n := Int.emod_lt_of_pos _ (by omega)
      go_wp2_with fail
      go_ret
      exact ⟨_, rfl, hm0, .inl hm1, by omega, ⟨t + 1, by omega, by omega, hc1⟩, hg1⟩

end Go.Proofs.Ytdemcjciijlbeaa

namespace Go.Proofs.Ytdemcjciijlbeaa
open Go.RowKit

end Go.Proofs.Ytdemcjciijlbeaa

namespace Go.Proofs.Ytdemcjciijlbeaa
open Go.RowKit

theorem cut_from {xs : List Int} {n j : Nat} (hn : xs.length = n) (h1 : 1 ≤ j) : isCut xs j = ((n : Int) - (from' xs j : Int) == (j : Int)) := by
  have := from_below xs j
  unfold isCut
  rw [Bool.eq_iff_iff]
  simp
  omega

theorem idxs_one {f : Nat → Bool} (h : f 0 = false) : idxs f 1 = [] := by simp [idxs, List.range_succ, h]

/-- What b's numbers become. -/
def shifted (ys : List Int) (d : Int) : List Int := ys.map (· + d)
theorem shifted_succ {ys : List Int} {d : Int} {k : Nat} (h : k < ys.length) : (shifted ys d).take (k + 1) = (shifted ys d).take k ++ [nth ys k + d] := by
  rw [take_succ_nth (by simpa [shifted] using h)]
  simp [shifted, nth, h]
theorem length_shifted (ys : List Int) (d : Int) : (shifted ys d).length = ys.length := by simp [shifted]
theorem join_yes {xs ys : List Int} {n m : Nat} (hn : xs.length = n) (hm : ys.length = m) (hx : isPark xs = true) (hy : isPark ys = true) (h : n + m ≤ 8) : joinOf xs ys = (xs ++ shifted ys n, true) := by
  simp [joinOf, hx, hy, hn, hm, h, shifted]
theorem park_bounds {ys : List Int} {m : Nat} (hm : ys.length = m) (h : isPark ys = true) : ∀ i, i < m → 0 ≤ nth ys i ∧ nth ys i ≤ (m : Int) - 1 := by
  intro i hi
  have := (isPark_iff.1 h).2.1 _ (nth_mem (xs := ys) (i := i) (by omega))
  omega

end Go.Proofs.Ytdemcjciijlbeaa

namespace Go.Proofs.Ytdemcjciijlbeaa
open Go.RowKit

theorem cut_below {xs : List Int} {j : Nat} (h1 : 1 ≤ j) : isCut xs j = ((below xs j : Int) == (j : Int)) := by
  unfold isCut
  rw [Bool.eq_iff_iff]
  simp
  omega

end Go.Proofs.Ytdemcjciijlbeaa

namespace Go.Proofs.Ytdemcjciijlbeaa
open Go.RowKit

theorem chs_70 : ∀ n, n < 9 → ∀ i, i < 9 → chs n i ≤ 70 := by decide +kernel
/-- The table of those that have chosen: k kinds are done, of the next one M. -/
def Next (c : Nat → Bool) (v : Nat → Nat) (L k M : Nat) (zs : List Int) : Prop :=
  ∀ s, s ≤ L → nth zs s = if c s = true then ((chs L s * (sumTo (fun j => chs s j * v j) k + if k ≤ s ∧ s < k + M then chs s k * v k else 0) : Nat) : Int) else 0
/-- A table. -/
def Tab (v : Nat → Nat) (L : Nat) (ys : List Int) : Prop := ∀ s, s ≤ L → nth ys s = ((chs L s * v s : Nat) : Int)
theorem nth_replicate0 (n i : Nat) : nth (List.replicate n 0) i = 0 := by
  simp only [nth, List.getD_eq_getElem?_getD, List.getElem?_replicate]
  split <;> rfl
theorem next_zero (c : Nat → Bool) (v : Nat → Nat) (L : Nat) : Next c v L 0 0 (List.replicate (L + 1) 0) := fun s _ => by
  rw [nth_replicate0]
  simp [sumTo]
theorem next_skip {c : Nat → Bool} {v : Nat → Nat} {L k M : Nat} {zs : List Int} (h : Next c v L k M zs) (hc : c (k + M) = false) : Next c v L k (M + 1) zs := fun s hs => by
  rw [h s hs]
  by_cases e : s = k + M
  · subst e; simp [hc]
  · have : (k ≤ s ∧ s < k + M) = (k ≤ s ∧ s < k + (M + 1)) := by apply propext; omega
    simp only [this]
theorem next_store {c : Nat → Bool} {v : Nat → Nat} {L k M : Nat} {ys zs : List Int} (h : Next c v L k M zs) (hy : Tab v L ys) (hl : zs.length = L + 1) (h8 : L ≤ 8) (hkM : k + M ≤ L) (hc : c (k + M) = true) :
    Next c v L k (M + 1) (zs.set (k + M) (nth zs (k + M) + nth ys k * (chs (L - k) M : Int))) := fun s hs => by
  rw [nth_set (by omega)]
  by_cases e : k + M = s
  · rw [if_pos e, h _ hkM, hy k (by omega), if_pos hc, if_neg (by omega), if_pos (by rw [← e]; exact hc), if_pos (by omega)]
    subst e
    have := chs_chs L (by omega) (k + M) (by omega) k (by omega) (by omega) (by omega)
    rw [show k + M - k = M by omega] at this
    rw [Nat.add_zero, Nat.mul_add, ← Nat.mul_assoc (chs L (k + M)) (chs (k + M) k), ← this]
    simp only [Int.natCast_mul, Int.natCast_add]
    rw [Int.mul_right_comm]
  · rw [if_neg e, h s hs]
    have : (k ≤ s ∧ s < k + M) = (k ≤ s ∧ s < k + (M + 1)) := by apply propext; omega
    simp only [this]
theorem next_done {c : Nat → Bool} {v : Nat → Nat} {L k M : Nat} {zs : List Int} (h : Next c v L k M zs) (hM : L < k + M) : Next c v L (k + 1) 0 zs := fun s hs => by
  rw [h s hs, if_neg (by omega : ¬ (k + 1 ≤ s ∧ s < k + 1 + 0)), Nat.add_zero, sumTo]
  by_cases e : k ≤ s
  · rw [if_pos (show k ≤ s ∧ s < k + M from ⟨e, by omega⟩)]
  · rw [if_neg (show ¬ (k ≤ s ∧ s < k + M) by omega), chs_big s k (by omega), Nat.zero_mul]
theorem sum_past {v : Nat → Nat} {s : Nat} : ∀ L, s ≤ L → sumTo (fun j => chs s j * v j) (L + 1) = sumTo (fun j => chs s j * v j) (s + 1)
  | L, h => by
    obtain ⟨d, rfl⟩ : ∃ d, L = s + d := ⟨L - s, by omega⟩
    induction d with
    | zero => rfl
    | succ d ih =>
      rw [show s + (d + 1) + 1 = (s + d + 1) + 1 from rfl, sumTo, ih (by omega), chs_big s (s + d + 1) (by omega), Nat.zero_mul, Nat.add_zero]
theorem next_final {c : Nat → Bool} {v : Nat → Nat} {L : Nat} {zs : List Int} (h : Next c v L (L + 1) 0 zs) : Tab (fun s => if c s = true then sumTo (fun j => chs s j * v j) (s + 1) else 0) L zs := fun s hs => by
  rw [h s hs, if_neg (by omega : ¬ (L + 1 ≤ s ∧ s < L + 1 + 0)), Nat.add_zero, sum_past L hs]
  split <;> simp [*]
theorem tab_le {v : Nat → Nat} {L : Nat} {ys : List Int} (h : Tab v L ys) (h8 : L ≤ 8) (hv : ∀ s, s ≤ 8 → v s ≤ 16777216) {s : Nat} (hs : s ≤ L) : 0 ≤ nth ys s ∧ nth ys s ≤ 1174405120 := by
  rw [h s hs]
  have := Nat.mul_le_mul (chs_70 L (by omega) s (by omega)) (hv s (by omega))
  omega
theorem next_le {c : Nat → Bool} {v : Nat → Nat} {L k M : Nat} {zs : List Int} (h : Next c v L k M zs) (h8 : L ≤ 8) (hk : k ≤ L) (hv : ∀ s, s ≤ 8 → v s ≤ 16777216) {s : Nat} (hs : s ≤ L) : 0 ≤ nth zs s ∧ nth zs s ≤ 1000000000000 := by
  rw [h s hs]
  split
  · have h1 : sumTo (fun j => chs s j * v j) k ≤ sumTo (fun _ => 1174405120) k := sumTo_le fun i hi => by
      have := Nat.mul_le_mul (chs_70 s (by omega) i (by omega)) (hv i (by omega))
      omega
    have h2 : ∀ k, sumTo (fun _ => 1174405120) k = k * 1174405120 := by
      intro k
      induction k with
      | zero => rfl
      | succ k ih => simp only [sumTo]; rw [ih]; omega
    rw [h2] at h1
    have h3 : k * 1174405120 ≤ 8 * 1174405120 := Nat.mul_le_mul_right _ (by omega)
    have h4 : (if k ≤ s ∧ s < k + M then chs s k * v k else 0) ≤ 1174405120 := by
      split
      · have := Nat.mul_le_mul (chs_70 s (by omega) k (by omega)) (hv k (by omega))
        omega
      · omega
    have := Nat.mul_le_mul (chs_70 L (by omega) s (by omega)) (Nat.add_le_add (Nat.le_trans h1 h3) h4)
    omega
  · omega
theorem prod_le {v : Nat → Nat} {L : Nat} {ys : List Int} (h : Tab v L ys) (h8 : L ≤ 8) (hv : ∀ s, s ≤ 8 → v s ≤ 16777216) {s : Nat} (hs : s ≤ L) {n k : Nat} (hn : n ≤ 8) (hk : k ≤ 8) :
    0 ≤ nth ys s * (chs n k : Int) ∧ nth ys s * (chs n k : Int) ≤ 1000000000000 := by
  rw [h s hs]
  have := Nat.mul_le_mul (Nat.mul_le_mul (chs_70 L (by omega) s (by omega)) (hv s (by omega))) (chs_70 n (by omega) k (by omega))
  rw [← Int.natCast_mul]
  omega
theorem V_le8 (b : Nat → Nat) {P : Nat} (hP : P ≤ 8) : ∀ s, s ≤ 8 → V b P s ≤ 16777216 := fun s hs => by
  refine Nat.le_trans (V_le b P (by omega) s (by omega)) ?_
  have : ∀ P, P < 9 → ∀ s, s < 9 → P ^ s ≤ 16777216 := by decide +kernel
  exact this P (by omega) s (by omega)
theorem tab_step {b : Nat → Nat} {P L : Nat} {zs : List Int} (h : Next (fun s => decide (P < b P + s)) (V b P) L (L + 1) 0 zs) : Tab (V b (P + 1)) L zs := fun s hs => by
  rw [next_final h s hs]
  simp only [V, decide_eq_true_eq]
/-- A first table. -/
theorem tab_first (b : Nat → Nat) (L : Nat) : Tab (V b 0) L ((List.replicate (L + 1) 0).set 0 1) := fun s _ => by
  rw [nth_set (by simp)]
  by_cases e : s = 0
  · subst e; simp [V, chs_zero]
  · rw [if_neg (by omega), nth_replicate0]
    simp [V, e]
theorem below_upto {xs : List Int} {n : Nat} (h0 : ∀ i, i < n → 0 ≤ nth xs i) (hn : xs.length = n) : below xs 0 = 0 := by
  unfold below
  rw [List.countP_eq_zero]
  intro x hx
  obtain ⟨i, hi, rfl⟩ := mem_nth hx
  have := h0 i (by omega)
  simp
  omega
theorem pow_small : ∀ b, b < 14 → ∀ k, k < 9 → b ^ k ≤ 815730721 := by decide +kernel
end Go.Proofs.Ytdemcjciijlbeaa

namespace Go.Proofs.Ytdemcjciijlbeaa
open Go.RowKit

theorem street_small : ∀ c, c < 9 → ∀ p, p < 13 → 1 ≤ c → c ≤ p → (p + 1 - c) * (p + 1) ^ (c - 1) ≤ 815730721 := by decide +kernel

theorem chs_times : ∀ n, n < 17 → ∀ i, i < n → chs n i * (n - i) ≤ 205920 := by decide +kernel

end Go.Proofs.Ytdemcjciijlbeaa

namespace Go.Proofs.Ytdemcjciijlbeaa
open Go.RowKit

theorem streetCnt_le {c q : Nat} (hc : c ≤ 8) (hq : q ≤ 12) : streetCnt c q ≤ 815730721 := by
  have : ∀ c, c < 9 → ∀ q, q < 13 → streetCnt c q ≤ 815730721 := by decide +kernel
  exact this c (by omega) q (by omega)
theorem streetCnt_self : ∀ n, n < 9 → streetCnt n n = cnt n := by decide +kernel

end Go.Proofs.Ytdemcjciijlbeaa

namespace Go.Proofs.Ytdemcjciijlbeaa
open Go.RowKit

/-- The product as the model makes it. -/
def trC (n : Nat) (k : Nat) : Nat := (n + 1) ^ (k - 1)
theorem trC_le {n k : Nat} (hn : n ≤ 8) (hk : k ≤ 8) : trC n k ≤ 4782969 := by
  have : ∀ n, n < 9 → ∀ k, k < 9 → (n + 1) ^ (k - 1) ≤ 4782969 := by decide +kernel
  exact this n (by omega) k (by omega)
theorem trC_cnt {n : Nat} : (if n = 0 then trC n 1 else trC n n) = cnt n := by
  unfold cnt trC
  split <;> simp

set_option maxHeartbeats 400000 in
theorem trCount_any (n : Nat) (w : World) (h8 : n ≤ 8) : Calls Try.prog 30 #[.int .i64 (n : Int)] w fun e w' => e = .returned (.int .i64 (cnt n : Int)) ∧ w = w' := by
  have HC := hid (trC_cnt (n := n))
  go_enter Try.func30, Try.ntmps30
  go_wp2_with fail
  go_loop [3, 4] (fun o i => ∃ k : Nat, 1 ≤ k ∧ (k ≤ n ∨ k = 1) ∧ i = .int .i64 k ∧ o = .int .i64 (trC n k : Int)) (fun _ i => n - (intOf i).toNat)
  case atStart => exact ⟨1, by omega, .inr rfl, rfl, by simp [trC]⟩
  case round =>
    obtain ⟨k, hk1, hk2, rfl, rfl⟩ := hrel
    by_cases hlt : k < n
    · have hb := trC_le h8 (k := k) (by omega)
      have HS : Hid (trC n (k + 1) = trC n k * (n + 1)) := hid (by unfold trC; rw [show k + 1 - 1 = (k - 1) + 1 by omega, Nat.pow_succ])
      have hm : (trC n k : Int) * ((n : Int) + 1) = ((trC n (k + 1) : Nat) : Int) := by rw [HS.out]; simp
      have hb2 := trC_le h8 (k := k + 1) (by omega)
      have hw : IntKind.i64.wrap ((trC n k : Int) * ((n : Int) + 1)) = ((trC n (k + 1) : Nat) : Int) := by rw [hm, IntKind.wrap_i64]; omega
      have hw2 : wrap64 ((trC n k : Int) * ((n : Int) + 1)) = ((trC n (k + 1) : Nat) : Int) := by rw [hm]; exact IntWalk.wrap64_in _ ⟨by omega, by omega⟩
      clear hm hb hb2
      go_wp2_with fail
      go_round
      case rel => exact ⟨k + 1, by omega, by omega, by go_num, rfl⟩
      case measure => simp [intOf]; omega
    · have HF : Hid (trC n k = cnt n) := hid (by
        rw [← HC.out]
        by_cases h0 : n = 0
        · rw [if_pos h0]; obtain rfl : k = 1 := by omega
          rfl
        · rw [if_neg h0]; obtain rfl : k = n := by omega
          rfl)
      go_wp2_with fail
      go_ret
      exact ⟨ret_int (by rw [HF.out]), rfl⟩

end Go.Proofs.Ytdemcjciijlbeaa

namespace Go.Proofs.Ytdemcjciijlbeaa
open Go.RowKit

/-- Numbers of at least 0 and at most hi, as far as they are set. -/
def Digs (xs : List Int) (hi : Int) : Prop := ∀ i, i < xs.length → 0 ≤ nth xs i ∧ nth xs i ≤ hi
theorem digs_zero (m : Nat) {hi : Int} (h : 0 ≤ hi) : Digs (List.replicate m 0) hi := fun i hi' => by
  have : nth (List.replicate m 0) i = 0 := by simp [nth] at hi' ⊢; simp [hi']
  omega
theorem Digs.set {xs : List Int} {hi y : Int} {k : Nat} (h : Digs xs hi) (hk : k < xs.length) (h0 : 0 ≤ y) (h1 : y ≤ hi) : Digs (xs.set k y) hi := fun i hi' => by
  rw [nth_set hk]
  split
  · exact ⟨h0, h1⟩
  · exact h i (by simpa using hi')
theorem Digs.snoc {xs : List Int} {hi y : Int} (h : Digs xs hi) (h0 : 0 ≤ y) (h1 : y ≤ hi) : Digs (xs ++ [y]) hi := fun i hi' => by
  simp at hi'
  by_cases e : i < xs.length
  · rw [nth_left e]; exact h i e
  · obtain rfl : i = xs.length := by omega
    rw [nth_append_at]; exact ⟨h0, h1⟩
theorem Digs.word {xs : List Int} {m : Nat} (h : Digs xs ((m : Int) + 1)) (hl : xs.length = m) (h8 : m ≤ 7) : Word xs (m + 1) := ⟨by omega, by omega, fun i hi => by have := h i hi; omega⟩

set_option maxHeartbeats 800000 in
theorem trWord_any (m : Nat) (M b num : Int) (w : World) (hM : M = (m : Int)) (hm : m ≤ 7) (hb0 : 1 ≤ b) (hb1 : b ≤ 100) (hn0 : 0 ≤ num) (hn1 : num ≤ 1000000) :
    Calls Try.prog 29 #[.int .i64 M, .int .i64 b, .int .i64 num] w fun e w' => ∃ a' cap' xs, e = .returned (.slice a' m cap') ∧ Own w' w.heap.size a' m cap' xs ∧ Digs xs (b - 1) ∧ Below w.heap.size w w' := by
  have HM := hid hM
  subst hM
  go_enter Try.func29, Try.ntmps29
  go_wp2_with (at_make; refine wpList_make_ints _ rfl _ _ rfl m rfl rfl (by omega) ?_; intro a' cap' w1 hown1 hb1)
  go_loopw [2, 8] (fun nu i wr => ∃ (k : Nat) (z : Int) (xs : List Int), k ≤ m ∧ i = .int .i64 ((k : Int) - 1) ∧ nu = .int .i64 z ∧ 0 ≤ z ∧ z ≤ 1000000 ∧ Own wr w.heap.size a' m cap' xs ∧ Hid (Digs xs (b - 1)) ∧ Below w.heap.size w wr) (fun _ i _ => (intOf i + 1).toNat)
  case atStart => exact ⟨m, num, _, Nat.le_refl _, rfl, rfl, hn0, hn1, hown1, hid (digs_zero m (by omega)), ‹_›⟩
  case round =>
    obtain ⟨k, z, xs, hk, rfl, rfl, z0, z1, hown, HD, hb⟩ := hrel
    clear hown1
    by_cases h0 : 0 < k
    · obtain ⟨j, rfl⟩ : ∃ j, k = j + 1 := ⟨k - 1, by omega⟩
      obtain ⟨g, rfl, hg1, hg2, hcell, hfr⟩ := hown.opened (by omega)
      have hck := hcell j (by omega)
      have hfk := hfr j
      have ejj : ((j + 1 : Nat) : Int) - 1 = (j : Int) := by omega
      rw [ejj]
      have hmod0 : 0 ≤ z % b := Int.emod_nonneg _ (by omega)
      have hmod1 : z % b < b := Int.emod_lt_of_pos _ (by omega)
      have hdiv0 : 0 ≤ z / b := Int.ediv_nonneg z0 (by omega)
      have hdiv1 : z / b ≤ z := Int.ediv_le_self _ z0
      have HL := hid hown.len
      clear hcell hfr
      go_wp2_with fail
      go_roundw
      case rel => exact ⟨j, z / b, _, by omega, rfl, rfl, hdiv0, by omega, (hown.set j _).1, hid (HD.out.set (by rw [HL.out]; omega) hmod0 (by omega)), hb.setCell (by simpa using hg1) _⟩
      case measure => simp [intOf]
    · obtain rfl : k = 0 := by omega
      go_wp2_with fail
      go_ret
      exact ⟨_, _, _, rfl, hown, HD.out, hb⟩

/-- A tree that was drawn, mostly. -/
def DrewTree (w : World) (g t : Nat) (e : Ending) (w' : World) : Prop :=
  ∃ a n cap xs t', e = .returned (.slice a n cap) ∧ Own w' w.heap.size a n cap xs ∧ n ≤ 9 ∧ AtG w w' g t' ∧ t' ≤ t + 100
/-- What such a draw leaves to its caller. -/
def DrewTree' (w : World) (e : Ending) (w' : World) : Prop :=
  ∃ a n cap xs, e = .returned (.slice a n cap) ∧ Own w' w.heap.size a n cap xs ∧ n ≤ 9 ∧ Below w.heap.size w w'
theorem cnt_wide {n : Nat} (h : n ≤ 8) : cnt n ≤ 4782969 := by
  have : ∀ n, n < 9 → cnt n ≤ 4782969 := by decide +kernel
  exact this n (by omega)

set_option maxHeartbeats 8000000 in
theorem tree_cur (g t : Nat) (most : Int) (w : World) (h : Cur w g t) (ht : t ≤ 1000) (hm0 : 0 ≤ most) (hm : most ≤ 8) :
    Calls Try.prog 17 #[.pointer (some ⟨g, 0, none⟩), .int .i64 most] w (DrewTree w g t) := by
  have hgl := h.lt
  have A0 := AtG.new h
  go_enter Try.func17, Try.ntmps17
  go_wp2_with fail
  refine (pick_cur g t (most + 1) _ A0.cur (by omega) (by omega)).mono ?_
  rintro e w1 ⟨v, rfl, v0, v1, ⟨t1, ta, tb, hc1⟩, hg1⟩
  obtain ⟨nn, rfl⟩ : ∃ nn : Nat, v = (nn : Int) := ⟨_, (Int.toNat_of_nonneg v0).symm⟩
  have hnn : nn ≤ 8 := by omega
  have A1 := A0.pick hc1 hg1
  clear hc1 hg1 v0 v1 A0
  by_cases hz : nn = 0
  · subst hz
    go_wp2_with fail
    go_ret
    exact ⟨none, 0, 0, [], t1, rfl, Own.nil _ _, by omega, A1, by omega⟩
  · obtain ⟨m, hm1⟩ : ∃ m, nn = m + 1 := ⟨nn - 1, by omega⟩
    have EM : Hid ((nn : Int) - 1 = (m : Int)) := hid (by omega)
    have hm7 : m ≤ 7 := by omega
    have hnp : 0 < nn := by omega
    have HM1 := hid hm1
    clear hm1
    have hzz : ¬ (nn : Int) = 0 := by omega
    have hze : ((nn : Int) == 0) = false := by simp [hz]
    clear hz
    go_wp2_with fail
    refine (trCount_any nn _ hnn).mono ?_
    rintro e _ ⟨rfl, rfl⟩
    have hcw := cnt_wide hnn
    generalize hcc : cnt nn = cc at *
    clear hcc
    go_wp2_with fail
    refine (pick_wide g t1 (cc : Int) _ A1.cur (by omega) (by omega)).mono ?_
    rintro e w2 ⟨num, rfl, n0, _, n1, ⟨t2, tc, td, hc2⟩, hg2⟩
    have A2 := A1.pick hc2 hg2
    have hs2 := A2.size
    clear hc2 hg2 A1 hcw
    go_wp2_with fail
    refine (trWord_any m ((nn : Int) - 1) ((nn : Int) + 1) num _ EM.out (by omega) (by omega) (by omega) n0 (by omega)).mono ?_
    rintro e w3 ⟨a3, cap3, ws, rfl, o3, hd3, hb3⟩
    have HW : Hid (Word ws (m + 1)) := hid (Digs.word (by have := EM.out; rwa [show (nn : Int) + 1 - 1 = (m : Int) + 1 by omega] at hd3) o3.len (by omega))
    have A3 := A2.later hb3 hs2
    have hs3 := A3.size
    clear hd3 A2 hb3 hs2
    go_wp2_with fail
    refine (trOf_any _ _ _ _ _ o3.has HW.out).mono ?_
    rintro e w4 ⟨a4, cap4, rfl, o4, hb4⟩
    have A4 := A3.later hb4 hs3
    have hown := o4.mono hs3
    clear o3 o4 HW A3 hb4 hs3 EM
    rw [← HM1.out] at hown
    generalize unOf ws = us at *
    rw [← HM1.out]
    go_wp2_with fail
    refine (pick_cur g t2 14 _ A4.cur (by omega) (by omega)).mono ?_
    rintro e w5 ⟨z, rfl, z0, z1, ⟨t5, x1, x2, hc5⟩, hg5⟩
    have A5 := A4.pick hc5 hg5
    have o5 := hown.kept hg5 (.inl hgl)
    clear hc5 hg5 hown A4 z1 z0
    by_cases h0 : (z == 0) = true
    · go_wp2_with fail
      refine (pick_cur g t5 (nn : Int) _ A5.cur (by omega) (by omega)).mono ?_
      rintro e w6 ⟨iv, rfl, i0, i1, ⟨t6, x3, x4, hc6⟩, hg6⟩
      obtain ⟨ii, rfl⟩ : ∃ ii : Nat, iv = (ii : Int) := ⟨_, (Int.toNat_of_nonneg i0).symm⟩
      have hii : ii < nn := by omega
      have A6 := A5.pick hc6 hg6
      have o6 := o5.kept hg6 (.inl hgl)
      clear hc6 hg6 o5 A5 i0 i1
      go_wp2_with fail
      refine (pick_cur g t6 ((nn : Int) + 3) _ A6.cur (by omega) (by omega)).mono ?_
      rintro e w7 ⟨yv, rfl, y0, y1, ⟨t7, x5, x6, hc7⟩, hg7⟩
      have A7 := A6.pick hc7 hg7
      have o7 := o6.kept hg7 (.inl hgl)
      have hy1 : yv ≤ 11 := by omega
      clear hc7 hg7 o6 A6 y1
      obtain ⟨g2, rfl, q1, q2, hcell, hfr⟩ := o7.opened (by omega)
      have hck := hcell ii hii
      have hfk := hfr ii
      clear hcell hfr
      go_wp2_with fail
      go_ret
      exact ⟨_, _, _, _, t7, rfl, (o7.set ii _).1, by omega, A7.later ((Below.refl w.heap.size w7).setCell (p := ⟨g2, ii, none⟩) (by simpa using q1) _) (Nat.le_refl _), by omega⟩
    · have h0' := Bool.eq_false_iff.2 h0
      clear h0
      by_cases h1 : (z == 1) = true
      · go_wp2_with fail
        refine (among_cur g t5 _ 3 3 [-1, 0, (nn : Int) + 1] _ (A5.later (alloc_below w5 _) A5.size).cur (by omega) (has_lit3 w5 (-1) 0 ((nn : Int) + 1)) (by omega) (by omega) (lit_ne A5.cur)).mono ?_
        rintro e w6 ⟨v6, rfl, hv6, ⟨t6, x3, x4, hc6⟩, hg6⟩
        have A5' := A5.later (alloc_below w5 (.cells #[.int .i64 (-1), .int .i64 0, .int .i64 ((nn : Int) + 1)] 3)) A5.size
        have A6 := A5'.pick hc6 hg6
        have o6 := (o5.below (alloc_below w5 (.cells #[.int .i64 (-1), .int .i64 0, .int .i64 ((nn : Int) + 1)] 3)) (Nat.le_refl _)).kept hg6 (.inl hgl)
        have hs6 := A6.size
        clear hc6 hg6 o5 A5 A5' hv6
        go_wp2_with (at_builtin; refine wpList_append_int _ rfl _ _ rfl w.heap.size _ _ _ _ _ rfl rfl o6 (by omega) hs6 ?_; intro a7 cap7 w7 o7 hb7)
        have A7 := A6.later hb7 (Nat.le_refl _)
        clear A6 o6 hb7
        go_ret
        exact ⟨_, _, _, _, t6, rfl, o7, by omega, A7, by omega⟩
      · have h1' := Bool.eq_false_iff.2 h1
        clear h1
        by_cases h2 : (z == 2) = true
        · go_wp2_with fail
          refine (pick_cur g t5 2 _ A5.cur (by omega) (by omega)).mono ?_
          rintro e w6 ⟨v6, rfl, v60, v61, ⟨t6, x3, x4, hc6⟩, hg6⟩
          have A6 := A5.pick hc6 hg6
          have hs6 := A6.size
          have hv6 : v6 = 0 ∨ v6 = 1 := by omega
          clear hc6 hg6 o5 A5 v61 v60
          rcases hv6 with rfl | rfl
          · go_wp2_with (refine wpList_make_ints _ rfl _ _ rfl 8 (by simp [Act.eval]) (by simp [Act.eval]) (by omega) ?_; intro am cm wm om hbm)
            go_ret
            exact ⟨_, _, _, _, t6, rfl, om.mono hs6, by omega, A6.later hbm hs6, by omega⟩
          · go_wp2_with (refine wpList_make_ints _ rfl _ _ rfl 9 (by simp [Act.eval]) (by simp [Act.eval]) (by omega) ?_; intro am cm wm om hbm)
            go_ret
            exact ⟨_, _, _, _, t6, rfl, om.mono hs6, by omega, A6.later hbm hs6, by omega⟩
        · have h2' := Bool.eq_false_iff.2 h2
          clear h2
          go_wp2_with fail
          go_ret
          exact ⟨_, _, _, _, t5, rfl, o5, by omega, A5, by omega⟩

end Go.Proofs.Ytdemcjciijlbeaa

namespace Go.Proofs.Ytdemcjciijlbeaa
open Go.RowKit

theorem total_range (g : Nat → Int) (m : Nat) : total ((List.range (m + 1)).map g) = total ((List.range m).map g) + g m := by
  rw [List.range_succ, List.map_append, List.map_singleton, total_snoc]
theorem total_range_add (f g : Nat → Int) : ∀ m, total ((List.range m).map fun v => f v + g v) = total ((List.range m).map f) + total ((List.range m).map g)
  | 0 => rfl
  | m + 1 => by rw [total_range, total_range, total_range, total_range_add f g m]; omega
theorem total_range_zero : ∀ m, total ((List.range m).map fun _ => (0 : Int)) = 0
  | 0 => rfl
  | m + 1 => by rw [total_range, total_range_zero m]; rfl
theorem total_range_one (a : Nat) : ∀ m, total ((List.range m).map fun (v : Nat) => if (a : Int) = (v : Int) then (1 : Int) else 0) = if a < m then 1 else 0
  | 0 => rfl
  | m + 1 => by
    rw [total_range, total_range_one a m]
    by_cases h : a = m
    · subst h
      rw [if_neg (by omega), if_pos rfl, if_pos (by omega)]
      rfl
    · rw [if_neg (show ¬ (a : Int) = (m : Int) by omega)]
      by_cases h2 : a < m
      · rw [if_pos h2, if_pos (by omega)]; rfl
      · rw [if_neg h2, if_neg (by omega)]; rfl
theorem count_sum (m : Nat) : ∀ (L : List Int), (∀ x ∈ L, 0 ≤ x ∧ x < (m : Int)) → total ((List.range m).map fun (v : Nat) => (L.count (v : Int) : Int)) = (L.length : Int)
  | [], _ => by simpa using total_range_zero m
  | a :: L, h => by
    obtain ⟨b, hb⟩ : ∃ b : Nat, a = (b : Int) := ⟨a.toNat, by have := (h a (by simp)).1; omega⟩
    have ih := count_sum m L fun x hx => h x (by simp [hx])
    have e : (fun (v : Nat) => (((a :: L).count (v : Int) : Nat) : Int)) = fun (v : Nat) => ((L.count (v : Int) : Nat) : Int) + (if (b : Int) = (v : Int) then (1 : Int) else 0) := by
      funext v
      rw [List.count_cons, hb]
      by_cases e : (b : Int) = (v : Int)
      · rw [if_pos e, if_pos (by simpa using e)]; omega
      · rw [if_neg e, if_neg (by simpa using e)]; omega
    rw [e, total_range_add, ih, total_range_one, if_pos (by have := (h a (by simp)).2; omega)]
    simp
theorem bel_sum {xs : List Int} {n : Nat} (h : Tree xs n) : ∀ k, k ≤ n → total ((List.range (n + 1)).map fun (v : Nat) => (belC xs k v : Int)) = total ((List.range k).map fun (i : Nat) => (dep xs ((i : Int) + 1) : Int))
  | 0, _ => total_range_zero (n + 1)
  | k + 1, hk => by
    have ih := bel_sum h k (by omega)
    rw [total_range (fun (i : Nat) => (dep xs ((i : Int) + 1) : Int)) k, ← ih]
    have e : (fun (v : Nat) => (belC xs (k + 1) v : Int)) = fun (v : Nat) => (belC xs k v : Int) + ((abv xs ((k : Int) + 1)).count (v : Int) : Int) := by
      funext v
      simp [belC]
    rw [e, total_range_add, count_sum (n + 1)]
    · rw [abv, length_upTo]
    · intro x hx
      unfold abv upTo at hx
      obtain ⟨j, _, rfl⟩ := List.mem_map.1 hx
      have := h.up_bounds (v := (k : Int) + 1) (by omega) (by omega) (j + 1)
      omega
theorem depths_sum {xs : List Int} {n : Nat} (h : Tree xs n) : total (belL xs) = total ((List.range xs.length).map fun (i : Nat) => (dep xs ((i : Int) + 1) : Int)) := by
  have := bel_sum h n (Nat.le_refl _)
  rw [h.len]
  unfold belL
  rw [h.len]
  exact this
theorem bel_root {xs : List Int} {n : Nat} (h : Tree xs n) : ∀ k, k ≤ n → belC xs k 0 = k
  | 0, _ => rfl
  | k + 1, hk => by
    rw [belC, bel_root h k (by omega)]
    obtain ⟨d1, d2, d3⟩ := h.dep (v := (k : Int) + 1) (by omega) (by omega)
    obtain ⟨d, hd⟩ : ∃ d, dep xs ((k : Int) + 1) = d + 1 := ⟨dep xs ((k : Int) + 1) - 1, by
      have : dep xs ((k : Int) + 1) ≠ 0 := fun e => by
        rw [e] at d1
        simp [up] at d1
        omega
      omega⟩
    have e : abv xs ((k : Int) + 1) = upTo xs ((k : Int) + 1) d ++ [0] := by
      rw [abv, hd, upTo_succ, ← hd, d1]
    have hz : (upTo xs ((k : Int) + 1) d).count 0 = 0 := by
      rw [List.count_eq_zero]
      intro hx
      unfold upTo at hx
      obtain ⟨j, hj, e⟩ := List.mem_map.1 hx
      rw [List.mem_range] at hj
      exact d2 (j + 1) (by omega) e
    rw [e, Int.natCast_zero, List.count_append, hz]
    simp
/-- The places of the nodes above, along the breadth order. -/
structure Above (ps : List Int) (m : Nat) (f : Nat → Nat) : Prop where
  lt : ∀ i, 1 ≤ i → i < (bfs ps m).length → f i < i ∧ f i < m ∧ par ps (nth (bfs ps m) i) = nth (bfs ps m) (f i)
  mono : ∀ i j, 1 ≤ i → i ≤ j → j < (bfs ps m).length → f i ≤ f j
theorem above_ex (ps : List Int) : ∀ m, ∃ f, Above ps m f
  | 0 => ⟨fun _ => 0, ⟨fun i h1 h2 => by simp [bfs] at h2; omega, fun _ _ _ _ _ => Nat.le_refl _⟩⟩
  | m + 1 => by
    obtain ⟨f, h1, h2⟩ := above_ex ps m
    by_cases hk : m < (bfs ps m).length
    · have e := bfs_step hk
      refine ⟨fun i => if i < (bfs ps m).length then f i else m, ⟨fun i i1 i2 => ?_, fun i j i1 i2 i3 => ?_⟩⟩
      · rw [e] at i2 ⊢
        by_cases hi : i < (bfs ps m).length
        · obtain ⟨a, b, c⟩ := h1 i i1 hi
          rw [if_pos hi]
          refine ⟨a, by omega, ?_⟩
          rw [nth_left hi, nth_left (by omega), c]
        · rw [if_neg hi]
          refine ⟨by omega, by omega, ?_⟩
          rw [nth_left hk]
          have hm : nth (bfs ps m ++ nodesW ps (nth (bfs ps m) m)) i ∈ nodesW ps (nth (bfs ps m) m) := by
            have key : ∀ (A L : List Int), ¬ i < A.length → nth (A ++ L) i = nth L (i - A.length) := by
              intro A L h
              unfold nth
              rw [List.getD_eq_getElem?_getD, List.getD_eq_getElem?_getD, List.getElem?_append_right (by omega)]
            rw [key _ _ hi]
            exact nth_mem (by rw [List.length_append] at i2; omega)
          exact (mem_nodesW.1 hm).2.2
      · by_cases hj : j < (bfs ps m).length
        · rw [if_pos hj, if_pos (by omega)]
          exact h2 i j i1 i2 hj
        · rw [if_neg hj]
          by_cases hi : i < (bfs ps m).length
          · rw [if_pos hi]
            have := (h1 i i1 hi).2.1
            omega
          · rw [if_neg hi]
            exact Nat.le_refl _
    · have e : bfs ps (m + 1) = bfs ps m := by simp [bfs, hk]
      refine ⟨f, ⟨fun i i1 i2 => ?_, fun i j i1 i2 i3 => ?_⟩⟩
      · rw [e] at i2 ⊢
        obtain ⟨a, b, c⟩ := h1 i i1 i2
        exact ⟨a, by omega, c⟩
      · rw [e] at i3
        exact h2 i j i1 i2 i3
theorem depth_mono {ps : List Int} {n : Nat} (h : Tree ps n) : ∀ (j i : Nat), i ≤ j → j < n + 1 → dep ps (nth (brOrder ps) i) ≤ dep ps (nth (brOrder ps) j) := by
  obtain ⟨f, h1, h2⟩ := above_ex ps (ps.length + 1)
  have hl : (bfs ps (ps.length + 1)).length = n + 1 := br_length h
  rw [hl] at h1 h2
  intro j
  induction j using Nat.strongRecOn with
  | _ j ih =>
    intro i hij hj
    by_cases hi : i = 0
    · subst hi
      have e0 : nth (brOrder ps) 0 = 0 := bfs_first ps _
      rw [e0]
      have : dep ps 0 = 0 := dep_is (by simp [up]) (fun k hk => by omega) (Nat.zero_le _)
      omega
    · obtain ⟨a1, _, a3⟩ := h1 i (by omega) (by omega)
      obtain ⟨b1, _, b3⟩ := h1 j (by omega) hj
      have hm := h2 i j (by omega) hij hj
      have := ih (f j) b1 (f i) hm (by omega)
      have bd : ∀ k, 1 ≤ k → k < n + 1 → 1 ≤ nth (bfs ps (ps.length + 1)) k ∧ nth (bfs ps (ps.length + 1)) k ≤ (n : Int) := fun k k1 k2 => by
        have hm : nth (bfs ps (ps.length + 1)) k ∈ bfs ps (ps.length + 1) := nth_mem (by rw [hl]; exact k2)
        have hb := bfs_bounds hm
        have h4 := h.len
        refine ⟨?_, by omega⟩
        have hne : nth (bfs ps (ps.length + 1)) k ≠ 0 := fun e => by
          have := nth_inj (bfs_nodup ps _) (i := k) (j := 0) (by rw [hl]; exact k2) (by rw [hl]; omega) (by rw [e, bfs_first])
          omega
        omega
      obtain ⟨c1, c2⟩ := bd i (by omega) (by omega)
      obtain ⟨e1, e2⟩ := bd j (by omega) hj
      have q1 := h.dep_par c1 c2
      have q2 := h.dep_par e1 e2
      unfold brOrder at this ⊢
      rw [q1, q2, a3, b3]
      omega
end Go.Proofs.Ytdemcjciijlbeaa

namespace Go.Proofs.Ytdemcjciijlbeaa
open Go.RowKit

theorem bel_le {xs : List Int} {n : Nat} (h : Tree xs n) (h8 : n ≤ 8) (v : Nat) : ∀ k, k ≤ n → belC xs k v ≤ 8 * k
  | 0, _ => Nat.zero_le _
  | k + 1, hk => by
    have ih := bel_le h h8 v k (by omega)
    have hc := List.count_le_length (a := (v : Int)) (l := abv xs ((k : Int) + 1))
    rw [abv, length_upTo] at hc
    have := (h.dep (v := (k : Int) + 1) (by omega) (by omega)).2.2
    rw [belC, abv]
    omega
structure TmF (xs : List Int) (n : Nat) : Prop where
  h8 : n ≤ 8
  inv : invOf xs = (invL xs, true)
  cnt : invCnt xs = (((invL xs).length : Int), true)
  dep : depOf xs = (depL xs, true)
  bel : belOf xs = (belL xs, true)
  br : brOf xs = (brOrder xs, true)
  lenD : (depL xs).length = n
  lenB : (belL xs).length = n + 1
  lenO : (brOrder xs).length = n + 1
  sum : total (belL xs) = total (depL xs)
  root : nth (belL xs) 0 = (n : Int)
  bD : ∀ k, k < n → 0 ≤ nth (depL xs) k ∧ nth (depL xs) k ≤ 8
  bB : ∀ k, k < n + 1 → 0 ≤ nth (belL xs) k ∧ nth (belL xs) k ≤ 64
  bX : ∀ k, k < n → 0 ≤ nth xs k ∧ nth xs k ≤ (n : Int)
  mono : ∀ k, 2 ≤ k → k < n + 1 → ∃ u v : Nat, nth (brOrder xs) k = (v : Int) + 1 ∧ nth (brOrder xs) (k - 1) = (u : Int) + 1 ∧ u < n ∧ v < n ∧ nth (depL xs) u ≤ nth (depL xs) v
  rec0 : ∀ i, i < n → nth xs i = 0 → nth (depL xs) i = 1
  recS : ∀ i, i < n → ∀ q : Nat, nth xs i = (q : Int) + 1 → q < n ∧ nth (depL xs) i = nth (depL xs) q + 1
  pair : ∀ r ∈ invL xs, ∃ i j t : Nat, r = [(i : Int), (j : Int)] ∧ 1 ≤ i ∧ i < j ∧ j ≤ n ∧ up xs i (t + 1) = (j : Int) ∧ ∀ s, s ≤ t → up xs i s ≠ (j : Int) ∧ ∃ q : Nat, up xs i s = (q : Int) + 1 ∧ q < n ∧ up xs i (s + 1) = nth xs q
theorem nth_depLm {xs : List Int} {k : Nat} (h : k < xs.length) : nth (depL xs) k = (Go.Proofs.Ytdemcjciijlbeaa.dep xs ((k : Int) + 1) : Int) := by simp [depL, nth, h]
theorem tmF {xs : List Int} {n : Nat} (hb : treeB xs = true) (hl : xs.length = n) : TmF xs n := by
  have h := tree_of hb hl
  subst hl
  have h8 := (treeB_iff.1 hb).1
  have hx := (treeB_iff.1 hb).2.1
  have hord : (brOrder xs).length = xs.length + 1 := br_length h
  have bd : ∀ k, 1 ≤ k → k < xs.length + 1 → 1 ≤ nth (brOrder xs) k ∧ nth (brOrder xs) k ≤ (xs.length : Int) := fun k k1 k2 => by
    have hm : nth (brOrder xs) k ∈ bfs xs (xs.length + 1) := nth_mem (xs := brOrder xs) (by rw [hord]; exact k2)
    have hb2 := bfs_bounds hm
    refine ⟨?_, hb2.2⟩
    have hne : nth (brOrder xs) k ≠ 0 := fun e => by
      have := nth_inj (bfs_nodup xs (xs.length + 1)) (i := k) (j := 0) (by have := hord; unfold brOrder at this; omega) (by have := hord; unfold brOrder at this; omega) (by unfold brOrder at e; rw [e, bfs_first])
      omega
    omega
  refine ⟨h8, by simp [invOf, hb], by simp [invCnt, hb], by simp [depOf, hb], by simp [belOf, hb], by simp [brOf, hb], by simp [depL], length_belL xs, hord, depths_sum h, ?_, fun k hk => ?_, fun k hk => ?_, fun k hk => hx _ (nth_mem hk), fun k k2 hk => ?_, fun i hi e => ?_, fun i hi q e => ?_, fun r hr => ?_⟩
  · rw [nth_belL (Nat.zero_le _), bel_root h _ (Nat.le_refl _)]
  · rw [nth_depLm hk]
    have := (h.dep (v := (k : Int) + 1) (by omega) (by omega)).2.2
    omega
  · rw [nth_belL (by omega)]
    have := bel_le h h8 k xs.length (Nat.le_refl _)
    omega
  · obtain ⟨a1, a2⟩ := bd k (by omega) hk
    obtain ⟨b1, b2⟩ := bd (k - 1) (by omega) (by omega)
    have hm := depth_mono h k (k - 1) (by omega) hk
    refine ⟨(nth (brOrder xs) (k - 1) - 1).toNat, (nth (brOrder xs) k - 1).toNat, by omega, by omega, by omega, by omega, ?_⟩
    rw [nth_depLm (by omega), nth_depLm (by omega)]
    have e1 : (((nth (brOrder xs) (k - 1) - 1).toNat : Nat) : Int) + 1 = nth (brOrder xs) (k - 1) := by omega
    have e2 : (((nth (brOrder xs) k - 1).toNat : Nat) : Int) + 1 = nth (brOrder xs) k := by omega
    rw [e1, e2]
    omega
  · rw [nth_depLm hi]
    have := h.dep_par (v := (i : Int) + 1) (by omega) (by omega)
    have hp : par xs ((i : Int) + 1) = nth xs i := by unfold par; rw [show ((i : Int) + 1).toNat - 1 = i by omega]
    rw [this, hp, e]
    have h0 : Go.Proofs.Ytdemcjciijlbeaa.dep xs 0 = 0 := dep_is (by simp [up]) (fun k hk => by omega) (Nat.zero_le _)
    omega
  · have hq := hx _ (nth_mem hi)
    rw [e] at hq
    rw [nth_depLm hi, nth_depLm (by omega)]
    have := h.dep_par (v := (i : Int) + 1) (by omega) (by omega)
    have hp : par xs ((i : Int) + 1) = nth xs i := by unfold par; rw [show ((i : Int) + 1).toNat - 1 = i by omega]
    rw [this, hp, e]
    omega
  · unfold invL invTo at hr
    obtain ⟨i, hi, hr⟩ := List.mem_flatMap.1 hr
    rw [List.mem_range] at hi
    unfold invRow at hr
    obtain ⟨t, ht, rfl⟩ := List.mem_map.1 hr
    obtain ⟨t1, t2⟩ := List.mem_filter.1 ht
    rw [List.mem_range] at t1
    rw [hasB_iff] at t2
    unfold abv upTo at t2
    obtain ⟨s, hs, e⟩ := List.mem_map.1 t2
    rw [List.mem_range] at hs
    obtain ⟨d1, d2, d3⟩ := h.dep (v := ((i + 1 : Nat) : Int)) (by omega) (by omega)
    refine ⟨i + 1, i + 1 + 1 + t, s, rfl, by omega, by omega, by omega, e, fun s' hs' => ?_⟩
    have hne := d2 s' (by omega)
    have hub := h.up_bounds (v := ((i + 1 : Nat) : Int)) (by omega) (by omega) s'
    refine ⟨fun hh => up_inj d1 d2 (a := s') (b := s + 1) (by omega) (by omega) (hh.trans e.symm), (up xs ((i + 1 : Nat) : Int) s' - 1).toNat, by omega, by omega, ?_⟩
    rw [up_succ hne]
    unfold par
    congr 1
    omega
end Go.Proofs.Ytdemcjciijlbeaa

namespace Go.Proofs.Ytdemcjciijlbeaa
open Go.RowKit

set_option maxHeartbeats 1000000 in
theorem trPairs_any (a : Option Addr) (n cap : Nat) (xs : List Int) (w : World) (h : Has w a n cap xs) (ht : Tree xs n) (h8 : n ≤ 8) :
    Calls Try.prog 23 #[.slice a n cap] w (RowsRet w (invL xs)) := by
  have HL := hid h.len
  have HT := hid ht
  clear ht
  go_enter Try.func23, Try.ntmps23
  go_wp2_with fail
  go_loopw [3, 4] (fun o i wr => ∃ (k q : Nat) (a' : Option Addr) (cq : Nat) (rs : List Rw), k ≤ n ∧ q ≤ 8 * k ∧ i = .int .i64 ((k : Int) + 1) ∧ o = .slice a' q cq ∧ OwnR wr w.heap.size a' q cq rs ∧ Hid (numsOf rs = invTo xs k) ∧ Below w.heap.size w wr) (fun _ i _ => n + 1 - (intOf i).toNat)
  case atStart => exact ⟨0, 0, none, 0, [], Nat.zero_le _, Nat.zero_le _, rfl, rfl, OwnR.nil _ _, hid rfl, Below.refl _ _⟩
  case round =>
    obtain ⟨wo, rfl⟩ : ∃ wo : World, wo = wr := ⟨_, rfl⟩
    obtain ⟨k, q, a', cq, rs, hk, hq, rfl, rfl, hown, HN, hb⟩ := hrel
    by_cases hlt : k < n
    · go_wp2_with fail
      refine (trAbove_at _ _ _ _ (k + 1) _ _ (by omega) (h.below hb (Nat.le_refl _)) HT.out (by omega)).mono ?_
      rintro e w2 ⟨a2, m2, cap2, rfl, hown2, hb2⟩
      have hownX := hown.below hb2 (Nat.le_refl _)
      have hbX := hb.trans (hb2.mono hb.size)
      have hb0 := hb.size
      have hA := hown2
      have hAlt : wo.heap.size ≤ w2.heap.size := hb2.size
      clear hown hb
      go_wp2_with fail
      go_loopw [3, 6] (fun o jv wr => ∃ (c q : Nat) (a' : Option Addr) (cq : Nat) (rs : List Rw), c ≤ n - (k + 1) ∧ q ≤ 8 * k + c ∧ jv = .int .i64 (((k + 1 + 1 + c : Nat)) : Int) ∧ o = .slice a' q cq ∧ OwnR wr w.heap.size a' q cq rs ∧ Hid (numsOf rs = invTo xs k ++ invRow xs (k + 1) c) ∧ Own wr wo.heap.size a2 m2 cap2 (abv xs ((k + 1 : Nat) : Int)) ∧ Below w.heap.size w wr) (fun _ jv _ => n + 1 - (intOf jv).toNat)
      case atStart => exact ⟨0, q, a', cq, rs, Nat.zero_le _, by omega, by go_num, rfl, hownX, hid (by rw [HN.out, invRow_zero, List.append_nil]), hA, hbX⟩
      case round =>
        obtain ⟨c, q1, a1, cq1, rs1, hc, hq1, rfl, rfl, hown1, HN1, hA1, hb1⟩ := hrel
        have hv : Hid (((k + 1 + 1 + c : Nat) : Int) = (k : Int) + 1 + 1 + (c : Int)) := hid (by omega)
        by_cases hlc : c < n - (k + 1)
        · have hcn : k + 1 + 1 + c ≤ n := by omega
          by_cases hh : hasB (abv xs ((k + 1 : Nat) : Int)) ((k + 1 + 1 + c : Nat) : Int) = true
          · have HP := hid (invRow_yes hh)
            rw [hv.out] at hh
            have HH := hid hh
            clear hh
            go_wp2_with fail
            refine (l1Has_any _ _ _ _ _ _ hA1.has).mono ?_
            rintro e w3 ⟨rfl, rfl⟩
            rw [HH.out]
            go_wp2_with (at_builtin; refine wpList_append_lit2k _ rfl _ _ rfl w.heap.size _ _ _ _ _ _ rfl rfl hown1 (by omega) hb1.size ?_; intro a3 cap3 w3 rs3 hn3 hown3 hb3 hk3 _)
            go_roundw
            case rel => exact ⟨c + 1, q1 + 1, a3, cap3, rs3, by omega, by omega, by go_num, rfl, hown3, hid (by rw [hn3, HN1.out, HP.out, List.append_assoc]; simp), hk3 hA1, hb1.trans hb3⟩
            case measure => simp [intOf]; omega
          · have hh := Bool.eq_false_iff.2 hh
            have HP := hid (invRow_no hh)
            rw [hv.out] at hh
            have HH := hid hh
            clear hh
            go_wp2_with fail
            refine (l1Has_any _ _ _ _ _ _ hA1.has).mono ?_
            rintro e w3 ⟨rfl, rfl⟩
            rw [HH.out]
            go_wp2_with fail
            go_roundw
            case rel => exact ⟨c + 1, q1, a1, cq1, rs1, by omega, by omega, by go_num, rfl, hown1, hid (by rw [HN1.out, HP.out]), hA1, hb1⟩
            case measure => simp [intOf]; omega
        · obtain rfl : c = n - (k + 1) := by omega
          have hcn : ¬ k + 1 + 1 + (n - (k + 1)) ≤ n := by omega
          go_wp2_with fail
          go_roundw
          case rel => exact ⟨k + 1, q1, a1, cq1, rs1, by omega, by omega, by go_num, rfl, hown1, hid (by rw [HN1.out, invTo_succ, HL.out]), hb1⟩
          case measure => simp [intOf]; omega
    · obtain rfl : k = n := by omega
      have HE : Hid (numsOf rs = invL xs) := hid (by rw [HN.out, invL, HL.out])
      go_wp2_with fail
      go_ret
      exact ⟨a', q, cq, rs, rfl, hown, HE.out, hb⟩

theorem specPairs_any (a : Option Addr) (n cap : Nat) (xs : List Int) (w : World) (h : Has w a n cap xs) :
    Calls Try.prog 7 #[.slice a n cap] w (PostRows w (invOf xs)) := by
  by_cases hg : treeB xs = true
  · have HR : Hid (invOf xs = (invL xs, true)) := hid (by simp [invOf, hg])
    have ht := tree_of hg h.len
    have HG := hid hg
    clear hg
    go_enter Try.func7, Try.ntmps7
    go_wp2_with (go_at_call 22; refine (trGood_any _ _ _ _ _ h).mono ?_; rintro e w' ⟨rfl, rfl⟩; rw [HG.out])
    refine (trPairs_any _ _ _ _ _ h ht ht.le).mono ?_
    rintro e w1 ⟨a1, q, c1, rs, rfl, hown, hn, hb⟩
    go_wp2_with fail
    go_ret2
    exact postRows HR.out hown hn hb
  · have HR : Hid (invOf xs = ([], false)) := hid (by simp [invOf, hg])
    have HG := hid (Bool.eq_false_iff.2 hg)
    clear hg
    go_enter Try.func7, Try.ntmps7
    go_wp2_with (go_at_call 22; refine (trGood_any _ _ _ _ _ h).mono ?_; rintro e w' ⟨rfl, rfl⟩; rw [HG.out])
    go_ret2
    exact postRows_no HR.out (Below.refl _ _)
end Go.Proofs.Ytdemcjciijlbeaa

namespace Go.Proofs.Ytdemcjciijlbeaa
open Go.RowKit

set_option maxHeartbeats 400000 in
theorem wSame_any (a b : Option Addr) (n m cap cap' : Nat) (xs ys : List Int) (w : World) (h : Has w a n cap xs) (h' : Has w b m cap' ys) :
    Calls Try.prog 14 #[.slice a n cap, .slice b m cap'] w fun e w' => e = .returned (.bool (same xs ys)) ∧ Quiet w w' := by
  obtain ⟨h0, h1, h2, h3, h4⟩ := h
  obtain ⟨k0, k1, k2, k3, k4⟩ := h'
  by_cases hnm : n = m
  · have hb : ((n : Int) != (m : Int)) = false := by simp [hnm]
    subst hnm
    go_enter Try.func14, Try.ntmps14
    go_wp2_with fail
    go_loopw [13] (fun i wr => ∃ k : Nat, k ≤ n ∧ i = .int .i64 k ∧ FromTo xs ys k ∧ Quiet w wr) (fun i _ => n - (intOf i).toNat)
    case atStart => exact ⟨0, Nat.zero_le _, rfl, fun i hi => by omega, ⟨0, rfl⟩⟩
    case round =>
      obtain ⟨k, hk, rfl, hft, q, hq⟩ := hrel
      subst hq
      by_cases hlt : k < n
      · obtain ⟨b1, off1, rfl, hb1, hc1⟩ := h4 (by omega)
        obtain ⟨b2, off2, rfl, hb2, hc2⟩ := k4 (by omega)
        have hck := hc1 k hlt
        have hdk := hc2 k hlt
        have hkk : (k : Int) < (n : Int) := by omega
        have hkz : (0 : Int) ≤ (k : Int) := by omega
        clear hc1 hc2 h4 k4
        by_cases he : nth xs k = nth ys k
        · have hbe : (nth xs k != nth ys k) = false := by simp [he]
          have HE := hid he
          clear he
          go_wp2_with fail
          go_quiet (fail)
          go_wp2_with fail
          go_roundw
          case rel => exact ⟨k + 1, by omega, by go_num, fun i hi => by rcases Nat.lt_succ_iff_lt_or_eq.1 hi with h | rfl; exact hft i h; exact HE.out.symm, ⟨_, rfl⟩⟩
          case measure => simp [intOf]; omega
        · have hbe : (nth xs k != nth ys k) = true := by simp [he]
          have HE := hid he
          clear he
          go_wp2_with fail
          go_quiet (fail)
          go_wp2_with fail
          go_ret
          exact ⟨ret_bool (same_no HE.out).symm, (Quiet.more ⟨_, rfl⟩ _)⟩
      · obtain rfl : k = n := by omega
        go_wp2_with fail
        go_ret
        exact ⟨ret_bool (same_yes (by omega) (by rw [h0]; exact hft)).symm, ⟨_, rfl⟩⟩
  · have hb : ((n : Int) != (m : Int)) = true := by simp; omega
    go_enter Try.func14, Try.ntmps14
    go_wp2_with fail
    go_ret
    exact ⟨ret_bool (show false = same xs ys from by unfold same; symm; rw [decide_eq_false_iff_not]; rintro rfl; omega), ⟨0, rfl⟩⟩

end Go.Proofs.Ytdemcjciijlbeaa

namespace Go.Proofs.Ytdemcjciijlbeaa
open Go.RowKit

/-- The first difference decides. -/
def lexLess : List Int → List Int → Bool
  | x :: xs, y :: ys => if x = y then lexLess xs ys else decide (x < y)
  | _, _ => false

theorem mem_upFrom : ∀ (k : Nat) (l x : Int), x ∈ upFrom l k ↔ l ≤ x ∧ x < l + k
  | 0, l, x => by simp only [upFrom, List.not_mem_nil, false_iff]; omega
  | k + 1, l, x => by simp only [upFrom, List.mem_cons, mem_upFrom k]; omega

theorem lex_mem : ∀ (ls hs L : List Int), ls.length = hs.length → L ∈ lex ls hs → L.length = ls.length ∧ ∀ i, i < ls.length → nth ls i ≤ nth L i ∧ nth L i ≤ nth hs i
  | [], [], L, _, h => by
    simp [lex] at h
    subst h
    exact ⟨rfl, fun i hi => by simp at hi⟩
  | l :: ls, h :: hs, L, hl, hm => by
    rw [lex] at hm
    obtain ⟨x, hx, hL⟩ := List.mem_flatMap.1 hm
    obtain ⟨M, hM, rfl⟩ := List.mem_map.1 hL
    obtain ⟨h1, h2⟩ := lex_mem ls hs M (by simpa using hl) hM
    rw [mem_upFrom] at hx
    unfold span at hx
    refine ⟨by simp [h1], fun i hi => ?_⟩
    cases i with
    | zero => simp only [nth_cons_zero]; omega
    | succ i => simp only [nth_cons_succ]; exact h2 i (by simpa using hi)

theorem lex_pairwise : ∀ (ls hs : List Int), (lex ls hs).Pairwise (fun a b => lexLess a b = true)
  | l :: ls, h :: hs => by
    have ih := lex_pairwise ls hs
    have key : ∀ (k : Nat) (x : Int), ((upFrom x k).flatMap fun x => (lex ls hs).map (x :: ·)).Pairwise (fun a b => lexLess a b = true) := by
      intro k
      induction k with
      | zero => intro x; simp [upFrom]
      | succ k ihk =>
        intro x
        simp only [upFrom, List.flatMap_cons]
        rw [List.pairwise_append]
        refine ⟨?_, ihk _, fun a ha b hb => ?_⟩
        · rw [List.pairwise_map]
          exact ih.imp fun h => by simp [lexLess, h]
        · obtain ⟨M, _, rfl⟩ := List.mem_map.1 ha
          obtain ⟨y, hy, hb⟩ := List.mem_flatMap.1 hb
          obtain ⟨M', _, rfl⟩ := List.mem_map.1 hb
          rw [mem_upFrom] at hy
          simp only [lexLess]
          rw [if_neg (by omega)]
          simp
          omega
    rw [lex]
    exact key _ _
  | [], _ => by simp [lex]
  | _ :: _, [] => by simp [lex]

theorem lex_last : ∀ (ls hs : List Int), ls.length = hs.length → (∀ i, i < ls.length → nth ls i ≤ nth hs i) → ∃ M, lex ls hs = M ++ [hs]
  | [], [], _, _ => ⟨[], by simp [lex]⟩
  | l :: ls, h :: hs, hl, hle => by
    obtain ⟨M, hM⟩ := lex_last ls hs (by simpa using hl) (fun i hi => by have := hle (i + 1) (by simpa using hi); simpa only [nth_cons_succ] using this)
    have h0 := hle 0 (by simp)
    simp only [nth_cons_zero] at h0
    have e : span l h = (h - l).toNat + 1 := by unfold span; omega
    have e2 : l + ((h - l).toNat : Int) = h := by omega
    rw [lex, e, upFrom_snoc, e2, List.flatMap_append, hM]
    exact ⟨((upFrom l (h - l).toNat).flatMap fun x => (M ++ [hs]).map (x :: ·)) ++ M.map (h :: ·), by simp⟩

theorem down_mem (t : List Int) : ∀ (x z : Nat), down t x ≤ z → z < x → (z : Int) ∈ t
  | 0, _, _, h => absurd h (by omega)
  | x + 1, z, h1, h2 => by
    by_cases hm : (x : Int) ∈ t
    · rw [down_step hm] at h1
      by_cases e : z = x
      · subst e; exact hm
      · exact down_mem t x z h1 (by omega)
    · rw [down_stop hm] at h1
      omega

/-- A list between the least favourites and the outcome drives to it. -/
theorem drive_out {xs L : List Int} (ho : outB xs = true) (hl : L.length = xs.length) (h : ∀ i, i < xs.length → leastOf xs i ≤ nth L i ∧ nth L i ≤ nth xs i) : ∀ k, k ≤ xs.length → drive xs.length (L.take k) = xs.take k
  | 0, _ => rfl
  | k + 1, hk => by
    have ih := drive_out ho hl h k (by omega)
    have hb := out_nth ho (i := k) (by omega)
    have h2 := h k (by omega)
    have h3 := leastOf_bounds hb.1
    rw [drive_succ (by omega), ih, take_succ_nth (by omega)]
    congr 2
    refine place_is h2.2 hb.2 (fun hm => by have := (out_before ho (i := k) (j := k) (by omega) (by omega)).1 hm; omega) (fun z h4 h5 => ?_)
    have := down_mem (xs.take k) (nth xs k).toNat z.toNat (by unfold leastOf at h2; omega) (by omega)
    rwa [Int.toNat_of_nonneg (by omega)] at this

/-- What each of all lists with an outcome is. -/
theorem outcome_list {xs L : List Int} (ho : outB xs = true) (h : L ∈ lex (leasts xs) xs) : L.length = xs.length ∧ drive xs.length L = xs ∧ ∀ x ∈ L, 0 ≤ x ∧ x ≤ (xs.length : Int) - 1 := by
  obtain ⟨h1, h2⟩ := lex_mem _ _ _ (length_leasts xs) h
  rw [length_leasts] at h1 h2
  have hb : ∀ i, i < xs.length → leastOf xs i ≤ nth L i ∧ nth L i ≤ nth xs i := fun i hi => by have := h2 i hi; rwa [nth_leasts hi] at this
  have hd := drive_out ho h1 hb xs.length (Nat.le_refl _)
  rw [List.take_length, List.take_of_length_le (by omega)] at hd
  refine ⟨h1, hd, fun x hx => ?_⟩
  obtain ⟨i, hi, rfl⟩ := mem_nth hx
  have h3 := hb i (by omega)
  have h4 := out_nth ho (i := i) (by omega)
  have h5 := leastOf_bounds h4.1
  omega
theorem outcome_drives {xs L : List Int} (ho : outB xs = true) (hn : 0 < xs.length) (h : L ∈ lex (leasts xs) xs) : driveCars L (L.length : Int) = (xs, true) := by
  obtain ⟨h1, h2, h3⟩ := outcome_list ho h
  have h8 := out_le ho
  have hg : good L (L.length : Int) = true := good_iff.2 ⟨by omega, by omega, fun x hx => by have := h3 x hx; omega⟩
  have ha : allPark (L.length : Int) L = true := allPark_iff.2 (by
    rw [h1, h2]
    intro hm
    obtain ⟨i, hi, e⟩ := mem_nth hm
    have := out_nth ho hi
    omega)
  unfold driveCars
  rw [if_pos (by rw [hg, ha]; rfl), h1, h2]

theorem leasts_le {xs : List Int} (ho : outB xs = true) : ∀ i, i < (leasts xs).length → nth (leasts xs) i ≤ nth xs i := fun i hi => by
  rw [length_leasts] at hi
  rw [nth_leasts hi]
  exact (leastOf_bounds (out_nth ho hi).1).2
theorem outcomes_last {xs : List Int} (ho : outB xs = true) : ∃ M, lex (leasts xs) xs = M ++ [xs] := lex_last _ _ (length_leasts xs) (leasts_le ho)
theorem outcomes_count {xs : List Int} (ho : outB xs = true) : (((lex (leasts xs) xs).length : Nat) : Int) = prodTo xs xs.length := by
  have := length_lex xs ho xs.length (Nat.le_refl _)
  simpa [prodTo] using this

theorem lexLess_at : ∀ (k : Nat) (xs ys : List Int), k < xs.length → xs.length = ys.length → (∀ i, i < k → nth xs i = nth ys i) → nth xs k ≠ nth ys k → lexLess xs ys = decide (nth xs k < nth ys k)
  | 0, x :: xs, y :: ys, _, _, _, h => by
    simp only [nth_cons_zero] at h ⊢
    simp [lexLess, h]
  | k + 1, x :: xs, y :: ys, hk, hl, hh, h => by
    have h0 := hh 0 (by omega)
    simp only [nth_cons_zero, nth_cons_succ] at h h0 ⊢
    simp only [lexLess, if_pos h0]
    exact lexLess_at k xs ys (by simpa using hk) (by simpa using hl) (fun i hi => by have := hh (i + 1) (by omega); simpa only [nth_cons_succ] using this) h
  | _, [], _, hk, _, _, _ => by simp at hk
  | _, _ :: _, [], _, hl, _, _ => by simp at hl
theorem lexLess_same : ∀ (xs : List Int), lexLess xs xs = false
  | [] => rfl
  | x :: xs => by simp [lexLess, lexLess_same xs]
end Go.Proofs.Ytdemcjciijlbeaa

namespace Go.Proofs.Ytdemcjciijlbeaa
open Go.RowKit

set_option maxHeartbeats 800000 in
theorem wRows_any (a b : Option Addr) (n m cap cap' : Nat) (rs ss : List Rw) (w : World) (h : HasR w a n cap rs) (h' : HasR w b m cap' ss) :
    Calls Try.prog 13 #[.slice a n cap, .slice b m cap'] w fun e w' => e = .returned (.bool (sameR rs ss)) ∧ Quiet w w' := by
  obtain ⟨h0, h1, h2, h3, h4, h5⟩ := h
  obtain ⟨k0, k1, k2, k3, k4, k5⟩ := h'
  by_cases hnm : n = m
  · have hb : ((n : Int) != (m : Int)) = false := by simp [hnm]
    subst hnm
    have HL := hid h0
    have HL' := hid k0
    have H5 := hid h5
    have K5 := hid k5
    clear h0 k0 h5 k5
    go_enter Try.func13, Try.ntmps13
    go_wp2_with fail
    go_loopw [13] (fun i wr => ∃ k : Nat, k ≤ n ∧ i = .int .i64 k ∧ Hid (∀ j, j < k → same (nthR rs j).xs (nthR ss j).xs = true) ∧ Quiet w wr) (fun i _ => n - (intOf i).toNat)
    case atStart => exact ⟨0, Nat.zero_le _, rfl, hid (fun i hi => by omega), ⟨0, rfl⟩⟩
    case round =>
      obtain ⟨k, hk, rfl, HF, HQ⟩ := hrel
      by_cases hlt : k < n
      · obtain ⟨b1, off1, rfl, hb1, hc1⟩ := h4 (by omega)
        obtain ⟨b2, off2, rfl, hb2, hc2⟩ := k4 (by omega)
        have hck : wr.cell? ⟨b1, off1 + k, none⟩ = some (nthR rs k).v := by obtain ⟨q, hq⟩ := HQ; rw [hq]; exact hc1 k hlt
        have hdk : wr.cell? ⟨b2, off2 + k, none⟩ = some (nthR ss k).v := by obtain ⟨q, hq⟩ := HQ; rw [hq]; exact hc2 k hlt
        have hkk : (k : Int) < (n : Int) := by omega
        have hkz : (0 : Int) ≤ (k : Int) := by omega
        have cq : ∀ j, Calls Try.prog 14 #[(nthR rs k).v, (nthR ss k).v] (wr.drewN j) fun e w' => e = .returned (.bool (same (nthR rs k).xs (nthR ss k).xs)) ∧ ∃ m, w' = (wr.drewN j).drewN m := fun j =>
          wSame_any _ _ _ _ _ _ _ _ _ (by obtain ⟨q, hq⟩ := HQ; rw [hq]; exact H5.out k hlt) (by obtain ⟨q, hq⟩ := HQ; rw [hq]; exact K5.out k hlt)
        clear hc1 hc2 h4 k4
        have HN := hid (sameR_no (rs := rs) (ss := ss) (k := k) (by rw [HL.out]; omega) (by rw [HL'.out]; omega))
        have HF2 := hid (fun (hh : same (nthR rs k).xs (nthR ss k).xs = true) (j : Nat) (hj : j < k + 1) => (show same (nthR rs j).xs (nthR ss j).xs = true from by rcases Nat.lt_succ_iff_lt_or_eq.1 hj with h1 | rfl; exact HF.out j h1; exact hh))
        generalize nthR rs k = rk at *
        generalize nthR ss k = sk at *
        by_cases he : same rk.xs sk.xs = true
        · have HE := hid he
          rw [he] at cq
          have CQ := hid cq
          clear he cq
          go_wp2_with fail
          go_quiet ((go_at_call 14; exact Calls.quiet_of (CQ.out _)))
          go_wp2_with fail
          go_roundw
          case rel => exact ⟨k + 1, by omega, by go_num, hid (HF2.out HE.out), Quiet.more HQ _⟩
          case measure => simp [intOf]; omega
        · have he' := Bool.eq_false_iff.2 he
          have HE := hid he'
          rw [he'] at cq
          have CQ := hid cq
          clear he he' cq
          go_wp2_with fail
          go_quiet ((go_at_call 14; exact Calls.quiet_of (CQ.out _)))
          go_wp2_with fail
          go_ret
          exact ⟨ret_bool (HN.out HE.out).symm, Quiet.more HQ _⟩
      · obtain rfl : k = n := by omega
        go_wp2_with fail
        go_ret
        exact ⟨ret_bool (sameR_yes (by rw [HL.out, HL'.out]) (by rw [HL.out]; exact HF.out)).symm, HQ⟩
  · have hb : ((n : Int) != (m : Int)) = true := by simp; omega
    have HR : Hid (sameR rs ss = false) := hid (by
      unfold sameR; rw [decide_eq_false_iff_not]
      intro e
      have : (numsOf rs).length = (numsOf ss).length := by rw [e]
      simp [numsOf] at this
      omega)
    go_enter Try.func13, Try.ntmps13
    go_wp2_with fail
    go_ret
    exact ⟨ret_bool HR.out.symm, ⟨0, rfl⟩⟩


end Go.Proofs.Ytdemcjciijlbeaa

namespace Go.Proofs.Ytdemcjciijlbeaa
open Go.RowKit

set_option maxHeartbeats 800000 in
theorem drawTm_any (a : Option Addr) (n cap : Nat) (w : World) (h : HasB w a n w.heap.size) :
    Calls Try.prog 5 #[.slice a n cap] w (DrewTree' w) := by
  have C0 := cur_new (cap := cap) h
  go_enter Try.func5, Try.ntmps5
  go_wp2_with fail
  refine (tree_cur _ 0 8 _ C0 (by omega) (by omega) (by omega)).mono ?_
  rintro e w1 ⟨a1, n1, cap1, xs1, t1, rfl, o1, hn1, A1, _⟩
  have o1' := o1.mono (B' := w.heap.size) (by simp)
  have hb := (alloc_below w (.cells #[.slice a n cap, .int .i64 0, .int .u64 0] 39)).trans A1.below
  clear A1
  go_wp2_with fail
  go_ret
  exact ⟨_, _, _, _, rfl, o1', hn1, hb⟩
set_option maxHeartbeats 400000 in
theorem wSumM_any (a : Option Addr) (n cap : Nat) (xs : List Int) (w : World) (h : Has w a n cap xs) (h8 : n ≤ 100) (hb : ∀ i, i < n → 0 ≤ nth xs i ∧ nth xs i ≤ 5000) :
    Calls Try.prog 15 #[.slice a n cap] w fun e w' => e = .returned (.int .i64 (total xs)) ∧ w = w' := by
  have HL := hid h.len
  have HB := hid hb
  clear hb
  go_enter Try.func15, Try.ntmps15
  go_wp2_with fail
  go_loop [3, 8] (fun s i => ∃ (k : Nat) (v : Int), k ≤ n ∧ i = .int .i64 (k : Int) ∧ s = .int .i64 v ∧ Hid (v = total (xs.take k)) ∧ 0 ≤ v ∧ v ≤ 5000 * (k : Int)) (fun _ i => n - (intOf i).toNat)
  case atStart => exact ⟨0, 0, by omega, rfl, rfl, hid rfl, by omega, by omega⟩
  case round =>
    obtain ⟨k, v, hk, rfl, rfl, HV, s0, s1⟩ := hrel
    by_cases hlt : k < n
    · obtain ⟨b0, off, rfl, hbb, hc⟩ := h.2.2.2.2 (by omega)
      have hck := hc k hlt
      obtain ⟨u0, u1⟩ := HB.out k hlt
      have HS : Hid (total (xs.take (k + 1)) = v + nth xs k) := hid (by rw [total_succ (by rw [HL.out]; exact hlt), HV.out])
      clear hc
      go_wp2_with fail
      go_round
      case rel => exact ⟨k + 1, v + nth xs k, by omega, by go_num, by go_num, hid HS.out.symm, by omega, by omega⟩
      case measure => simp [intOf]; omega
    · obtain rfl : k = n := by omega
      have HR : Hid (v = total xs) := hid (by rw [HV.out, List.take_of_length_le (by rw [HL.out]; omega)])
      go_wp2_with fail
      go_ret
      exact ⟨ret_int HR.out, rfl⟩
theorem tm_row {w : World} {b off q cap n : Nat} {xs : List Int} {rs : List Rw} (R : HasR w (some ⟨b, off, none⟩) q cap rs) (F : TmF xs n) (hn : numsOf rs = invL xs) {k : Nat} (hk : k < q) :
    ∃ ak ck, ∃ i j t : Nat, w.cell? ⟨b, off + k, none⟩ = some (.slice ak 2 ck) ∧ Has w ak 2 ck [(i : Int), (j : Int)] ∧ 1 ≤ i ∧ i < j ∧ j ≤ n ∧ up xs i (t + 1) = (j : Int) ∧ ∀ s, s ≤ t → up xs i s ≠ (j : Int) ∧ ∃ q : Nat, up xs i s = (q : Int) + 1 ∧ q < n ∧ up xs i (s + 1) = nth xs q := by
  obtain ⟨r0, r1, r2, r3, r4, r5⟩ := R
  obtain ⟨b', off', e, _, hc⟩ := r4 (by omega)
  simp at e
  obtain ⟨rfl, rfl⟩ := e
  have h3 := hc k hk
  have h4 := r5 k hk
  unfold Rw.v at h3
  have h1 : (numsOf rs)[k]? = some (nthR rs k).xs := map_nthR Rw.xs (by omega)
  have hm : (nthR rs k).xs ∈ invL xs := by rw [← hn]; exact List.mem_of_getElem? h1
  obtain ⟨i, j, t, e, f1, f2, f3, f4, f5⟩ := F.pair _ hm
  rw [e] at h3 h4
  exact ⟨_, _, i, j, t, h3, h4, f1, f2, f3, f4, f5⟩
theorem tm_no {xs : List Int} (h : ¬ treeB xs = true) : invOf xs = ([], false) ∧ invCnt xs = (0, false) ∧ depOf xs = ([], false) ∧ belOf xs = ([], false) := by simp [invOf, invCnt, depOf, belOf, h]

set_option maxRecDepth 100000 in
set_option maxHeartbeats 32000000 in
theorem treesm_walk (a b : Option Addr) (n m cap cap' : Nat) (w : World) (hn : n ≤ maxLen) (h : n ≤ 1048576 → HasB w a n w.heap.size) (h' : m ≤ 1048576 → HasB w b m w.heap.size) :
    Calls Try.prog 3 #[.slice a n cap, .slice b m cap'] w (Holds w) := by
  have H1 := hid h
  have H2 := hid h'
  have HN := hid hn
  clear h h' hn
  have hB : Below w.heap.size w w := Below.refl _ _
  go_enter Try.func3, Try.ntmps3
  go_wp2_with fail
  refine (big_any _ _ _ _ _ _ _ (by have := HN.out; unfold maxLen at this; omega)).mono ?_
  rintro e _ ⟨r, rfl, hr, rfl⟩
  have HR := hid hr
  clear hr
  cases r with
  | true =>
    go_wp2_with fail
    go_ret
    exact ⟨rfl, hB⟩
  | false =>
    have hnm := HR.out rfl
    clear HR
    have HA := hid (H1.out (by omega))
    have HM := hid (H2.out (by omega))
    clear H1 H2 HN
    go_wp2_with fail
    refine (drawTm_any _ _ _ _ HA.out).mono ?_
    rintro e v1 ⟨a_l, n_l, c_l, xs, rfl, o_l, hnl, st⟩
    replace hB := hB.trans (st.mono hB.size)
    clear st
    by_cases hb : treeB xs = true
    · skip
      have F := hid (tmF hb o_l.len)
      have HIN := hid F.out.inv
      have HDE := hid F.out.dep
      have HBE := hid F.out.bel
      have HBR := hid F.out.br
      have h8 := F.out.h8
      clear hb
      go_wp2_with fail
      refine (implPairs_any _ _ _ _ _ o_l.has).mono ?_
      rw [HIN.out]
      rintro e v2 ⟨a_g, n_g, c_g, rs, rfl, R_g, hng, st⟩
      replace o_l := o_l.below st (Nat.le_refl _)
      replace hB := hB.trans (st.mono hB.size)
      clear st
      go_wp2_with fail
      refine (specPairs_any _ _ _ _ _ o_l.has).mono ?_
      rw [HIN.out]
      rintro e v3 ⟨a_s, n_s, c_s, ss, rfl, R_s, hns, st⟩
      replace o_l := o_l.below st (Nat.le_refl _)
      replace R_g := R_g.below st (Nat.le_refl _)
      replace hB := hB.trans (st.mono hB.size)
      clear st
      have HRS : Hid (sameR rs ss = true) := hid (sameR_self' (hng.trans hns.symm))
      have HNG := hid hng
      clear hng hns
      have HIC : Hid (invCnt xs = ((n_g : Int), true)) := hid (by have hlg := R_g.len; rw [F.out.cnt, ← HNG.out]; simp [numsOf, hlg])
      have hgg := neq_self_int (n_g : Int)
      have hgb : n_g ≤ 2097152 := R_g.has.2.2.2.1
      go_wp2_with fail
      refine (implInvs_any _ _ _ _ _ o_l.has).mono ?_
      rw [HIC.out]
      rintro e v4 ⟨rfl, st⟩
      replace o_l := o_l.below st (Nat.le_refl _)
      replace R_g := R_g.below st (Nat.le_refl _)
      replace R_s := R_s.below st (Nat.le_refl _)
      replace hB := hB.trans (st.mono hB.size)
      clear st
      go_wp2_with fail
      refine (implDepths_any _ _ _ _ _ o_l.has).mono ?_
      rw [HDE.out]
      rintro e v5 ⟨a_d, n_d, c_d, rfl, o_d, st⟩
      replace o_l := o_l.below st (Nat.le_refl _)
      replace R_g := R_g.below st (Nat.le_refl _)
      replace R_s := R_s.below st (Nat.le_refl _)
      replace hB := hB.trans (st.mono hB.size)
      clear st
      go_wp2_with fail
      refine (specDepths_any _ _ _ _ _ o_l.has).mono ?_
      rw [HDE.out]
      rintro e v6 ⟨a_e, n_e, c_e, rfl, o_e, st⟩
      replace o_l := o_l.below st (Nat.le_refl _)
      replace o_d := o_d.below st (Nat.le_refl _)
      replace R_g := R_g.below st (Nat.le_refl _)
      replace R_s := R_s.below st (Nat.le_refl _)
      replace hB := hB.trans (st.mono hB.size)
      clear st
      go_wp2_with fail
      refine (implBelow_any _ _ _ _ _ o_l.has).mono ?_
      rw [HBE.out]
      rintro e v7 ⟨a_b, n_b, c_b, rfl, o_b, st⟩
      replace o_l := o_l.below st (Nat.le_refl _)
      replace o_d := o_d.below st (Nat.le_refl _)
      replace o_e := o_e.below st (Nat.le_refl _)
      replace R_g := R_g.below st (Nat.le_refl _)
      replace R_s := R_s.below st (Nat.le_refl _)
      replace hB := hB.trans (st.mono hB.size)
      clear st
      go_wp2_with fail
      refine (specBelow_any _ _ _ _ _ o_l.has).mono ?_
      rw [HBE.out]
      rintro e v8 ⟨a_c, n_c, c_c, rfl, o_c, st⟩
      replace o_l := o_l.below st (Nat.le_refl _)
      replace o_d := o_d.below st (Nat.le_refl _)
      replace o_e := o_e.below st (Nat.le_refl _)
      replace o_b := o_b.below st (Nat.le_refl _)
      replace R_g := R_g.below st (Nat.le_refl _)
      replace R_s := R_s.below st (Nat.le_refl _)
      replace hB := hB.trans (st.mono hB.size)
      clear st
      go_wp2_with fail
      refine (wRows_any _ _ _ _ _ _ _ _ _ R_g.has R_s.has).mono ?_
      rintro e v9 ⟨rfl, q⟩
      have st : Below v8.heap.size v8 v9 := q.below _
      replace o_l := o_l.below st (Nat.le_refl _)
      replace o_d := o_d.below st (Nat.le_refl _)
      replace o_e := o_e.below st (Nat.le_refl _)
      replace o_b := o_b.below st (Nat.le_refl _)
      replace o_c := o_c.below st (Nat.le_refl _)
      replace R_g := R_g.below st (Nat.le_refl _)
      replace R_s := R_s.below st (Nat.le_refl _)
      replace hB := hB.trans (st.mono hB.size)
      clear st
      clear q
      rw [HRS.out]
      clear HRS R_s
      go_wp2_with fail
      refine (wSame_any _ _ _ _ _ _ _ _ _ o_d.has o_e.has).mono ?_
      rintro e v10 ⟨rfl, q⟩
      have st : Below v9.heap.size v9 v10 := q.below _
      replace o_l := o_l.below st (Nat.le_refl _)
      replace o_d := o_d.below st (Nat.le_refl _)
      replace o_e := o_e.below st (Nat.le_refl _)
      replace o_b := o_b.below st (Nat.le_refl _)
      replace o_c := o_c.below st (Nat.le_refl _)
      replace R_g := R_g.below st (Nat.le_refl _)
      replace hB := hB.trans (st.mono hB.size)
      clear st
      clear q
      rw [same_self]
      clear o_e
      go_wp2_with fail
      refine (wSame_any _ _ _ _ _ _ _ _ _ o_b.has o_c.has).mono ?_
      rintro e v11 ⟨rfl, q⟩
      have st : Below v10.heap.size v10 v11 := q.below _
      replace o_l := o_l.below st (Nat.le_refl _)
      replace o_d := o_d.below st (Nat.le_refl _)
      replace o_b := o_b.below st (Nat.le_refl _)
      replace o_c := o_c.below st (Nat.le_refl _)
      replace R_g := R_g.below st (Nat.le_refl _)
      replace hB := hB.trans (st.mono hB.size)
      clear st
      clear q
      rw [same_self]
      clear o_c
      obtain rfl : n_l = n_d := by rw [← o_d.len, F.out.lenD]
      obtain rfl : n_b = n_l + 1 := by rw [← o_b.len, F.out.lenB]
      obtain ⟨T, hT⟩ : ∃ T, total (depL xs) = T := ⟨_, rfl⟩
      have HT1 := hid hT
      have HT2 := hid (F.out.sum.trans hT)
      have hTT := neq_self_int T
      clear hT
      obtain ⟨b0, off0, rfl, hb0, hc0⟩ := o_b.has.2.2.2.2 (by omega)
      have hc00 := hc0 0 (by omega)
      rw [F.out.root, Nat.add_zero] at hc00
      have hll := neq_self_int (n_l : Int)
      clear hc0 hb0
      go_wp2_with fail
      refine (wSumM_any _ _ _ _ _ o_d.has (by omega) (fun i hi => by have := F.out.bD i hi; omega)).mono ?_
      rw [HT1.out]
      rintro e _ ⟨rfl, rfl⟩
      go_wp2_with fail
      refine (wSumM_any _ _ _ _ _ o_b.has (by omega) (fun i hi => by have := F.out.bB i hi; omega)).mono ?_
      rw [HT2.out]
      rintro e _ ⟨rfl, rfl⟩
      go_wp2_with fail
      refine (implBreadth_any _ _ _ _ _ o_l.has).mono ?_
      rw [HBR.out]
      rintro e v12 ⟨a_o, n_o, c_o, rfl, o_o, st⟩
      replace o_l := o_l.below st (Nat.le_refl _)
      replace o_d := o_d.below st (Nat.le_refl _)
      replace o_b := o_b.below st (Nat.le_refl _)
      replace R_g := R_g.below st (Nat.le_refl _)
      replace hB := hB.trans (st.mono hB.size)
      clear st
      clear hc00
      obtain rfl : n_o = n_l + 1 := by rw [← o_o.len, F.out.lenO]
      clear o_b
      go_wp2_with fail
      go_loopw [22] (fun i wr => ∃ k : Nat, 2 ≤ k ∧ i = .int .i64 (k : Int) ∧ Quiet v12 wr) (fun i _ => n_l + 1 - (intOf i).toNat)
      case atStart => exact ⟨2, by omega, rfl, ⟨0, rfl⟩⟩
      case round =>
        obtain ⟨k, hk, rfl, q0, hq0⟩ := hrel
        subst hq0
        by_cases hlt : k < n_l + 1
        · skip
          obtain ⟨y, rfl⟩ : ∃ y, k = y + 1 := ⟨k - 1, by omega⟩
          obtain ⟨u, v, m1, m2, m3, m4, m5⟩ := F.out.mono (y + 1) (by omega) (by omega)
          rw [Nat.add_sub_cancel] at m2
          obtain ⟨b1, off1, rfl, hb1, hc1⟩ := o_o.has.2.2.2.2 (by omega)
          have hcy1 := hc1 (y + 1) (by omega)
          have hcy := hc1 y (by omega)
          rw [m1] at hcy1
          rw [m2] at hcy
          obtain ⟨b2, off2, rfl, hb2, hc2⟩ := o_d.has.2.2.2.2 (by omega)
          have hdu := hc2 u m3
          have hdv := hc2 v m4
          have hle : ¬ nth (depL xs) v < nth (depL xs) u := by omega
          clear hc1 hc2 m1 m2 m5
          generalize nth (depL xs) v = dv at *
          generalize nth (depL xs) u = du at *
          go_wp2_with fail
          go_quiet (fail)
          go_wp2_with fail
          go_roundw
          case rel => exact ⟨y + 2, by omega, by go_num, ⟨_, rfl⟩⟩
          case measure => simp [intOf]; omega
        · skip
          go_wp2_with fail
          go_loopw [170] (fun i wr => ∃ k : Nat, k ≤ n_l ∧ i = .int .i64 (k : Int) ∧ Quiet v12 wr) (fun i _ => n_l - (intOf i).toNat)
          case atStart => exact ⟨0, by omega, rfl, ⟨_, rfl⟩⟩
          case round =>
            obtain ⟨k, hk, rfl, q0, hq0⟩ := hrel
            subst hq0
            by_cases hlt : k < n_l
            · skip
              obtain ⟨b1, off1, rfl, hb1, hc1⟩ := o_l.has.2.2.2.2 (by omega)
              have hck := hc1 k hlt
              obtain ⟨b2, off2, rfl, hb2, hc2⟩ := o_d.has.2.2.2.2 (by omega)
              have hdk := hc2 k hlt
              obtain ⟨x0, x1⟩ := F.out.bX k hlt
              clear hc1
              by_cases hz : nth xs k = 0
              · skip
                have hr := F.out.rec0 k hlt hz
                rw [hr] at hdk
                rw [hz] at hck
                clear hc2 hr
                go_wp2_with fail
                go_quiet (fail)
                go_wp2_with fail
                go_roundw
                case rel => exact ⟨k + 1, by omega, by go_num, ⟨_, rfl⟩⟩
                case measure => simp [intOf]; omega
              · skip
                obtain ⟨q, hq⟩ : ∃ q : Nat, nth xs k = (q : Int) + 1 := ⟨(nth xs k - 1).toNat, by omega⟩
                obtain ⟨r1, r2⟩ := F.out.recS k hlt q hq
                have hdq := hc2 q r1
                obtain ⟨y0, y1⟩ := F.out.bD q r1
                rw [r2] at hdk
                rw [hq] at hck
                have hq0 : ((q : Int) + 1 == 0) = false := by simp; omega
                clear hc2 r2 hz hq x0 x1
                generalize nth (depL xs) q = D at *
                have hDD := neq_self_int (D + 1)
                have hqp : (0 : Int) < (q : Int) + 1 := by omega
                go_wp2_with fail
                go_quiet (fail)
                go_wp2_with fail
                go_roundw
                case rel => exact ⟨k + 1, by omega, by go_num, ⟨_, rfl⟩⟩
                case measure => simp [intOf]; omega
            · skip
              obtain rfl : k = n_l := by omega
              go_wp2_with fail
              go_loopw [204] (fun i wr => ∃ k : Nat, k ≤ n_g ∧ i = .int .i64 (k : Int) ∧ Quiet v12 wr) (fun i _ => n_g - (intOf i).toNat)
              case atStart => exact ⟨0, by omega, rfl, ⟨_, rfl⟩⟩
              case round =>
                obtain ⟨k, hk, rfl, q0, hq0⟩ := hrel
                subst hq0
                by_cases hlt : k < n_g
                · skip
                  obtain ⟨bg, offg, rfl, hbg, -⟩ := R_g.has.2.2.2.2.1 (by omega)
                  obtain ⟨ak, ck, i, j, t, hck, H_k, i1, i2, i3, i4, i5⟩ := tm_row R_g.has F.out HNG.out (k := k) (by omega)
                  obtain ⟨b2, off2, rfl, hb2, hc2⟩ := H_k.2.2.2.2 (by omega)
                  have hp0 : v12.cell? ⟨b2, off2, none⟩ = some (.int .i64 (i : Int)) := hc2 0 (by omega)
                  have hp1 : v12.cell? ⟨b2, off2 + 1, none⟩ = some (.int .i64 (j : Int)) := hc2 1 (by omega)
                  have HU := hid i4
                  have HS := hid i5
                  clear hc2 i4 i5
                  go_wp2_with fail
                  go_quiet (fail)
                  go_wp2_with fail
                  go_loopg [29] (t + 1) (fun gk v wr => ∃ s : Nat, s + gk = t + 1 ∧ v = .int .i64 (up xs i s) ∧ Quiet v12 wr)
                  case atStart => exact ⟨0, by omega, rfl, Quiet.more ⟨_, rfl⟩ _⟩
                  case round =>
                    obtain ⟨s, hs, rfl, q1, hq1⟩ := hrel
                    subst hq1
                    by_cases hgk : 0 < gk
                    · skip
                      obtain ⟨z1, q, z2, z3, z4⟩ := HS.out s (by omega)
                      obtain ⟨b3, off3, rfl, hb3, hc3⟩ := o_l.has.2.2.2.2 (by omega)
                      have hcq := hc3 q z3
                      rw [← z4] at hcq
                      have hne : (up xs i s != (j : Int)) = true := by simp [z1]
                      rw [z2] at hne ⊢
                      clear hc3 z1 z2 z4
                      generalize hup : up xs (i : Int) (s + 1) = u at *
                      go_wp2_with fail
                      go_roundg (gk - 1)
                      case rel => exact ⟨s + 1, by omega, congrArg (Value.int .i64) hup.symm, ⟨_, rfl⟩⟩
                      case measure => omega
                    · skip
                      obtain rfl : s = t + 1 := by omega
                      rw [HU.out]
                      have hne : ((j : Int) != (j : Int)) = false := by simp
                      have hij : ¬ (j : Int) ≤ (i : Int) := by omega
                      go_wp2_with fail
                      go_roundw
                      case rel => exact ⟨k + 1, by omega, by go_num, ⟨_, rfl⟩⟩
                      case measure => simp [intOf]; omega
                · skip
                  obtain rfl : k = n_g := by omega
                  go_wp2_with fail
                  go_ret
                  exact ⟨rfl, hB.trans ((show Quiet v12 _ from ⟨_, rfl⟩).below _)⟩
    · skip
      obtain ⟨f1, f2, f3, f4⟩ := tm_no hb
      have HIN := hid f1
      have HIC := hid f2
      have HDE := hid f3
      have HBE := hid f4
      clear f1 f2 f3 f4 hb
      go_wp2_with fail
      refine (implPairs_any _ _ _ _ _ o_l.has).mono ?_
      rw [HIN.out]
      rintro e v2 ⟨a_g, n_g, c_g, rs, rfl, R_g, hng, st⟩
      replace o_l := o_l.below st (Nat.le_refl _)
      replace hB := hB.trans (st.mono hB.size)
      clear st
      go_wp2_with fail
      refine (specPairs_any _ _ _ _ _ o_l.has).mono ?_
      rw [HIN.out]
      rintro e v3 ⟨a_s, n_s, c_s, ss, rfl, R_s, hns, st⟩
      replace o_l := o_l.below st (Nat.le_refl _)
      replace R_g := R_g.below st (Nat.le_refl _)
      replace hB := hB.trans (st.mono hB.size)
      clear st
      have HRS : Hid (sameR rs ss = true) := hid (sameR_self' (hng.trans hns.symm))
      have HNG := hid hng
      clear hng hns
      go_wp2_with fail
      refine (implInvs_any _ _ _ _ _ o_l.has).mono ?_
      rw [HIC.out]
      rintro e v4 ⟨rfl, st⟩
      replace o_l := o_l.below st (Nat.le_refl _)
      replace R_g := R_g.below st (Nat.le_refl _)
      replace R_s := R_s.below st (Nat.le_refl _)
      replace hB := hB.trans (st.mono hB.size)
      clear st
      go_wp2_with fail
      refine (implDepths_any _ _ _ _ _ o_l.has).mono ?_
      rw [HDE.out]
      rintro e v5 ⟨a_d, n_d, c_d, rfl, o_d, st⟩
      replace o_l := o_l.below st (Nat.le_refl _)
      replace R_g := R_g.below st (Nat.le_refl _)
      replace R_s := R_s.below st (Nat.le_refl _)
      replace hB := hB.trans (st.mono hB.size)
      clear st
      go_wp2_with fail
      refine (specDepths_any _ _ _ _ _ o_l.has).mono ?_
      rw [HDE.out]
      rintro e v6 ⟨a_e, n_e, c_e, rfl, o_e, st⟩
      replace o_l := o_l.below st (Nat.le_refl _)
      replace o_d := o_d.below st (Nat.le_refl _)
      replace R_g := R_g.below st (Nat.le_refl _)
      replace R_s := R_s.below st (Nat.le_refl _)
      replace hB := hB.trans (st.mono hB.size)
      clear st
      go_wp2_with fail
      refine (implBelow_any _ _ _ _ _ o_l.has).mono ?_
      rw [HBE.out]
      rintro e v7 ⟨a_b, n_b, c_b, rfl, o_b, st⟩
      replace o_l := o_l.below st (Nat.le_refl _)
      replace o_d := o_d.below st (Nat.le_refl _)
      replace o_e := o_e.below st (Nat.le_refl _)
      replace R_g := R_g.below st (Nat.le_refl _)
      replace R_s := R_s.below st (Nat.le_refl _)
      replace hB := hB.trans (st.mono hB.size)
      clear st
      go_wp2_with fail
      refine (specBelow_any _ _ _ _ _ o_l.has).mono ?_
      rw [HBE.out]
      rintro e v8 ⟨a_c, n_c, c_c, rfl, o_c, st⟩
      replace o_l := o_l.below st (Nat.le_refl _)
      replace o_d := o_d.below st (Nat.le_refl _)
      replace o_e := o_e.below st (Nat.le_refl _)
      replace o_b := o_b.below st (Nat.le_refl _)
      replace R_g := R_g.below st (Nat.le_refl _)
      replace R_s := R_s.below st (Nat.le_refl _)
      replace hB := hB.trans (st.mono hB.size)
      clear st
      go_wp2_with fail
      refine (wRows_any _ _ _ _ _ _ _ _ _ R_g.has R_s.has).mono ?_
      rintro e v9 ⟨rfl, q⟩
      have st : Below v8.heap.size v8 v9 := q.below _
      replace o_l := o_l.below st (Nat.le_refl _)
      replace o_d := o_d.below st (Nat.le_refl _)
      replace o_e := o_e.below st (Nat.le_refl _)
      replace o_b := o_b.below st (Nat.le_refl _)
      replace o_c := o_c.below st (Nat.le_refl _)
      replace R_g := R_g.below st (Nat.le_refl _)
      replace R_s := R_s.below st (Nat.le_refl _)
      replace hB := hB.trans (st.mono hB.size)
      clear st
      clear q
      rw [HRS.out]
      clear HRS R_s
      go_wp2_with fail
      refine (wSame_any _ _ _ _ _ _ _ _ _ o_d.has o_e.has).mono ?_
      rintro e v10 ⟨rfl, q⟩
      have st : Below v9.heap.size v9 v10 := q.below _
      replace o_l := o_l.below st (Nat.le_refl _)
      replace o_d := o_d.below st (Nat.le_refl _)
      replace o_e := o_e.below st (Nat.le_refl _)
      replace o_b := o_b.below st (Nat.le_refl _)
      replace o_c := o_c.below st (Nat.le_refl _)
      replace R_g := R_g.below st (Nat.le_refl _)
      replace hB := hB.trans (st.mono hB.size)
      clear st
      clear q
      rw [same_self]
      clear o_e
      go_wp2_with fail
      refine (wSame_any _ _ _ _ _ _ _ _ _ o_b.has o_c.has).mono ?_
      rintro e v11 ⟨rfl, q⟩
      have st : Below v10.heap.size v10 v11 := q.below _
      replace o_l := o_l.below st (Nat.le_refl _)
      replace o_d := o_d.below st (Nat.le_refl _)
      replace o_b := o_b.below st (Nat.le_refl _)
      replace o_c := o_c.below st (Nat.le_refl _)
      replace R_g := R_g.below st (Nat.le_refl _)
      replace hB := hB.trans (st.mono hB.size)
      clear st
      clear q
      rw [same_self]
      clear o_c
      clear R_g
      clear o_d o_b o_l
      go_wp2_with fail
      go_ret
      exact ⟨rfl, hB⟩
end Go.Proofs.Ytdemcjciijlbeaa

