/- The program's sand, by contract. -/
import Derived.Test.YtclpbccmgfclcaaImplA
import Derived.Test.YtclpbccmgfclcaaSpecSd
import Derived.Test.YtclpbccmgfclcaaRows2
namespace Go.Proofs.Ytclpbccmgfclcaa
open Go.RowKit

theorem Marked.same (w : World) (a : Option Addr) : Marked w w a := ⟨none, World.grownBy.refl _ _, by simp⟩
theorem Marked.then {w w' w'' : World} {a : Option Addr} (h : Marked w w' a) (h' : Marked w' w'' a) : Marked w w'' a := by
  obtain ⟨r1, g1, h1⟩ := h
  obtain ⟨r2, g2, h2⟩ := h'
  have wide : ∀ {x y : World} {r : Option Nat} {row : Option Nat}, x.grownBy y r → (r = none ∨ r = row) → x.grownBy y row := fun {x y r row} hg hr => by
    rcases hr with rfl | rfl
    · exact ⟨hg.os, hg.tape, hg.output, hg.size, fun i hi _ => hg.block i hi (by simp)⟩
    · exact hg
  have tr : ∀ {row : Option Nat}, w.grownBy w' row → w'.grownBy w'' row → w.grownBy w'' row := fun {row} s2 s1 =>
    ⟨s1.os.trans s2.os, s1.tape.trans s2.tape, s1.output.trans s2.output, Nat.le_trans s2.size s1.size, fun j hj hne => (s1.block j (Nat.lt_of_lt_of_le hj s2.size) hne).trans (s2.block j hj hne)⟩
  cases r1 with
  | none => exact ⟨r2, tr (wide g1 (.inl rfl)) g2, h2⟩
  | some x =>
    refine ⟨some x, tr g1 (wide g2 ?_), h1⟩
    cases r2 with
    | none => exact .inl rfl
    | some y =>
      right
      obtain ⟨p, hp, rfl⟩ := h1 x rfl
      obtain ⟨p', hp', rfl⟩ := h2 y rfl
      rw [hp] at hp'
      cases hp'
      rfl
theorem Marked.grown {w w' : World} (a : Option Addr) (h : Below w.heap.size w w') : Marked w w' a := ⟨none, ⟨h.os, h.tape, h.output, h.size, fun i hi _ => h.block i hi⟩, by simp⟩
theorem Marked.thenB {w w' w'' : World} {a : Option Addr} (h : Marked w w' a) (hb : Below w.heap.size w' w'') : Marked w w'' a := by
  obtain ⟨r, g, h1⟩ := h
  exact ⟨r, ⟨hb.os.trans g.os, hb.tape.trans g.tape, hb.output.trans g.output, Nat.le_trans g.size hb.size, fun j hj hne => (hb.block j hj).trans (g.block j hj hne)⟩, h1⟩
theorem Marked.size {w w' : World} {a : Option Addr} (h : Marked w w' a) : w.heap.size ≤ w'.heap.size := by obtain ⟨r, g, -⟩ := h; exact g.size
theorem marked_of {w w' : World} {g : Nat} (h : w.grownBy w' (some g)) : Marked w w' (some ⟨g, 0, none⟩) := ⟨_, h, fun g' hg' => ⟨_, rfl, by simpa using hg'⟩⟩

/-- Sand of which the first k nodes have a grain more. -/
def upK (us : List Int) (k : Nat) : List Int := (us.map (· + 1)).take k ++ us.drop k
theorem upK_zero (us : List Int) : upK us 0 = us := by simp [upK]
theorem upK_all (us : List Int) : upK us us.length = us.map (· + 1) := by simp [upK, List.take_of_length_le]
theorem nth_upK {us : List Int} {k : Nat} (h : k < us.length) : nth (upK us k) k = nth us k := by
  unfold upK nth
  rw [List.getD_eq_getElem?_getD, List.getD_eq_getElem?_getD, List.getElem?_append_right (by simp; omega), List.length_take, List.length_map, Nat.min_eq_left (by omega), List.getElem?_drop]
  congr 2
  omega
theorem upK_set {us : List Int} {k : Nat} (h : k < us.length) : (upK us k).set k (nth us k + 1) = upK us (k + 1) := by
  unfold upK
  have hl : ((us.map (· + 1)).take k).length = k := by simp; omega
  rw [List.set_append_right _ _ (by omega), hl, Nat.sub_self, List.drop_eq_getElem_cons h, List.set_cons_zero, List.take_succ_eq_append_getElem (by simpa using h)]
  simp [nth, h]
theorem up_top {us : List Int} {i : Nat} (h : i < us.length) : (us.map (· + 1)).set i (nth (us.map (· + 1)) i - ((us.length : Int) + 1)) = topL us i := by
  unfold topL
  rw [nth_map_succ h]
  congr 1
  omega

theorem sand_cars (xs : List Int) : carsB xs 61 = sandB xs := by simp [carsB, sandB]

set_option maxHeartbeats 400000 in
theorem isSand_any (a : Option Addr) (n cap : Nat) (xs : List Int) (w : World) (h : Has w a n cap xs) :
    Calls Try.prog 40 #[.slice a n cap] w fun e w' => e = .returned (.bool (sandB xs)) ∧ w = w' := by
  have HR := hid (sand_cars xs)
  go_enter Try.func40, Try.ntmps40
  go_wp2_with (go_at_call 71; refine (areCarsBelow_any _ _ _ _ _ _ h).mono ?_; rintro e w' ⟨rfl, rfl⟩)
  go_ret
  exact ⟨ret_bool HR.out, rfl⟩

set_option maxHeartbeats 400000 in
theorem canTopple_any (a : Option Addr) (n cap : Nat) (xs : List Int) (k : Nat) (w : World) (h : Has w a n cap xs) (hk : k < n) :
    Calls Try.prog 46 #[.slice a n cap, .int .i64 (k : Int)] w fun e w' => e = .returned (.bool (decide ((n : Int) ≤ nth xs k))) ∧ w = w' := by
  obtain ⟨b0, off, rfl, hbb, hc⟩ := h.2.2.2.2 (by omega)
  have hck := hc k hk
  have hle := h.le
  clear hc
  go_enter Try.func46, Try.ntmps46
  go_wp2_with fail
  go_ret
  exact ⟨ret_bool (by simp), rfl⟩

/-- The least node that can topple, or 0, and whether there is one. -/
def fstK (xs : List Int) (n : Nat) : Int := if firstN xs < n then (firstN xs : Int) else 0
def fstB (xs : List Int) (n : Nat) : Bool := decide (firstN xs < n)
theorem fst_yes {xs : List Int} {n : Nat} (h : firstN xs < n) : fstK xs n = (firstN xs : Int) ∧ fstB xs n = true := ⟨if_pos h, decide_eq_true h⟩
theorem fst_no {xs : List Int} {n : Nat} (h : ¬ firstN xs < n) : fstK xs n = 0 ∧ fstB xs n = false := ⟨if_neg h, decide_eq_false h⟩
theorem ret_node {x y : Int} {b c : Bool} (h : y = x ∧ c = b) : Ending.returned (.tuple #[.int .i64 x, .bool b]) = .returned (.tuple #[.int .i64 y, .bool c]) := by rw [h.1, h.2]

set_option maxHeartbeats 400000 in
theorem firstToTopple_any (a : Option Addr) (n cap : Nat) (xs : List Int) (w : World) (h : Has w a n cap xs) :
    Calls Try.prog 50 #[.slice a n cap] w fun e w' => e = .returned (.tuple #[.int .i64 (fstK xs n), .bool (fstB xs n)]) ∧ w = w' := by
  have HL := hid h.len
  have hle := h.le
  go_enter Try.func50, Try.ntmps50
  go_wp2_with fail
  go_loop [7] (fun i => ∃ k : Nat, k ≤ n ∧ i = .int .i64 k ∧ Hid (∀ j, j < k → nth xs j < xs.length)) (fun i => n - (intOf i).toNat)
  case atStart => exact ⟨0, by omega, rfl, hid (fun j hj => by omega)⟩
  case round =>
    obtain ⟨k, hk, rfl, HJ⟩ := hrel
    by_cases hlt : k < n
    · by_cases hx : (n : Int) ≤ nth xs k
      · have HR : Hid (fstK xs n = (k : Int) ∧ fstB xs n = true) := hid (by
          have e := first_of HJ.out (by rw [HL.out]; exact hlt) (by rw [HL.out]; exact hx)
          have := fst_yes (xs := xs) (n := n) (by rw [e]; exact hlt)
          rwa [e] at this)
        have HX := hid (decide_eq_true hx)
        clear hx
        go_wp2_with (go_at_call 46; refine (canTopple_any _ _ _ _ k _ h hlt).mono ?_; rintro e w' ⟨rfl, rfl⟩; rw [HX.out])
        go_ret2
        exact ⟨ret_node HR.out, rfl⟩
      · have HN : Hid (∀ j, j < k + 1 → nth xs j < xs.length) := hid (fun j hj => by
          rcases Nat.lt_succ_iff_lt_or_eq.1 hj with h1 | rfl
          · exact HJ.out j h1
          · rw [HL.out]; omega)
        have HX := hid (decide_eq_false hx)
        clear hx
        go_wp2_with (go_at_call 46; refine (canTopple_any _ _ _ _ k _ h hlt).mono ?_; rintro e w' ⟨rfl, rfl⟩; rw [HX.out])
        go_round
        case rel => exact ⟨k + 1, by omega, by go_num, HN⟩
        case measure => simp [intOf]; omega
    · obtain rfl : k = n := by omega
      have HR : Hid (fstK xs k = 0 ∧ fstB xs k = false) := hid (fst_no (by rw [first_none fun j hj => HJ.out j (by rw [← HL.out]; exact hj), HL.out]; omega))
      go_wp2_with fail
      go_ret2
      exact ⟨ret_node HR.out, rfl⟩

set_option maxHeartbeats 1000000 in
theorem topple_any (B : Nat) (a : Option Addr) (n cap : Nat) (xs : List Int) (t : Nat) (w : World) (h : Own w B a n cap xs) (h8 : n ≤ 8) (ht : t < n) (hb : ∀ i, i < n → 0 ≤ nth xs i ∧ nth xs i ≤ 5000) :
    Calls Try.prog 47 #[.slice a n cap, .int .i64 (t : Int)] w fun e w' => e = .returned (.tuple #[]) ∧ Own w' B a n cap (topL xs t) ∧ Marked w w' a := by
  have HL := hid h.len
  have HB := hid hb
  obtain ⟨g, rfl, hg1, hg2, -, -⟩ := h.opened (by omega)
  clear hb
  go_enter Try.func47, Try.ntmps47
  go_wp2_with fail
  go_loopw [7] (fun i wr => ∃ k : Nat, k ≤ n ∧ i = .int .i64 k ∧ Own wr B (some ⟨g, 0, none⟩) n cap (upK xs k) ∧ Marked w wr (some ⟨g, 0, none⟩)) (fun i _ => n - (intOf i).toNat)
  case atStart => exact ⟨0, by omega, rfl, by rw [upK_zero]; exact h, Marked.same _ _⟩
  case round =>
    obtain ⟨k, hk, rfl, hown, hm⟩ := hrel
    obtain ⟨g', hga, -, hg2, hg3, hg4⟩ := hown.opened (by omega)
    simp at hga
    subst hga
    by_cases hlt : k < n
    · have hck := hg3 k hlt
      have hfk := hg4 k
      rw [nth_upK (by rw [HL.out]; exact hlt)] at hck
      obtain ⟨hb0, hb1⟩ := HB.out k hlt
      have HS := hid (upK_set (us := xs) (k := k) (by rw [HL.out]; exact hlt))
      clear hg3 hg4
      obtain ⟨s1, s2⟩ := hown.set k (nth xs k + 1)
      rw [HS.out] at s1
      have hm2 := hm.then (marked_of s2)
      go_wp2_with fail
      go_roundw
      case rel => exact ⟨k + 1, by omega, by go_num, s1, hm2⟩
      case measure => simp [intOf]; omega
    · obtain rfl : k = n := by omega
      have e1 : upK xs k = xs.map (· + 1) := by rw [← HL.out]; exact upK_all xs
      rw [e1] at hown hg3
      have hct := hg3 t ht
      have hft := hg4 t
      have HT := hid (nth_map_succ (c := xs) (k := t) (by rw [HL.out]; exact ht))
      obtain ⟨hb0, hb1⟩ := HB.out t ht
      have HU := hid (up_top (us := xs) (i := t) (by rw [HL.out]; exact ht))
      rw [HL.out] at HU
      obtain ⟨s1, s2⟩ := hown.set t (nth (xs.map (· + 1)) t - ((k : Int) + 1))
      rw [HU.out] at s1
      have hm2 := hm.then (marked_of s2)
      rw [HT.out] at hct s1 s2 hm2
      clear hg3 hg4 e1
      go_wp2_with fail
      go_end0
      exact ⟨rfl, s1, hm2⟩

set_option maxHeartbeats 1000000 in
theorem settle_any (B : Nat) (a : Option Addr) (n cap : Nat) (cs : List Int) (w : World) (h : Own w B a n cap cs) (h8 : n ≤ 8) (hp : Pile cs) (ht : total cs ≤ 4000) :
    Calls Try.prog 42 #[.slice a n cap] w fun e w' => ∃ b m d, e = .returned (.slice b m d) ∧ Own w' B a n cap (settle cs).1 ∧ Own w' w.heap.size b m d (settle cs).2 ∧ Marked w w' a := by
  have ST := settle_start h.len hp ht
  have hlt0 := h.lt
  go_enter Try.func42, Try.ntmps42
  go_wp2_with (go_at_call 50; refine (firstToTopple_any _ _ _ _ _ h.has).mono ?_; rintro e w' ⟨rfl, rfl⟩)
  go_loopg [3, 4, 5] (settle cs).2.length (fun q nd i ok wr => ∃ (xs os : List Int) (m : Nat) (b2 : Option Addr) (d2 : Nat), nd = .slice b2 m d2 ∧ i = .int .i64 (fstK xs n) ∧ ok = .bool (fstB xs n) ∧ Own wr B a n cap xs ∧ Own wr w.heap.size b2 m d2 os ∧ SettleAt cs xs os n q ∧ Marked w wr a)
  case atStart => exact ⟨cs, [], 0, none, 0, rfl, rfl, rfl, h, Own.nil _ _, ST, Marked.same _ _⟩
  case round =>
    clear ST
    obtain ⟨xs, os, m, b2, d2, rfl, rfl, rfl, o1, o2, ST, hm⟩ := hrel
    by_cases hf : firstN xs < n
    · obtain ⟨f1, f2⟩ := fst_yes hf
      obtain ⟨q0, ST2⟩ := ST.next (by rw [ST.len]; exact hf)
      have hm4 : m ≤ 4000 := by have := ST.cnt; have := o2.len; omega
      have HBD := ST.bound
      rw [f1, f2]
      clear ST f1 f2
      go_wp2_with (first | (go_at_call 47; refine (topple_any _ _ _ _ _ _ _ o1 h8 hf HBD).mono ?_; rintro e w' ⟨rfl, o1', m1⟩; have o2' := o2.marked_gt m1 hlt0; have hm' := hm.then m1) | (at_builtin; refine wpList_append_int _ rfl _ _ rfl w.heap.size _ _ _ _ _ rfl rfl o2' (by omega) hm'.size ?_; intro a4 cap4 w4 hown4 hb4; have o1'' := o1'.belowB hb4 hlt0; have hm'' := hm'.thenB hb4) | (go_at_call 50; refine (firstToTopple_any _ _ _ _ _ o1''.has).mono ?_; rintro e w' ⟨rfl, rfl⟩))
      go_roundg (gk - 1)
      case measure => omega
      case rel => exact ⟨topL xs (firstN xs), os ++ [(firstN xs : Int)], m + 1, a4, cap4, rfl, rfl, rfl, o1'', hown4, ST2, hm''⟩
    · obtain ⟨f1, f2⟩ := fst_no hf
      have HE := hid (ST.end (by rw [ST.len]; exact hf))
      rw [f1, f2]
      clear ST f1 f2
      go_wp2_with fail
      go_ret
      exact ⟨_, _, _, rfl, by rw [HE.out]; exact o1, by rw [HE.out]; exact o2, hm⟩
end Go.Proofs.Ytclpbccmgfclcaa
