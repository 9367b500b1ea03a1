/- The program's ways of driving: a car alone on a street, by its contract. -/
import Derived.Test.YtnddplldkgphnacImplB
import Derived.Test.YtnddplldkgphnacMathLl
namespace Go.Proofs.Ytnddplldkgphnac
open Go.RowKit

/-- The street's places are those of a list. -/
def TkIs (tk : Nat → Bool) (p : Nat) (T : List Int) : Prop := ∀ z : Nat, z < p → tk z = hasB T z
/-- A street whose taken places are those of a list. -/
def On (w : World) (B bt bp g p : Nat) (T : List Int) : Prop := ∃ tk, Street w B bt bp g p tk ∧ TkIs tk p T

theorem On.lt {w : World} {B bt bp g p : Nat} {T : List Int} (h : On w B bt bp g p T) : B ≤ bt ∧ B ≤ bp ∧ B ≤ g ∧ bt < w.heap.size ∧ bp < w.heap.size ∧ g < w.heap.size := by
  obtain ⟨tk, h, _⟩ := h; exact h.lt
theorem On.below {w w' : World} {B bt bp g p K : Nat} {T : List Int} (h : On w B bt bp g p T) (hb : Below K w w') (hK : w.heap.size ≤ K) : On w' B bt bp g p T := by
  obtain ⟨tk, h, e⟩ := h
  exact ⟨tk, h.below hb hK, e⟩
theorem On.below' {w w' : World} {B bt bp g p K : Nat} {T : List Int} (h : On w B bt bp g p T) (hb : Below K w w') (hK : bt < K ∧ bp < K ∧ g < K) : On w' B bt bp g p T := by
  obtain ⟨tk, ⟨⟨l1, l2, l3, l4, l5, l6⟩, ne, t, pl, c, f⟩, e⟩ := h
  have := hb.size
  refine ⟨tk, ⟨⟨l1, l2, l3, by omega, by omega, by omega⟩, ne, ?_, ?_, fun i hi => ?_, fun i => ?_⟩, e⟩
  · rw [hb.cell (p := ⟨bt, 0, none⟩) (by simpa using hK.1)]; exact t
  · rw [hb.cell (p := ⟨bp, 0, none⟩) (by simpa using hK.2.1)]; exact pl
  · rw [hb.cell (p := ⟨g, i, none⟩) (by simpa using hK.2.2)]; exact c i hi
  · rw [hb.frozen (p := ⟨g, i, none⟩) (by simpa using hK.2.2)]; exact f i
theorem On.quiet {w w' : World} {B bt bp g p : Nat} {T : List Int} (h : On w B bt bp g p T) (hq : Quiet w w') : On w' B bt bp g p T := by
  obtain ⟨j, rfl⟩ := hq
  obtain ⟨tk, hst, e⟩ := h
  exact ⟨tk, ⟨hst.lt, hst.ne, hst.taken, hst.places, hst.cells, hst.free⟩, e⟩
/-- Some list tells the places of a street. -/
theorem on_any {w : World} {B bt bp g p : Nat} {tk : Nat → Bool} (h : Street w B bt bp g p tk) : ∃ T, On w B bt bp g p T := by
  refine ⟨((List.range p).filter tk).map fun (i : Nat) => (i : Int), tk, h, fun z hz => ?_⟩
  by_cases e : tk z = true
  · rw [e]; symm
    rw [hasB_iff, List.mem_map]
    exact ⟨z, by simp [hz, e], rfl⟩
  · have : tk z = false := by simpa using e
    rw [this]; symm
    rw [hasB_not, List.mem_map]
    rintro ⟨y, hy, e2⟩
    simp at hy
    obtain rfl : y = z := by omega
    exact e hy.2

theorem take_on {B bt bp g p x : Nat} {T : List Int} {w : World} (h : On w B bt bp g p T) (hx : x < p) :
    Calls Try.prog 96 #[.int .i64 (x : Int), .pointer (some ⟨bt, 0, none⟩)] w fun e w' => e = .returned (.bool (!hasB T x)) ∧ On w' B bt bp g p (T ++ [(x : Int)]) ∧ (hasB T x = true → On w' B bt bp g p T) ∧ w.grownBy w' (some g) := by
  obtain ⟨tk, hst, e⟩ := h
  refine (take_any _ _ _ _ _ _ _ _ hst hx).mono ?_
  rintro en w' ⟨rfl, h2, hg⟩
  refine ⟨by rw [e x hx], ⟨_, h2, fun z hz => ?_⟩, fun hh => ⟨_, h2, fun z hz => ?_⟩, hg⟩
  · by_cases e1 : z = x
    · subst e1; simp [hasB]
    · have e2 : ¬ (z : Int) = (x : Int) := by omega
      simp [hasB, e1, e2, e z hz]
  · by_cases e1 : z = x
    · subst e1; simp [hh]
    · simp [e1, e z hz]

theorem next_on {B bt bp g p x : Nat} {T : List Int} {w : World} (h : On w B bt bp g p T) (hx : x < p) (hp : p ≤ 12) :
    Calls Try.prog 97 #[.int .i64 (x : Int), .pointer (some ⟨bp, 0, none⟩)] w fun e w' => e = .returned (.tuple #[.int .i64 ((x : Int) + 1), .bool (decide ((x : Int) + 1 < (p : Int)))]) ∧ On w' B bt bp g p T ∧ Quiet w w' := by
  have h' := h
  obtain ⟨tk, hst, e⟩ := h
  refine (next_any _ _ _ _ _ _ _ _ hst hx hp).mono ?_
  rintro en w' ⟨rfl, hq⟩
  exact ⟨rfl, h'.quiet hq, hq⟩

theorem grown_below {w w' w'' : World} {r : Option Nat} {K : Nat} (h : w.grownBy w' r) (hb : Below K w' w'') (hK : w.heap.size ≤ K) : w.grownBy w'' r :=
  ⟨hb.os.trans h.os, hb.tape.trans h.tape, hb.output.trans h.output, Nat.le_trans h.size hb.size, fun j hj hne => (hb.block j (by omega)).trans (h.block j hj hne)⟩
theorem grown_quiet {w w' w'' : World} {r : Option Nat} (h : w.grownBy w' r) (hq : Quiet w' w'') : w.grownBy w'' r := by
  obtain ⟨j, rfl⟩ := hq
  exact ⟨h.os, h.tape, h.output, h.size, h.block⟩
theorem grown_alloc {w : World} (r : Option Nat) (o : Obj) : w.grownBy (w.alloc o) r := grown_below (World.grownBy.refl _ _) ((Below.refl w.heap.size w).alloc (Nat.le_refl _) o) (Nat.le_refl _)

/-- What a street's functions are. -/
def streetV (bt bp : Nat) : Value := .agg #[.func (.func 96) #[] #[.pointer (some ⟨bt, 0, none⟩)], .func (.func 97) #[] #[.pointer (some ⟨bp, 0, none⟩)]]

/-- One car: the street, the places of the cars so far (none or one), the copy of the street's functions (block B1). -/
structure One (w0 wr : World) (B bt bp g p B1 : Nat) (T : List Int) (st : List Int) (a : Option Addr) (k cap : Nat) : Prop where
  on : On wr B bt bp g p (T ++ st)
  lt : g < B1 ∧ w0.heap.size ≤ B1 ∧ B1 < wr.heap.size
  own : Own wr (B1 + 1) a k cap st
  c1 : wr.cell? ⟨B1, 0, none⟩ = some (.func (.func 96) #[] #[.pointer (some ⟨bt, 0, none⟩)])
  c2 : wr.cell? ⟨B1, 1, none⟩ = some (.func (.func 97) #[] #[.pointer (some ⟨bp, 0, none⟩)])
  grown : w0.grownBy wr (some g)

theorem One.took {w0 wr w2 : World} {B bt bp g p B1 : Nat} {T st : List Int} {a : Option Addr} {k cap : Nat} (P : One w0 wr B bt bp g p B1 T st a k cap) (hon : On w2 B bt bp g p (T ++ st)) (hg : wr.grownBy w2 (some g)) : One w0 w2 B bt bp g p B1 T st a k cap := by
  obtain ⟨l1, l2, l3⟩ := P.lt
  have hs := hg.size
  exact ⟨hon, ⟨l1, l2, by omega⟩, P.own.kept hg (.inl (by omega)), grown_cell hg P.c1 (by omega), grown_cell hg P.c2 (by omega), grown_trans P.grown hg⟩
theorem One.quiet {w0 wr w2 : World} {B bt bp g p B1 : Nat} {T st : List Int} {a : Option Addr} {k cap : Nat} (P : One w0 wr B bt bp g p B1 T st a k cap) (hq : Quiet wr w2) : One w0 w2 B bt bp g p B1 T st a k cap := by
  have hon := P.on.quiet hq
  obtain ⟨j, rfl⟩ := hq
  exact ⟨hon, P.lt, P.own, P.c1, P.c2, grown_quiet P.grown ⟨j, rfl⟩⟩

/-- What a car comes to that drives on to the first free place: its place in a list of one, or none. -/
def PostOne (w : World) (B bt bp g p : Nat) (T : List Int) (y : Int) (e : Ending) (w' : World) : Prop :=
  w.grownBy w' (some g) ∧ ((y = -1 ∧ e = .returned (.tuple #[.slice none 0 0, .bool false]) ∧ On w' B bt bp g p T) ∨
    (0 ≤ y ∧ y < p ∧ ∃ a cap, e = .returned (.tuple #[.slice a 1 cap, .bool true]) ∧ Own w' w.heap.size a 1 cap [y] ∧ On w' B bt bp g p (T ++ [y])))

set_option maxHeartbeats 2000000 in
theorem park1_any (B bt bp g p : Nat) (a : Option Addr) (n cap x : Nat) (T : List Int) (w : World) (hn : n = 1) (h : Has w a n cap [(x : Int)]) (hst : On w B bt bp g p T) (hxp : x < p) (hp : p ≤ 12) (hag : ∀ q, a = some q → q.block ≠ g) :
    Calls Try.prog 62 #[.slice a n cap, .agg #[.func (.func 96) #[] #[.pointer (some ⟨bt, 0, none⟩)], .func (.func 97) #[] #[.pointer (some ⟨bp, 0, none⟩)]]] w (PostOne w B bt bp g p T (place p T x)) := by
  obtain ⟨l1, l2, l3, l4, l5, l6⟩ := hst.lt
  obtain ⟨b, off, rfl, hbb, hc⟩ := h.2.2.2.2 (by omega)
  have hck0 := hc 0 (by omega)
  have hbg := hag _ rfl
  have HN := hid hn
  have hn1 : n ≤ 1 := by omega
  have hn0 : 1 ≤ n := by omega
  clear hc hag h hn
  go_enter Try.func62, Try.ntmps62
  go_wp2
  go_step3
  go_wp2_with (at_make; refine wpList_make_room _ rfl _ _ rfl _ rfl rfl (by omega) ?_; intro a1 cap1 w1 hown1 hb1)
  go_step3
  go_wp2_with fail
  have P0 : One w w1 B bt bp g p w.heap.size T [] a1 0 cap1 := by
    have hs1 := hb1.size
    simp at hs1
    have hbox : Below w.heap.size w (w.alloc (.cells #[.func (.func 96) #[] #[.pointer (some ⟨bt, 0, none⟩)], .func (.func 97) #[] #[.pointer (some ⟨bp, 0, none⟩)]] 75)) := (Below.refl _ _).alloc (Nat.le_refl _) _
    refine ⟨by rw [List.append_nil]; exact (hst.below hbox (Nat.le_refl _)).below hb1 (Nat.le_refl _), ⟨by omega, Nat.le_refl _, by omega⟩, hown1.mono (by simp), ?_, ?_, grown_below (World.grownBy.refl _ _) (hbox.trans (hb1.mono (by simp))) (Nat.le_refl _)⟩
    · rw [hb1.cell (p := ⟨w.heap.size, 0, none⟩) (by simp), World.cell?_alloc_at _ _ _ _ rfl]; rfl
    · rw [hb1.cell (p := ⟨w.heap.size, 1, none⟩) (by simp), World.cell?_alloc_at _ _ _ _ rfl]; rfl
  clear hown1 hb1 hst
  go_loopg [6, 17] n (fun q s i wr => ∃ (k : Nat) (a' : Option Addr) (cap' : Nat), k + q = n ∧ i = .int .i64 k ∧ s = .slice a' k cap' ∧ Hid (0 < k → 0 ≤ place p T x ∧ place p T x < p) ∧ One w wr B bt bp g p w.heap.size T (if k = 0 then [] else [place p T x]) a' k cap')
  case atStart => exact ⟨0, a1, cap1, by omega, rfl, rfl, hid (fun h => by omega), P0⟩
  case round =>
    clear P0
    obtain ⟨k, a', cap', hkq, rfl, rfl, HY, P⟩ := hrel
    cases gk with
    | succ q =>
      have hk0 : k = 0 := by omega
      rw [if_pos hk0] at P
      have hck : wr.cell? ⟨b, off + k, none⟩ = some (.int .i64 (nth [(x : Int)] 0)) := by rw [hk0]; exact grown_cell P.grown hck0 hbg
      have hlt : k < n := by omega
      rw [show nth [(x : Int)] 0 = (x : Int) from rfl] at hck
      have HK0 := hid hk0
      clear hk0
      clear hck0
      go_wp2_with fail
      go_loopg [9] (p - x) (fun q2 pl wr2 => ∃ y : Nat, pl = .int .i64 y ∧ y + q2 = p ∧ 0 < q2 ∧ One w wr2 B bt bp g p w.heap.size T [] a' k cap' ∧ Runs T p x y)
      case atStart => exact ⟨x, rfl, by omega, by omega, P, Runs.refl _ _ _⟩
      case round =>
        obtain ⟨y, rfl, hyq, hq0, P2, hrun⟩ := hrel
        have hyp : y < p := by omega
        have hon := P2.on
        have c1 := P2.c1
        have c2 := P2.c2
        rw [List.append_nil] at hon
        clear hck P
        by_cases hm : hasB T y = true
        · have HM := hid hm
          clear hm
          go_wp2_with fail
          refine (take_on hon hyp).mono ?_
          rintro e w2 ⟨rfl, -, hon2, hg2⟩
          have P3 := P2.took (by rw [List.append_nil]; exact hon2 HM.out) hg2
          rw [HM.out]
          clear P2 hon c1 c2 hon2 hg2
          have c1 := P3.c1
          have c2 := P3.c2
          have hon3 := P3.on
          go_wp2_with fail
          refine (next_on hon3 hyp hp).mono ?_
          rintro e w3 ⟨rfl, -, hq3⟩
          have P4 := P3.quiet hq3
          clear P3 hon3 c1 c2 hq3
          by_cases hlast : y + 1 < p
          · have hd : decide ((y : Int) + 1 < (p : Int)) = true := by simp; omega
            rw [hd]
            clear hd
            go_wp2_with fail
            go_roundg (gk - 1)
            case rel => exact ⟨y + 1, by go_num, by omega, by omega, P4, hrun.step (by omega) (hasB_iff.1 HM.out)⟩
            case measure => omega
          · have hd : decide ((y : Int) + 1 < (p : Int)) = false := by simp; omega
            have HF : Hid (place p T x = -1) := hid (by
              have h1 := hrun.step (y := (y : Int)) (by omega) (hasB_iff.1 HM.out)
              have h2 := place_of (p := (p : Int)) h1 (by omega) (by omega)
              rw [if_pos (by omega)] at h2
              exact h2)
            have hon4 := P4.on
            rw [List.append_nil] at hon4
            rw [hd]
            clear hd
            go_wp2_with fail
            rw [Exit.noGoto_ret]
            go_ret2
            exact ⟨P4.grown, .inl ⟨HF.out, rfl, hon4⟩⟩
        · have HM := hid hm
          have HD : Hid (place p T x = y) := hid (by
            rw [place_of hrun (fun e => hm (hasB_iff.2 e.2)) (by omega), if_neg (by omega)])
          have hf : hasB T y = false := by simpa using hm
          have HF := hid hf
          clear hm hf
          go_wp2_with fail
          refine (take_on hon hyp).mono ?_
          rintro e w2 ⟨rfl, hon2, -, hg2⟩
          rw [HF.out]
          have ho3 := P2.own.kept hg2 (.inl (by have := P2.lt; omega))
          have hs3 := hg2.size
          have hl3 := P2.lt
          have c1' := grown_cell hg2 c1 (by omega)
          have c2' := grown_cell hg2 c2 (by omega)
          have hgr := grown_trans P2.grown hg2
          clear P2 hon c1 c2
          go_wp2_with (at_builtin; refine wpList_append_int _ rfl _ _ rfl (w.heap.size + 1) _ _ _ _ _ rfl rfl ho3 (by omega) (by omega) ?_; intro a3 cap3 w3 hown3 hb3)
          go_roundg q
          case rel =>
            refine ⟨k + 1, a3, cap3, by omega, by go_num, rfl, hid (fun _ => by rw [HD.out]; omega), ?_⟩
            have hs4 := hb3.size
            rw [HD.out, if_neg (by omega)]
            refine ⟨?_, ⟨by omega, Nat.le_refl _, by omega⟩, by simpa using hown3, ?_, ?_, grown_below hgr hb3 (by omega)⟩
            · exact hon2.below' hb3 ⟨by omega, by omega, by omega⟩
            · rw [hb3.cell (p := ⟨w.heap.size, 0, none⟩) (by simp)]; exact c1'
            · rw [hb3.cell (p := ⟨w.heap.size, 1, none⟩) (by simp)]; exact c2'
          case measure => omega
    | zero =>
      obtain rfl : k = n := by omega
      rw [if_neg (by omega)] at P
      go_wp2_with fail
      rw [Exit.noGoto_ret]
      go_ret2
      obtain ⟨hy0, hy1⟩ := HY.out (by omega)
      have hkn : k = 1 := HN.out
      subst hkn
      exact ⟨P.grown, .inr ⟨hy0, hy1, a', cap', rfl, P.own.mono (by omega), P.on⟩⟩
end Go.Proofs.Ytnddplldkgphnac
