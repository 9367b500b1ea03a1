/- Chapter 9: the map of parts: what it holds, and the laws on it. -/
import Derived.Test.YtnddplldkgphnaaGreatRowA
import Derived.Test.YtnddplldkgphnaaGreatLawKit
import Derived.Maps.OwnSet
import Derived.Maps.RangeWalk
import Derived.Maps.AppendAt
namespace Go.Proofs.YtnddplldkgphnaaGreat
open Go.RowKit Go.Maps

/-- A value in the map is told by itself. -/
def rv (v : Value) : Option (DataW Value × List MemPlace) := some (.held v, [])
theorem Tryz.keyLaw : Keyed Tryz.prog 3 := int_keyed Tryz.underlying3
theorem Tryz.zeroInts (w : World) : (zeroValue 24).run Tryz.prog w = .ok (.slice none 0 0) w := by kernel_rfl
theorem Tryz.keyInt (x : Nat) (h : x < 100) : keyOf Tryz.prog 3 (.int .i64 (x : Int)) = some (.int .i64 (x : Int)) := keyOf_int_mk Tryz.underlying3 (WalkArith.wf_i64 (by omega))

/-- The map in block b has for the number x, if at all, the value f x. -/
def PM (w : World) (b : Nat) (f : Nat → Option Value) (cnt : Nat) : Prop :=
  ∃ D : DataW Value, w.ownsMap Tryz.prog 3 rv b cnt D ∧ Maps.size D = cnt ∧ (∀ kl, Maps.has D kl = true → ∃ x : Nat, x < 8 ∧ kl = .int .i64 (x : Int)) ∧ (∀ x : Nat, x < 8 → Maps.has D (.int .i64 (x : Int)) = (f x).isSome) ∧ ∀ x : Nat, x < 8 → D.atKey (.int .i64 (x : Int)) (.held (.slice none 0 0)) = .held ((f x).getD (.slice none 0 0))

theorem keyLit_int (x : Nat) (h : x < 100) : WideAt.IsKeyLit (.int .i64 (x : Int)) := Tryz.keyLaw.key (Tryz.keyInt x h)
theorem owns_tight {w : World} {b n : Nat} {D : DataW Value} (h : w.ownsMap Tryz.prog 3 rv b n D) : w.ownsMap Tryz.prog 3 rv b (Maps.size D) D := by
  obtain ⟨es, clock, hb, F, _, rfl⟩ := h
  exact ⟨es, clock, hb, F, by simp [Maps.size, length_sorted], rfl⟩
theorem PM.made (w : World) : PM (w.alloc (.map #[] 0)) w.heap.size (fun _ => none) 0 :=
  ⟨.map [], World.ownsMap_made w _ _ _, rfl, fun kl h => by simp [Maps.has] at h, fun x _ => rfl, fun x _ => by simp [DataW.atKey]⟩
theorem PM.lt {w : World} {b cnt : Nat} {f : Nat → Option Value} (h : PM w b f cnt) : b < w.heap.size := by obtain ⟨D, h1, _⟩ := h; exact h1.lt
theorem PM.kept {w w' : World} {b cnt : Nat} {f : Nat → Option Value} {row : Option Nat} (h : PM w b f cnt) (hg : w.grownBy w' row) (hne : some b ≠ row) : PM w' b f cnt := by
  obtain ⟨D, h1, h2⟩ := h
  exact ⟨D, h1.kept hg hne, h2⟩
theorem PM.below {w w' : World} {b cnt B : Nat} {f : Nat → Option Value} (h : PM w b f cnt) (hb : Below B w w') (hlt : b < B) : PM w' b f cnt := by
  obtain ⟨D, ⟨es, clock, hh, r⟩, h2⟩ := h
  exact ⟨D, ⟨es, clock, (hb.block b hlt).trans hh, r⟩, h2⟩
def upd {α : Type} (f : Nat → α) (x : Nat) (v : α) : Nat → α := fun y => if y = x then v else f y
theorem litNe {x y : Nat} (h : x ≠ y) : Lit.int .i64 (x : Int) ≠ Lit.int .i64 (y : Int) := by
  intro e
  injection e with _ e
  omega
theorem PM.look {w : World} {b cnt : Nat} {f : Nat → Option Value} (h : PM w b f cnt) {x : Nat} (hx : x < 8) :
    (Instr.lookup 51 (.map (some b)) (.int .i64 (x : Int)) false).run Tryz.prog w = .ok ((f x).getD (.slice none 0 0)) w := by
  obtain ⟨D, h1, _, _, _, h5⟩ := h
  obtain ⟨v, ps, hrun, hv⟩ := h1.lookup Tryz.keyLaw Tryz.underlying51 (Tryz.zeroInts w) (zd := .held (.slice none 0 0)) (zp := []) rfl (Tryz.keyInt x (by omega))
  rw [h5 x hx] at hv
  simp only [rv, Option.some.injEq, Prod.mk.injEq, DataW.held.injEq] at hv
  rw [hrun, hv.1]
theorem PM.put {w : World} {b cnt : Nat} {f : Nat → Option Value} (h : PM w b f cnt) {x : Nat} (hx : x < 8) (hc : cnt ≤ 1000) (v : Value) :
    ∃ w', (Instr.mapUpdate 51 (.map (some b)) (.int .i64 (x : Int)) v).run Tryz.prog w = .ok () w' ∧ PM w' b (upd f x (some v)) (if (f x).isSome then cnt else cnt + 1) ∧ w.mapTurned w' b := by
  obtain ⟨D, h1, h2, h3, h4, h5⟩ := h
  obtain ⟨w', hrun, ho, ht⟩ := h1.store (val := v) (d := .held v) (ps := []) Tryz.keyLaw Tryz.underlying51 (by unfold maxLen; omega) (Tryz.keyInt x (by omega)) rfl
  have hsz : Maps.size (D.put (.int .i64 (x : Int)) (.held v)) = if (f x).isSome then cnt else cnt + 1 := by
    rw [size_put (h1.tidy Tryz.keyLaw), h4 x hx, h2]
  refine ⟨w', hrun, ⟨_, by rw [← hsz]; exact owns_tight ho, hsz, fun kl hk => ?_, fun y hy => ?_, fun y hy => ?_⟩, ht⟩
  · by_cases e : kl = .int .i64 (x : Int)
    · exact ⟨x, hx, e⟩
    · rw [has_put_other e] at hk
      exact h3 kl hk
  · by_cases e : y = x
    · subst e
      rw [has_put_same h1.isMap (keyLit_int y (by omega))]
      simp [upd]
    · rw [has_put_other (litNe e), h4 y hy]
      simp [upd, e]
  · by_cases e : y = x
    · subst e
      rw [atKey_put_same h1.isMap (keyLit_int y (by omega))]
      simp [upd]
    · rw [atKey_put_other (litNe e), h5 y hy]
      simp [upd, e]
theorem PM.drop {w : World} {b cnt : Nat} {f : Nat → Option Value} (h : PM w b f cnt) {x : Nat} (hx : x < 8) (ty : TypeId) :
    ∃ w', (Builtin.delete_ #[51, 3] ty #[.map (some b), .int .i64 (x : Int)]).run Tryz.prog w = .ok (.tuple #[]) w' ∧ PM w' b (upd f x none) (if (f x).isSome then cnt - 1 else cnt) ∧ w.mapTurned w' b := by
  obtain ⟨D, h1, h2, h3, h4, h5⟩ := h
  obtain ⟨w', hrun, ho, ht⟩ := h1.drop Tryz.keyLaw Tryz.underlying51 (Tryz.keyInt x (by omega)) ty
  have hsz : Maps.size (D.del (.int .i64 (x : Int))) = if (f x).isSome then cnt - 1 else cnt := by
    have := size_del (k := .int .i64 (x : Int)) (h1.tidy Tryz.keyLaw)
    rw [h4 x hx, h2] at this
    split at this <;> rename_i hs
    · rw [if_pos hs]; omega
    · rw [if_neg hs]; omega
  refine ⟨w', hrun, ⟨_, by rw [← hsz]; exact owns_tight ho, hsz, fun kl hk => ?_, fun y hy => ?_, fun y hy => ?_⟩, ht⟩
  · by_cases e : kl = .int .i64 (x : Int)
    · exact ⟨x, hx, e⟩
    · rw [has_del_other e] at hk
      exact h3 kl hk
  · by_cases e : y = x
    · subst e
      rw [has_del_same]
      simp [upd]
    · rw [has_del_other (litNe e), h4 y hy]
      simp [upd, e]
  · by_cases e : y = x
    · subst e
      rw [atKey_del_same]
      simp [upd]
    · rw [atKey_del_other (litNe e), h5 y hy]
      simp [upd, e]
theorem PM.congr {w : World} {b cnt cnt' : Nat} {f g : Nat → Option Value} (h : PM w b f cnt) (hc : cnt = cnt') (hf : ∀ x, x < 8 → f x = g x) : PM w b g cnt' := by
  subst hc
  obtain ⟨D, h1, h2, h3, h4, h5⟩ := h
  exact ⟨D, h1, h2, h3, fun x hx => by rw [h4 x hx, hf x hx], fun x hx => by rw [h5 x hx, hf x hx]⟩

/-! ### The parts in the map -/
def valF (G : Nat → List Int) (r : Nat → Rw) (x : Nat) : Option Value := if G x = [] then none else some (r x).v
def keysG (G : Nat → List Int) : List Nat := (List.range 8).filter fun x => !(G x).isEmpty
/-- The map in block b has, for each number x, the row r x with the cars G x, if there are any; rows lie from block B on, apart from each other. -/
def PartsR (w : World) (b B : Nat) (G : Nat → List Int) (r : Nat → Rw) : Prop :=
  PM w b (valF G r) (keysG G).length ∧ b < B ∧ (∀ x, x < 8 → G x ≠ [] → (r x).xs = G x ∧ Own w B (r x).a (r x).xs.length (r x).c (r x).xs) ∧
  ∀ x y, x < 8 → y < 8 → x ≠ y → G x ≠ [] → G y ≠ [] → ∀ p q, (r x).a = some p → (r y).a = some q → p.block ≠ q.block
theorem keysG_le (G : Nat → List Int) : (keysG G).length ≤ 8 := by
  unfold keysG
  exact Nat.le_trans (List.length_filter_le _ _) (by simp)
theorem keysG_upd (G : Nat → List Int) {x : Nat} (hx : x < 8) (ys : List Int) :
    (keysG (upd G x ys)).length + (if G x = [] then 0 else 1) = (keysG G).length + (if ys = [] then 0 else 1) := by
  have key : ∀ l : List Nat, l.Nodup → (l.filter fun y => !(upd G x ys y).isEmpty).length + (if x ∈ l ∧ G x ≠ [] then 1 else 0) = (l.filter fun y => !(G y).isEmpty).length + (if x ∈ l ∧ ys ≠ [] then 1 else 0) := by
    intro l
    induction l with
    | nil => intro _; simp
    | cons z l ih =>
      intro hn
      obtain ⟨hz, hn⟩ := List.nodup_cons.1 hn
      have ih := ih hn
      by_cases e : z = x
      · subst e
        have e1 : (l.filter fun y => !(upd G z ys y).isEmpty) = l.filter fun y => !(G y).isEmpty := List.filter_congr fun y hy => by
          have : y ≠ z := fun e => hz (e ▸ hy)
          simp [upd, this]
        rw [List.filter_cons, List.filter_cons, e1]
        by_cases g1 : G z = [] <;> by_cases g2 : ys = [] <;> simp [upd, g1, g2]
      · have e1 : upd G x ys z = G z := by simp [upd, e]
        have e2 : (x ∈ z :: l) ↔ x ∈ l := by simp [Ne.symm e]
        rw [List.filter_cons, List.filter_cons, e1]
        simp only [e2]
        split
        · simp only [List.length_cons]
          omega
        · omega
  have := key (List.range 8) List.nodup_range
  have hm : x ∈ List.range 8 := by simpa using hx
  unfold keysG
  by_cases g1 : G x = [] <;> by_cases g2 : ys = [] <;> simp [hm, g1, g2] at this ⊢ <;> omega
theorem parts_made (w : World) : PartsR (w.alloc (.map #[] 0)) w.heap.size (w.heap.size + 1) (fun _ => []) (fun _ => Rw.none') :=
  ⟨(PM.made w).congr rfl (fun x _ => by simp [valF]), by omega, fun x _ h => absurd rfl h, fun x y _ _ _ h => absurd rfl h⟩
theorem PartsR.below {w w' : World} {b B K : Nat} {G : Nat → List Int} {r : Nat → Rw} (h : PartsR w b B G r) (hb : Below K w w') (hK : w.heap.size ≤ K) : PartsR w' b B G r := by
  obtain ⟨h1, h2, h3, h4⟩ := h
  exact ⟨h1.below hb (Nat.lt_of_lt_of_le h1.lt hK), h2, fun x hx hg => ⟨(h3 x hx hg).1, (h3 x hx hg).2.below hb hK⟩, h4⟩
/-- .. where what lies before K stays, and the map and its rows lie there. -/
theorem PartsR.belowB {w w' : World} {b B K : Nat} {G : Nat → List Int} {r : Nat → Rw} (h : PartsR w b B G r) (hb : Below K w w') (hbK : b < K) (hr : ∀ x, x < 8 → G x ≠ [] → BlkLt (r x).a K) : PartsR w' b B G r := by
  obtain ⟨h1, h2, h3, h4⟩ := h
  exact ⟨h1.below hb hbK, h2, fun x hx hg => ⟨(h3 x hx hg).1, (h3 x hx hg).2.belowB hb (hr x hx hg)⟩, h4⟩
theorem turned_own {w w' : World} {b B n cap : Nat} {a : Option Addr} {xs : List Int} (h : Own w B a n cap xs) (ht : w.grownBy w' (some b)) (hb : b < B) : Own w' B a n cap xs := h.kept ht (.inl hb)
theorem turned_rows {w w' : World} {b B n cap : Nat} {a : Option Addr} {rs : List Rw} (h : OwnR w B a n cap rs) (ht : w.grownBy w' (some b)) (hb : b < B) : OwnR w' B a n cap rs := by
  refine ⟨h.1.kept ht ?_, h.2.1, h.2.2.1, fun i hi => (h.2.2.2.1 i hi).kept ht (.inl hb), h.2.2.2.2⟩
  cases a with
  | none => left; rfl
  | some p =>
    right
    have := (h.1.lt p.block rfl).1
    simp [Value.ownBlock]
    omega

/-- The value at a number, and the way back. -/
def PartsBack (w : World) (b B : Nat) (G : Nat → List Int) (x : Nat) (a : Option Addr) (n cap : Nat) : Prop :=
  ∀ (w1 : World) (a' : Option Addr) (n' cap' : Nat) (ys : List Int), w.grownBy w1 (Value.ownBlock (.slice a n cap)) → Own w1 B a' n' cap' ys → ys ≠ [] →
    (Value.ownBlock (.slice a' n' cap') = Value.ownBlock (.slice a n cap) ∨ ∃ g, Value.ownBlock (.slice a' n' cap') = some g ∧ w.heap.size ≤ g) →
    ∃ w2, (Instr.mapUpdate 51 (.map (some b)) (.int .i64 (x : Int)) (.slice a' n' cap')).run Tryz.prog w1 = .ok () w2 ∧ (∃ r, PartsR w2 b B (upd G x ys) r) ∧ w1.grownBy w2 (some b)
theorem PartsR.at {w : World} {b B : Nat} {G : Nat → List Int} {r : Nat → Rw} (h : PartsR w b B G r) {x : Nat} (hx : x < 8) :
    ∃ a n cap, (Instr.lookup 51 (.map (some b)) (.int .i64 (x : Int)) false).run Tryz.prog w = .ok (.slice a n cap) w ∧ Own w B a n cap (G x) ∧ PartsBack w b B G x a n cap := by
  obtain ⟨h1, h2, h3, h4⟩ := h
  have hlook := h1.look hx
  have main : ∀ (a : Option Addr) (n cap : Nat), Own w B a n cap (G x) → (∀ y, y < 8 → y ≠ x → G y ≠ [] → ∀ p q, (r y).a = some p → a = some q → p.block ≠ q.block) → PartsBack w b B G x a n cap := by
    intro a n cap ho hap w1 a' n' cap' ys hg hown' hne hloc
    have hlt := h1.lt
    have hrow : ∀ p, a = some p → B ≤ p.block := ho.ge
    have hbrow : some b ≠ Value.ownBlock (.slice a n cap) := by
      cases a with
      | none => simp [Value.ownBlock]
      | some p =>
        have := hrow p rfl
        simp [Value.ownBlock]
        omega
    have hpm := h1.kept hg hbrow
    obtain ⟨w2, hrun, hp2, ht⟩ := hpm.put hx (by have := keysG_le G; omega) (.slice a' n' cap')
    have hl := hown'.len
    have hgr := ht.grown
    refine ⟨w2, hrun, ⟨upd r x ⟨a', cap', ys⟩, hp2.congr ?_ (fun y hy => ?_), h2, fun y hy hgy => ?_, fun y z hy hz hyz hgy hgz p q hp hq => ?_⟩, hgr⟩
    · have := keysG_upd G hx ys
      rw [if_neg hne] at this
      by_cases e : G x = []
      · rw [if_pos e] at this
        simp [valF, e]
        omega
      · rw [if_neg e] at this
        simp [valF, e]
        omega
    · by_cases e : y = x
      · subst e
        simp [upd, valF, hne, Rw.v, hl]
      · simp [upd, valF, e]
    · by_cases e : y = x
      · subst e
        simp only [upd, if_pos]
        rw [hl]
        exact ⟨trivial, turned_own hown' hgr h2⟩
      · simp only [upd, if_neg e] at hgy ⊢
        obtain ⟨q1, q2⟩ := h3 y hy hgy
        refine ⟨q1, turned_own (q2.1.kept hg ?_ |> fun h => ⟨h, q2.2⟩) hgr h2⟩
        cases hry : (r y).a with
        | none => left; rfl
        | some p =>
          right
          cases a with
          | none => simp [Value.ownBlock]
          | some q =>
            have := hap y hy e hgy p q hry rfl
            simpa [Value.ownBlock] using this
    · -- rows apart
      have newOld : ∀ y, y < 8 → y ≠ x → G y ≠ [] → ∀ p q, (r y).a = some p → a' = some q → p.block ≠ q.block := by
        intro y0 hy0 e0 hgy0 p0 q0 hp0 hq0
        rcases hloc with h5 | ⟨g, h5, h6⟩
        · cases a with
          | none => subst hq0; simp [Value.ownBlock] at h5
          | some p' =>
            subst hq0
            simp [Value.ownBlock] at h5
            rw [h5]
            exact hap y0 hy0 e0 hgy0 p0 p' hp0 rfl
        · subst hq0
          simp [Value.ownBlock] at h5
          have := (h3 y0 hy0 hgy0).2.lt p0 hp0
          omega
      by_cases ey : y = x
      · by_cases ez : z = x
        · omega
        · simp only [upd, if_pos ey, if_neg ez] at hp hq hgz
          exact (newOld z hz ez hgz q p hq hp).symm
      · by_cases ez : z = x
        · simp only [upd, if_neg ey, if_pos ez] at hp hq hgy
          exact newOld y hy ey hgy p q hp hq
        · simp only [upd, if_neg ey, if_neg ez] at hp hq hgy hgz
          exact h4 y z hy hz hyz hgy hgz p q hp hq
  by_cases e : G x = []
  · refine ⟨none, 0, 0, ?_, by rw [e]; exact Own.nil _ _, main none 0 0 (by rw [e]; exact Own.nil _ _) (fun y _ _ _ p q _ hq => by cases hq)⟩
    rw [hlook]
    simp [valF, e]
  · obtain ⟨q1, q2⟩ := h3 x hx e
    have q3 : Own w B (r x).a (r x).xs.length (r x).c (G x) := by rw [← q1]; exact q2
    refine ⟨(r x).a, (r x).xs.length, (r x).c, ?_, q3, main _ _ _ q3 (fun y hy hyx hgy p q hp hq => h4 y x hy hx hyx hgy e p q hp hq)⟩
    rw [hlook]
    simp [valF, e, Rw.v]

/-! ### At the operations -/
section
variable (w : World) {ops : Array Oper} {rest : List Oper} {o : Oper} {a : Act} {Q : Exit → Act → World → Prop}
theorem wpList_lookup_parts (hg : o.guard = none) (m x : Operand) (hop : o.op = Op.lookup 51 m x false) (b B : Nat) (G : Nat → List Int) (r : Nat → Rw) (k : Nat) (hk : k < 8) (hm : a.eval m = .map (some b)) (hx : a.eval x = .int .i64 (k : Int)) (h : PartsR w b B G r)
    (hK : ∀ a1 n1 c1, Own w B a1 n1 c1 (G k) → PartsBack w b B G k a1 n1 c1 → wpList Tryz.prog ops Q rest (a.put o.dst (.slice a1 n1 c1)) w) : wpList Tryz.prog ops Q (o :: rest) a w := by
  refine wpList_plain hg fun K' hK' => ?_
  obtain ⟨a1, n1, c1, hrun, h1, h2⟩ := h.at hk
  unfold Oper.wp
  simp [execOp, hop, hm, hx, hrun, Result.andThen]
  exact hK' _ _ (hK a1 n1 c1 h1 h2)
theorem wpList_look_pm (hg : o.guard = none) (m x : Operand) (hop : o.op = Op.lookup 51 m x false) (b cnt : Nat) (f : Nat → Option Value) (k : Nat) (v : Value) (hk : k < 8) (hm : a.eval m = .map (some b)) (hx : a.eval x = .int .i64 (k : Int)) (h : PM w b f cnt) (hv : f k = some v)
    (hK : wpList Tryz.prog ops Q rest (a.put o.dst v) w) : wpList Tryz.prog ops Q (o :: rest) a w := by
  refine wpList_plain hg fun K' hK' => ?_
  have hrun := h.look hk
  rw [hv] at hrun
  unfold Oper.wp
  simp [execOp, hop, hm, hx, hrun, Result.andThen]
  exact hK' _ _ hK
theorem wpList_mapUpdate_parts (hg : o.guard = none) (m x v : Operand) (hop : o.op = Op.mapUpdate 51 m x v) {w0 : World} {b B : Nat} {G : Nat → List Int} {k : Nat} {a0 a1 : Option Addr} {n0 n1 c0 c1 : Nat} {ys : List Int}
    (hback : PartsBack w0 b B G k a0 n0 c0) (hm : a.eval m = .map (some b)) (hx : a.eval x = .int .i64 (k : Int)) (hv : a.eval v = .slice a1 n1 c1) (hgr : w0.grownBy w (Value.ownBlock (.slice a0 n0 c0))) (hown : Own w B a1 n1 c1 ys) (hne : ys ≠ [])
    (hloc : Value.ownBlock (.slice a1 n1 c1) = Value.ownBlock (.slice a0 n0 c0) ∨ ∃ g, Value.ownBlock (.slice a1 n1 c1) = some g ∧ w0.heap.size ≤ g)
    (hK : ∀ w2, (∃ r, PartsR w2 b B (upd G k ys) r) → w.grownBy w2 (some b) → wpList Tryz.prog ops Q rest (a.put o.dst undef) w2) : wpList Tryz.prog ops Q (o :: rest) a w := by
  refine wpList_plain hg fun K' hK' => ?_
  obtain ⟨w2, hrun, r1, r2⟩ := hback w a1 n1 c1 ys hgr hown hne hloc
  unfold Oper.wp
  simp [execOp, hop, hm, hx, hv, hrun, Result.andThen]
  exact hK' _ _ (hK w2 r1 r2)
theorem wpList_delete_pm (hg : o.guard = none) (m x : Operand) (hop : o.op = Op.call { callee := Callee.builtin Builtin.delete, args := #[m, x], argTypes := #[51, 3] }) (b cnt : Nat) (f : Nat → Option Value) (k : Nat) (hk : k < 8) (hm : a.eval m = .map (some b)) (hx : a.eval x = .int .i64 (k : Int)) (h : PM w b f cnt)
    (hK : ∀ w', PM w' b (upd f k none) (if (f k).isSome then cnt - 1 else cnt) → w.grownBy w' (some b) → wpList Tryz.prog ops Q rest (a.put o.dst (.tuple #[])) w') : wpList Tryz.prog ops Q (o :: rest) a w := by
  refine wpList_plain hg fun K' hK' => ?_
  obtain ⟨w', hrun, r1, r2⟩ := h.drop hk o.type
  unfold Oper.wp
  simp [execOp, hop, resolve, invoke, builtin, hm, hx, hrun, Result.andThen]
  exact hK' _ _ (hK w' r1 r2.grown)
theorem wpList_len_pm (hg : o.guard = none) (m : Operand) (hop : o.op = Op.call { callee := Callee.builtin Builtin.len, args := #[m], argTypes := #[51] }) (b cnt : Nat) (f : Nat → Option Value) (hm : a.eval m = .map (some b)) (h : PM w b f cnt)
    (hK : wpList Tryz.prog ops Q rest (a.put o.dst (.int .i64 (cnt : Int))) w) : wpList Tryz.prog ops Q (o :: rest) a w := by
  obtain ⟨D, h1, h2, _⟩ := h
  refine wpList_len_own w hg m 51 hop 3 24 Tryz.underlying51 rv b cnt D hm h1 ?_
  rw [h2]
  exact hK
/-- 'append(out, y)' of one number, with where the new slice lies. -/
theorem wpList_append_int_at (hgd : o.guard = none) (s x : Operand)
    (ho : o.op = .call { callee := .builtin .append, args := #[s, x], argTypes := #[24, 24] })
    (B : Nat) (a0 : Option Addr) (n cap : Nat) (xs : List Int) (y : Int) (hs : a.eval s = .slice a0 n cap) (hx : a.eval x = .slice (some ⟨w.heap.size, 0, none⟩) 1 1)
    (hown : Own w B a0 n cap xs) (hl : n + 1 ≤ 2097152) (hB : B ≤ w.heap.size)
    (h : ∀ a' cap' w', Own w' B a' (n + 1) cap' (xs ++ [y]) → w.grownBy w' (Value.ownBlock (.slice a0 n cap)) → (Value.ownBlock (.slice a' (n + 1) cap') = Value.ownBlock (.slice a0 n cap) ∨ ∃ g, Value.ownBlock (.slice a' (n + 1) cap') = some g ∧ w.heap.size ≤ g) →
      wpList Tryz.prog ops Q rest (a.put o.dst (.slice a' (n + 1) cap')) w') :
    wpList Tryz.prog ops Q (o :: rest) a (w.alloc (.cells #[.int .i64 y] 3)) := by
  obtain ⟨i0, hi, hz0, hz1, hz2⟩ := info_parts Tryz.infoInt
  have hlen := hown.len
  refine wpList_append_own_at (P := Tryz.prog) _ hgd s x 24 ho B 3 i0 (.int .i64 0) 1 8 Tryz.underlying24 hi hz0 hz1 hz2 rfl (by decide) _ n (xs.map (Value.int .i64)) hs (hown.1.alloc _) ⟨w.heap.size, 0, none⟩ 1 1 [.int .i64 y] hx rfl (cell_one_new _ _ _) (by intro u hu; simp at hu; subst hu; rfl) (by unfold maxLen; omega) (by omega) (by simp; omega) ?_
  intro v' w' hown' hgrow _ hloc
  obtain ⟨a', cap', rfl, ho'⟩ := own_of_row (xs := xs ++ [y]) hown' (by simp [hlen]) (by simp) (by simp; omega)
  exact h _ _ _ ho' ((World.grownBy_alloc _ _ _).trans hgrow) (hloc.imp id (fun h => ⟨_, h, by simp⟩))
end
end Go.Proofs.YtnddplldkgphnaaGreat
