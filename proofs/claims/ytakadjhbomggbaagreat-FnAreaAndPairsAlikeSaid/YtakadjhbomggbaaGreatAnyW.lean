/- A region that draws its order, by an invariant: each operation is walked once, whatever has come before. -/
import Derived.Test.YtakadjhbomggbaaGreatWlk
import Derived.Deep.RegionLaw
import Derived.Deep.AppendLies
namespace Go.Proofs.YtakadjhbomggbaaGreat
open Go.RowKit

/-- Which operations have come up. -/
def flag (l : Array Bool) (j : Nat) : Bool := l.getD j false
def setF (L : Nat → Bool) (i : Nat) : Nat → Bool := fun j => if j = i then true else L j
def setT (T : Nat → Value) (d : Nat) (v : Value) : Nat → Value := fun j => if j = d then v else T j
theorem flag_set {l : Array Bool} {i : Nat} (hi : i < l.size) : flag (l.setIfInBounds i true) = setF (flag l) i := by
  funext j
  unfold flag setF
  by_cases h : j = i
  · subst h; simp [hi]
  · rw [if_neg h, getD_set_ne false (fun e => h e.symm)]

theorem count_set {l : List Bool} : ∀ {i : Nat}, l[i]? = some false → (l.set i true).countP (!·) + 1 = l.countP (!·) := by
  induction l with
  | nil => intro i h; simp at h
  | cons x xs ih =>
    intro i h
    cases i with
    | zero => simp at h; subst h; simp
    | succ i =>
      simp at h
      have := ih h
      simp [List.countP_cons]
      omega

/-- The induction over every order. -/
theorem wpAny_of {P : Program} {md : Region.Mode} {ops : Array Oper} {Q : Exit → Act → World → Prop} (Inv : (Nat → Bool) → Act → World → Prop)
    (step : ∀ (L : Nat → Bool) (a : Act) (w : World), Inv L a w → ∀ i o, ops[i]? = some o → L i = false → (∀ e ∈ o.after, Region.binds md e = true → L e.on = true) →
      wpOp P ops Q i (fun a' w' => Inv (setF L i) a' w') a w)
    (done : ∀ (L : Nat → Bool) (a : Act) (w : World), Inv L a w → (∀ i, i < ops.size → L i = true ∨ ∃ o, ops[i]? = some o ∧ ∃ e ∈ o.after, Region.binds md e = true ∧ L e.on = false) → Q .normal a w) :
    ∀ (fuel : Nat) (l : Array Bool) (a : Act) (w : World), l.size = ops.size → l.toList.countP (!·) ≤ fuel → Inv (flag l) a w → wpAny P md ops Q fuel l a w := by
  have hd : ∀ (l : Array Bool) (a : Act) (w : World), l.size = ops.size → Inv (flag l) a w → Region.ready md ops l = [] → Q .normal a w := by
    intro l a w hs hI hr
    refine done _ a w hI (fun i hi => ?_)
    by_cases hf : flag l i = true
    · exact .inl hf
    · refine .inr ⟨ops[i], by simp [hi], ?_⟩
      apply Classical.byContradiction
      intro hno
      have hm : i ∈ Region.ready md ops l := mem_ready.2 ⟨by
        unfold flag at hf
        have hil : i < l.size := by omega
        simp [hil] at hf ⊢
        exact hf, ops[i], by simp [hi], fun e he hb => by
        apply Classical.byContradiction
        intro h2
        exact hno ⟨e, he, hb, by unfold flag; simpa using h2⟩⟩
      rw [hr] at hm
      cases hm
  intro fuel
  induction fuel with
  | zero =>
    intro l a w hs hc hI
    have hr : Region.ready md ops l = [] := by
      rw [List.eq_nil_iff_forall_not_mem]
      intro i hi
      obtain ⟨h0, o, ho, _⟩ := mem_ready.1 hi
      have hil : i < l.size := by have := (Array.getElem?_eq_some_iff.1 ho).1; omega
      have h1 : l.toList[i]? = some false := by simp [hil] at h0 ⊢; exact h0
      have := count_set h1
      omega
    exact ⟨hr, hd l a w hs hI hr⟩
  | succ fuel ih =>
    intro l a w hs hc hI
    refine ⟨hd l a w hs hI, fun i hi => ?_⟩
    obtain ⟨h0, o, ho, hall⟩ := mem_ready.1 hi
    have hil : i < l.size := by have := (Array.getElem?_eq_some_iff.1 ho).1; omega
    have h1 : l.toList[i]? = some false := by simp [hil] at h0 ⊢; exact h0
    have h2 := count_set h1
    refine wpOp_mono (fun a' w' h => ih _ a' w' (by simp [hs]) ?_ (by rw [flag_set hil]; exact h)) (step (flag l) a w hI i o ho ?_ hall)
    · rw [Array.toList_setIfInBounds]; omega
    · unfold flag; simp [hil] at h0 ⊢; exact h0

/-! ### Things that lie apart, by tags of their blocks -/
/-- From w to w' nothing but blocks of tag t (and new ones) has changed. -/
structure Step (t : Nat) (tag : Nat → Nat) (w w' : World) : Prop where
  size : w.heap.size ≤ w'.heap.size
  block : ∀ k, k < w.heap.size → tag k ≠ t → w'.heap[k]? = w.heap[k]?
def tagIn (tag : Nat → Nat) (n t : Nat) : Nat → Nat := fun k => if k < n then tag k else t
theorem Step.of_below {t : Nat} {tag : Nat → Nat} {w w' : World} (h : Below w.heap.size w w') : Step t tag w w' := ⟨h.size, fun k hk _ => h.block k hk⟩
theorem Step.grown {t : Nat} {tag : Nat → Nat} {w w' : World} {row : Option Nat} (h : w.grownBy w' row) (ht : ∀ k, row = some k → tag k = t) : Step t tag w w' :=
  ⟨h.size, fun k hk hne => h.block k hk (fun e => hne (ht k e.symm))⟩

structure ListF (w : World) (N : Nat) (tag : Nat → Nat) (t : Nat) (a : Option Addr) (n c : Nat) (xs : List Int) : Prop where
  own : Own w N a n c xs
  tg : ∀ q, a = some q → tag q.block = t
structure CellF (w : World) (N : Nat) (tag : Nat → Nat) (t g : Nat) (v : Value) : Prop where
  lt : g < w.heap.size
  ge : N ≤ g
  tg : tag g = t
  cell : w.cell? ⟨g, 0, none⟩ = some v
structure BoxF (w : World) (N : Nat) (tag : Nat → Nat) (t g : Nat) (x y : Value) : Prop where
  lt : g < w.heap.size
  ge : N ≤ g
  tg : tag g = t
  box : BoxAt w g x y

theorem Own.ofBlock {w w' : World} {B : Nat} {a : Option Addr} {n cap : Nat} {xs : List Int} (h : Own w B a n cap xs) (hb : ∀ q, a = some q → w'.heap[q.block]? = w.heap[q.block]?) : Own w' B a n cap xs := by
  obtain ⟨⟨h1, h2⟩, h3⟩ := h
  refine ⟨⟨h1, ?_⟩, h3⟩
  rcases h2 with h2 | ⟨g, cap', cur, hv, hg, hh, r⟩
  · exact .inl h2
  · simp at hv
    exact .inr ⟨g, cap', cur, by simp [hv], hg, by rw [hb _ hv.1]; exact hh, r⟩

variable {w w' : World} {N t t' : Nat} {tag : Nat → Nat}
theorem ListF.step {a : Option Addr} {n c : Nat} {xs : List Int} (h : ListF w N tag t a n c xs) (s : Step t' tag w w') (hne : t ≠ t') : ListF w' N (tagIn tag w.heap.size t') t a n c xs :=
  ⟨h.own.ofBlock (fun q hq => s.block _ (h.own.lt q hq) (by rw [h.tg q hq]; exact hne)), fun q hq => by unfold tagIn; rw [if_pos (h.own.lt q hq)]; exact h.tg q hq⟩
theorem CellF.step {g : Nat} {v : Value} (h : CellF w N tag t g v) (s : Step t' tag w w') (hne : t ≠ t') : CellF w' N (tagIn tag w.heap.size t') t g v :=
  ⟨Nat.lt_of_lt_of_le h.lt s.size, h.ge, by unfold tagIn; rw [if_pos h.lt]; exact h.tg, by rw [World.cell?_of_block (a := ⟨g, 0, none⟩) (s.block _ h.lt (by rw [h.tg]; exact hne))]; exact h.cell⟩
theorem BoxF.step {g : Nat} {x y : Value} (h : BoxF w N tag t g x y) (s : Step t' tag w w') (hne : t ≠ t') : BoxF w' N (tagIn tag w.heap.size t') t g x y :=
  have hb := s.block _ h.lt (by rw [h.tg]; exact hne)
  ⟨Nat.lt_of_lt_of_le h.lt s.size, h.ge, by unfold tagIn; rw [if_pos h.lt]; exact h.tg,
    ⟨by rw [World.cell?_of_block (a := ⟨g, 0, none⟩) hb]; exact h.box.c0, by rw [World.cell?_of_block (a := ⟨g, 1, none⟩) hb]; exact h.box.c1,
     by rw [World.frozen?_of_block (a := ⟨g, 0, none⟩) hb]; exact h.box.f0, by rw [World.frozen?_of_block (a := ⟨g, 1, none⟩) hb]; exact h.box.f1⟩⟩
theorem ListF.new {a : Option Addr} {n c : Nat} {xs : List Int} (h : Own w' w.heap.size a n c xs) (hN : N ≤ w.heap.size) : ListF w' N (tagIn tag w.heap.size t) t a n c xs :=
  ⟨h.mono hN, fun q hq => by unfold tagIn; rw [if_neg (by have := h.ge q hq; omega)]⟩

/-- An append of one number, out of a cell that lies elsewhere, as an operation of a region that draws. -/
theorem op_append {ops : Array Oper} {i : Nat} {o : Oper} {a : Act} {K : Act → World → Prop} {Q : Exit → Act → World → Prop} {w : World} (hi : ops[i]? = some o) (hgd : o.guard = none) (s x : Operand)
    (ho : o.op = .call { callee := .builtin .append, args := #[s, x], argTypes := #[31, 31] })
    {N : Nat} {tag : Nat → Nat} {t t2 : Nat} {a0 : Option Addr} {n cap g : Nat} {xs : List Int} {y : Int} (hs : a.eval s = .slice a0 n cap) (hx : a.eval x = .slice (some ⟨g, 0, none⟩) 1 1)
    (hF : ListF w N tag t a0 n cap xs) (hC : CellF w N tag t2 g (.int .i64 y)) (hl : n + 1 ≤ 2097152) (hN : N ≤ w.heap.size)
    (h : ∀ a' cap' w', ListF w' N (tagIn tag w.heap.size t) t a' (n + 1) cap' (xs ++ [y]) → Step t tag w w' → Below N w w' → K (a.put o.dst (.slice a' (n + 1) cap')) w') :
    wpOp Tryz.prog ops Q i K a w := by
  obtain ⟨i0, hi0, hz0, hz1, hz2⟩ := info_parts Tryz.infoInt
  have hlen := hF.own.len
  unfold wpOp
  simp only [hi]
  have hw : Region.wanted o (yielded ops a.tmps) = true := by simp [Region.wanted, hgd]
  rw [if_pos hw]
  left
  refine wp_append_lies (P := Tryz.prog) w s x 31 ho N 3 i0 (.int .i64 0) 1 8 Tryz.underlying31 hi0 hz0 hz1 hz2 rfl (by decide) _ n (xs.map (Value.int .i64)) hs hF.own.1 ⟨g, 0, none⟩ 1 1 [.int .i64 y] hx rfl ?_ (by intro u hu; simp at hu; subst hu; rfl) (by decide) (by unfold maxLen; omega) (by omega) hN _ rfl ?_
  · intro j u hj
    cases j with
    | zero => simp at hj; subst hj; simpa [Addr.add] using hC.cell
    | succ j => simp at hj
  · intro g' cap' w' hown' hgrow hg _
    have hrow : ∀ k, (Value.slice a0 n cap).ownBlock = some k → tag k = t := fun k hk => by
      cases a0 with
      | none => simp [Value.ownBlock] at hk
      | some q => simp [Value.ownBlock] at hk; rw [← hk]; exact hF.tg q rfl
    have hb : Below N w w' := (Below.refl N w).grown hgrow hN (fun k hk => (hF.own.1.lt k hk).1)
    obtain ⟨a', cap'', hv, ho'⟩ := own_of_row (xs := xs ++ [y]) hown' (by simp [hlen]) (by simp) (by simp; omega)
    cases hv
    refine h _ _ _ ⟨ho', fun q hq => ?_⟩ (Step.grown hgrow hrow) hb
    cases hq
    rcases hg with hg | hg
    · have hlt := (hF.own.1.lt g' hg).2
      unfold tagIn
      rw [if_pos hlt]
      exact hrow g' hg
    · unfold tagIn
      rw [if_neg (by simp; omega)]

theorem op_pure {P : Program} {ops : Array Oper} {i : Nat} {o : Oper} {a : Act} {K : Act → World → Prop} {Q : Exit → Act → World → Prop} {w : World} (hi : ops[i]? = some o) (hgd : o.guard = none) (v : Value)
    {w' : World} (hv : (execOp a.eval o).run P w = .ok (.value v) w') (h : K (a.put o.dst v) w') : wpOp P ops Q i K a w := by
  unfold wpOp
  simp only [hi]
  have hw : Region.wanted o (yielded ops a.tmps) = true := by simp [Region.wanted, hgd]
  rw [if_pos hw]
  left
  unfold Oper.wp
  rw [hv]
  exact h

theorem op_skip {P : Program} {ops : Array Oper} {i : Nat} {o : Oper} {a : Act} {K : Act → World → Prop} {Q : Exit → Act → World → Prop} {w : World} (hi : ops[i]? = some o) (hgd : o.guard = none)
    {w' : World} (hv : (execOp a.eval o).run P w = .ok .skip w') (h : K (a.put o.dst undef) w') : wpOp P ops Q i K a w := by
  unfold wpOp
  simp only [hi]
  have hw : Region.wanted o (yielded ops a.tmps) = true := by simp [Region.wanted, hgd]
  rw [if_pos hw]
  left
  unfold Oper.wp
  rw [hv]
  exact h

theorem op_call {P : Program} {ops : Array Oper} {i : Nat} {o : Oper} {a : Act} {K : Act → World → Prop} {Q : Exit → Act → World → Prop} {w : World} (hi : ops[i]? = some o) (hgd : o.guard = none) (F : Nat) (os : Array Operand) (ts : Array TypeId)
    (ho : o.op = .call { callee := .value (.func F), args := os, argTypes := ts }) (hent : ∀ args, (callFunc F args).run P w = .ok (.enter F args) w) (args : Array Value) (ha : os.map a.eval = args) {R : Ending → World → Prop} (hc : Calls P F args w R)
    (h : ∀ e w', R e w' → ∃ v, e = .returned v ∧ K (a.put o.dst v) w') : wpOp P ops Q i K a w := by
  unfold wpOp
  simp only [hi]
  have hw : Region.wanted o (yielded ops a.tmps) = true := by simp [Region.wanted, hgd]
  rw [if_pos hw]
  left
  unfold Oper.wp execOp
  subst ha
  simp only [ho]
  simp [resolve, Deferred.ofValue, invoke, Act.eval, hent]
  rw [Oper.upon_enter]
  refine hc.mono ?_
  intro e w' hr
  obtain ⟨v, rfl, hk⟩ := h e w' hr
  exact hk

/-- A state: the old one with some temporaries anew. -/
def updW (a0 : Act) (ds : List Nat) (T : Nat → Value) : Act := ds.foldl (fun a d => a.put (some d) (T d)) a0
theorem updW_defers (ds : List Nat) (T : Nat → Value) : ∀ a0, (updW a0 ds T).defers = a0.defers := by
  induction ds with
  | nil => intro a0; rfl
  | cons d ds ih => intro a0; exact (ih (a0.put (some d) (T d))).trans rfl
theorem updW_at (ds : List Nat) (T : Nat → Value) : ∀ (a0 : Act) (j : Nat), (updW a0 ds T).tmps[j]? = if j ∈ ds ∧ j < a0.tmps.size then some (T j) else a0.tmps[j]? := by
  induction ds with
  | nil => intro a0 j; simp [updW]
  | cons d ds ih =>
    intro a0 j
    have h1 := ih (a0.put (some d) (T d)) j
    have hs : (a0.put (some d) (T d)).tmps.size = a0.tmps.size := by simp [Act.put]
    have h2 : (a0.put (some d) (T d)).tmps[j]? = if j = d ∧ j < a0.tmps.size then some (T j) else a0.tmps[j]? := by
      by_cases h : j = d
      · subst h
        by_cases hj : j < a0.tmps.size
        · simp [Act.put, hj]
        · simp [Act.put, hj]
      · rw [if_neg (fun x => h x.1)]
        simp [Act.put, Array.getElem?_setIfInBounds_ne (fun e => h e.symm)]
    have h3 : updW a0 (d :: ds) T = updW (a0.put (some d) (T d)) ds T := rfl
    rw [h3, h1, hs, h2]
    by_cases ha : j ∈ ds ∧ j < a0.tmps.size
    · rw [if_pos ha, if_pos ⟨List.mem_cons_of_mem _ ha.1, ha.2⟩]
    · rw [if_neg ha]
      by_cases hb : j = d ∧ j < a0.tmps.size
      · rw [if_pos hb, if_pos ⟨by simp [hb.1], hb.2⟩]
      · rw [if_neg hb, if_neg]
        rintro ⟨h4, h5⟩
        rcases List.mem_cons.1 h4 with h4 | h4
        · exact hb ⟨h4, h5⟩
        · exact ha ⟨h4, h5⟩
theorem updW_put {a0 : Act} {ds : List Nat} {T : Nat → Value} {d : Nat} (v : Value) (hd : d ∈ ds) : (updW a0 ds T).put (some d) v = updW a0 ds (setT T d v) := by
  have h1 : ((updW a0 ds T).put (some d) v).tmps = (updW a0 ds (setT T d v)).tmps := by
    apply Array.ext_getElem?
    intro j
    have hsz : (updW a0 ds T).tmps.size = a0.tmps.size := by
      apply Nat.le_antisymm
      · apply Nat.le_of_not_lt
        intro h
        have := updW_at ds T a0 a0.tmps.size
        rw [if_neg (fun x => by omega), Array.getElem?_eq_none (Nat.le_refl _)] at this
        simp at this
        omega
      · apply Nat.le_of_not_lt
        intro h
        have := updW_at ds T a0 (updW a0 ds T).tmps.size
        rw [Array.getElem?_eq_none (Nat.le_refl _)] at this
        by_cases hm : (updW a0 ds T).tmps.size ∈ ds ∧ (updW a0 ds T).tmps.size < a0.tmps.size
        · rw [if_pos hm] at this; cases this
        · rw [if_neg hm] at this
          simp at this
          omega
    rw [updW_at]
    by_cases h : j = d
    · subst h
      by_cases hj : j < a0.tmps.size
      · rw [if_pos ⟨hd, hj⟩]
        simp [Act.put, hsz, hj, setT]
      · rw [if_neg (fun x => hj x.2)]
        simp [Act.put, hsz, hj]
    · have h2 : ((updW a0 ds T).put (some d) v).tmps[j]? = (updW a0 ds T).tmps[j]? := by simp [Act.put, Array.getElem?_setIfInBounds_ne (fun e => h e.symm)]
      rw [h2, updW_at]
      simp [setT, h]
  have h2 : ((updW a0 ds T).put (some d) v).defers = (updW a0 ds (setT T d v)).defers := by
    rw [updW_defers]
    exact (updW_defers ds T a0)
  cases h3 : (updW a0 ds T).put (some d) v
  cases h4 : updW a0 ds (setT T d v)
  rw [h3, h4] at h1 h2
  simp at h1 h2
  rw [h1, h2]
theorem updW_eval {a0 : Act} {ds : List Nat} {T : Nat → Value} {d : Nat} (hd : d ∈ ds) (hs : d < a0.tmps.size) : (updW a0 ds T).eval (.tmp d) = T d := by
  simp only [Act.eval, Array.getD_eq_getD_getElem?, updW_at, if_pos (And.intro hd hs), Option.getD_some]
theorem updW_eval_ne {a0 : Act} {ds : List Nat} {T : Nat → Value} {d : Nat} (hd : d ∉ ds) : (updW a0 ds T).eval (.tmp d) = a0.eval (.tmp d) := by
  have : ¬ (d ∈ ds ∧ d < a0.tmps.size) := fun x => hd x.1
  simp only [Act.eval, Array.getD_eq_getD_getElem?, updW_at, if_neg this]

theorem updW_self {a0 : Act} {ds : List Nat} : updW a0 ds (fun d => a0.eval (.tmp d)) = a0 := by
  have h1 : (updW a0 ds (fun d => a0.eval (.tmp d))).tmps = a0.tmps := by
    apply Array.ext_getElem?
    intro j
    rw [updW_at]
    by_cases h : j ∈ ds ∧ j < a0.tmps.size
    · rw [if_pos h]
      simp [Act.eval, h.2]
    · rw [if_neg h]
  have h2 := updW_defers ds (fun d => a0.eval (.tmp d)) a0
  cases h3 : updW a0 ds (fun d => a0.eval (.tmp d))
  cases a0
  rw [h3] at h1 h2
  simp at h1 h2
  rw [h1, h2]
/-- Each operation waits for elder ones alone. -/
def eldest (ops : Array Oper) : Bool := (List.range ops.size).all fun i => match ops[i]? with | some o => o.after.all (fun e => decide (e.on < i)) | none => true
/-- Into a region that draws, its frame under a name. -/
theorem wp_region_of {P : Program} {ops : Array Oper} {Q : Exit → Act → World → Prop} {id : Nat} {a : Act} {w : World} (hm : P.follows .mixedOrders = true) (hac : eldest ops = true)
    (h : ∀ A0, A0 = a → ∃ Inv : (Nat → Bool) → Act → World → Prop, Inv (fun _ => false) A0 w.drew ∧
      (∀ (L : Nat → Bool) (a : Act) (w : World), Inv L a w → ∀ i o, ops[i]? = some o → L i = false → (∀ e ∈ o.after, Region.binds .any e = true → L e.on = true) → wpOp P ops Q i (fun a' w' => Inv (setF L i) a' w') a w) ∧
      (∀ (L : Nat → Bool) (a : Act) (w : World), Inv L a w → (∀ i, i < ops.size → L i = true) → Q .normal a w)) : (Code.region id ops true).wp P Q a w := by
  refine wp_region_any hm ?_
  obtain ⟨Inv, h1, h2, h3⟩ := h a rfl
  refine wpAny_of Inv h2 (fun L a w hI hall => h3 L a w hI ?_) _ _ _ _ (by simp) ?_ ?_
  · intro i
    induction i using Nat.strongRecOn with
    | ind i ih =>
      intro hi
      rcases hall i hi with h | ⟨o, ho, e, he, _, hf⟩
      · exact h
      · have h4 := List.all_eq_true.1 hac i (List.mem_range.2 hi)
        simp only [ho] at h4
        have hlt : e.on < i := by simpa using Array.all_eq_true_iff_forall_mem.1 h4 e he
        rw [ih e.on hlt (by omega)] at hf
        cases hf
  · rw [Array.toList_replicate, List.countP_replicate]; simp
  · have : flag (Array.replicate ops.size false) = fun _ => false := by
      funext j
      unfold flag
      by_cases hj : j < ops.size <;> simp [hj]
    rw [this]
    exact h1

/-! ### The things of a region, each with its flags and temporaries -/
/-- A list of the call's own: made by operation i, lengthened by operation j. -/
def OL (N p : Nat) (xs : List Int) (y : Int) (i j d e t : Nat) (L : Nat → Bool) (T : Nat → Value) (w : World) (tag : Nat → Nat) : Prop :=
  (L i = true → L j = false → ∃ a c, T d = .slice a p c ∧ ListF w N tag t a p c xs) ∧ (L j = true → ∃ a c, T e = .slice a (p + 1) c ∧ ListF w N tag t a (p + 1) c (xs ++ [y]))
def OC (N : Nat) (v : Value) (i d t : Nat) (L : Nat → Bool) (T : Nat → Value) (w : World) (tag : Nat → Nat) : Prop :=
  L i = true → ∃ g, T d = .slice (some ⟨g, 0, none⟩) 1 1 ∧ CellF w N tag t g v
def OB (N : Nat) (x y : Value) (i d t : Nat) (L : Nat → Bool) (T : Nat → Value) (w : World) (tag : Nat → Nat) : Prop :=
  L i = true → ∃ g, T d = .pointer (some ⟨g, 0, none⟩) ∧ BoxF w N tag t g x y
variable {L : Nat → Bool} {T : Nat → Value} {i j d e : Nat}
theorem OL.step {p : Nat} {xs : List Int} {y : Int} (h : OL N p xs y i j d e t L T w tag) (s : Step t' tag w w') (hne : t ≠ t') : OL N p xs y i j d e t L T w' (tagIn tag w.heap.size t') :=
  ⟨fun a b => let ⟨q, c, h1, h2⟩ := h.1 a b; ⟨q, c, h1, h2.step s hne⟩, fun a => let ⟨q, c, h1, h2⟩ := h.2 a; ⟨q, c, h1, h2.step s hne⟩⟩
theorem OC.step {v : Value} (h : OC N v i d t L T w tag) (s : Step t' tag w w') (hne : t ≠ t') : OC N v i d t L T w' (tagIn tag w.heap.size t') :=
  fun a => let ⟨g, h1, h2⟩ := h a; ⟨g, h1, h2.step s hne⟩
theorem OB.step {x y : Value} (h : OB N x y i d t L T w tag) (s : Step t' tag w w') (hne : t ≠ t') : OB N x y i d t L T w' (tagIn tag w.heap.size t') :=
  fun a => let ⟨g, h1, h2⟩ := h a; ⟨g, h1, h2.step s hne⟩
theorem OL.keep {p : Nat} {xs : List Int} {y : Int} {m n : Nat} {v : Value} (h : OL N p xs y i j d e t L T w tag) (h1 : i ≠ m) (h2 : j ≠ m) (h3 : d ≠ n) (h4 : e ≠ n) : OL N p xs y i j d e t (setF L m) (setT T n v) w tag := by
  unfold OL setF setT at *
  rw [if_neg h1, if_neg h2, if_neg h3, if_neg h4]; exact h
theorem OC.keep {u : Value} {m n : Nat} {v : Value} (h : OC N u i d t L T w tag) (h1 : i ≠ m) (h3 : d ≠ n) : OC N u i d t (setF L m) (setT T n v) w tag := by
  unfold OC setF setT at *
  rw [if_neg h1, if_neg h3]; exact h
theorem OB.keep {x y : Value} {m n : Nat} {v : Value} (h : OB N x y i d t L T w tag) (h1 : i ≠ m) (h3 : d ≠ n) : OB N x y i d t (setF L m) (setT T n v) w tag := by
  unfold OB setF setT at *
  rw [if_neg h1, if_neg h3]; exact h
end Go.Proofs.YtakadjhbomggbaaGreat
