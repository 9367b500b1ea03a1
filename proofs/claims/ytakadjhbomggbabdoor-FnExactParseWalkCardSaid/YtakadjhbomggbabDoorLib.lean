/- The library's variables at the row's first world. -/
import Derived.Test.YtakadjhbomggbabDoorAtoi
import Derived.Test.YtakadjhbomggbabDoorRows
import Derived.LaidSub
import Derived.Handed
import Derived.HandedShaped
namespace Go.Proofs.YtakadjhbomggbabDoor
open Go.RowKit

/-- A variable of an interface's type. -/
def ifaceVar (P : Program) (name : String) : Bool := match (P.globalNamed name).bind fun g => ((P.globals[g]?).map (·.type)).bind fun t => P.underlying t with
  | some (.interface _) => true
  | _ => false
theorem iface_of_laid {P : Program} {W : World} {name s : String} {x : DataW Unit} (hv : ifaceVar P name = true) (h : laidMet P [(name, .iface s x)] W) : ∃ te pe, W.var? P name = some #[.iface te pe] := by
  obtain ⟨ps, ⟨g, t, cs, fuel, p, q, hg, ht, hvar, hd, _, _⟩, _⟩ := h
  unfold ifaceVar at hv
  rw [hg] at hv
  simp only [Option.bind_some, ht] at hv
  split at hv
  · next ms hu =>
    rw [hvar]
    cases fuel with
    | zero => simp [DataW.trod] at hd
    | succ fuel =>
      rcases cs with ⟨l⟩
      match l, hd with
      | [], hd => simp [DataW.trod, hu] at hd
      | [v], hd =>
        cases v <;> simp [DataW.trod, hu] at hd
        exact ⟨_, _, rfl⟩
      | _ :: _ :: _, hd => simp [DataW.trod, hu] at hd
  · cases hv
theorem laid_one {P : Program} {W : World} {l : List (String × DataW Unit)} {name : String} {d : DataW Unit} (h : laidMetH P l W) (hf : (l.filter fun x => x.1 == name) = [(name, d)]) (hn : d.handleName?.isNone = true) : laidMet P [(name, d)] W := by
  have h1 := h.filter (fun x => x.1 == name)
  rw [hf] at h1
  have hs : d.handleName?.isSome = false := by cases hd : d.handleName? with
    | none => rfl
    | some y => rw [hd] at hn; cases hn
  have e : ([(name, d)].filter fun x => x.2.handleName?.isSome) = [] := by simp [hs]
  unfold laidMetH at h1
  rw [e] at h1
  exact h1
/-- A variable that is an array of numbers of 64 bits. -/
def tabVar (P : Program) (name : String) : Bool := match (P.globalNamed name).bind fun g => (P.globals[g]?).map (·.type) with
  | some t => match P.underlying t with
    | some (.array n e) => (match P.underlying e with
      | some (.int .u64) => true
      | _ => false) && (decide (P.cellsOf e = 1) && decide (P.cellsOf t = n))
    | _ => false
  | none => false
theorem tab_of_laid {P : Program} {W : World} {name : String} {zs : List Int} (hv : tabVar P name = true) (h : laidMet P [(name, Lib.tabData .u64 zs)] W) : Lib.TabIs P W name .u64 zs := by
  have h0 := h
  obtain ⟨ps, ⟨g, t, cs, fuel, p, q, hg, ht, hvar, hd, _, _⟩, _⟩ := h
  unfold tabVar at hv
  rw [hg] at hv
  simp only [Option.bind_some, ht] at hv
  split at hv
  · next n e hu =>
    rw [Bool.and_eq_true, Bool.and_eq_true, decide_eq_true_eq, decide_eq_true_eq] at hv
    obtain ⟨h1, h2, h3⟩ := hv
    split at h1
    · next hk => exact Lib.tabIs_of_head hg ht hu hk h2 h3 h0
    · cases h1
  · cases hv
theorem libAt_of {l : List (String × DataW Unit)} {W : World} (h : laidMetH Tryd.prog l W) (hs : W.ShapedOpen Tryd.prog)
    (f1 : (l.filter fun x => x.1 == "internal/strconv.uint64pow10") = [("internal/strconv.uint64pow10", Lib.tabData .u64 Lib.pow10Tab)])
    (f2 : (l.filter fun x => x.1 == "strconv.ErrSyntax") = [("strconv.ErrSyntax", Rows.laid_strconv_ErrSyntax)])
    (f3 : (l.filter fun x => x.1 == "strconv.ErrRange") = [("strconv.ErrRange", Rows.laid_strconv_ErrRange)]) : LibAt W :=
  ⟨Tryd.laysM146.s1_3 W hs, iface_of_laid (by kernel_rfl) (laid_one h f2 rfl), iface_of_laid (by kernel_rfl) (laid_one h f3 rfl), tab_of_laid (by kernel_rfl) (laid_one h f1 rfl)⟩

/-- The kit's form of a row with a condition of its own, the world's shape handed on. -/
theorem handed_and_shaped {H : Type} {enc : TypeId × Value → H} {a : Assume} {C : Checked} {os : Os} {f : FuncId} {fn : Func} {s : ChangeSpec} {conds : List PathCond} {apart fresh handsOn again : Bool} {X : World → Array Value → Prop}
    (hX : ∀ (w w' : World) (args : Array Value), w.heap = w'.heap → X w args → X w' args)
    (own : ownKnob C.prog.godebug = none) (started : os.Started) (noInit : C.prog.inits.idxOf? f = none) (hfn : C.prog.funcs[f]? = some fn)
    (witness : ∃ (w : World) (tape : Tape) (i : Input), w.os = os ∧ (w.forCall tape i).Shaped C.prog ∧ i.vars = [] ∧ Input.okWide C.prog (w.forCall tape i) .any w.heap.size f i ∧
      ((s.pre enc C.prog fn conds apart (w.forCall tape i).memory i.args ∧ X (w.forCall tape i).memory i.args) ∧ sizedMet enc C.prog fn (OpenSpec.ofChange s) apart (w.forCall tape i).memory i.args) ∧ a.holds C.prog (lone (Frame.enter C.prog f i.args .normal) [] (w.forCall tape i)))
    (contract : ∀ (W : World) (base : Nat) (args : Array Value) (ds gs : List (DataW H)) (before : List MemPlace),
      (∀ (j : Nat) t v, fn.params[j]? = some t → args[j]? = some v → Value.okWide C.prog W .any base t v) →
      DataW.Whole enc C.prog fn.params.toList s.vars apart W args.toList ds gs before → X W args → W.ShapedOpen C.prog →
      Calls C.prog f args W fun e W' => ∃ v, e = .returned v ∧ s.post enc C.prog fn apart fresh handsOn again W args v W') :
    ReturnsInHanded a C os f .any (fun w args => (s.pre enc C.prog fn conds apart w args ∧ X w args) ∧ sizedMet enc C.prog fn (OpenSpec.ofChange s) apart w args) (s.post enc C.prog fn apart fresh handsOn again) := by
  refine returnsInHanded_of_calls own started noInit witness ?_
  intro w tape i _ hsh _ hok hpre hholds
  obtain ⟨_, _, _, fn', hfn', _, _, _, _, hval⟩ := hok
  have e : fn' = fn := Option.some.inj (hfn'.symm.trans hfn)
  subst e
  obtain ⟨⟨⟨ds, gs, before, hw, hc⟩, hx⟩, hz⟩ := hpre
  have hw' := DataW.Whole.of_heap (w' := w.forCall tape i) (by rfl) hw
  refine (contract (w.forCall tape i) w.heap.size i.args ds gs before hval hw' (hX _ _ _ (by rfl) hx) hsh).mono fun e W' ⟨v, he, hp⟩ => ?_
  subst he
  exact ChangeSpec.post_blind hp
end Go.Proofs.YtakadjhbomggbabDoor
