/- reGoOn's own region: a Region longer by a car. -/
import Derived.Test.YtnddplldkgphnabAnyO
namespace Go.Proofs.Ytnddplldkgphnab
open Go.RowKit

def goD : List Nat := [11, 69, 70, 71, 72, 73, 74, 75, 76, 77, 78, 79, 80, 81]
structure JGo (V : World) (X p : Nat) (a b : Option Addr) (ca cb : Nat) (k f : Int) (os fs : List Int) (L : Nat → Bool) (T : Nat → Value) (w : World) (tag : Nat → Nat) : Prop where
  bel : Below V.heap.size V w
  o52 : L 5 = true → L 2 = true
  o118 : L 11 = true → L 8 = true
  p0 : L 0 = true → T 69 = .pointer (some ⟨X, 0, none⟩)
  p1 : L 1 = true → T 70 = .slice a p ca
  p3 : L 3 = true → T 72 = .int .i64 k
  p6 : L 6 = true → T 75 = .pointer (some ⟨X, 1, none⟩)
  p7 : L 7 = true → T 76 = .slice b p cb
  p9 : L 9 = true → T 78 = .int .i64 f
  p12 : L 12 = true → L 5 = true ∧ L 11 = true ∧ T 81 = .agg #[T 74, T 80]
  A : OL V.heap.size p os k 2 5 71 74 1 L T w tag
  B : OL V.heap.size p fs f 8 11 77 80 2 L T w tag
  C : OC V.heap.size (.int .i64 k) 4 73 3 L T w tag
  D : OC V.heap.size (.int .i64 f) 10 79 4 L T w tag
  E : OB V.heap.size (.slice none 0 0) (.slice none 0 0) 13 11 5 L T w tag
theorem Own.setOff {w : World} {B g i n cap : Nat} {a : Option Addr} {xs : List Int} (h : Own w B a n cap xs) (hg : ∀ q, a = some q → q.block ≠ g) (u : Value) : Own (w.setCell ⟨g, i, none⟩ u) B a n cap xs :=
  h.ofBlock (fun q hq => Below.heap_setCell _ _ _ _ (hg q hq))
section
variable {V : World} {X p : Nat} {a b : Option Addr} {ca cb : Nat} {k f : Int} {os fs : List Int} {L : Nat → Bool} {T : Nat → Value} {w w' : World} {tag : Nat → Nat}
theorem JGo.s0 (J : JGo V X p a b ca cb k f os fs L T w tag)  : JGo V X p a b ca cb k f os fs (setF L 0) (setT T 69 (.pointer (some ⟨X, 0, none⟩))) w tag where
  bel := J.bel
  o52 := by first | (simp [setF]; done) | simpa [setF] using J.o52
  o118 := by first | (simp [setF]; done) | simpa [setF] using J.o118
  p0 := fun _ => by simp [setT]
  p1 := by first | (simp [setF, setT]; done) | simpa [setF, setT] using J.p1
  p3 := by first | (simp [setF, setT]; done) | simpa [setF, setT] using J.p3
  p6 := by first | (simp [setF, setT]; done) | simpa [setF, setT] using J.p6
  p7 := by first | (simp [setF, setT]; done) | simpa [setF, setT] using J.p7
  p9 := by first | (simp [setF, setT]; done) | simpa [setF, setT] using J.p9
  p12 := by first | (simp [setF, setT]; done) | simpa [setF, setT] using J.p12
  A := J.A.keep (by decide) (by decide) (by decide) (by decide)
  B := J.B.keep (by decide) (by decide) (by decide) (by decide)
  C := J.C.keep (by decide) (by decide)
  D := J.D.keep (by decide) (by decide)
  E := J.E.keep (by decide) (by decide)
theorem JGo.s1 (J : JGo V X p a b ca cb k f os fs L T w tag)  : JGo V X p a b ca cb k f os fs (setF L 1) (setT T 70 (.slice a p ca)) w tag where
  bel := J.bel
  o52 := by first | (simp [setF]; done) | simpa [setF] using J.o52
  o118 := by first | (simp [setF]; done) | simpa [setF] using J.o118
  p0 := by first | (simp [setF, setT]; done) | simpa [setF, setT] using J.p0
  p1 := fun _ => by simp [setT]
  p3 := by first | (simp [setF, setT]; done) | simpa [setF, setT] using J.p3
  p6 := by first | (simp [setF, setT]; done) | simpa [setF, setT] using J.p6
  p7 := by first | (simp [setF, setT]; done) | simpa [setF, setT] using J.p7
  p9 := by first | (simp [setF, setT]; done) | simpa [setF, setT] using J.p9
  p12 := by first | (simp [setF, setT]; done) | simpa [setF, setT] using J.p12
  A := J.A.keep (by decide) (by decide) (by decide) (by decide)
  B := J.B.keep (by decide) (by decide) (by decide) (by decide)
  C := J.C.keep (by decide) (by decide)
  D := J.D.keep (by decide) (by decide)
  E := J.E.keep (by decide) (by decide)
theorem JGo.s3 (J : JGo V X p a b ca cb k f os fs L T w tag)  : JGo V X p a b ca cb k f os fs (setF L 3) (setT T 72 (.int .i64 k)) w tag where
  bel := J.bel
  o52 := by first | (simp [setF]; done) | simpa [setF] using J.o52
  o118 := by first | (simp [setF]; done) | simpa [setF] using J.o118
  p0 := by first | (simp [setF, setT]; done) | simpa [setF, setT] using J.p0
  p1 := by first | (simp [setF, setT]; done) | simpa [setF, setT] using J.p1
  p3 := fun _ => by simp [setT]
  p6 := by first | (simp [setF, setT]; done) | simpa [setF, setT] using J.p6
  p7 := by first | (simp [setF, setT]; done) | simpa [setF, setT] using J.p7
  p9 := by first | (simp [setF, setT]; done) | simpa [setF, setT] using J.p9
  p12 := by first | (simp [setF, setT]; done) | simpa [setF, setT] using J.p12
  A := J.A.keep (by decide) (by decide) (by decide) (by decide)
  B := J.B.keep (by decide) (by decide) (by decide) (by decide)
  C := J.C.keep (by decide) (by decide)
  D := J.D.keep (by decide) (by decide)
  E := J.E.keep (by decide) (by decide)
theorem JGo.s6 (J : JGo V X p a b ca cb k f os fs L T w tag)  : JGo V X p a b ca cb k f os fs (setF L 6) (setT T 75 (.pointer (some ⟨X, 1, none⟩))) w tag where
  bel := J.bel
  o52 := by first | (simp [setF]; done) | simpa [setF] using J.o52
  o118 := by first | (simp [setF]; done) | simpa [setF] using J.o118
  p0 := by first | (simp [setF, setT]; done) | simpa [setF, setT] using J.p0
  p1 := by first | (simp [setF, setT]; done) | simpa [setF, setT] using J.p1
  p3 := by first | (simp [setF, setT]; done) | simpa [setF, setT] using J.p3
  p6 := fun _ => by simp [setT]
  p7 := by first | (simp [setF, setT]; done) | simpa [setF, setT] using J.p7
  p9 := by first | (simp [setF, setT]; done) | simpa [setF, setT] using J.p9
  p12 := by first | (simp [setF, setT]; done) | simpa [setF, setT] using J.p12
  A := J.A.keep (by decide) (by decide) (by decide) (by decide)
  B := J.B.keep (by decide) (by decide) (by decide) (by decide)
  C := J.C.keep (by decide) (by decide)
  D := J.D.keep (by decide) (by decide)
  E := J.E.keep (by decide) (by decide)
theorem JGo.s7 (J : JGo V X p a b ca cb k f os fs L T w tag)  : JGo V X p a b ca cb k f os fs (setF L 7) (setT T 76 (.slice b p cb)) w tag where
  bel := J.bel
  o52 := by first | (simp [setF]; done) | simpa [setF] using J.o52
  o118 := by first | (simp [setF]; done) | simpa [setF] using J.o118
  p0 := by first | (simp [setF, setT]; done) | simpa [setF, setT] using J.p0
  p1 := by first | (simp [setF, setT]; done) | simpa [setF, setT] using J.p1
  p3 := by first | (simp [setF, setT]; done) | simpa [setF, setT] using J.p3
  p6 := by first | (simp [setF, setT]; done) | simpa [setF, setT] using J.p6
  p7 := fun _ => by simp [setT]
  p9 := by first | (simp [setF, setT]; done) | simpa [setF, setT] using J.p9
  p12 := by first | (simp [setF, setT]; done) | simpa [setF, setT] using J.p12
  A := J.A.keep (by decide) (by decide) (by decide) (by decide)
  B := J.B.keep (by decide) (by decide) (by decide) (by decide)
  C := J.C.keep (by decide) (by decide)
  D := J.D.keep (by decide) (by decide)
  E := J.E.keep (by decide) (by decide)
theorem JGo.s9 (J : JGo V X p a b ca cb k f os fs L T w tag)  : JGo V X p a b ca cb k f os fs (setF L 9) (setT T 78 (.int .i64 f)) w tag where
  bel := J.bel
  o52 := by first | (simp [setF]; done) | simpa [setF] using J.o52
  o118 := by first | (simp [setF]; done) | simpa [setF] using J.o118
  p0 := by first | (simp [setF, setT]; done) | simpa [setF, setT] using J.p0
  p1 := by first | (simp [setF, setT]; done) | simpa [setF, setT] using J.p1
  p3 := by first | (simp [setF, setT]; done) | simpa [setF, setT] using J.p3
  p6 := by first | (simp [setF, setT]; done) | simpa [setF, setT] using J.p6
  p7 := by first | (simp [setF, setT]; done) | simpa [setF, setT] using J.p7
  p9 := fun _ => by simp [setT]
  p12 := by first | (simp [setF, setT]; done) | simpa [setF, setT] using J.p12
  A := J.A.keep (by decide) (by decide) (by decide) (by decide)
  B := J.B.keep (by decide) (by decide) (by decide) (by decide)
  C := J.C.keep (by decide) (by decide)
  D := J.D.keep (by decide) (by decide)
  E := J.E.keep (by decide) (by decide)
theorem JGo.s12 (J : JGo V X p a b ca cb k f os fs L T w tag) (h5 : L 5 = true) (h11 : L 11 = true) : JGo V X p a b ca cb k f os fs (setF L 12) (setT T 81 (.agg #[T 74, T 80])) w tag where
  bel := J.bel
  o52 := by first | (simp [setF]; done) | simpa [setF] using J.o52
  o118 := by first | (simp [setF]; done) | simpa [setF] using J.o118
  p0 := by first | (simp [setF, setT]; done) | simpa [setF, setT] using J.p0
  p1 := by first | (simp [setF, setT]; done) | simpa [setF, setT] using J.p1
  p3 := by first | (simp [setF, setT]; done) | simpa [setF, setT] using J.p3
  p6 := by first | (simp [setF, setT]; done) | simpa [setF, setT] using J.p6
  p7 := by first | (simp [setF, setT]; done) | simpa [setF, setT] using J.p7
  p9 := by first | (simp [setF, setT]; done) | simpa [setF, setT] using J.p9
  p12 := fun _ => by simp [setF, setT, h5, h11]
  A := J.A.keep (by decide) (by decide) (by decide) (by decide)
  B := J.B.keep (by decide) (by decide) (by decide) (by decide)
  C := J.C.keep (by decide) (by decide)
  D := J.D.keep (by decide) (by decide)
  E := J.E.keep (by decide) (by decide)
theorem JGo.s2 (J : JGo V X p a b ca cb k f os fs L T w tag) (hj : L 2 = false) {a' : Option Addr} {c : Nat} (hown : Own w' w.heap.size a' p c os) (hw : Below w.heap.size w w') : JGo V X p a b ca cb k f os fs (setF L 2) (setT T 71 (.slice a' p c)) w' (tagIn tag w.heap.size 1) := by
  have hb : Below V.heap.size w w' := hw.mono J.bel.size
  have s : Step 1 tag w w' := Step.of_below hw
  exact { bel := J.bel.trans hb
          o52 := by first | (simp [setF]; done) | simpa [setF] using J.o52
          o118 := by first | (simp [setF]; done) | simpa [setF] using J.o118
          p0 := by first | (simp [setF, setT]; done) | simpa [setF, setT] using J.p0
          p1 := by first | (simp [setF, setT]; done) | simpa [setF, setT] using J.p1
          p3 := by first | (simp [setF, setT]; done) | simpa [setF, setT] using J.p3
          p6 := by first | (simp [setF, setT]; done) | simpa [setF, setT] using J.p6
          p7 := by first | (simp [setF, setT]; done) | simpa [setF, setT] using J.p7
          p9 := by first | (simp [setF, setT]; done) | simpa [setF, setT] using J.p9
          p12 := by first | (simp [setF, setT]; done) | simpa [setF, setT] using J.p12
          A := ⟨fun _ _ => ⟨a', c, by simp [setT], ListF.new hown J.bel.size⟩, fun h => absurd (J.o52 (by simpa [setF] using h)) (by simp [hj])⟩
          B := (J.B.step s (by decide)).keep (by decide) (by decide) (by decide) (by decide)
          C := (J.C.step s (by decide)).keep (by decide) (by decide)
          D := (J.D.step s (by decide)).keep (by decide) (by decide)
          E := (J.E.step s (by decide)).keep (by decide) (by decide) }
theorem JGo.s8 (J : JGo V X p a b ca cb k f os fs L T w tag) (hj : L 8 = false) {a' : Option Addr} {c : Nat} (hown : Own w' w.heap.size a' p c fs) (hw : Below w.heap.size w w') : JGo V X p a b ca cb k f os fs (setF L 8) (setT T 77 (.slice a' p c)) w' (tagIn tag w.heap.size 2) := by
  have hb : Below V.heap.size w w' := hw.mono J.bel.size
  have s : Step 2 tag w w' := Step.of_below hw
  exact { bel := J.bel.trans hb
          o52 := by first | (simp [setF]; done) | simpa [setF] using J.o52
          o118 := by first | (simp [setF]; done) | simpa [setF] using J.o118
          p0 := by first | (simp [setF, setT]; done) | simpa [setF, setT] using J.p0
          p1 := by first | (simp [setF, setT]; done) | simpa [setF, setT] using J.p1
          p3 := by first | (simp [setF, setT]; done) | simpa [setF, setT] using J.p3
          p6 := by first | (simp [setF, setT]; done) | simpa [setF, setT] using J.p6
          p7 := by first | (simp [setF, setT]; done) | simpa [setF, setT] using J.p7
          p9 := by first | (simp [setF, setT]; done) | simpa [setF, setT] using J.p9
          p12 := by first | (simp [setF, setT]; done) | simpa [setF, setT] using J.p12
          A := (J.A.step s (by decide)).keep (by decide) (by decide) (by decide) (by decide)
          B := ⟨fun _ _ => ⟨a', c, by simp [setT], ListF.new hown J.bel.size⟩, fun h => absurd (J.o118 (by simpa [setF] using h)) (by simp [hj])⟩
          C := (J.C.step s (by decide)).keep (by decide) (by decide)
          D := (J.D.step s (by decide)).keep (by decide) (by decide)
          E := (J.E.step s (by decide)).keep (by decide) (by decide) }
theorem JGo.s5 (J : JGo V X p a b ca cb k f os fs L T w tag) (hj : L 5 = false) (hi : L 2 = true) {a' : Option Addr} {c : Nat} (hF : ListF w' V.heap.size (tagIn tag w.heap.size 1) 1 a' (p + 1) c (os ++ [k])) (s : Step 1 tag w w') (hb : Below V.heap.size w w') : JGo V X p a b ca cb k f os fs (setF L 5) (setT T 74 (.slice a' (p + 1) c)) w' (tagIn tag w.heap.size 1) where
  bel := J.bel.trans hb
  o52 := fun _ => by simp [setF, hi]
  o118 := by first | (simp [setF]; done) | simpa [setF] using J.o118
  p0 := by first | (simp [setF, setT]; done) | simpa [setF, setT] using J.p0
  p1 := by first | (simp [setF, setT]; done) | simpa [setF, setT] using J.p1
  p3 := by first | (simp [setF, setT]; done) | simpa [setF, setT] using J.p3
  p6 := by first | (simp [setF, setT]; done) | simpa [setF, setT] using J.p6
  p7 := by first | (simp [setF, setT]; done) | simpa [setF, setT] using J.p7
  p9 := by first | (simp [setF, setT]; done) | simpa [setF, setT] using J.p9
  p12 := fun h => absurd (J.p12 (by simpa [setF] using h)).1 (by simp [hj])
  A := ⟨fun _ h => by simp [setF] at h, fun _ => ⟨a', c, by simp [setT], hF⟩⟩
  B := (J.B.step s (by decide)).keep (by decide) (by decide) (by decide) (by decide)
  C := (J.C.step s (by decide)).keep (by decide) (by decide)
  D := (J.D.step s (by decide)).keep (by decide) (by decide)
  E := (J.E.step s (by decide)).keep (by decide) (by decide)
theorem JGo.s11 (J : JGo V X p a b ca cb k f os fs L T w tag) (hj : L 11 = false) (hi : L 8 = true) {a' : Option Addr} {c : Nat} (hF : ListF w' V.heap.size (tagIn tag w.heap.size 2) 2 a' (p + 1) c (fs ++ [f])) (s : Step 2 tag w w') (hb : Below V.heap.size w w') : JGo V X p a b ca cb k f os fs (setF L 11) (setT T 80 (.slice a' (p + 1) c)) w' (tagIn tag w.heap.size 2) where
  bel := J.bel.trans hb
  o52 := by first | (simp [setF]; done) | simpa [setF] using J.o52
  o118 := fun _ => by simp [setF, hi]
  p0 := by first | (simp [setF, setT]; done) | simpa [setF, setT] using J.p0
  p1 := by first | (simp [setF, setT]; done) | simpa [setF, setT] using J.p1
  p3 := by first | (simp [setF, setT]; done) | simpa [setF, setT] using J.p3
  p6 := by first | (simp [setF, setT]; done) | simpa [setF, setT] using J.p6
  p7 := by first | (simp [setF, setT]; done) | simpa [setF, setT] using J.p7
  p9 := by first | (simp [setF, setT]; done) | simpa [setF, setT] using J.p9
  p12 := fun h => absurd (J.p12 (by simpa [setF] using h)).2.1 (by simp [hj])
  A := (J.A.step s (by decide)).keep (by decide) (by decide) (by decide) (by decide)
  B := ⟨fun _ h => by simp [setF] at h, fun _ => ⟨a', c, by simp [setT], hF⟩⟩
  C := (J.C.step s (by decide)).keep (by decide) (by decide)
  D := (J.D.step s (by decide)).keep (by decide) (by decide)
  E := (J.E.step s (by decide)).keep (by decide) (by decide)
theorem JGo.s4 (J : JGo V X p a b ca cb k f os fs L T w tag) (hw : Below w.heap.size w w') (hc : w'.cell? ⟨w.heap.size, 0, none⟩ = some (.int .i64 k)) (hs : w.heap.size < w'.heap.size) : JGo V X p a b ca cb k f os fs (setF L 4) (setT T 73 (.slice (some ⟨w.heap.size, 0, none⟩) 1 1)) w' (tagIn tag w.heap.size 3) := by
  have hb : Below V.heap.size w w' := hw.mono J.bel.size
  have s : Step 3 tag w w' := Step.of_below hw
  exact { bel := J.bel.trans hb
          o52 := by first | (simp [setF]; done) | simpa [setF] using J.o52
          o118 := by first | (simp [setF]; done) | simpa [setF] using J.o118
          p0 := by first | (simp [setF, setT]; done) | simpa [setF, setT] using J.p0
          p1 := by first | (simp [setF, setT]; done) | simpa [setF, setT] using J.p1
          p3 := by first | (simp [setF, setT]; done) | simpa [setF, setT] using J.p3
          p6 := by first | (simp [setF, setT]; done) | simpa [setF, setT] using J.p6
          p7 := by first | (simp [setF, setT]; done) | simpa [setF, setT] using J.p7
          p9 := by first | (simp [setF, setT]; done) | simpa [setF, setT] using J.p9
          p12 := by first | (simp [setF, setT]; done) | simpa [setF, setT] using J.p12
          A := (J.A.step s (by decide)).keep (by decide) (by decide) (by decide) (by decide)
          B := (J.B.step s (by decide)).keep (by decide) (by decide) (by decide) (by decide)
          C := fun _ => ⟨w.heap.size, by simp [setT], hs, J.bel.size, by simp [tagIn], hc⟩
          D := (J.D.step s (by decide)).keep (by decide) (by decide)
          E := (J.E.step s (by decide)).keep (by decide) (by decide) }
theorem JGo.s10 (J : JGo V X p a b ca cb k f os fs L T w tag) (hw : Below w.heap.size w w') (hc : w'.cell? ⟨w.heap.size, 0, none⟩ = some (.int .i64 f)) (hs : w.heap.size < w'.heap.size) : JGo V X p a b ca cb k f os fs (setF L 10) (setT T 79 (.slice (some ⟨w.heap.size, 0, none⟩) 1 1)) w' (tagIn tag w.heap.size 4) := by
  have hb : Below V.heap.size w w' := hw.mono J.bel.size
  have s : Step 4 tag w w' := Step.of_below hw
  exact { bel := J.bel.trans hb
          o52 := by first | (simp [setF]; done) | simpa [setF] using J.o52
          o118 := by first | (simp [setF]; done) | simpa [setF] using J.o118
          p0 := by first | (simp [setF, setT]; done) | simpa [setF, setT] using J.p0
          p1 := by first | (simp [setF, setT]; done) | simpa [setF, setT] using J.p1
          p3 := by first | (simp [setF, setT]; done) | simpa [setF, setT] using J.p3
          p6 := by first | (simp [setF, setT]; done) | simpa [setF, setT] using J.p6
          p7 := by first | (simp [setF, setT]; done) | simpa [setF, setT] using J.p7
          p9 := by first | (simp [setF, setT]; done) | simpa [setF, setT] using J.p9
          p12 := by first | (simp [setF, setT]; done) | simpa [setF, setT] using J.p12
          A := (J.A.step s (by decide)).keep (by decide) (by decide) (by decide) (by decide)
          B := (J.B.step s (by decide)).keep (by decide) (by decide) (by decide) (by decide)
          C := (J.C.step s (by decide)).keep (by decide) (by decide)
          D := fun _ => ⟨w.heap.size, by simp [setT], hs, J.bel.size, by simp [tagIn], hc⟩
          E := (J.E.step s (by decide)).keep (by decide) (by decide) }
theorem JGo.s13 (J : JGo V X p a b ca cb k f os fs L T w tag) (hw : Below w.heap.size w w') (hc : BoxAt w' w.heap.size (.slice none 0 0) (.slice none 0 0)) (hs : w.heap.size < w'.heap.size) : JGo V X p a b ca cb k f os fs (setF L 13) (setT T 11 (.pointer (some ⟨w.heap.size, 0, none⟩))) w' (tagIn tag w.heap.size 5) := by
  have hb : Below V.heap.size w w' := hw.mono J.bel.size
  have s : Step 5 tag w w' := Step.of_below hw
  exact { bel := J.bel.trans hb
          o52 := by first | (simp [setF]; done) | simpa [setF] using J.o52
          o118 := by first | (simp [setF]; done) | simpa [setF] using J.o118
          p0 := by first | (simp [setF, setT]; done) | simpa [setF, setT] using J.p0
          p1 := by first | (simp [setF, setT]; done) | simpa [setF, setT] using J.p1
          p3 := by first | (simp [setF, setT]; done) | simpa [setF, setT] using J.p3
          p6 := by first | (simp [setF, setT]; done) | simpa [setF, setT] using J.p6
          p7 := by first | (simp [setF, setT]; done) | simpa [setF, setT] using J.p7
          p9 := by first | (simp [setF, setT]; done) | simpa [setF, setT] using J.p9
          p12 := by first | (simp [setF, setT]; done) | simpa [setF, setT] using J.p12
          A := (J.A.step s (by decide)).keep (by decide) (by decide) (by decide) (by decide)
          B := (J.B.step s (by decide)).keep (by decide) (by decide) (by decide) (by decide)
          C := (J.C.step s (by decide)).keep (by decide) (by decide)
          D := (J.D.step s (by decide)).keep (by decide) (by decide)
          E := fun _ => ⟨w.heap.size, by simp [setT], hs, J.bel.size, by simp [tagIn], hc⟩ }
/-- Nothing has come up yet. -/
theorem JGo.start (hb : Below V.heap.size V w) : JGo V X p a b ca cb k f os fs (fun _ => false) T w (fun _ => 0) := by
  exact { bel := hb, o52 := by simp, o118 := by simp, p0 := by simp, p1 := by simp, p3 := by simp, p6 := by simp, p7 := by simp, p9 := by simp, p12 := by simp, A := ⟨by simp, by simp⟩, B := ⟨by simp, by simp⟩, C := by simp [OC], D := by simp [OC], E := by simp [OB] }
/-- All is stored. -/
def FinGo (V : World) (p : Nat) (k f : Int) (os fs : List Int) (T : Nat → Value) (w : World) : Prop :=
  ∃ g a3 c3 b3 d3, T 11 = .pointer (some ⟨g, 0, none⟩) ∧ BoxAt w g (.slice a3 (p + 1) c3) (.slice b3 (p + 1) d3) ∧ Own w V.heap.size a3 (p + 1) c3 (os ++ [k]) ∧ Own w V.heap.size b3 (p + 1) d3 (fs ++ [f]) ∧ Apart2 a3 b3 ∧ Below V.heap.size V w
/-- The store: what it finds. -/
theorem JGo.last (J : JGo V X p a b ca cb k f os fs L T w tag) (h12 : L 12 = true) (h13 : L 13 = true) : ∃ g a3 c3 b3 d3, T 11 = .pointer (some ⟨g, 0, none⟩) ∧ T 81 = .agg #[.slice a3 (p + 1) c3, .slice b3 (p + 1) d3] ∧
    BoxAt w g (.slice none 0 0) (.slice none 0 0) ∧ FinGo V p k f os fs T ((w.setCell ⟨g, 0, none⟩ (.slice a3 (p + 1) c3)).setCell ⟨g, 1, none⟩ (.slice b3 (p + 1) d3)) := by
  obtain ⟨h5, h11, h81⟩ := J.p12 h12
  obtain ⟨a3, c3, ha, hA⟩ := J.A.2 h5
  obtain ⟨b3, d3, hb, hB⟩ := J.B.2 h11
  obtain ⟨g, hg, hG⟩ := J.E h13
  refine ⟨g, a3, c3, b3, d3, hg, by rw [h81, ha, hb], hG.box, g, a3, c3, b3, d3, hg, (hG.box.set0 (z := .slice a3 (p + 1) c3)).set1 (z := .slice b3 (p + 1) d3), ?_, ?_, ?_, ?_⟩
  · exact (Own.setOff (hA.own.setOff (fun q hq e => by have h1 := hA.tg q hq; rw [e, hG.tg] at h1; exact absurd h1 (by decide)) _) (fun q hq e => by have h1 := hA.tg q hq; rw [e, hG.tg] at h1; exact absurd h1 (by decide)) _)
  · exact (Own.setOff (hB.own.setOff (fun q hq e => by have h1 := hB.tg q hq; rw [e, hG.tg] at h1; exact absurd h1 (by decide)) _) (fun q hq e => by have h1 := hB.tg q hq; rw [e, hG.tg] at h1; exact absurd h1 (by decide)) _)
  · intro q r hq hr e
    have h1 := hA.tg q hq
    have h2 := hB.tg r hr
    rw [e, h2] at h1
    exact absurd h1 (by decide)
  · exact (J.bel.setCell (p := ⟨g, 0, none⟩) hG.ge _).setCell (p := ⟨g, 1, none⟩) hG.ge _
end
end Go.Proofs.Ytnddplldkgphnab
