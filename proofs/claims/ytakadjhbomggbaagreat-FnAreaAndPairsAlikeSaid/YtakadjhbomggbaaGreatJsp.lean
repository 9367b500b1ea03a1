/- A number of a table of rows grows by one: the region of 'table[a][b]++' where a and b are calls. -/
import Derived.Test.YtakadjhbomggbaaGreatAnyW
namespace Go.Proofs.YtakadjhbomggbaaGreat
open Go.RowKit

def spD : List Nat := [45, 46, 47, 48, 49, 50, 51, 52, 53, 54, 55, 56, 57]
def imD : List Nat := [60, 61, 62, 63, 64, 65, 66, 67, 68, 69, 70, 71, 72]
structure JSp (V : World) (gt m ct X : Nat) (ah : Option Addr) (nh ch : Nat) (al : Option Addr) (nl cl A Q gr cr : Nat) (x : Int) (L : Nat → Bool) (T : Nat → Value) (w : World) : Prop where
  bel : Below V.heap.size V w
  p0 : L 0 = true → T 45 = .slice (some ⟨gt, 0, none⟩) m ct
  p1 : L 1 = true → T 46 = .pointer (some ⟨X, 0, none⟩)
  p2 : L 2 = true → T 47 = .slice ah nh ch
  p3 : L 3 = true → T 48 = .int .i64 (A : Int)
  p4 : L 4 = true → T 49 = .pointer (some ⟨gt, 0 + A, none⟩)
  p5 : L 5 = true → T 50 = .slice (some ⟨gr, 0, none⟩) m cr
  p6 : L 6 = true → T 51 = .agg #[.slice ah nh ch, .slice al nl cl]
  p7 : L 7 = true → ∃ a c, T 52 = .slice a Q c
  p8 : L 8 = true → T 53 = .int .i64 (Q : Int)
  p9 : L 9 = true → T 54 = .pointer (some ⟨gr, 0 + Q, none⟩)
  p10 : L 10 = true → T 55 = .int .i64 x
  p11 : L 11 = true → T 56 = .int .i64 (x + 1)
  p12 : L 12 = true → T 57 = .pointer (some ⟨gr, 0 + Q, none⟩)
section
variable {V : World} {gt m ct X : Nat} {ah : Option Addr} {nh ch : Nat} {al : Option Addr} {nl cl A Q gr cr : Nat} {x : Int} {L : Nat → Bool} {T : Nat → Value} {w w' : World}
theorem JSp.start (h : Below V.heap.size V w) : JSp V gt m ct X ah nh ch al nl cl A Q gr cr x (fun _ => false) T w := ⟨h, by simp, by simp, by simp, by simp, by simp, by simp, by simp, by simp, by simp, by simp, by simp, by simp, by simp⟩
theorem JSp.s0 (J : JSp V gt m ct X ah nh ch al nl cl A Q gr cr x L T w) : JSp V gt m ct X ah nh ch al nl cl A Q gr cr x (setF L 0) (setT T 45 (.slice (some ⟨gt, 0, none⟩) m ct)) w where
  bel := J.bel
  p0 := by first | (simp [setF, setT]; done) | simpa [setF, setT] using J.p0
  p1 := by first | (simp [setF, setT]; done) | simpa [setF, setT] using J.p1
  p2 := by first | (simp [setF, setT]; done) | simpa [setF, setT] using J.p2
  p3 := by first | (simp [setF, setT]; done) | simpa [setF, setT] using J.p3
  p4 := by first | (simp [setF, setT]; done) | simpa [setF, setT] using J.p4
  p5 := by first | (simp [setF, setT]; done) | simpa [setF, setT] using J.p5
  p6 := by first | (simp [setF, setT]; done) | simpa [setF, setT] using J.p6
  p7 := by first | (simp [setF, setT]; done) | simpa [setF, setT] using J.p7
  p8 := by first | (simp [setF, setT]; done) | simpa [setF, setT] using J.p8
  p9 := by first | (simp [setF, setT]; done) | simpa [setF, setT] using J.p9
  p10 := by first | (simp [setF, setT]; done) | simpa [setF, setT] using J.p10
  p11 := by first | (simp [setF, setT]; done) | simpa [setF, setT] using J.p11
  p12 := by first | (simp [setF, setT]; done) | simpa [setF, setT] using J.p12
theorem JSp.s1 (J : JSp V gt m ct X ah nh ch al nl cl A Q gr cr x L T w) : JSp V gt m ct X ah nh ch al nl cl A Q gr cr x (setF L 1) (setT T 46 (.pointer (some ⟨X, 0, none⟩))) w where
  bel := J.bel
  p0 := by first | (simp [setF, setT]; done) | simpa [setF, setT] using J.p0
  p1 := by first | (simp [setF, setT]; done) | simpa [setF, setT] using J.p1
  p2 := by first | (simp [setF, setT]; done) | simpa [setF, setT] using J.p2
  p3 := by first | (simp [setF, setT]; done) | simpa [setF, setT] using J.p3
  p4 := by first | (simp [setF, setT]; done) | simpa [setF, setT] using J.p4
  p5 := by first | (simp [setF, setT]; done) | simpa [setF, setT] using J.p5
  p6 := by first | (simp [setF, setT]; done) | simpa [setF, setT] using J.p6
  p7 := by first | (simp [setF, setT]; done) | simpa [setF, setT] using J.p7
  p8 := by first | (simp [setF, setT]; done) | simpa [setF, setT] using J.p8
  p9 := by first | (simp [setF, setT]; done) | simpa [setF, setT] using J.p9
  p10 := by first | (simp [setF, setT]; done) | simpa [setF, setT] using J.p10
  p11 := by first | (simp [setF, setT]; done) | simpa [setF, setT] using J.p11
  p12 := by first | (simp [setF, setT]; done) | simpa [setF, setT] using J.p12
theorem JSp.s2 (J : JSp V gt m ct X ah nh ch al nl cl A Q gr cr x L T w) : JSp V gt m ct X ah nh ch al nl cl A Q gr cr x (setF L 2) (setT T 47 (.slice ah nh ch)) w where
  bel := J.bel
  p0 := by first | (simp [setF, setT]; done) | simpa [setF, setT] using J.p0
  p1 := by first | (simp [setF, setT]; done) | simpa [setF, setT] using J.p1
  p2 := by first | (simp [setF, setT]; done) | simpa [setF, setT] using J.p2
  p3 := by first | (simp [setF, setT]; done) | simpa [setF, setT] using J.p3
  p4 := by first | (simp [setF, setT]; done) | simpa [setF, setT] using J.p4
  p5 := by first | (simp [setF, setT]; done) | simpa [setF, setT] using J.p5
  p6 := by first | (simp [setF, setT]; done) | simpa [setF, setT] using J.p6
  p7 := by first | (simp [setF, setT]; done) | simpa [setF, setT] using J.p7
  p8 := by first | (simp [setF, setT]; done) | simpa [setF, setT] using J.p8
  p9 := by first | (simp [setF, setT]; done) | simpa [setF, setT] using J.p9
  p10 := by first | (simp [setF, setT]; done) | simpa [setF, setT] using J.p10
  p11 := by first | (simp [setF, setT]; done) | simpa [setF, setT] using J.p11
  p12 := by first | (simp [setF, setT]; done) | simpa [setF, setT] using J.p12
theorem JSp.s3 (J : JSp V gt m ct X ah nh ch al nl cl A Q gr cr x L T w) (st : Below w.heap.size w w') : JSp V gt m ct X ah nh ch al nl cl A Q gr cr x (setF L 3) (setT T 48 (.int .i64 (A : Int))) w' where
  bel := J.bel.trans (st.mono J.bel.size)
  p0 := by first | (simp [setF, setT]; done) | simpa [setF, setT] using J.p0
  p1 := by first | (simp [setF, setT]; done) | simpa [setF, setT] using J.p1
  p2 := by first | (simp [setF, setT]; done) | simpa [setF, setT] using J.p2
  p3 := by first | (simp [setF, setT]; done) | simpa [setF, setT] using J.p3
  p4 := by first | (simp [setF, setT]; done) | simpa [setF, setT] using J.p4
  p5 := by first | (simp [setF, setT]; done) | simpa [setF, setT] using J.p5
  p6 := by first | (simp [setF, setT]; done) | simpa [setF, setT] using J.p6
  p7 := by first | (simp [setF, setT]; done) | simpa [setF, setT] using J.p7
  p8 := by first | (simp [setF, setT]; done) | simpa [setF, setT] using J.p8
  p9 := by first | (simp [setF, setT]; done) | simpa [setF, setT] using J.p9
  p10 := by first | (simp [setF, setT]; done) | simpa [setF, setT] using J.p10
  p11 := by first | (simp [setF, setT]; done) | simpa [setF, setT] using J.p11
  p12 := by first | (simp [setF, setT]; done) | simpa [setF, setT] using J.p12
theorem JSp.s4 (J : JSp V gt m ct X ah nh ch al nl cl A Q gr cr x L T w) : JSp V gt m ct X ah nh ch al nl cl A Q gr cr x (setF L 4) (setT T 49 (.pointer (some ⟨gt, 0 + A, none⟩))) w where
  bel := J.bel
  p0 := by first | (simp [setF, setT]; done) | simpa [setF, setT] using J.p0
  p1 := by first | (simp [setF, setT]; done) | simpa [setF, setT] using J.p1
  p2 := by first | (simp [setF, setT]; done) | simpa [setF, setT] using J.p2
  p3 := by first | (simp [setF, setT]; done) | simpa [setF, setT] using J.p3
  p4 := by first | (simp [setF, setT]; done) | simpa [setF, setT] using J.p4
  p5 := by first | (simp [setF, setT]; done) | simpa [setF, setT] using J.p5
  p6 := by first | (simp [setF, setT]; done) | simpa [setF, setT] using J.p6
  p7 := by first | (simp [setF, setT]; done) | simpa [setF, setT] using J.p7
  p8 := by first | (simp [setF, setT]; done) | simpa [setF, setT] using J.p8
  p9 := by first | (simp [setF, setT]; done) | simpa [setF, setT] using J.p9
  p10 := by first | (simp [setF, setT]; done) | simpa [setF, setT] using J.p10
  p11 := by first | (simp [setF, setT]; done) | simpa [setF, setT] using J.p11
  p12 := by first | (simp [setF, setT]; done) | simpa [setF, setT] using J.p12
theorem JSp.s5 (J : JSp V gt m ct X ah nh ch al nl cl A Q gr cr x L T w) : JSp V gt m ct X ah nh ch al nl cl A Q gr cr x (setF L 5) (setT T 50 (.slice (some ⟨gr, 0, none⟩) m cr)) w where
  bel := J.bel
  p0 := by first | (simp [setF, setT]; done) | simpa [setF, setT] using J.p0
  p1 := by first | (simp [setF, setT]; done) | simpa [setF, setT] using J.p1
  p2 := by first | (simp [setF, setT]; done) | simpa [setF, setT] using J.p2
  p3 := by first | (simp [setF, setT]; done) | simpa [setF, setT] using J.p3
  p4 := by first | (simp [setF, setT]; done) | simpa [setF, setT] using J.p4
  p5 := by first | (simp [setF, setT]; done) | simpa [setF, setT] using J.p5
  p6 := by first | (simp [setF, setT]; done) | simpa [setF, setT] using J.p6
  p7 := by first | (simp [setF, setT]; done) | simpa [setF, setT] using J.p7
  p8 := by first | (simp [setF, setT]; done) | simpa [setF, setT] using J.p8
  p9 := by first | (simp [setF, setT]; done) | simpa [setF, setT] using J.p9
  p10 := by first | (simp [setF, setT]; done) | simpa [setF, setT] using J.p10
  p11 := by first | (simp [setF, setT]; done) | simpa [setF, setT] using J.p11
  p12 := by first | (simp [setF, setT]; done) | simpa [setF, setT] using J.p12
theorem JSp.s6 (J : JSp V gt m ct X ah nh ch al nl cl A Q gr cr x L T w) : JSp V gt m ct X ah nh ch al nl cl A Q gr cr x (setF L 6) (setT T 51 (.agg #[.slice ah nh ch, .slice al nl cl])) w where
  bel := J.bel
  p0 := by first | (simp [setF, setT]; done) | simpa [setF, setT] using J.p0
  p1 := by first | (simp [setF, setT]; done) | simpa [setF, setT] using J.p1
  p2 := by first | (simp [setF, setT]; done) | simpa [setF, setT] using J.p2
  p3 := by first | (simp [setF, setT]; done) | simpa [setF, setT] using J.p3
  p4 := by first | (simp [setF, setT]; done) | simpa [setF, setT] using J.p4
  p5 := by first | (simp [setF, setT]; done) | simpa [setF, setT] using J.p5
  p6 := by first | (simp [setF, setT]; done) | simpa [setF, setT] using J.p6
  p7 := by first | (simp [setF, setT]; done) | simpa [setF, setT] using J.p7
  p8 := by first | (simp [setF, setT]; done) | simpa [setF, setT] using J.p8
  p9 := by first | (simp [setF, setT]; done) | simpa [setF, setT] using J.p9
  p10 := by first | (simp [setF, setT]; done) | simpa [setF, setT] using J.p10
  p11 := by first | (simp [setF, setT]; done) | simpa [setF, setT] using J.p11
  p12 := by first | (simp [setF, setT]; done) | simpa [setF, setT] using J.p12
theorem JSp.s7 (J : JSp V gt m ct X ah nh ch al nl cl A Q gr cr x L T w) {a : Option Addr} {c : Nat} (st : Below w.heap.size w w') : JSp V gt m ct X ah nh ch al nl cl A Q gr cr x (setF L 7) (setT T 52 (.slice a Q c)) w' where
  bel := J.bel.trans (st.mono J.bel.size)
  p0 := by first | (simp [setF, setT]; done) | simpa [setF, setT] using J.p0
  p1 := by first | (simp [setF, setT]; done) | simpa [setF, setT] using J.p1
  p2 := by first | (simp [setF, setT]; done) | simpa [setF, setT] using J.p2
  p3 := by first | (simp [setF, setT]; done) | simpa [setF, setT] using J.p3
  p4 := by first | (simp [setF, setT]; done) | simpa [setF, setT] using J.p4
  p5 := by first | (simp [setF, setT]; done) | simpa [setF, setT] using J.p5
  p6 := by first | (simp [setF, setT]; done) | simpa [setF, setT] using J.p6
  p7 := by first | (simp [setF, setT]; done) | simpa [setF, setT] using J.p7
  p8 := by first | (simp [setF, setT]; done) | simpa [setF, setT] using J.p8
  p9 := by first | (simp [setF, setT]; done) | simpa [setF, setT] using J.p9
  p10 := by first | (simp [setF, setT]; done) | simpa [setF, setT] using J.p10
  p11 := by first | (simp [setF, setT]; done) | simpa [setF, setT] using J.p11
  p12 := by first | (simp [setF, setT]; done) | simpa [setF, setT] using J.p12
theorem JSp.s8 (J : JSp V gt m ct X ah nh ch al nl cl A Q gr cr x L T w) : JSp V gt m ct X ah nh ch al nl cl A Q gr cr x (setF L 8) (setT T 53 (.int .i64 (Q : Int))) w where
  bel := J.bel
  p0 := by first | (simp [setF, setT]; done) | simpa [setF, setT] using J.p0
  p1 := by first | (simp [setF, setT]; done) | simpa [setF, setT] using J.p1
  p2 := by first | (simp [setF, setT]; done) | simpa [setF, setT] using J.p2
  p3 := by first | (simp [setF, setT]; done) | simpa [setF, setT] using J.p3
  p4 := by first | (simp [setF, setT]; done) | simpa [setF, setT] using J.p4
  p5 := by first | (simp [setF, setT]; done) | simpa [setF, setT] using J.p5
  p6 := by first | (simp [setF, setT]; done) | simpa [setF, setT] using J.p6
  p7 := by first | (simp [setF, setT]; done) | simpa [setF, setT] using J.p7
  p8 := by first | (simp [setF, setT]; done) | simpa [setF, setT] using J.p8
  p9 := by first | (simp [setF, setT]; done) | simpa [setF, setT] using J.p9
  p10 := by first | (simp [setF, setT]; done) | simpa [setF, setT] using J.p10
  p11 := by first | (simp [setF, setT]; done) | simpa [setF, setT] using J.p11
  p12 := by first | (simp [setF, setT]; done) | simpa [setF, setT] using J.p12
theorem JSp.s9 (J : JSp V gt m ct X ah nh ch al nl cl A Q gr cr x L T w) : JSp V gt m ct X ah nh ch al nl cl A Q gr cr x (setF L 9) (setT T 54 (.pointer (some ⟨gr, 0 + Q, none⟩))) w where
  bel := J.bel
  p0 := by first | (simp [setF, setT]; done) | simpa [setF, setT] using J.p0
  p1 := by first | (simp [setF, setT]; done) | simpa [setF, setT] using J.p1
  p2 := by first | (simp [setF, setT]; done) | simpa [setF, setT] using J.p2
  p3 := by first | (simp [setF, setT]; done) | simpa [setF, setT] using J.p3
  p4 := by first | (simp [setF, setT]; done) | simpa [setF, setT] using J.p4
  p5 := by first | (simp [setF, setT]; done) | simpa [setF, setT] using J.p5
  p6 := by first | (simp [setF, setT]; done) | simpa [setF, setT] using J.p6
  p7 := by first | (simp [setF, setT]; done) | simpa [setF, setT] using J.p7
  p8 := by first | (simp [setF, setT]; done) | simpa [setF, setT] using J.p8
  p9 := by first | (simp [setF, setT]; done) | simpa [setF, setT] using J.p9
  p10 := by first | (simp [setF, setT]; done) | simpa [setF, setT] using J.p10
  p11 := by first | (simp [setF, setT]; done) | simpa [setF, setT] using J.p11
  p12 := by first | (simp [setF, setT]; done) | simpa [setF, setT] using J.p12
theorem JSp.s10 (J : JSp V gt m ct X ah nh ch al nl cl A Q gr cr x L T w) : JSp V gt m ct X ah nh ch al nl cl A Q gr cr x (setF L 10) (setT T 55 (.int .i64 x)) w where
  bel := J.bel
  p0 := by first | (simp [setF, setT]; done) | simpa [setF, setT] using J.p0
  p1 := by first | (simp [setF, setT]; done) | simpa [setF, setT] using J.p1
  p2 := by first | (simp [setF, setT]; done) | simpa [setF, setT] using J.p2
  p3 := by first | (simp [setF, setT]; done) | simpa [setF, setT] using J.p3
  p4 := by first | (simp [setF, setT]; done) | simpa [setF, setT] using J.p4
  p5 := by first | (simp [setF, setT]; done) | simpa [setF, setT] using J.p5
  p6 := by first | (simp [setF, setT]; done) | simpa [setF, setT] using J.p6
  p7 := by first | (simp [setF, setT]; done) | simpa [setF, setT] using J.p7
  p8 := by first | (simp [setF, setT]; done) | simpa [setF, setT] using J.p8
  p9 := by first | (simp [setF, setT]; done) | simpa [setF, setT] using J.p9
  p10 := by first | (simp [setF, setT]; done) | simpa [setF, setT] using J.p10
  p11 := by first | (simp [setF, setT]; done) | simpa [setF, setT] using J.p11
  p12 := by first | (simp [setF, setT]; done) | simpa [setF, setT] using J.p12
theorem JSp.s11 (J : JSp V gt m ct X ah nh ch al nl cl A Q gr cr x L T w) : JSp V gt m ct X ah nh ch al nl cl A Q gr cr x (setF L 11) (setT T 56 (.int .i64 (x + 1))) w where
  bel := J.bel
  p0 := by first | (simp [setF, setT]; done) | simpa [setF, setT] using J.p0
  p1 := by first | (simp [setF, setT]; done) | simpa [setF, setT] using J.p1
  p2 := by first | (simp [setF, setT]; done) | simpa [setF, setT] using J.p2
  p3 := by first | (simp [setF, setT]; done) | simpa [setF, setT] using J.p3
  p4 := by first | (simp [setF, setT]; done) | simpa [setF, setT] using J.p4
  p5 := by first | (simp [setF, setT]; done) | simpa [setF, setT] using J.p5
  p6 := by first | (simp [setF, setT]; done) | simpa [setF, setT] using J.p6
  p7 := by first | (simp [setF, setT]; done) | simpa [setF, setT] using J.p7
  p8 := by first | (simp [setF, setT]; done) | simpa [setF, setT] using J.p8
  p9 := by first | (simp [setF, setT]; done) | simpa [setF, setT] using J.p9
  p10 := by first | (simp [setF, setT]; done) | simpa [setF, setT] using J.p10
  p11 := by first | (simp [setF, setT]; done) | simpa [setF, setT] using J.p11
  p12 := by first | (simp [setF, setT]; done) | simpa [setF, setT] using J.p12
theorem JSp.s12 (J : JSp V gt m ct X ah nh ch al nl cl A Q gr cr x L T w) : JSp V gt m ct X ah nh ch al nl cl A Q gr cr x (setF L 12) (setT T 57 (.pointer (some ⟨gr, 0 + Q, none⟩))) w where
  bel := J.bel
  p0 := by first | (simp [setF, setT]; done) | simpa [setF, setT] using J.p0
  p1 := by first | (simp [setF, setT]; done) | simpa [setF, setT] using J.p1
  p2 := by first | (simp [setF, setT]; done) | simpa [setF, setT] using J.p2
  p3 := by first | (simp [setF, setT]; done) | simpa [setF, setT] using J.p3
  p4 := by first | (simp [setF, setT]; done) | simpa [setF, setT] using J.p4
  p5 := by first | (simp [setF, setT]; done) | simpa [setF, setT] using J.p5
  p6 := by first | (simp [setF, setT]; done) | simpa [setF, setT] using J.p6
  p7 := by first | (simp [setF, setT]; done) | simpa [setF, setT] using J.p7
  p8 := by first | (simp [setF, setT]; done) | simpa [setF, setT] using J.p8
  p9 := by first | (simp [setF, setT]; done) | simpa [setF, setT] using J.p9
  p10 := by first | (simp [setF, setT]; done) | simpa [setF, setT] using J.p10
  p11 := by first | (simp [setF, setT]; done) | simpa [setF, setT] using J.p11
  p12 := by first | (simp [setF, setT]; done) | simpa [setF, setT] using J.p12
end
structure JIm (V : World) (gt m ct X : Nat) (ah : Option Addr) (nh ch : Nat) (al : Option Addr) (nl cl A Q gr cr : Nat) (x : Int) (L : Nat → Bool) (T : Nat → Value) (w : World) : Prop where
  bel : Below V.heap.size V w
  p0 : L 0 = true → T 60 = .slice (some ⟨gt, 0, none⟩) m ct
  p1 : L 1 = true → T 61 = .pointer (some ⟨X, 0, none⟩)
  p2 : L 2 = true → T 62 = .slice ah nh ch
  p3 : L 3 = true → T 63 = .int .i64 (A : Int)
  p4 : L 4 = true → T 64 = .pointer (some ⟨gt, 0 + A, none⟩)
  p5 : L 5 = true → T 65 = .slice (some ⟨gr, 0, none⟩) m cr
  p6 : L 6 = true → T 66 = .agg #[.slice ah nh ch, .slice al nl cl]
  p7 : L 7 = true → ∃ a c, T 67 = .slice a Q c
  p8 : L 8 = true → T 68 = .int .i64 (Q : Int)
  p9 : L 9 = true → T 69 = .pointer (some ⟨gr, 0 + Q, none⟩)
  p10 : L 10 = true → T 70 = .int .i64 x
  p11 : L 11 = true → T 71 = .int .i64 (x + 1)
  p12 : L 12 = true → T 72 = .pointer (some ⟨gr, 0 + Q, none⟩)
section
variable {V : World} {gt m ct X : Nat} {ah : Option Addr} {nh ch : Nat} {al : Option Addr} {nl cl A Q gr cr : Nat} {x : Int} {L : Nat → Bool} {T : Nat → Value} {w w' : World}
theorem JIm.start (h : Below V.heap.size V w) : JIm V gt m ct X ah nh ch al nl cl A Q gr cr x (fun _ => false) T w := ⟨h, by simp, by simp, by simp, by simp, by simp, by simp, by simp, by simp, by simp, by simp, by simp, by simp, by simp⟩
theorem JIm.s0 (J : JIm V gt m ct X ah nh ch al nl cl A Q gr cr x L T w) : JIm V gt m ct X ah nh ch al nl cl A Q gr cr x (setF L 0) (setT T 60 (.slice (some ⟨gt, 0, none⟩) m ct)) w where
  bel := J.bel
  p0 := by first | (simp [setF, setT]; done) | simpa [setF, setT] using J.p0
  p1 := by first | (simp [setF, setT]; done) | simpa [setF, setT] using J.p1
  p2 := by first | (simp [setF, setT]; done) | simpa [setF, setT] using J.p2
  p3 := by first | (simp [setF, setT]; done) | simpa [setF, setT] using J.p3
  p4 := by first | (simp [setF, setT]; done) | simpa [setF, setT] using J.p4
  p5 := by first | (simp [setF, setT]; done) | simpa [setF, setT] using J.p5
  p6 := by first | (simp [setF, setT]; done) | simpa [setF, setT] using J.p6
  p7 := by first | (simp [setF, setT]; done) | simpa [setF, setT] using J.p7
  p8 := by first | (simp [setF, setT]; done) | simpa [setF, setT] using J.p8
  p9 := by first | (simp [setF, setT]; done) | simpa [setF, setT] using J.p9
  p10 := by first | (simp [setF, setT]; done) | simpa [setF, setT] using J.p10
  p11 := by first | (simp [setF, setT]; done) | simpa [setF, setT] using J.p11
  p12 := by first | (simp [setF, setT]; done) | simpa [setF, setT] using J.p12
theorem JIm.s1 (J : JIm V gt m ct X ah nh ch al nl cl A Q gr cr x L T w) : JIm V gt m ct X ah nh ch al nl cl A Q gr cr x (setF L 1) (setT T 61 (.pointer (some ⟨X, 0, none⟩))) w where
  bel := J.bel
  p0 := by first | (simp [setF, setT]; done) | simpa [setF, setT] using J.p0
  p1 := by first | (simp [setF, setT]; done) | simpa [setF, setT] using J.p1
  p2 := by first | (simp [setF, setT]; done) | simpa [setF, setT] using J.p2
  p3 := by first | (simp [setF, setT]; done) | simpa [setF, setT] using J.p3
  p4 := by first | (simp [setF, setT]; done) | simpa [setF, setT] using J.p4
  p5 := by first | (simp [setF, setT]; done) | simpa [setF, setT] using J.p5
  p6 := by first | (simp [setF, setT]; done) | simpa [setF, setT] using J.p6
  p7 := by first | (simp [setF, setT]; done) | simpa [setF, setT] using J.p7
  p8 := by first | (simp [setF, setT]; done) | simpa [setF, setT] using J.p8
  p9 := by first | (simp [setF, setT]; done) | simpa [setF, setT] using J.p9
  p10 := by first | (simp [setF, setT]; done) | simpa [setF, setT] using J.p10
  p11 := by first | (simp [setF, setT]; done) | simpa [setF, setT] using J.p11
  p12 := by first | (simp [setF, setT]; done) | simpa [setF, setT] using J.p12
theorem JIm.s2 (J : JIm V gt m ct X ah nh ch al nl cl A Q gr cr x L T w) : JIm V gt m ct X ah nh ch al nl cl A Q gr cr x (setF L 2) (setT T 62 (.slice ah nh ch)) w where
  bel := J.bel
  p0 := by first | (simp [setF, setT]; done) | simpa [setF, setT] using J.p0
  p1 := by first | (simp [setF, setT]; done) | simpa [setF, setT] using J.p1
  p2 := by first | (simp [setF, setT]; done) | simpa [setF, setT] using J.p2
  p3 := by first | (simp [setF, setT]; done) | simpa [setF, setT] using J.p3
  p4 := by first | (simp [setF, setT]; done) | simpa [setF, setT] using J.p4
  p5 := by first | (simp [setF, setT]; done) | simpa [setF, setT] using J.p5
  p6 := by first | (simp [setF, setT]; done) | simpa [setF, setT] using J.p6
  p7 := by first | (simp [setF, setT]; done) | simpa [setF, setT] using J.p7
  p8 := by first | (simp [setF, setT]; done) | simpa [setF, setT] using J.p8
  p9 := by first | (simp [setF, setT]; done) | simpa [setF, setT] using J.p9
  p10 := by first | (simp [setF, setT]; done) | simpa [setF, setT] using J.p10
  p11 := by first | (simp [setF, setT]; done) | simpa [setF, setT] using J.p11
  p12 := by first | (simp [setF, setT]; done) | simpa [setF, setT] using J.p12
theorem JIm.s3 (J : JIm V gt m ct X ah nh ch al nl cl A Q gr cr x L T w) (st : Below w.heap.size w w') : JIm V gt m ct X ah nh ch al nl cl A Q gr cr x (setF L 3) (setT T 63 (.int .i64 (A : Int))) w' where
  bel := J.bel.trans (st.mono J.bel.size)
  p0 := by first | (simp [setF, setT]; done) | simpa [setF, setT] using J.p0
  p1 := by first | (simp [setF, setT]; done) | simpa [setF, setT] using J.p1
  p2 := by first | (simp [setF, setT]; done) | simpa [setF, setT] using J.p2
  p3 := by first | (simp [setF, setT]; done) | simpa [setF, setT] using J.p3
  p4 := by first | (simp [setF, setT]; done) | simpa [setF, setT] using J.p4
  p5 := by first | (simp [setF, setT]; done) | simpa [setF, setT] using J.p5
  p6 := by first | (simp [setF, setT]; done) | simpa [setF, setT] using J.p6
  p7 := by first | (simp [setF, setT]; done) | simpa [setF, setT] using J.p7
  p8 := by first | (simp [setF, setT]; done) | simpa [setF, setT] using J.p8
  p9 := by first | (simp [setF, setT]; done) | simpa [setF, setT] using J.p9
  p10 := by first | (simp [setF, setT]; done) | simpa [setF, setT] using J.p10
  p11 := by first | (simp [setF, setT]; done) | simpa [setF, setT] using J.p11
  p12 := by first | (simp [setF, setT]; done) | simpa [setF, setT] using J.p12
theorem JIm.s4 (J : JIm V gt m ct X ah nh ch al nl cl A Q gr cr x L T w) : JIm V gt m ct X ah nh ch al nl cl A Q gr cr x (setF L 4) (setT T 64 (.pointer (some ⟨gt, 0 + A, none⟩))) w where
  bel := J.bel
  p0 := by first | (simp [setF, setT]; done) | simpa [setF, setT] using J.p0
  p1 := by first | (simp [setF, setT]; done) | simpa [setF, setT] using J.p1
  p2 := by first | (simp [setF, setT]; done) | simpa [setF, setT] using J.p2
  p3 := by first | (simp [setF, setT]; done) | simpa [setF, setT] using J.p3
  p4 := by first | (simp [setF, setT]; done) | simpa [setF, setT] using J.p4
  p5 := by first | (simp [setF, setT]; done) | simpa [setF, setT] using J.p5
  p6 := by first | (simp [setF, setT]; done) | simpa [setF, setT] using J.p6
  p7 := by first | (simp [setF, setT]; done) | simpa [setF, setT] using J.p7
  p8 := by first | (simp [setF, setT]; done) | simpa [setF, setT] using J.p8
  p9 := by first | (simp [setF, setT]; done) | simpa [setF, setT] using J.p9
  p10 := by first | (simp [setF, setT]; done) | simpa [setF, setT] using J.p10
  p11 := by first | (simp [setF, setT]; done) | simpa [setF, setT] using J.p11
  p12 := by first | (simp [setF, setT]; done) | simpa [setF, setT] using J.p12
theorem JIm.s5 (J : JIm V gt m ct X ah nh ch al nl cl A Q gr cr x L T w) : JIm V gt m ct X ah nh ch al nl cl A Q gr cr x (setF L 5) (setT T 65 (.slice (some ⟨gr, 0, none⟩) m cr)) w where
  bel := J.bel
  p0 := by first | (simp [setF, setT]; done) | simpa [setF, setT] using J.p0
  p1 := by first | (simp [setF, setT]; done) | simpa [setF, setT] using J.p1
  p2 := by first | (simp [setF, setT]; done) | simpa [setF, setT] using J.p2
  p3 := by first | (simp [setF, setT]; done) | simpa [setF, setT] using J.p3
  p4 := by first | (simp [setF, setT]; done) | simpa [setF, setT] using J.p4
  p5 := by first | (simp [setF, setT]; done) | simpa [setF, setT] using J.p5
  p6 := by first | (simp [setF, setT]; done) | simpa [setF, setT] using J.p6
  p7 := by first | (simp [setF, setT]; done) | simpa [setF, setT] using J.p7
  p8 := by first | (simp [setF, setT]; done) | simpa [setF, setT] using J.p8
  p9 := by first | (simp [setF, setT]; done) | simpa [setF, setT] using J.p9
  p10 := by first | (simp [setF, setT]; done) | simpa [setF, setT] using J.p10
  p11 := by first | (simp [setF, setT]; done) | simpa [setF, setT] using J.p11
  p12 := by first | (simp [setF, setT]; done) | simpa [setF, setT] using J.p12
theorem JIm.s6 (J : JIm V gt m ct X ah nh ch al nl cl A Q gr cr x L T w) : JIm V gt m ct X ah nh ch al nl cl A Q gr cr x (setF L 6) (setT T 66 (.agg #[.slice ah nh ch, .slice al nl cl])) w where
  bel := J.bel
  p0 := by first | (simp [setF, setT]; done) | simpa [setF, setT] using J.p0
  p1 := by first | (simp [setF, setT]; done) | simpa [setF, setT] using J.p1
  p2 := by first | (simp [setF, setT]; done) | simpa [setF, setT] using J.p2
  p3 := by first | (simp [setF, setT]; done) | simpa [setF, setT] using J.p3
  p4 := by first | (simp [setF, setT]; done) | simpa [setF, setT] using J.p4
  p5 := by first | (simp [setF, setT]; done) | simpa [setF, setT] using J.p5
  p6 := by first | (simp [setF, setT]; done) | simpa [setF, setT] using J.p6
  p7 := by first | (simp [setF, setT]; done) | simpa [setF, setT] using J.p7
  p8 := by first | (simp [setF, setT]; done) | simpa [setF, setT] using J.p8
  p9 := by first | (simp [setF, setT]; done) | simpa [setF, setT] using J.p9
  p10 := by first | (simp [setF, setT]; done) | simpa [setF, setT] using J.p10
  p11 := by first | (simp [setF, setT]; done) | simpa [setF, setT] using J.p11
  p12 := by first | (simp [setF, setT]; done) | simpa [setF, setT] using J.p12
theorem JIm.s7 (J : JIm V gt m ct X ah nh ch al nl cl A Q gr cr x L T w) {a : Option Addr} {c : Nat} (st : Below w.heap.size w w') : JIm V gt m ct X ah nh ch al nl cl A Q gr cr x (setF L 7) (setT T 67 (.slice a Q c)) w' where
  bel := J.bel.trans (st.mono J.bel.size)
  p0 := by first | (simp [setF, setT]; done) | simpa [setF, setT] using J.p0
  p1 := by first | (simp [setF, setT]; done) | simpa [setF, setT] using J.p1
  p2 := by first | (simp [setF, setT]; done) | simpa [setF, setT] using J.p2
  p3 := by first | (simp [setF, setT]; done) | simpa [setF, setT] using J.p3
  p4 := by first | (simp [setF, setT]; done) | simpa [setF, setT] using J.p4
  p5 := by first | (simp [setF, setT]; done) | simpa [setF, setT] using J.p5
  p6 := by first | (simp [setF, setT]; done) | simpa [setF, setT] using J.p6
  p7 := by first | (simp [setF, setT]; done) | simpa [setF, setT] using J.p7
  p8 := by first | (simp [setF, setT]; done) | simpa [setF, setT] using J.p8
  p9 := by first | (simp [setF, setT]; done) | simpa [setF, setT] using J.p9
  p10 := by first | (simp [setF, setT]; done) | simpa [setF, setT] using J.p10
  p11 := by first | (simp [setF, setT]; done) | simpa [setF, setT] using J.p11
  p12 := by first | (simp [setF, setT]; done) | simpa [setF, setT] using J.p12
theorem JIm.s8 (J : JIm V gt m ct X ah nh ch al nl cl A Q gr cr x L T w) : JIm V gt m ct X ah nh ch al nl cl A Q gr cr x (setF L 8) (setT T 68 (.int .i64 (Q : Int))) w where
  bel := J.bel
  p0 := by first | (simp [setF, setT]; done) | simpa [setF, setT] using J.p0
  p1 := by first | (simp [setF, setT]; done) | simpa [setF, setT] using J.p1
  p2 := by first | (simp [setF, setT]; done) | simpa [setF, setT] using J.p2
  p3 := by first | (simp [setF, setT]; done) | simpa [setF, setT] using J.p3
  p4 := by first | (simp [setF, setT]; done) | simpa [setF, setT] using J.p4
  p5 := by first | (simp [setF, setT]; done) | simpa [setF, setT] using J.p5
  p6 := by first | (simp [setF, setT]; done) | simpa [setF, setT] using J.p6
  p7 := by first | (simp [setF, setT]; done) | simpa [setF, setT] using J.p7
  p8 := by first | (simp [setF, setT]; done) | simpa [setF, setT] using J.p8
  p9 := by first | (simp [setF, setT]; done) | simpa [setF, setT] using J.p9
  p10 := by first | (simp [setF, setT]; done) | simpa [setF, setT] using J.p10
  p11 := by first | (simp [setF, setT]; done) | simpa [setF, setT] using J.p11
  p12 := by first | (simp [setF, setT]; done) | simpa [setF, setT] using J.p12
theorem JIm.s9 (J : JIm V gt m ct X ah nh ch al nl cl A Q gr cr x L T w) : JIm V gt m ct X ah nh ch al nl cl A Q gr cr x (setF L 9) (setT T 69 (.pointer (some ⟨gr, 0 + Q, none⟩))) w where
  bel := J.bel
  p0 := by first | (simp [setF, setT]; done) | simpa [setF, setT] using J.p0
  p1 := by first | (simp [setF, setT]; done) | simpa [setF, setT] using J.p1
  p2 := by first | (simp [setF, setT]; done) | simpa [setF, setT] using J.p2
  p3 := by first | (simp [setF, setT]; done) | simpa [setF, setT] using J.p3
  p4 := by first | (simp [setF, setT]; done) | simpa [setF, setT] using J.p4
  p5 := by first | (simp [setF, setT]; done) | simpa [setF, setT] using J.p5
  p6 := by first | (simp [setF, setT]; done) | simpa [setF, setT] using J.p6
  p7 := by first | (simp [setF, setT]; done) | simpa [setF, setT] using J.p7
  p8 := by first | (simp [setF, setT]; done) | simpa [setF, setT] using J.p8
  p9 := by first | (simp [setF, setT]; done) | simpa [setF, setT] using J.p9
  p10 := by first | (simp [setF, setT]; done) | simpa [setF, setT] using J.p10
  p11 := by first | (simp [setF, setT]; done) | simpa [setF, setT] using J.p11
  p12 := by first | (simp [setF, setT]; done) | simpa [setF, setT] using J.p12
theorem JIm.s10 (J : JIm V gt m ct X ah nh ch al nl cl A Q gr cr x L T w) : JIm V gt m ct X ah nh ch al nl cl A Q gr cr x (setF L 10) (setT T 70 (.int .i64 x)) w where
  bel := J.bel
  p0 := by first | (simp [setF, setT]; done) | simpa [setF, setT] using J.p0
  p1 := by first | (simp [setF, setT]; done) | simpa [setF, setT] using J.p1
  p2 := by first | (simp [setF, setT]; done) | simpa [setF, setT] using J.p2
  p3 := by first | (simp [setF, setT]; done) | simpa [setF, setT] using J.p3
  p4 := by first | (simp [setF, setT]; done) | simpa [setF, setT] using J.p4
  p5 := by first | (simp [setF, setT]; done) | simpa [setF, setT] using J.p5
  p6 := by first | (simp [setF, setT]; done) | simpa [setF, setT] using J.p6
  p7 := by first | (simp [setF, setT]; done) | simpa [setF, setT] using J.p7
  p8 := by first | (simp [setF, setT]; done) | simpa [setF, setT] using J.p8
  p9 := by first | (simp [setF, setT]; done) | simpa [setF, setT] using J.p9
  p10 := by first | (simp [setF, setT]; done) | simpa [setF, setT] using J.p10
  p11 := by first | (simp [setF, setT]; done) | simpa [setF, setT] using J.p11
  p12 := by first | (simp [setF, setT]; done) | simpa [setF, setT] using J.p12
theorem JIm.s11 (J : JIm V gt m ct X ah nh ch al nl cl A Q gr cr x L T w) : JIm V gt m ct X ah nh ch al nl cl A Q gr cr x (setF L 11) (setT T 71 (.int .i64 (x + 1))) w where
  bel := J.bel
  p0 := by first | (simp [setF, setT]; done) | simpa [setF, setT] using J.p0
  p1 := by first | (simp [setF, setT]; done) | simpa [setF, setT] using J.p1
  p2 := by first | (simp [setF, setT]; done) | simpa [setF, setT] using J.p2
  p3 := by first | (simp [setF, setT]; done) | simpa [setF, setT] using J.p3
  p4 := by first | (simp [setF, setT]; done) | simpa [setF, setT] using J.p4
  p5 := by first | (simp [setF, setT]; done) | simpa [setF, setT] using J.p5
  p6 := by first | (simp [setF, setT]; done) | simpa [setF, setT] using J.p6
  p7 := by first | (simp [setF, setT]; done) | simpa [setF, setT] using J.p7
  p8 := by first | (simp [setF, setT]; done) | simpa [setF, setT] using J.p8
  p9 := by first | (simp [setF, setT]; done) | simpa [setF, setT] using J.p9
  p10 := by first | (simp [setF, setT]; done) | simpa [setF, setT] using J.p10
  p11 := by first | (simp [setF, setT]; done) | simpa [setF, setT] using J.p11
  p12 := by first | (simp [setF, setT]; done) | simpa [setF, setT] using J.p12
theorem JIm.s12 (J : JIm V gt m ct X ah nh ch al nl cl A Q gr cr x L T w) : JIm V gt m ct X ah nh ch al nl cl A Q gr cr x (setF L 12) (setT T 72 (.pointer (some ⟨gr, 0 + Q, none⟩))) w where
  bel := J.bel
  p0 := by first | (simp [setF, setT]; done) | simpa [setF, setT] using J.p0
  p1 := by first | (simp [setF, setT]; done) | simpa [setF, setT] using J.p1
  p2 := by first | (simp [setF, setT]; done) | simpa [setF, setT] using J.p2
  p3 := by first | (simp [setF, setT]; done) | simpa [setF, setT] using J.p3
  p4 := by first | (simp [setF, setT]; done) | simpa [setF, setT] using J.p4
  p5 := by first | (simp [setF, setT]; done) | simpa [setF, setT] using J.p5
  p6 := by first | (simp [setF, setT]; done) | simpa [setF, setT] using J.p6
  p7 := by first | (simp [setF, setT]; done) | simpa [setF, setT] using J.p7
  p8 := by first | (simp [setF, setT]; done) | simpa [setF, setT] using J.p8
  p9 := by first | (simp [setF, setT]; done) | simpa [setF, setT] using J.p9
  p10 := by first | (simp [setF, setT]; done) | simpa [setF, setT] using J.p10
  p11 := by first | (simp [setF, setT]; done) | simpa [setF, setT] using J.p11
  p12 := by first | (simp [setF, setT]; done) | simpa [setF, setT] using J.p12
end
section
variable {ev : Operand → Value} {o : Oper} {w : World} {x y : Operand} {g i : Nat} {s1 s2 : Value}
theorem exS_move (ho : o.op = .move x) (hx : ev x = s1) : (execOp ev o).run Tryz.prog w = .ok (.value s1) w := by
  unfold execOp; simp only [ho]; rw [hx]; rfl
theorem exS_at {n cap k : Nat} (ho : o.op = .indexAddr 25 x y) (hx : ev x = .slice (some ⟨g, i, none⟩) n cap) (hy : ev y = .int .i64 (k : Int)) (hk : (k : Int) < (n : Int)) : (execOp ev o).run Tryz.prog w = .ok (.value (.pointer (some ⟨g, i + k, none⟩))) w := by
  have h0 : (0 : Int) ≤ (k : Int) := by omega
  unfold execOp; simp only [ho]; go_simp
theorem exS_at1 {n cap k : Nat} (ho : o.op = .indexAddr 31 x y) (hx : ev x = .slice (some ⟨g, i, none⟩) n cap) (hy : ev y = .int .i64 (k : Int)) (hk : (k : Int) < (n : Int)) : (execOp ev o).run Tryz.prog w = .ok (.value (.pointer (some ⟨g, i + k, none⟩))) w := by
  have h0 : (0 : Int) ≤ (k : Int) := by omega
  unfold execOp; simp only [ho]; go_simp
theorem exS_load (ho : o.op = .load 31 x) (hx : ev x = .pointer (some ⟨g, i, none⟩)) (hc : w.cell? ⟨g, i, none⟩ = some s1) : (execOp ev o).run Tryz.prog w = .ok (.value s1) w := by
  unfold execOp; simp only [ho]; go_simp
theorem exS_loadH (ho : o.op = .load 46 x) (hx : ev x = .pointer (some ⟨g, i, none⟩)) (hc : w.cell? ⟨g, i, none⟩ = some s1) : (execOp ev o).run Tryz.prog w = .ok (.value s1) w := by
  unfold execOp; simp only [ho]; go_simp
theorem exS_loadI (ho : o.op = .load 3 x) (hx : ev x = .pointer (some ⟨g, i, none⟩)) (hc : w.cell? ⟨g, i, none⟩ = some s1) : (execOp ev o).run Tryz.prog w = .ok (.value s1) w := by
  unfold execOp; simp only [ho]; go_simp
theorem exS_fieldW (ho : o.op = .fieldAddr 43 x 0) (hx : ev x = .pointer (some ⟨g, 0, none⟩)) : (execOp ev o).run Tryz.prog w = .ok (.value (.pointer (some ⟨g, 0, none⟩))) w := by
  unfold execOp; simp only [ho]; go_simp
theorem exS_fieldR (ho : o.op = .fieldAddr 48 x 0) (hx : ev x = .pointer (some ⟨g, 0, none⟩)) : (execOp ev o).run Tryz.prog w = .ok (.value (.pointer (some ⟨g, 0, none⟩))) w := by
  unfold execOp; simp only [ho]; go_simp
theorem exS_boxW (ho : o.op = .load 43 x) (hx : ev x = .pointer (some ⟨g, 0, none⟩)) (B : BoxAt w g s1 s2) : (execOp ev o).run Tryz.prog w = .ok (.value (.agg #[s1, s2])) w := by
  obtain ⟨b1, b2, b3, b4⟩ := B
  unfold execOp; simp only [ho]; go_simp
theorem exS_boxR (ho : o.op = .load 48 x) (hx : ev x = .pointer (some ⟨g, 0, none⟩)) (B : BoxAt w g s1 s2) : (execOp ev o).run Tryz.prog w = .ok (.value (.agg #[s1, s2])) w := by
  obtain ⟨b1, b2, b3, b4⟩ := B
  unfold execOp; simp only [ho]; go_simp
theorem exS_len {a : Option Addr} {n c : Nat} (ho : o.op = .call { callee := .builtin .len, args := #[x], argTypes := #[25] }) (hx : ev x = .slice a n c) : (execOp ev o).run Tryz.prog w = .ok (.value (.int .i64 (n : Int))) w := by
  unfold execOp; simp only [ho]; go_simp
theorem exS_add {z : Int} (ho : o.op = .binOp .add 3 x (.const (.int .i64 1)) 3) (hx : ev x = .int .i64 z) (h1 : ev (.const (.int .i64 1)) = .int .i64 1) (h0 : 0 ≤ z) (hz : z ≤ 1000000) : (execOp ev o).run Tryz.prog w = .ok (.value (.int .i64 (z + 1))) w := by
  have hw : IntKind.i64.wrap (z + 1) = z + 1 := by rw [IntKind.wrap_i64]; omega
  unfold execOp; simp only [ho]; go_simp
theorem exS_store {z : Int} {c : Value} (ho : o.op = .store 3 x y) (hx : ev x = .pointer (some ⟨g, i, none⟩)) (hy : ev y = .int .i64 z) (hc : w.cell? ⟨g, i, none⟩ = some c) (hf : w.frozen? ⟨g, i, none⟩ = false) : (execOp ev o).run Tryz.prog w = .ok .skip (w.setCell ⟨g, i, none⟩ (.int .i64 z)) := by
  unfold execOp; simp only [ho]; go_simp
theorem ent_paSum (args : Array Value) : (callFunc 31 args).run Tryz.prog w = .ok (.enter 31 args) w := by go_simp
theorem ent_waPairs (args : Array Value) : (callFunc 32 args).run Tryz.prog w = .ok (.enter 32 args) w := by go_simp
theorem ent_area (args : Array Value) : (callFunc 25 args).run Tryz.prog w = .ok (.enter 25 args) w := by go_simp
theorem ent_pairs (args : Array Value) : (callFunc 26 args).run Tryz.prog w = .ok (.enter 26 args) w := by go_simp
end
end Go.Proofs.YtakadjhbomggbaaGreat
