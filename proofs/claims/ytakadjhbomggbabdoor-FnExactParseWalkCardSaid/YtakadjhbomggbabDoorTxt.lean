/- Texts of parking functions and of trees: the model's and the program's, by their contracts. -/
import Derived.Test.YtakadjhbomggbabDoorText
import Derived.Test.YtakadjhbomggbabDoorImplTr
import Derived.Test.YtakadjhbomggbabDoorSpecTr
namespace Go.Proofs.YtakadjhbomggbabDoor
open Go.RowKit

/-- A text and a bool. -/
def PostText (w : World) (r : List UInt8 × Bool) (e : Ending) (w' : World) : Prop := e = .returned (.tuple #[.string (bs r.1), .bool r.2]) ∧ Below w.heap.size w w'
theorem postText {w w' : World} {r : List UInt8 × Bool} {x : List UInt8} {ok : Bool} (hr : r = (x, ok)) (hb : Below w.heap.size w w') : PostText w r (.returned (.tuple #[.string (bs x), .bool ok])) w' := by subst hr; exact ⟨rfl, hb⟩
theorem postText_no {w w' : World} {r : List UInt8 × Bool} (hr : r = ([], false)) (hb : Below w.heap.size w w') : PostText w r (.returned (.tuple #[.string ⟨#[]⟩, .bool false])) w' := postText hr hb

def parkTxt (xs : List Int) : List UInt8 × Bool := if isPark xs then (txt xs, true) else ([], false)

theorem park_digits {xs : List Int} (h : isPark xs = true) : Digits xs := by
  obtain ⟨h1, h2, _⟩ := isPark_iff.1 h
  intro i hi
  have := h2 _ (nth_mem hi)
  omega

/-- Numbers in decimal, with a sign between them. -/
def txtS (s : UInt8) (xs : List Int) : List UInt8 := Go.Lib.join (xs.map dig) [s]
theorem txtS_blank (xs : List Int) : txtS 32 xs = txt xs := rfl
theorem txtS_nil (s : UInt8) : txtS s [] = [] := rfl
theorem txtS_snoc {s : UInt8} {xs : List Int} (h : 0 < xs.length) (x : Int) : txtS s (xs ++ [x]) = txtS s xs ++ [s] ++ dig x := by
  cases xs with
  | nil => simp at h
  | cons y r => simp [txtS, Go.Lib.join_cons, Go.Lib.joinTail]
theorem txtS_succ {s : UInt8} {xs : List Int} {k : Nat} (hk : k < xs.length) (h0 : 0 < k) : txtS s (xs.take (k + 1)) = txtS s (xs.take k) ++ [s] ++ dig (nth xs k) := by
  rw [take_succ_nth hk, txtS_snoc (by simp; omega)]
theorem txtS_first {s : UInt8} {xs : List Int} (hk : 0 < xs.length) : txtS s (xs.take 1) = dig (nth xs 0) := by
  rw [take_succ_nth hk]; simp [txtS, Go.Lib.join_one]
theorem txtS_len {s : UInt8} {xs : List Int} (hd : Digits xs) : ∀ k, k ≤ xs.length → (bs (txtS s (xs.take k))).size ≤ 2 * k
  | 0, _ => by simp [txtS_nil, bs_size]
  | k + 1, hk => by
    obtain ⟨h0, h1⟩ := hd k (by omega)
    have h2 := dig_len h0 h1
    have ih := txtS_len (s := s) hd k (by omega)
    rw [bs_size] at h2 ih ⊢
    by_cases hz : k = 0
    · subst hz; rw [txtS_first (by omega)]; omega
    · rw [txtS_succ (by omega) (by omega)]; simp; omega

/-- The words of a list, as far as they are made. -/
def Words (xs : List Int) (ss : List ByteArray) (k : Nat) : Prop := ∀ i, i < k → nthS ss i = bs (dig (nth xs i))
theorem words_join {xs : List Int} {ss : List ByteArray} (s : UInt8) (hl : ss.length = xs.length) (h : Words xs ss xs.length) : Go.Lib.join (ss.map (·.data.toList)) [s] = txtS s xs := by
  unfold txtS
  congr 1
  apply List.ext_getElem (by simp [hl])
  intro i h1 h2
  have := h i (by simpa using h2)
  simp at h1 h2
  simp only [nthS, nth, List.getD_eq_getElem?_getD, h1, h2, List.getElem?_eq_getElem, Option.getD_some] at this
  simp [this, bs]
theorem words_set {xs : List Int} {ss : List ByteArray} {k : Nat} (hk : k < ss.length) (h : Words xs ss k) : Words xs (ss.set k (bs (dig (nth xs k)))) (k + 1) := by
  intro i hi
  rw [nth_setS hk]
  split
  · subst_vars; rfl
  · exact h i (by omega)

def trTxt (xs : List Int) : List UInt8 := if xs.length = 0 then [45] else txtS 44 xs
def treeTxt (xs : List Int) : List UInt8 × Bool := if treeB xs then ((trTxt xs), true) else ([], false)
theorem tree_digits {xs : List Int} {n : Nat} (h : Tree xs n) : Digits xs := by
  intro i hi
  have h1 := h.nthB i (by rw [← h.len]; exact hi)
  have h2 := h.le
  omega

set_option maxRecDepth 100000 in
set_option maxHeartbeats 800000 in
theorem trText_any (a : Option Addr) (n cap : Nat) (xs : List Int) (w : World) (h : Has w a n cap xs) (hd : Digits xs) :
    Calls Tryd.prog 23 #[.slice a n cap] w fun e w' => e = .returned (.string (bs (trTxt xs))) ∧ Below w.heap.size w w' := by
  have HL := hid h.len
  have hle := h.le
  have HD := hid hd
  clear hd
  by_cases h0 : n = 0
  · have HR : Hid ((trTxt xs) = ([45] : List UInt8)) := hid (by unfold trTxt; rw [HL.out, if_pos h0])
    have hbe : ((n : Int) == 0) = true := by simp [h0]
    have H0 := hid h0
    clear h0
    go_enter Tryd.func23, Tryd.ntmps23
    go_wp2_with fail
    go_ret
    exact ⟨by rw [HR.out]; rfl, Below.refl _ _⟩
  · have HR : Hid ((trTxt xs) = txtS 44 xs) := hid (by unfold trTxt; rw [HL.out, if_neg h0])
    have hbe : ((n : Int) == 0) = false := by simp; omega
    go_enter Tryd.func23, Tryd.ntmps23
    go_wp2_with fail
    go_loopw [3, 11] (fun t i wr => ∃ k : Nat, k ≤ n ∧ i = .int .i64 k ∧ t = .string (bs (txtS 44 (xs.take k))) ∧ Below w.heap.size w wr) (fun _ i _ => n - (intOf i).toNat)
    case atStart => exact ⟨0, Nat.zero_le _, rfl, rfl, Below.refl _ _⟩
    case round =>
      obtain ⟨k, hk, rfl, rfl, hb⟩ := hrel
      by_cases hlt : k < n
      · obtain ⟨b, off, rfl, hbb, hc⟩ := (h.below hb (Nat.le_refl _)).2.2.2.2 (by omega)
        have hck := hc k hlt
        obtain ⟨hv0, hv1⟩ := HD.out k (by rw [HL.out]; exact hlt)
        have hz1 := txtS_len (s := 44) HD.out k (by rw [HL.out]; exact hk)
        have hz2 := dig_len hv0 hv1
        clear hc
        by_cases h0 : k = 0
        · have HS : Hid (txtS 44 (xs.take (k + 1)) = txtS 44 (xs.take k) ++ dig (nth xs k)) := hid (by subst h0; rw [txtS_first (by rw [HL.out]; exact hlt)]; simp [txtS_nil])
          have hkn : ¬ 0 < k := by omega
          have hkn' : ¬ (0 : Int) < (k : Int) := by omega
          clear h0
          go_wp2_with (go_at_call 28; refine (l1Num_small _ _ hv0 hv1).mono ?_; rintro e w1 ⟨rfl, hb1⟩)
          go_roundw
          case rel => exact ⟨k + 1, by omega, by go_num, by rw [HS.out, ← bs_append], hb.trans (hb1.mono hb.size)⟩
          case measure => simp [intOf]; omega
        · have HS := hid (txtS_succ (s := 44) (xs := xs) (k := k) (by rw [HL.out]; exact hlt) (by omega))
          have hkp : 0 < k := by omega
          have hkp' : (0 : Int) < (k : Int) := by omega
          go_wp2_with (go_at_call 28; refine (l1Num_small _ _ hv0 hv1).mono ?_; rintro e w1 ⟨rfl, hb1⟩)
          go_roundw
          case rel => exact ⟨k + 1, by omega, by go_num, by rw [HS.out, ← bs_append, ← bs_append]; rfl, hb.trans (hb1.mono hb.size)⟩
          case measure => simp [intOf]; omega
      · obtain rfl : k = n := by omega
        go_wp2_with fail
        go_ret
        exact ⟨by rw [HR.out, List.take_of_length_le (by rw [HL.out]; omega)]; rfl, hb⟩

theorem neq_self_text (l : List UInt8) : ((bs l).data.toList != (bs l).data.toList) = false := by simp

end Go.Proofs.YtakadjhbomggbabDoor
