/- Texts of parking functions and of trees: the model's and the program's, by their contracts. -/
import Derived.Test.YtpjgidjkpcbniacDoorText
import Derived.Test.YtpjgidjkpcbniacDoorImplTr
import Derived.Test.YtpjgidjkpcbniacDoorSpecTr
namespace Go.Proofs.YtpjgidjkpcbniacDoor
open Go.RowKit

/-- A text and a bool. -/
def PostText (w : World) (r : List UInt8 × Bool) (e : Ending) (w' : World) : Prop := e = .returned (.tuple #[.string (bs r.1), .bool r.2]) ∧ Below w.heap.size w w'
theorem postText {w w' : World} {r : List UInt8 × Bool} {x : List UInt8} {ok : Bool} (hr : r = (x, ok)) (hb : Below w.heap.size w w') : PostText w r (.returned (.tuple #[.string (bs x), .bool ok])) w' := by subst hr; exact ⟨rfl, hb⟩
theorem postText_no {w w' : World} {r : List UInt8 × Bool} (hr : r = ([], false)) (hb : Below w.heap.size w w') : PostText w r (.returned (.tuple #[.string ⟨#[]⟩, .bool false])) w' := postText hr hb

def parkTxt (xs : List Int) : List UInt8 × Bool := if isPark xs then (txt xs, true) else ([], false)

theorem park_digits {xs : List Int} (h : isPark xs = true) : Digits xs := by
  obtain ⟨h1, h2, _⟩ := isPark_iff.1 h
  intro i hi
  have := h2 _ (nth_mem hi)
  omega

theorem specParkText_any (a : Option Addr) (n cap : Nat) (xs : List Int) (w : World) (h : Has w a n cap xs) :
    Calls Tryd.prog 34 #[.slice a n cap] w (PostText w (parkTxt xs)) := by
  by_cases hp : isPark xs = true
  · have HR : Hid (parkTxt xs = (txt xs, true)) := hid (by simp [parkTxt, hp])
    have HP := hid hp
    clear hp
    go_enter Tryd.func34, Tryd.ntmps34
    go_wp2_with (go_at_call 53; refine (paParking_any _ _ _ _ _ h).mono ?_; rintro e w1 ⟨rfl, hb1⟩; rw [HP.out])
    refine (paText_any _ _ _ _ _ (h.below hb1 (Nat.le_refl _)) (park_digits HP.out)).mono ?_
    rintro e w2 ⟨rfl, hb2⟩
    go_wp2_with fail
    go_ret2
    exact postText HR.out (hb1.trans (hb2.mono hb1.size))
  · have HR : Hid (parkTxt xs = ([], false)) := hid (by simp [parkTxt, hp])
    have HP := hid (Bool.eq_false_iff.2 hp)
    clear hp
    go_enter Tryd.func34, Tryd.ntmps34
    go_wp2_with (go_at_call 53; refine (paParking_any _ _ _ _ _ h).mono ?_; rintro e w1 ⟨rfl, hb1⟩; rw [HP.out])
    go_ret2
    exact postText_no HR.out hb1

/-- Numbers in decimal, with a sign between them. -/
def txtS (s : UInt8) (xs : List Int) : List UInt8 := Go.Lib.join (xs.map dig) [s]
theorem txtS_blank (xs : List Int) : txtS 32 xs = txt xs := rfl
theorem txtS_nil (s : UInt8) : txtS s [] = [] := rfl
theorem txtS_snoc {s : UInt8} {xs : List Int} (h : 0 < xs.length) (x : Int) : txtS s (xs ++ [x]) = txtS s xs ++ [s] ++ dig x := by
  cases xs with
  | nil => simp at h
  | cons y r => simp [txtS, Go.Lib.join_cons, Go.Lib.joinTail]
theorem txtS_succ {s : UInt8} {xs : List Int} {k : Nat} (hk : k < xs.length) (h0 : 0 < k) : txtS s (xs.take (k + 1)) = txtS s (xs.take k) ++ [s] ++ dig (nth xs k) := by
  rw [take_succ_nth hk, txtS_snoc (by simp; omega)]
theorem txtS_first {s : UInt8} {xs : List Int} (hk : 0 < xs.length) : txtS s (xs.take 1) = dig (nth xs 0) := by
  rw [take_succ_nth hk]; simp [txtS, Go.Lib.join_one]
theorem txtS_len {s : UInt8} {xs : List Int} (hd : Digits xs) : ∀ k, k ≤ xs.length → (bs (txtS s (xs.take k))).size ≤ 2 * k
  | 0, _ => by simp [txtS_nil, bs_size]
  | k + 1, hk => by
    obtain ⟨h0, h1⟩ := hd k (by omega)
    have h2 := dig_len h0 h1
    have ih := txtS_len (s := s) hd k (by omega)
    rw [bs_size] at h2 ih ⊢
    by_cases hz : k = 0
    · subst hz; rw [txtS_first (by omega)]; omega
    · rw [txtS_succ (by omega) (by omega)]; simp; omega

/-- The words of a list, as far as they are made. -/
def Words (xs : List Int) (ss : List ByteArray) (k : Nat) : Prop := ∀ i, i < k → nthS ss i = bs (dig (nth xs i))
theorem words_join {xs : List Int} {ss : List ByteArray} (s : UInt8) (hl : ss.length = xs.length) (h : Words xs ss xs.length) : Go.Lib.join (ss.map (·.data.toList)) [s] = txtS s xs := by
  unfold txtS
  congr 1
  apply List.ext_getElem (by simp [hl])
  intro i h1 h2
  have := h i (by simpa using h2)
  simp at h1 h2
  simp only [nthS, nth, List.getD_eq_getElem?_getD, h1, h2, List.getElem?_eq_getElem, Option.getD_some] at this
  simp [this, bs]
theorem words_set {xs : List Int} {ss : List ByteArray} {k : Nat} (hk : k < ss.length) (h : Words xs ss k) : Words xs (ss.set k (bs (dig (nth xs k)))) (k + 1) := by
  intro i hi
  rw [nth_setS hk]
  split
  · subst_vars; rfl
  · exact h i (by omega)

/-- strings.Join, at a slice of strings as it reads. -/
theorem join_any (a : Option Addr) (n cap : Nat) (ss : List ByteArray) (sep : ByteArray) (w : World) (h : HasS w a n cap ss) (hlen : (Go.Lib.join (ss.map (·.data.toList)) sep.data.toList).length ≤ 140737488355328) :
    Calls Tryd.prog 77 #[.slice a n cap, .string sep] w fun e w' => e = .returned (.string (bs (Go.Lib.join (ss.map (·.data.toList)) sep.data.toList))) ∧ Below w.heap.size w w' := by
  obtain ⟨h0, h1, h2, h3, h4⟩ := h
  subst h0
  by_cases hn : ss.length = 0
  · obtain rfl : ss = [] := List.eq_nil_of_length_eq_zero hn
    exact (Tryd.strings_Join_none a cap sep w).mono fun e w' ⟨he, hw⟩ => ⟨he, by rw [hw]; exact Below.refl _ _⟩
  · obtain ⟨b, off, rfl, hb, hc⟩ := h4 (by omega)
    exact Tryd.strings_Join b off cap ss sep w (fun j x hj => by
      have hlt : j < ss.length := (List.getElem?_eq_some_iff.1 hj).1
      rw [hc j hlt]
      simp [nthS, hj]) hb (by omega) h1 hlen

set_option maxRecDepth 100000 in
set_option maxHeartbeats 1600000 in
theorem joinNumbers_any (s : UInt8) (a : Option Addr) (n cap : Nat) (xs : List Int) (w : World) (h : Has w a n cap xs) (h8 : n ≤ 8) (hdg : Digits xs) :
    Calls Tryd.prog 58 #[.slice a n cap, .string ⟨#[s]⟩] w fun e w' => e = .returned (.string (bs (txtS s xs))) ∧ Below w.heap.size w w' := by
  have HL := hid h.len
  have HD := hid hdg
  clear hdg
  go_enter Tryd.func58, Tryd.ntmps58
  go_wp2_with (at_make; refine wpList_make_intsS _ rfl _ _ rfl _ rfl rfl (by omega) ?_; intro a3 cap3 w3 hown3 hb3)
  go_loopw [13] (fun i wr => ∃ (k : Nat) (ss : List ByteArray), k ≤ n ∧ i = .int .i64 k ∧ OwnS wr w.heap.size a3 n cap3 ss ∧ Words xs ss k ∧ Below w.heap.size w wr) (fun i _ => n - (intOf i).toNat)
  case atStart => exact ⟨0, _, Nat.zero_le _, rfl, hown3, fun i hi => by omega, hb3⟩
  case round =>
    obtain ⟨k, ss, hk, rfl, hown, hwd, hb⟩ := hrel
    by_cases hlt : k < n
    · obtain ⟨b1, off1, rfl, hbb1, hc1⟩ := (h.below hb (Nat.le_refl _)).2.2.2.2 (by omega)
      obtain ⟨g, rfl, hg1, hg2, hg3, hg4⟩ := hown.opened (by omega)
      have hck := hc1 k hlt
      have hgk := hg3 k hlt
      have hgf := hg4 k
      obtain ⟨hv0, hv1⟩ := HD.out k (by rw [HL.out]; exact hlt)
      have HW := hid (words_set (by rw [hown.len]; exact hlt) hwd)
      obtain ⟨x, hx⟩ : ∃ x : Nat, nth xs k = x := ⟨(nth xs k).toNat, by omega⟩
      rw [hx] at hck HW hv0 hv1
      clear hc1 hg3 hg4 hwd hx
      go_wp2_with (go_at_call 76; refine (Tryd.strconv_Itoa_small x (by omega) _).mono ?_; rintro e _ ⟨rfl, rfl⟩)
      go_roundw
      case rel =>
        obtain ⟨s1, s2⟩ := hown.set k (bs (dig (x : Int)))
        exact ⟨k + 1, _, by omega, by go_num, s1, HW.out, hb.setCell hg1 _⟩
      case measure => simp [intOf]; omega
    · obtain rfl : k = n := by omega
      have HJ : Hid (Go.Lib.join (ss.map (·.data.toList)) [s] = txtS s xs) := hid (words_join s (by rw [hown.len, HL.out]) (by rw [HL.out]; exact hwd))
      have hz : (txtS s xs).length ≤ 2 * k := by
        have := txtS_len (s := s) HD.out k (by rw [HL.out]; omega)
        rw [List.take_of_length_le (by rw [HL.out]; omega), bs_size] at this
        exact this
      clear hwd
      go_wp2_with fail
      refine (join_any _ _ _ ss ⟨#[s]⟩ _ hown.has (by show (Go.Lib.join _ [s]).length ≤ _; rw [HJ.out]; omega)).mono ?_
      rintro e w4 ⟨rfl, hb4⟩
      rw [show (⟨#[s]⟩ : ByteArray).data.toList = [s] from rfl, HJ.out]
      go_wp2_with fail
      go_ret
      exact ⟨rfl, hb.trans (hb4.mono hb.size)⟩

set_option maxRecDepth 100000 in
set_option maxHeartbeats 1600000 in
theorem parkText_any (a : Option Addr) (n cap : Nat) (xs : List Int) (w : World) (h : Has w a n cap xs) :
    Calls Tryd.prog 33 #[.slice a n cap] w (PostText w (parkTxt xs)) := by
  have HL := hid h.len
  by_cases hp : isPark xs = true
  · have HR : Hid (parkTxt xs = (txtS 32 xs, true)) := hid (by simp [parkTxt, hp, txtS_blank])
    have HP := hid hp
    have h8 : n ≤ 8 := by have := (isPark_iff.1 hp).1; rw [HL.out] at this; exact this
    have HD := hid (park_digits hp)
    clear hp
    go_enter Tryd.func33, Tryd.ntmps33
    go_wp2_with (go_at_call 52; refine (isParkingFunction_any _ _ _ _ _ h).mono ?_; rintro e w1 ⟨rfl, hb1⟩; rw [HP.out])
    refine (joinNumbers_any 32 _ _ _ _ _ (h.below hb1 (Nat.le_refl _)) h8 HD.out).mono ?_
    rintro e w2 ⟨rfl, hb2⟩
    go_wp2_with fail
    go_ret2
    exact postText HR.out (hb1.trans (hb2.mono hb1.size))
  · have HR : Hid (parkTxt xs = ([], false)) := hid (by simp [parkTxt, hp])
    have HP := hid (Bool.eq_false_iff.2 hp)
    clear hp
    go_enter Tryd.func33, Tryd.ntmps33
    go_wp2_with (go_at_call 52; refine (isParkingFunction_any _ _ _ _ _ h).mono ?_; rintro e w1 ⟨rfl, hb1⟩; rw [HP.out])
    go_ret2
    exact postText_no HR.out hb1

def trTxt (xs : List Int) : List UInt8 := if xs.length = 0 then [45] else txtS 44 xs
def treeTxt (xs : List Int) : List UInt8 × Bool := if treeB xs then ((trTxt xs), true) else ([], false)
theorem tree_digits {xs : List Int} {n : Nat} (h : Tree xs n) : Digits xs := by
  intro i hi
  have h1 := h.nthB i (by rw [← h.len]; exact hi)
  have h2 := h.le
  omega

set_option maxRecDepth 100000 in
set_option maxHeartbeats 800000 in
theorem trText_any (a : Option Addr) (n cap : Nat) (xs : List Int) (w : World) (h : Has w a n cap xs) (hd : Digits xs) :
    Calls Tryd.prog 48 #[.slice a n cap] w fun e w' => e = .returned (.string (bs (trTxt xs))) ∧ Below w.heap.size w w' := by
  have HL := hid h.len
  have hle := h.le
  have HD := hid hd
  clear hd
  by_cases h0 : n = 0
  · have HR : Hid ((trTxt xs) = ([45] : List UInt8)) := hid (by unfold trTxt; rw [HL.out, if_pos h0])
    have hbe : ((n : Int) == 0) = true := by simp [h0]
    have H0 := hid h0
    clear h0
    go_enter Tryd.func48, Tryd.ntmps48
    go_wp2_with fail
    go_ret
    exact ⟨by rw [HR.out]; rfl, Below.refl _ _⟩
  · have HR : Hid ((trTxt xs) = txtS 44 xs) := hid (by unfold trTxt; rw [HL.out, if_neg h0])
    have hbe : ((n : Int) == 0) = false := by simp; omega
    go_enter Tryd.func48, Tryd.ntmps48
    go_wp2_with fail
    go_loopw [3, 11] (fun t i wr => ∃ k : Nat, k ≤ n ∧ i = .int .i64 k ∧ t = .string (bs (txtS 44 (xs.take k))) ∧ Below w.heap.size w wr) (fun _ i _ => n - (intOf i).toNat)
    case atStart => exact ⟨0, Nat.zero_le _, rfl, rfl, Below.refl _ _⟩
    case round =>
      obtain ⟨k, hk, rfl, rfl, hb⟩ := hrel
      by_cases hlt : k < n
      · obtain ⟨b, off, rfl, hbb, hc⟩ := (h.below hb (Nat.le_refl _)).2.2.2.2 (by omega)
        have hck := hc k hlt
        obtain ⟨hv0, hv1⟩ := HD.out k (by rw [HL.out]; exact hlt)
        have hz1 := txtS_len (s := 44) HD.out k (by rw [HL.out]; exact hk)
        have hz2 := dig_len hv0 hv1
        clear hc
        by_cases h0 : k = 0
        · have HS : Hid (txtS 44 (xs.take (k + 1)) = txtS 44 (xs.take k) ++ dig (nth xs k)) := hid (by subst h0; rw [txtS_first (by rw [HL.out]; exact hlt)]; simp [txtS_nil])
          have hkn : ¬ 0 < k := by omega
          have hkn' : ¬ (0 : Int) < (k : Int) := by omega
          clear h0
          go_wp2_with (go_at_call 68; refine (l1Num_small _ _ hv0 hv1).mono ?_; rintro e w1 ⟨rfl, hb1⟩)
          go_roundw
          case rel => exact ⟨k + 1, by omega, by go_num, by rw [HS.out, ← bs_append], hb.trans (hb1.mono hb.size)⟩
          case measure => simp [intOf]; omega
        · have HS := hid (txtS_succ (s := 44) (xs := xs) (k := k) (by rw [HL.out]; exact hlt) (by omega))
          have hkp : 0 < k := by omega
          have hkp' : (0 : Int) < (k : Int) := by omega
          go_wp2_with (go_at_call 68; refine (l1Num_small _ _ hv0 hv1).mono ?_; rintro e w1 ⟨rfl, hb1⟩)
          go_roundw
          case rel => exact ⟨k + 1, by omega, by go_num, by rw [HS.out, ← bs_append, ← bs_append]; rfl, hb.trans (hb1.mono hb.size)⟩
          case measure => simp [intOf]; omega
      · obtain rfl : k = n := by omega
        go_wp2_with fail
        go_ret
        exact ⟨by rw [HR.out, List.take_of_length_le (by rw [HL.out]; omega)]; rfl, hb⟩

theorem specTreeText_any (a : Option Addr) (n cap : Nat) (xs : List Int) (w : World) (h : Has w a n cap xs) :
    Calls Tryd.prog 17 #[.slice a n cap] w (PostText w (treeTxt xs)) := by
  by_cases hp : treeB xs = true
  · have HR : Hid (treeTxt xs = ((trTxt xs), true)) := hid (by simp only [treeTxt]; rw [hp]; rfl)
    have HD := hid (tree_digits (tree_of hp h.len))
    have HP := hid hp
    clear hp
    go_enter Tryd.func17, Tryd.ntmps17
    go_wp2_with (go_at_call 47; refine (trGood_any _ _ _ _ _ h).mono ?_; rintro e w' ⟨rfl, rfl⟩; rw [HP.out])
    refine (trText_any _ _ _ _ _ h HD.out).mono ?_
    rintro e w2 ⟨rfl, hb2⟩
    go_wp2_with fail
    go_ret2
    exact postText HR.out hb2
  · have HR : Hid (treeTxt xs = ([], false)) := hid (by simp [treeTxt, hp])
    have HP := hid (Bool.eq_false_iff.2 hp)
    clear hp
    go_enter Tryd.func17, Tryd.ntmps17
    go_wp2_with (go_at_call 47; refine (trGood_any _ _ _ _ _ h).mono ?_; rintro e w' ⟨rfl, rfl⟩; rw [HP.out])
    go_ret2
    exact postText_no HR.out (Below.refl _ _)

set_option maxHeartbeats 800000 in
theorem listText_any (a : Option Addr) (n cap : Nat) (xs : List Int) (w : World) (h : Has w a n cap xs) (h8 : n ≤ 8) (hd : Digits xs) :
    Calls Tryd.prog 42 #[.slice a n cap] w fun e w' => e = .returned (.string (bs (trTxt xs))) ∧ Below w.heap.size w w' := by
  have HL := hid h.len
  have HD := hid hd
  clear hd
  by_cases h0 : n = 0
  · have HR : Hid (trTxt xs = [45]) := hid (by unfold trTxt; rw [HL.out, if_pos h0])
    have hbe : ((n : Int) == 0) = true := by simp [h0]
    have H0 := hid h0
    clear h0
    go_enter Tryd.func42, Tryd.ntmps42
    go_wp2_with fail
    go_ret
    exact ⟨by rw [HR.out]; rfl, Below.refl _ _⟩
  · have HR : Hid (trTxt xs = txtS 44 xs) := hid (by unfold trTxt; rw [HL.out, if_neg h0])
    have hbe : ((n : Int) == 0) = false := by simp; omega
    clear h0
    go_enter Tryd.func42, Tryd.ntmps42
    go_wp2_with fail
    refine (joinNumbers_any 44 _ _ _ _ _ h h8 HD.out).mono ?_
    rintro e w2 ⟨rfl, hb2⟩
    go_wp2_with fail
    go_ret
    exact ⟨by rw [HR.out]; rfl, hb2⟩

set_option maxHeartbeats 800000 in
theorem implTreeText_any (a : Option Addr) (n cap : Nat) (xs : List Int) (w : World) (h : Has w a n cap xs) :
    Calls Tryd.prog 19 #[.slice a n cap] w (PostText w (treeTxt xs)) := by
  by_cases hp : treeB xs = true
  · have ht := tree_of hp h.len
    have HD := hid (tree_digits ht)
    have h8 := ht.le
    have HR : Hid (treeTxt xs = (trTxt xs, true)) := hid (by unfold treeTxt; rw [if_pos hp])
    have HP := hid hp
    clear hp ht
    go_enter Tryd.func19, Tryd.ntmps19
    go_wp2_with (go_at_call 49; refine (isTree_any _ _ _ _ _ h).mono ?_; rintro e w1 ⟨rfl, hb1⟩; rw [HP.out])
    refine (listText_any _ _ _ _ _ (h.below hb1 (Nat.le_refl _)) h8 HD.out).mono ?_
    rintro e w2 ⟨rfl, hb2⟩
    go_wp2_with fail
    go_ret2
    exact postText HR.out (hb1.trans (hb2.mono hb1.size))
  · have HR : Hid (treeTxt xs = ([], false)) := hid (by simp [treeTxt, hp])
    have HP := hid (Bool.eq_false_iff.2 hp)
    clear hp
    go_enter Tryd.func19, Tryd.ntmps19
    go_wp2_with (go_at_call 49; refine (isTree_any _ _ _ _ _ h).mono ?_; rintro e w1 ⟨rfl, hb1⟩; rw [HP.out])
    go_ret2
    exact postText_no HR.out hb1

theorem neq_self_text (l : List UInt8) : ((bs l).data.toList != (bs l).data.toList) = false := by simp

end Go.Proofs.YtpjgidjkpcbniacDoor
