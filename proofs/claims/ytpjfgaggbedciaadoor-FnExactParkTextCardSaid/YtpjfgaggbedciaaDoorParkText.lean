/- ParkText: the model's and the program's, by their contracts. -/
import Derived.Test.YtpjfgaggbedciaaDoorText
namespace Go.Proofs.YtpjfgaggbedciaaDoor
open Go.RowKit

/-- A text and a bool. -/
def PostText (w : World) (r : List UInt8 × Bool) (e : Ending) (w' : World) : Prop := e = .returned (.tuple #[.string (bs r.1), .bool r.2]) ∧ Below w.heap.size w w'
theorem postText {w w' : World} {r : List UInt8 × Bool} {x : List UInt8} {ok : Bool} (hr : r = (x, ok)) (hb : Below w.heap.size w w') : PostText w r (.returned (.tuple #[.string (bs x), .bool ok])) w' := by subst hr; exact ⟨rfl, hb⟩
theorem postText_no {w w' : World} {r : List UInt8 × Bool} (hr : r = ([], false)) (hb : Below w.heap.size w w') : PostText w r (.returned (.tuple #[.string ⟨#[]⟩, .bool false])) w' := postText hr hb

def parkTxt (xs : List Int) : List UInt8 × Bool := if isPark xs then (txt xs, true) else ([], false)

theorem park_digits {xs : List Int} (h : isPark xs = true) : Digits xs := by
  obtain ⟨h1, h2, _⟩ := isPark_iff.1 h
  intro i hi
  have := h2 _ (nth_mem hi)
  omega

theorem specParkText_any (a : Option Addr) (n cap : Nat) (xs : List Int) (w : World) (h : Has w a n cap xs) :
    Calls Tryd.prog 15 #[.slice a n cap] w (PostText w (parkTxt xs)) := by
  by_cases hp : isPark xs = true
  · have HR : Hid (parkTxt xs = (txt xs, true)) := hid (by simp [parkTxt, hp])
    have HP := hid hp
    clear hp
    go_enter Tryd.func15, Tryd.ntmps15
    go_wp2_with (go_at_call 25; refine (paParking_any _ _ _ _ _ h).mono ?_; rintro e w1 ⟨rfl, hb1⟩; rw [HP.out])
    refine (paText_any _ _ _ _ _ (h.below hb1 (Nat.le_refl _)) (park_digits HP.out)).mono ?_
    rintro e w2 ⟨rfl, hb2⟩
    go_wp2_with fail
    go_ret2
    exact postText HR.out (hb1.trans (hb2.mono hb1.size))
  · have HR : Hid (parkTxt xs = ([], false)) := hid (by simp [parkTxt, hp])
    have HP := hid (Bool.eq_false_iff.2 hp)
    clear hp
    go_enter Tryd.func15, Tryd.ntmps15
    go_wp2_with (go_at_call 25; refine (paParking_any _ _ _ _ _ h).mono ?_; rintro e w1 ⟨rfl, hb1⟩; rw [HP.out])
    go_ret2
    exact postText_no HR.out hb1

/-- The words of a list, as far as they are made. -/
def Words (xs : List Int) (ss : List ByteArray) (k : Nat) : Prop := ∀ i, i < k → nthS ss i = bs (dig (nth xs i))
theorem words_join {xs : List Int} {ss : List ByteArray} (hl : ss.length = xs.length) (h : Words xs ss xs.length) : Go.Lib.join (ss.map (·.data.toList)) [32] = txt xs := by
  unfold txt
  congr 1
  apply List.ext_getElem (by simp [hl])
  intro i h1 h2
  have := h i (by simpa using h2)
  simp at h1 h2
  simp only [nthS, nth, List.getD_eq_getElem?_getD, h1, h2, List.getElem?_eq_getElem, Option.getD_some] at this
  simp [this, bs]
theorem words_set {xs : List Int} {ss : List ByteArray} {k : Nat} (hk : k < ss.length) (h : Words xs ss k) : Words xs (ss.set k (bs (dig (nth xs k)))) (k + 1) := by
  intro i hi
  rw [nth_setS hk]
  split
  · subst_vars; rfl
  · exact h i (by omega)

/-- strings.Join, at a slice of strings as it reads. -/
theorem join_any (a : Option Addr) (n cap : Nat) (ss : List ByteArray) (sep : ByteArray) (w : World) (h : HasS w a n cap ss) (hlen : (Go.Lib.join (ss.map (·.data.toList)) sep.data.toList).length ≤ 140737488355328) :
    Calls Tryd.prog 31 #[.slice a n cap, .string sep] w fun e w' => e = .returned (.string (bs (Go.Lib.join (ss.map (·.data.toList)) sep.data.toList))) ∧ Below w.heap.size w w' := by
  obtain ⟨h0, h1, h2, h3, h4⟩ := h
  subst h0
  by_cases hn : ss.length = 0
  · obtain rfl : ss = [] := List.eq_nil_of_length_eq_zero hn
    exact (Tryd.strings_Join_none a cap sep w).mono fun e w' ⟨he, hw⟩ => ⟨he, by rw [hw]; exact Below.refl _ _⟩
  · obtain ⟨b, off, rfl, hb, hc⟩ := h4 (by omega)
    exact Tryd.strings_Join b off cap ss sep w (fun j x hj => by
      have hlt : j < ss.length := (List.getElem?_eq_some_iff.1 hj).1
      rw [hc j hlt]
      simp [nthS, hj]) hb (by omega) h1 hlen

set_option maxRecDepth 100000 in
set_option maxHeartbeats 1600000 in
theorem parkText_any (a : Option Addr) (n cap : Nat) (xs : List Int) (w : World) (h : Has w a n cap xs) :
    Calls Tryd.prog 14 #[.slice a n cap] w (PostText w (parkTxt xs)) := by
  have HL := hid h.len
  by_cases hp : isPark xs = true
  · have HR : Hid (parkTxt xs = (txt xs, true)) := hid (by simp [parkTxt, hp])
    have HP := hid hp
    have h8 : n ≤ 8 := by have := (isPark_iff.1 hp).1; rw [HL.out] at this; exact this
    have HD := hid (park_digits hp)
    clear hp
    go_enter Tryd.func14, Tryd.ntmps14
    go_wp2_with fail
    refine (isParkingFunction_any _ _ _ _ _ h).mono ?_
    rintro e w1 ⟨rfl, hb1⟩
    rw [HP.out]
    have hsz := hb1.size
    go_wp2_with (at_make; refine wpList_make_intsS _ rfl _ _ rfl _ rfl rfl (by omega) ?_; intro a3 cap3 w3 hown3 hb3)
    go_loopw [15] (fun i wr => ∃ (k : Nat) (ss : List ByteArray), k ≤ n ∧ i = .int .i64 k ∧ OwnS wr w1.heap.size a3 n cap3 ss ∧ Words xs ss k ∧ Below w1.heap.size w1 wr) (fun i _ => n - (intOf i).toNat)
    case atStart => exact ⟨0, _, Nat.zero_le _, rfl, hown3, fun i hi => by omega, hb3⟩
    case round =>
      obtain ⟨k, ss, hk, rfl, hown, hwd, hb⟩ := hrel
      by_cases hlt : k < n
      · obtain ⟨b1, off1, rfl, hbb1, hc1⟩ := ((h.below hb1 (Nat.le_refl _)).below hb (Nat.le_refl _)).2.2.2.2 (by omega)
        obtain ⟨g, rfl, hg1, hg2, hg3, hg4⟩ := hown.opened (by omega)
        have hck := hc1 k hlt
        have hgk := hg3 k hlt
        have hgf := hg4 k
        obtain ⟨hv0, hv1⟩ := HD.out k (by rw [HL.out]; exact hlt)
        have HW := hid (words_set (by rw [hown.len]; exact hlt) hwd)
        obtain ⟨x, hx⟩ : ∃ x : Nat, nth xs k = x := ⟨(nth xs k).toNat, by omega⟩
        rw [hx] at hck HW hv0 hv1
        clear hc1 hg3 hg4 hwd hx
        go_wp2_with (go_at_call 30; refine (Tryd.strconv_Itoa_small x (by omega) _).mono ?_; rintro e _ ⟨rfl, rfl⟩)
        go_roundw
        case rel =>
          obtain ⟨s1, s2⟩ := hown.set k (bs (dig (x : Int)))
          exact ⟨k + 1, _, by omega, by go_num, s1, HW.out, hb.setCell hg1 _⟩
        case measure => simp [intOf]; omega
      · obtain rfl : k = n := by omega
        have HJ : Hid (Go.Lib.join (ss.map (·.data.toList)) [32] = txt xs) := hid (words_join (by rw [hown.len, HL.out]) (by rw [HL.out]; exact hwd))
        have hz : (txt xs).length ≤ 2 * k := by
          have := txt_len HD.out k (by rw [HL.out]; omega)
          rw [List.take_of_length_le (by rw [HL.out]; omega), bs_size] at this
          exact this
        clear hwd
        go_wp2_with fail
        refine (join_any _ _ _ ss ⟨#[32]⟩ _ hown.has (by show (Go.Lib.join _ [32]).length ≤ _; rw [HJ.out]; omega)).mono ?_
        rintro e w4 ⟨rfl, hb4⟩
        rw [show (⟨#[32]⟩ : ByteArray).data.toList = [32] from rfl, HJ.out]
        go_wp2_with fail
        go_ret2
        exact postText HR.out (hb1.trans ((hb.mono hsz).trans (hb4.mono (Nat.le_trans hsz hb.size))))
  · have HR : Hid (parkTxt xs = ([], false)) := hid (by simp [parkTxt, hp])
    have HP := hid (Bool.eq_false_iff.2 hp)
    clear hp
    go_enter Tryd.func14, Tryd.ntmps14
    go_wp2_with (go_at_call 24; refine (isParkingFunction_any _ _ _ _ _ h).mono ?_; rintro e w1 ⟨rfl, hb1⟩; rw [HP.out])
    go_ret2
    exact postText_no HR.out hb1

theorem neq_self_text (l : List UInt8) : ((bs l).data.toList != (bs l).data.toList) = false := by simp

end Go.Proofs.YtpjfgaggbedciaaDoor
