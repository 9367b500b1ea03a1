/- ParkText: the model's and the program's, by their contracts. -/
import Derived.Test.YtadcmghjhgjeeacDoorText
namespace Go.Proofs.YtadcmghjhgjeeacDoor
open Go.RowKit

/-- A text and a bool. -/
def PostText (w : World) (r : List UInt8 × Bool) (e : Ending) (w' : World) : Prop := e = .returned (.tuple #[.string (bs r.1), .bool r.2]) ∧ Below w.heap.size w w'
theorem postText {w w' : World} {r : List UInt8 × Bool} {x : List UInt8} {ok : Bool} (hr : r = (x, ok)) (hb : Below w.heap.size w w') : PostText w r (.returned (.tuple #[.string (bs x), .bool ok])) w' := by subst hr; exact ⟨rfl, hb⟩
theorem postText_no {w w' : World} {r : List UInt8 × Bool} (hr : r = ([], false)) (hb : Below w.heap.size w w') : PostText w r (.returned (.tuple #[.string ⟨#[]⟩, .bool false])) w' := postText hr hb

def parkTxt (xs : List Int) : List UInt8 × Bool := if isPark xs then (txt xs, true) else ([], false)

theorem park_digits {xs : List Int} (h : isPark xs = true) : Digits xs := by
  obtain ⟨h1, h2, _⟩ := isPark_iff.1 h
  intro i hi
  have := h2 _ (nth_mem hi)
  omega

/-- The words of a list, as far as they are made. -/
def Words (xs : List Int) (ss : List ByteArray) (k : Nat) : Prop := ∀ i, i < k → nthS ss i = bs (dig (nth xs i))
theorem words_join {xs : List Int} {ss : List ByteArray} (hl : ss.length = xs.length) (h : Words xs ss xs.length) : Go.Lib.join (ss.map (·.data.toList)) [32] = txt xs := by
  unfold txt
  congr 1
  apply List.ext_getElem (by simp [hl])
  intro i h1 h2
  have := h i (by simpa using h2)
  simp at h1 h2
  simp only [nthS, nth, List.getD_eq_getElem?_getD, h1, h2, List.getElem?_eq_getElem, Option.getD_some] at this
  simp [this, bs]
theorem words_set {xs : List Int} {ss : List ByteArray} {k : Nat} (hk : k < ss.length) (h : Words xs ss k) : Words xs (ss.set k (bs (dig (nth xs k)))) (k + 1) := by
  intro i hi
  rw [nth_setS hk]
  split
  · subst_vars; rfl
  · exact h i (by omega)

/-- strings.Join, at a slice of strings as it reads. -/
theorem join_any (a : Option Addr) (n cap : Nat) (ss : List ByteArray) (sep : ByteArray) (w : World) (h : HasS w a n cap ss) (hlen : (Go.Lib.join (ss.map (·.data.toList)) sep.data.toList).length ≤ 140737488355328) :
    Calls Tryd.prog 20 #[.slice a n cap, .string sep] w fun e w' => e = .returned (.string (bs (Go.Lib.join (ss.map (·.data.toList)) sep.data.toList))) ∧ Below w.heap.size w w' := by
  obtain ⟨h0, h1, h2, h3, h4⟩ := h
  subst h0
  by_cases hn : ss.length = 0
  · obtain rfl : ss = [] := List.eq_nil_of_length_eq_zero hn
    exact (Tryd.strings_Join_none a cap sep w).mono fun e w' ⟨he, hw⟩ => ⟨he, by rw [hw]; exact Below.refl _ _⟩
  · obtain ⟨b, off, rfl, hb, hc⟩ := h4 (by omega)
    exact Tryd.strings_Join b off cap ss sep w (fun j x hj => by
      have hlt : j < ss.length := (List.getElem?_eq_some_iff.1 hj).1
      rw [hc j hlt]
      simp [nthS, hj]) hb (by omega) h1 hlen

theorem neq_self_text (l : List UInt8) : ((bs l).data.toList != (bs l).data.toList) = false := by simp

end Go.Proofs.YtadcmghjhgjeeacDoor
