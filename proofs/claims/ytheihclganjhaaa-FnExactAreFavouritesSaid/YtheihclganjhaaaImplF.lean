/- Favourites: the model's exported function, and both in the laws' words. -/
import Derived.Test.YtheihclganjhaaaImplE
namespace Go.Proofs.Ytheihclganjhaaa
open Go.RowKit

theorem specFav_any (a : Option Addr) (n cap : Nat) (xs : List Int) (p : Int) (w : World) (h : Has w a n cap xs) :
    Calls Try.prog 15 #[.slice a n cap, .int .i64 p] w (PostBool w (good xs p)) := by
  go_enter Try.func15, Try.ntmps15
  go_wp2_with (go_at_call 43; refine (paGood_any _ _ _ _ _ _ h).mono ?_; rintro e w' ⟨rfl, rfl⟩)
  go_ret
  exact postBool rfl (Below.refl _ _)

theorem implFav_any (a : Option Addr) (n cap : Nat) (xs : List Int) (p : Int) (w : World) (h : Has w a n cap xs) :
    Calls Try.prog 17 #[.slice a n cap, .int .i64 p] w (PostBool w (good xs p)) :=
  (areFavourites_any a n cap xs p w h).mono fun e w' ⟨he, hw⟩ => ⟨he, by subst hw; exact Below.refl _ _⟩
end Go.Proofs.Ytheihclganjhaaa
