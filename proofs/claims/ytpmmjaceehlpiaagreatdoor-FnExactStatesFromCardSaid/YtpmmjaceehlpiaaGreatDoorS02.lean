/-
  A row of one's own that is nil.
-/
import Derived.Test.YtpmmjaceehlpiaaGreatDoorS01
namespace Go.Proofs.YtpmmjaceehlpiaaGreatDoor
open Go Go.RowKit

theorem own_nils {w : World} {base e size n : Nat} {a : Option Addr} {c : Nat} {xs : List Value} (h : w.ownsRow base e size (.slice a n c) n xs) : a = none → n = 0 ∧ c = 0 := by
  intro ha
  rcases h.2 with ⟨hv, h0⟩ | ⟨g, cap, cur, hv, _⟩
  · injection hv with _ _ h2
    exact ⟨h0, h2⟩
  · injection hv with h1
    rw [ha] at h1
    cases h1
end Go.Proofs.YtpmmjaceehlpiaaGreatDoor
