/-
  The program's SplitByte, on the library's Split: the pieces of the string between the occurrences of the byte, in a new row.
-/
import Derived.Test.YtabedmjaodinbaaGreatDoorGuess
import Derived.Test.YtabedmjaodinbaaGreatDoorSpecSplit
import Derived.Test.YtabedmjaodinbaaGreatDoorDigits
import Derived.Test.YtabedmjaodinbaaGreatDoorShelf
namespace Go.Proofs.YtabedmjaodinbaaGreatDoor
open Go Go.RowKit

/-- The library's own switch holds some int. -/

theorem libSplit (s : ByteArray) (c : UInt8) (w : World) (hs : s.size ≤ 1099511627776) (hs2 : s.size ≤ 2000000000) (hsw : Switch w) :
    Calls Tryz.prog 69 #[.string s, .string ⟨#[c]⟩] w (RowEnd (pieces c s) w) := by
  obtain ⟨m, hm⟩ := hsw
  refine (Tryz.strings_Split s ⟨#[c]⟩ m w (by omega) hm (by show 1 ≤ 1; omega)).mono fun e w' ⟨he, hw⟩ => ?_
  subst he
  subst hw
  have hlen := pieces_length c s
  rw [splitB_pieces, ← pieces_count]
  refine ⟨_, _, rfl, Nat.le_refl _, ?_, (Below.refl _ _).alloc (Nat.le_refl _) _⟩
  exact World.ownsRow_lit w _ _ (Nat.le_refl _) (by unfold maxLen; omega) (by simp)

end Go.Proofs.YtabedmjaodinbaaGreatDoor
