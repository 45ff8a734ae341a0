/-
  The program's SplitByte, on the library's Split: the pieces of the string between the occurrences of the byte, in a new row.
-/
import Derived.Test.YtkjejlgdhaihfaaDoorSpecSplit
import Derived.Test.YtkjejlgdhaihfaaDoorDigits
import Derived.Test.YtkjejlgdhaihfaaDoorShelf
namespace Go.Proofs.YtkjejlgdhaihfaaDoor
open Go Go.RowKit

/-- The library's own switch holds some int. -/
def Switch (w : World) : Prop := ∃ m : Int, w.cell? ⟨3, 0, none⟩ = some (.int .i64 m)
theorem switch_of {w : World} (h : w.ShapedOpen Tryd.prog) : Switch w := Tryd.laysM146.s1_3 w h
theorem Switch.keeps {w w' : World} (h : Switch w) (hb : Below w.heap.size w w') : Switch w' := by
  obtain ⟨m, hm⟩ := h
  refine ⟨m, (hb.cell ?_).trans hm⟩
  exact World.block_lt_of_cell? w _ hm

theorem libSplit (s : ByteArray) (c : UInt8) (w : World) (hs : s.size ≤ 1099511627776) (hs2 : s.size ≤ 2000000000) (hsw : Switch w) :
    Calls Tryd.prog 35 #[.string s, .string ⟨#[c]⟩] w (RowEnd (pieces c s) w) := by
  obtain ⟨m, hm⟩ := hsw
  refine (Tryd.strings_Split s ⟨#[c]⟩ m w (by omega) hm (by show 1 ≤ 1; omega)).mono fun e w' ⟨he, hw⟩ => ?_
  subst he
  subst hw
  have hlen := pieces_length c s
  rw [splitB_pieces, ← pieces_count]
  refine ⟨_, _, rfl, Nat.le_refl _, ?_, (Below.refl _ _).alloc (Nat.le_refl _) _⟩
  exact World.ownsRow_lit w _ _ (Nat.le_refl _) (by unfold maxLen; omega) (by simp)

set_option maxRecDepth 100000 in
theorem implSplit (s : ByteArray) (c : UInt8) (w : World) (hs : s.size ≤ 2000000000) (hsw : Switch w) :
    Calls Tryd.prog 18 #[.string s, .int .u8 (c.toNat : Int)] w (RowEnd (pieces c s) w) := by
  have kc : ∀ W : World, (convert 22 9 (.slice (some ⟨W.heap.size, 0, none⟩) 1 1)).run Tryd.prog (W.alloc (.cells #[.int .u8 (c.toNat : Int)] 5)) = .ok (.string ⟨#[c]⟩) (W.alloc (.cells #[.int .u8 (c.toNat : Int)] 5)) := fun W => by
    have h := conv_byte (P := Tryd.prog) Tryd.underlying22 Tryd.underlying5 Tryd.underlying9 W c.toNat c.toNat_lt
    rw [UInt8.ofNat_toNat] at h
    exact h
  go_enter Tryd.func18, Tryd.ntmps18
  go_wp2_with fail
  have hb0 : Below w.heap.size w (w.alloc (.cells #[.int .u8 (c.toNat : Int)] 5)) := (Below.refl _ _).alloc (Nat.le_refl _) _
  refine (libSplit s c _ (by omega) hs (hsw.keeps hb0)).mono ?_
  rintro e w1 ⟨a, cap, rfl, hcap, hown, hb⟩
  go_wp2
  go_ret
  exact ⟨a, cap, rfl, hcap, own_base hown hb0.size, hb0.trans (hb.mono hb0.size)⟩
end Go.Proofs.YtkjejlgdhaihfaaDoor
