/-
  The program's Join: it returns the strings one after the other, the separator between them.
-/
import Derived.Test.YtplchhahjmoodaaGreatDoorChecked
import Derived.Test.YtplchhahjmoodaaGreatDoorZ04
import Derived.Test.YtplchhahjmoodaaGreatDoorZ01
namespace Go.Proofs.YtplchhahjmoodaaGreatDoor
open Go Go.RowKit

/-- It returned the joined bytes, and nothing old has turned. -/
def JoinedEnd (l : List UInt8) (w : World) (e : Ending) (w' : World) : Prop := e = .returned (.string ⟨l.toArray⟩) ∧ Below w.heap.size w w'

theorem libJoin (a : Option Addr) (cap : Nat) (ss : List ByteArray) (sep : ByteArray) (w : World) (hcap : ss.length ≤ cap) (hn : ss.length ≤ 70368744177664) (hB : ss.length * sep.size + total ss ≤ 70368744177664) (hrow : Row w w.heap.size a (strVals ss)) :
    Calls Tryz.prog 106 #[.slice a ss.length cap, .string sep] w (JoinedEnd (jn ss sep) w) := by
  cases ss with
  | nil => exact (Tryz.strings_Join_none a cap sep w).mono fun e w' ⟨he, hw⟩ => ⟨he, by subst hw; exact Below.refl _ _⟩
  | cons s r =>
    obtain ⟨b, o, rfl, hbW, _⟩ := hrow 0 (.string s) (by simp [strVals])
    refine (Tryz.strings_Join b o cap (s :: r) sep w (fun j x hx => ?_) hbW (by omega) hcap (Nat.le_trans (jn_length (s :: r) sep) (by omega))).mono fun e w' h => h
    obtain ⟨b', o', he, _, hc⟩ := hrow j (.string x) (by simp only [strVals, List.getElem?_map, hx, Option.map_some])
    simp only [Option.some.injEq, Addr.mk.injEq, and_true] at he
    obtain ⟨rfl, rfl⟩ := he
    exact hc

set_option maxHeartbeats 400000 in
theorem implJoin (a : Option Addr) (cap : Nat) (ss : List ByteArray) (sep : ByteArray) (w : World) (hcap : ss.length ≤ cap) (hn : ss.length ≤ 70368744177664) (hB : ss.length * sep.size + total ss ≤ 70368744177664) (hrow : Row w w.heap.size a (strVals ss)) :
    Calls Tryz.prog 63 #[.slice a ss.length cap, .string sep] w (JoinedEnd (jn ss sep) w) := by
  go_enter Tryz.func63, Tryz.ntmps63
  go_wp2_with fail
  refine (libJoin a cap ss sep _ hcap hn hB hrow).mono ?_
  rintro e w1 ⟨rfl, hb⟩
  go_wp2
  go_ret
  exact ⟨rfl, hb⟩
end Go.Proofs.YtplchhahjmoodaaGreatDoor
