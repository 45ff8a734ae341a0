/-
  One of a list of strings, drawn.
-/
import Derived.Test.YtnakpbagaopelaaDoorDrawOn
namespace Go.Proofs.YtnakpbagaopelaaDoor
open Go Go.RowKit

theorem drawPick (g cap : Nat) (a : Option Addr) (ss : List ByteArray) (w : World) (h0 : 0 < ss.length) (h1 : ss.length ≤ 1099511627776) (hcur : Cur w g) (hl : Beside w g a (strVals ss)) :
    Calls Tryd.prog 27 #[.pointer (some ⟨g, 0, none⟩), .slice a ss.length cap] w (PickEnd g (strVals ss) w) := by
  go_enter Tryd.func27, Tryd.ntmps27
  go_wp2_with fail
  refine (drawBelow g ss.length _ h0 h1 hcur).mono ?_
  rintro e w1 ⟨x, hx, rfl, hc1, hw1⟩
  obtain ⟨b, o, rfl, hbg, hbw, hc⟩ := hl x (.string ss[x]) (by simp [strVals, hx])
  have hc2 : w1.cell? ⟨b, o + x, none⟩ = some (.string ss[x]) := hw1.cell hc (by simpa using hbg)
  clear hc
  go_wp2
  go_ret
  exact ⟨.string ss[x], by simp [strVals], rfl, hc1, hw1⟩
end Go.Proofs.YtnakpbagaopelaaDoor
