/-
  One of a list of ints, drawn.
-/
import Derived.Test.YtbnpfgkcehlfnaaDoorDrawOn
namespace Go.Proofs.YtbnpfgkcehlfnaaDoor
open Go Go.RowKit

theorem drawPickInt (g cap : Nat) (a : Option Addr) (ns : List Int) (w : World) (h0 : 0 < ns.length) (h1 : ns.length ≤ 1099511627776) (hcur : Cur w g) (hl : Beside w g a (intVals ns)) :
    Calls Tryd.prog 33 #[.pointer (some ⟨g, 0, none⟩), .slice a ns.length cap] w (PickEnd g (intVals ns) w) := by
  go_enter Tryd.func33, Tryd.ntmps33
  go_wp2_with fail
  refine (drawBelow g ns.length _ h0 h1 hcur).mono ?_
  rintro e w1 ⟨x, hx, rfl, hc1, hw1⟩
  obtain ⟨b, o, rfl, hbg, hbw, hc⟩ := hl x (.int .i64 ns[x]) (by simp [intVals, hx])
  have hc2 : w1.cell? ⟨b, o + x, none⟩ = some (.int .i64 ns[x]) := hw1.cell hc (by simpa using hbg)
  clear hc
  go_wp2
  go_ret
  exact ⟨.int .i64 ns[x], by simp [intVals], rfl, hc1, hw1⟩

end Go.Proofs.YtbnpfgkcehlfnaaDoor
