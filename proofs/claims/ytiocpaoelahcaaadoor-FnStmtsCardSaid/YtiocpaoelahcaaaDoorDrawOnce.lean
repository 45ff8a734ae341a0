/-
  A drawn flag.
-/
import Derived.Test.YtiocpaoelahcaaaDoorDrawOn
namespace Go.Proofs.YtiocpaoelahcaaaDoor
open Go Go.RowKit

def FlagEnd (g : Nat) (w : World) (e : Ending) (w' : World) : Prop := ∃ b : Bool, e = .returned (.bool b) ∧ Cur w' g ∧ w.grownBy w' (some g)
theorem drawOnce (g n : Nat) (w : World) (h0 : 0 < n) (h1 : n ≤ 1099511627776) (hcur : Cur w g) : Calls Tryd.prog 25 #[.pointer (some ⟨g, 0, none⟩), .int .i64 (n : Int)] w (FlagEnd g w) := by
  go_enter Tryd.func25, Tryd.ntmps25
  go_wp2_with fail
  refine (drawBelow g n _ h0 h1 hcur).mono ?_
  rintro e w1 ⟨x, hx, rfl, hc1, hw1⟩
  go_wp2
  go_ret
  exact ⟨_, rfl, hc1, hw1⟩

end Go.Proofs.YtiocpaoelahcaaaDoor
