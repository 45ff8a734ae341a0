/-
  The law's comparison of two []int: true where both hold the same numbers.
-/
import Derived.Test.YtplchhahjmoodaaDoorNums
import Derived.Test.YtplchhahjmoodaaDoorChecked
namespace Go.Proofs.YtplchhahjmoodaaDoor
open Go Go.RowKit

def SameNumsEnd (r : Bool) (w : World) (e : Ending) (w' : World) : Prop := ∃ n, e = .returned (.bool r) ∧ w' = w.drewN n

set_option maxHeartbeats 400000 in
theorem eqInts (a b : Option Addr) (ca cb : Nat) (ns : List Int) (w : World) (hn : ns.length ≤ maxLen) (ha : Row w w.heap.size a (intVals ns)) (hb : Row w w.heap.size b (intVals ns)) :
    Calls Tryd.prog 41 #[.slice a ns.length ca, .slice b ns.length cb] w (SameNumsEnd true w) := by
  unfold maxLen at hn
  go_enter Tryd.func41, Tryd.ntmps41
  go_wp2
  go_loopw [5] (fun i wr => ∃ (k n : Nat), k ≤ ns.length ∧ i = .int .i64 k ∧ wr = w.drewN n) (fun i _ => ns.length - (intOf i).toNat)
  case atStart => exact ⟨0, 0, Nat.zero_le _, rfl, rfl⟩
  case round =>
    obtain ⟨k, n, hk, rfl, rfl⟩ := hrel
    by_cases hlt : k < ns.length
    · obtain ⟨ba, oa, rfl, _, hca⟩ := ha k (.int .i64 ns[k]) (intVals_at ns k hlt)
      obtain ⟨bb, ob, rfl, _, hcb⟩ := hb k (.int .i64 ns[k]) (intVals_at ns k hlt)
      go_wp2
      go_quiet (fail)
      go_wp2
      go_roundw
      case rel => exact ⟨k + 1, _, by omega, by go_num, rfl⟩
      case measure => simp [intOf]; omega
    · go_wp2
      go_ret
      exact ⟨_, rfl, rfl⟩
end Go.Proofs.YtplchhahjmoodaaDoor
