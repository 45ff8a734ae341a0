/-
  The law's comparison of two []string: true where both hold the same strings.
-/
import Derived.Test.YtplchhahjmoodaaDoorWords
import Derived.Test.YtplchhahjmoodaaDoorChecked
namespace Go.Proofs.YtplchhahjmoodaaDoor
open Go Go.RowKit

/-- It answers true, and the world is as it was, but for draws. -/
def SameEnd (r : Bool) (w : World) (e : Ending) (w' : World) : Prop := ∃ n, e = .returned (.bool r) ∧ w' = w.drewN n

set_option maxHeartbeats 400000 in
theorem eqStrs (a b : Option Addr) (ca cb : Nat) (ss : List ByteArray) (w : World) (hn : ss.length ≤ maxLen) (ha : Row w w.heap.size a (strVals ss)) (hb : Row w w.heap.size b (strVals ss)) :
    Calls Tryd.prog 10 #[.slice a ss.length ca, .slice b ss.length cb] w (SameEnd true w) := by
  unfold maxLen at hn
  go_enter Tryd.func10, Tryd.ntmps10
  go_wp2
  go_loopw [5] (fun i wr => ∃ (k n : Nat), k ≤ ss.length ∧ i = .int .i64 k ∧ wr = w.drewN n) (fun i _ => ss.length - (intOf i).toNat)
  case atStart => exact ⟨0, 0, Nat.zero_le _, rfl, rfl⟩
  case round =>
    obtain ⟨k, n, hk, rfl, rfl⟩ := hrel
    by_cases hlt : k < ss.length
    · obtain ⟨ba, oa, rfl, _, hca⟩ := ha k (.string ss[k]) (by simp [strVals, hlt])
      obtain ⟨bb, ob, rfl, _, hcb⟩ := hb k (.string ss[k]) (by simp [strVals, hlt])
      go_wp2
      go_quiet (fail)
      go_wp2
      go_roundw
      case rel => exact ⟨k + 1, _, by omega, by go_num, rfl⟩
      case measure => simp [intOf]; omega
    · go_wp2
      go_ret
      exact ⟨_, rfl, rfl⟩
end Go.Proofs.YtplchhahjmoodaaDoor
