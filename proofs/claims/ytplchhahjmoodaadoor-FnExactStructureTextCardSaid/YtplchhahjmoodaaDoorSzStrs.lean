/-
  The law's size guard over a []string: what it lets through is small.
-/
import Derived.Test.YtplchhahjmoodaaDoorWords
import Derived.Test.YtplchhahjmoodaaDoorChecked
namespace Go.Proofs.YtplchhahjmoodaaDoor
open Go Go.RowKit

/-- The guard's answer: an int; where it is not negative, the strings and their number fit into the allowance. -/
def SzEnd (ss : List ByteArray) (left : Nat) (w : World) (e : Ending) (w' : World) : Prop :=
  ∃ r : Int, e = .returned (.int .i64 r) ∧ w = w' ∧ r ≤ left ∧ (0 ≤ r → (ss.length : Int) + total ss + r = left)

set_option maxHeartbeats 400000 in
theorem szStrs (a : Option Addr) (cap : Nat) (ss : List ByteArray) (left : Nat) (w : World) (hl : left ≤ 1099511627776) (hlen : ss.length ≤ maxLen) (hws : ∀ s ∈ ss, s.size ≤ maxLen) (hrow : Row w w.heap.size a (strVals ss)) :
    Calls Tryd.prog 5 #[.slice a ss.length cap, .int .i64 left] w (SzEnd ss left w) := by
  unfold maxLen at hlen
  by_cases h0 : left < ss.length
  · have hb : (left : Int) - ss.length < 0 := by omega
    go_enter Tryd.func5, Tryd.ntmps5
    go_wp2
    go_ret
    exact ⟨-1, rfl, rfl, by omega, fun h => by omega⟩
  · have hb : ¬ (left : Int) - ss.length < 0 := by omega
    go_enter Tryd.func5, Tryd.ntmps5
    go_wp2
    go_loop [1, 5] (fun l i => ∃ k m : Nat, k ≤ ss.length ∧ i = .int .i64 k ∧ l = .int .i64 m ∧ ss.length + total (ss.take k) + m = left) (fun _ i => ss.length - (intOf i).toNat)
    case atStart => exact ⟨0, left - ss.length, Nat.zero_le _, rfl, by congr 1; omega, by simp [total]; omega⟩
    case round =>
      obtain ⟨k, m, hk, rfl, rfl, hsum⟩ := hrel
      by_cases hlt : k < ss.length
      · obtain ⟨b, o, rfl, hbW, hc⟩ := hrow k (.string ss[k]) (by simp [strVals, hlt])
        have hsz : ss[k].size ≤ 9223372036854775807 := by have := hws ss[k] (List.getElem_mem hlt); unfold maxLen at this; omega
        have hnx := total_take_next ss k hlt
        have Hsum := Lib.hid hsum
        have Hnx := Lib.hid hnx
        have hm : m ≤ 1099511627776 := by omega
        clear hsum hnx
        by_cases hneg : (m : Int) - ss[k].size < 0
        · go_wp2
          go_ret
          exact ⟨-1, rfl, rfl, by omega, fun h => by omega⟩
        · go_wp2
          go_round
          case rel =>
            have h1 := Hsum.out
            have h2 := Hnx.out
            exact ⟨k + 1, m - ss[k].size, by omega, by go_num, by congr 1; omega, by omega⟩
          case measure => simp [intOf]; omega
      · have hk' : k = ss.length := by omega
        have Hk := Lib.hid hk'
        have Hsum := Lib.hid hsum
        clear hk' hsum
        go_wp2
        go_ret
        have h1 := Hsum.out
        rw [Hk.out, List.take_length] at h1
        exact ⟨m, rfl, rfl, by omega, fun _ => by omega⟩
end Go.Proofs.YtplchhahjmoodaaDoor
