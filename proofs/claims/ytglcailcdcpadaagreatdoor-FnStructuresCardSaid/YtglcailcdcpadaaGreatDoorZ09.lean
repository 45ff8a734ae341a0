/-
  Two heaps compared, by the program and by the model: true exactly where variables and next cells are the same.
-/
import Derived.Test.YtglcailcdcpadaaGreatDoorZ03
namespace Go.Proofs.YtglcailcdcpadaaGreatDoor
open Go Go.RowKit

theorem same_next {α : Type} {xs ys : List α} {k : Nat} (h : xs.take k = ys.take k) (hx : k < xs.length) (hy : k < ys.length) (he : xs[k] = ys[k]) : xs.take (k + 1) = ys.take (k + 1) := by
  rw [take_next xs k hx, take_next ys k hy, h, he]
theorem same_all {α : Type} {xs ys : List α} {k : Nat} (h : xs.take k = ys.take k) (hx : k = xs.length) (hy : k = ys.length) : xs = ys := by
  rw [List.take_of_length_le (by omega), List.take_of_length_le (by omega)] at h
  exact h
theorem other_at {α : Type} {xs ys : List α} {k : Nat} (hx : k < xs.length) (hy : k < ys.length) (he : xs[k] ≠ ys[k]) : ¬ xs = ys := by
  intro h
  subst h
  exact he rfl

/-- It returned b, and the world is as it was, but for draws. -/
def SaidB (b : Bool) (w : World) (e : Ending) (w' : World) : Prop := ∃ n, e = .returned (.bool b) ∧ w' = w.drewN n

set_option maxHeartbeats 800000 in
theorem equalInts (a b : Option Addr) (ca cb : Nat) (xs ys : List Int) (w : World) (hx : xs.length ≤ maxLen) (ha : Row w w.heap.size a (intVals xs)) (hb : Row w w.heap.size b (intVals ys)) :
    Calls Tryz.prog 42 #[.slice a xs.length ca, .slice b ys.length cb] w (SaidB (decide (xs = ys)) w) := by
  unfold maxLen at hx
  by_cases hl : xs.length = ys.length
  · go_enter Tryz.func42, Tryz.ntmps42
    go_wp2
    go_loopw [13] (fun i wr => ∃ (k n : Nat), k ≤ xs.length ∧ i = .int .i64 k ∧ xs.take k = ys.take k ∧ wr = w.drewN n) (fun i _ => xs.length - (intOf i).toNat)
    case atStart => exact ⟨0, 0, Nat.zero_le _, rfl, rfl, rfl⟩
    case round =>
      obtain ⟨k, n, hk, rfl, hsame, rfl⟩ := hrel
      by_cases hlt : k < xs.length
      · have hlt' : k < ys.length := by omega
        obtain ⟨ba, oa, rfl, _, hca⟩ := ha k (.int .i64 xs[k]) (intVals_at xs k hlt)
        obtain ⟨bb, ob, rfl, _, hcb⟩ := hb k (.int .i64 ys[k]) (intVals_at ys k hlt')
        have Hs := Lib.hid hsame
        clear hsame
        by_cases he : xs[k] = ys[k]
        · have hd : (xs[k] != ys[k]) = false := by simpa using he
          go_wp2
          go_quiet (fail)
          go_wp2
          go_roundw
          case rel => exact ⟨k + 1, _, by omega, by go_num, same_next Hs.out hlt hlt' he, rfl⟩
          case measure => simp [intOf]; omega
        · have hd : (xs[k] != ys[k]) = true := by simpa using he
          have Hne := Lib.hid (other_at hlt hlt' he)
          go_wp2
          go_quiet (fail)
          go_wp2
          go_ret
          exact ⟨_, by rw [decide_eq_false Hne.out]; rfl, World.drewN_drewN ..⟩
      · have Hs := Lib.hid (same_all hsame (by omega) (by omega))
        clear hsame
        go_wp2
        go_ret
        exact ⟨_, by rw [decide_eq_true Hs.out]; rfl, rfl⟩
  · have hne : ¬ xs = ys := fun h => hl (by rw [h])
    have Hne := Lib.hid hne
    clear hne
    go_enter Tryz.func42, Tryz.ntmps42
    go_wp2
    go_ret
    exact ⟨0, by rw [decide_eq_false Hne.out]; rfl, rfl⟩

set_option maxHeartbeats 800000 in
theorem specSameInts (a b : Option Addr) (ca cb : Nat) (xs ys : List Int) (w : World) (hx : xs.length ≤ maxLen) (ha : Row w w.heap.size a (intVals xs)) (hb : Row w w.heap.size b (intVals ys)) :
    Calls Tryz.prog 60 #[.slice a xs.length ca, .slice b ys.length cb] w (SaidB (decide (xs = ys)) w) := by
  unfold maxLen at hx
  by_cases hl : xs.length = ys.length
  · go_enter Tryz.func60, Tryz.ntmps60
    go_wp2
    go_loopw [5] (fun i wr => ∃ (k n : Nat), k ≤ xs.length ∧ i = .int .i64 k ∧ xs.take k = ys.take k ∧ wr = w.drewN n) (fun i _ => xs.length - (intOf i).toNat)
    case atStart => exact ⟨0, 0, Nat.zero_le _, rfl, rfl, rfl⟩
    case round =>
      obtain ⟨k, n, hk, rfl, hsame, rfl⟩ := hrel
      by_cases hlt : k < xs.length
      · have hlt' : k < ys.length := by omega
        obtain ⟨ba, oa, rfl, _, hca⟩ := ha k (.int .i64 xs[k]) (intVals_at xs k hlt)
        obtain ⟨bb, ob, rfl, _, hcb⟩ := hb k (.int .i64 ys[k]) (intVals_at ys k hlt')
        have Hs := Lib.hid hsame
        clear hsame
        by_cases he : xs[k] = ys[k]
        · have hd : (xs[k] != ys[k]) = false := by simpa using he
          go_wp2
          go_quiet (fail)
          go_wp2
          go_roundw
          case rel => exact ⟨k + 1, _, by omega, by go_num, same_next Hs.out hlt hlt' he, rfl⟩
          case measure => simp [intOf]; omega
        · have hd : (xs[k] != ys[k]) = true := by simpa using he
          have Hne := Lib.hid (other_at hlt hlt' he)
          go_wp2
          go_quiet (fail)
          go_wp2
          go_ret
          exact ⟨_, by rw [decide_eq_false Hne.out]; rfl, World.drewN_drewN ..⟩
      · have Hs := Lib.hid (same_all hsame (by omega) (by omega))
        clear hsame
        go_wp2
        go_ret
        exact ⟨_, by rw [decide_eq_true Hs.out]; rfl, rfl⟩
  · have hne : ¬ xs = ys := fun h => hl (by rw [h])
    have Hne := Lib.hid hne
    clear hne
    go_enter Tryz.func60, Tryz.ntmps60
    go_wp2
    go_ret
    exact ⟨0, by rw [decide_eq_false Hne.out]; rfl, rfl⟩

def sameH (vs zs vs' zs' : List Int) : Bool := decide (vs = vs') && decide (zs = zs')
end Go.Proofs.YtglcailcdcpadaaGreatDoor
