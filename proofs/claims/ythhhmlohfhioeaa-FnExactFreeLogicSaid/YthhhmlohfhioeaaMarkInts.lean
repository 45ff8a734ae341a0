/-
  The law writes marks into a []int of the program's answer, and looks later whether they are still there.
-/
import Derived.Test.YthhhmlohfhioeaaNums
import Derived.Test.YthhhmlohfhioeaaApart
import Derived.Test.YthhhmlohfhioeaaChecked
namespace Go.Proofs.Ythhhmlohfhioeaa
open Go Go.RowKit

def numsFrom (k n : Nat) : List Int := (List.range n).map fun i => ((k + i : Nat) : Int)
theorem numsFrom_length (k n : Nat) : (numsFrom k n).length = n := by simp [numsFrom]
theorem numsFrom_next (k n : Nat) : numsFrom k (n + 1) = numsFrom k n ++ [((k + n : Nat) : Int)] := by simp [numsFrom, List.range_succ]
theorem numsFrom_at (k n j : Nat) (h : j < n) : (intVals (numsFrom k n))[j]? = some (.int .i64 ((k + j : Nat) : Int)) := by
  simp [intVals, numsFrom, h]
theorem set_take_mark {α : Type} (ys : List α) (k : Nat) (x : α) (h : k < ys.length) : (ys.set k x).take (k + 1) = ys.take k ++ [x] := by
  rw [List.take_succ_eq_append_getElem (by simpa using h)]
  simp [List.take_set_of_le]

def MarkedNumsEnd (base k n : Nat) (a : Option Addr) (cap : Nat) (w : World) (e : Ending) (w' : World) : Prop :=
  e = .returned (.int .i64 ((k + n : Nat) : Int)) ∧ w'.ownsRow base 3 1 (.slice a n cap) n (intVals (numsFrom k n)) ∧ w.grownBy w' (Value.slice a n cap).ownBlock

set_option maxRecDepth 100000 in
set_option maxHeartbeats 400000 in
theorem markInts (base k n : Nat) (a : Option Addr) (cap : Nat) (xs : List Value) (w : World) (hn : n ≤ 549755813888) (hk : k ≤ 549755813888) (hown : w.ownsRow base 3 1 (.slice a n cap) n xs) :
    Calls Try.prog 26 #[.slice a n cap, .int .i64 k] w (MarkedNumsEnd base k n a cap w) := by
  go_enter Try.func26, Try.ntmps26
  go_wp2
  go_loopw [1, 5] (fun m i wr => ∃ (j : Nat) (ys : List Value), j ≤ n ∧ i = .int .i64 j ∧ m = .int .i64 ((k + j : Nat) : Int) ∧ ys.take j = intVals (numsFrom k j) ∧ ys.length = n ∧ wr.ownsRow base 3 1 (.slice a n cap) n ys ∧ w.grownBy wr (Value.slice a n cap).ownBlock)
    (fun _ i _ => n - (intOf i).toNat)
  case atStart => exact ⟨0, xs, Nat.zero_le _, rfl, rfl, by simp [intVals, numsFrom], by simpa using hown.1, hown, grown_self _ _⟩
  case round =>
    obtain ⟨j, ys, hj, rfl, rfl, hys, hyl, ho, hb⟩ := hrel
    by_cases hlt : j < n
    · obtain ⟨g, rfl⟩ : ∃ g, a = some ⟨g, 0, none⟩ := by
        rcases ho.2 with ⟨_, h0⟩ | ⟨g, _, _, hv, _⟩
        · omega
        · injection hv with hv _ _
          exact ⟨g, hv⟩
      have hklt : j < ys.length := by omega
      obtain ⟨old, hold⟩ : ∃ old, wr.cell? ⟨g, j, none⟩ = some old := ⟨_, (ho.cellAt j (by omega)).trans (List.getElem?_eq_getElem hklt)⟩
      have hfr := ho.frozenAt j
      have hst := ho.stored j (.int .i64 ((k + j : Nat) : Int))
      have Hys := Lib.hid hys
      have Hyl := Lib.hid hyl
      have Hst := Lib.hid hst.1
      clear hys hyl ho hst
      go_wp2
      go_roundw
      case rel => exact ⟨j + 1, ys.set j (.int .i64 ((k + j : Nat) : Int)), by omega, by go_num, by go_num, by rw [set_take_mark ys j _ hklt, Hys.out, numsFrom_next]; exact (intVals_snoc _ _).symm, by rw [List.length_set]; exact Hyl.out, (by have h := Hst.out; simpa using h), grown_cell hb⟩
      case measure => simp [intOf]; omega
    · have hjn : j = n := by omega
      subst hjn
      have hfull : ys = intVals (numsFrom k j) := by
        rw [List.take_of_length_le (by omega)] at hys
        exact hys
      subst hfull
      have Hyl := Lib.hid hyl
      clear hys hyl
      go_wp2
      go_ret
      exact ⟨rfl, ho, hb⟩

/-- All marks are there: the count behind the last. -/
def HeldNumsEnd (k n : Nat) (w : World) (e : Ending) (w' : World) : Prop := e = .returned (.int .i64 ((k + n : Nat) : Int)) ∧ w = w'

set_option maxRecDepth 100000 in
set_option maxHeartbeats 800000 in
theorem heldInts (k n : Nat) (a : Option Addr) (cap : Nat) (w : World) (hn : n ≤ 549755813888) (hk : k ≤ 549755813888) (hrow : Row w w.heap.size a (intVals (numsFrom k n))) :
    Calls Try.prog 27 #[.slice a n cap, .int .i64 k] w (HeldNumsEnd k n w) := by
  go_enter Try.func27, Try.ntmps27
  go_wp2
  go_loop [1, 5] (fun m i => ∃ (j : Nat), j ≤ n ∧ i = .int .i64 j ∧ m = .int .i64 ((k + j : Nat) : Int))
    (fun _ i => n - (intOf i).toNat)
  case atStart => exact ⟨0, Nat.zero_le _, rfl, rfl⟩
  case round =>
    obtain ⟨j, hj, rfl, rfl⟩ := hrel
    by_cases hlt : j < n
    · obtain ⟨b, o, rfl, hbW, hc⟩ := hrow j _ (numsFrom_at k n j hlt)
      go_wp2
      go_round
      case rel => exact ⟨j + 1, by omega, by go_num, by go_num⟩
      case measure => simp [intOf]; omega
    · have hjn : j = n := by omega
      subst hjn
      go_wp2
      go_ret
      exact ⟨rfl, rfl⟩
end Go.Proofs.Ythhhmlohfhioeaa
