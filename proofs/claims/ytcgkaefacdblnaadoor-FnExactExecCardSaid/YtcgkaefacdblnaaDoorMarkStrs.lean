/-
  The law writes marks into a []string of the program's answer, and looks later whether they are still there.
-/
import Derived.Test.YtcgkaefacdblnaaDoorMarkText
import Derived.Deep.RegionHeld3
namespace Go.Proofs.YtcgkaefacdblnaaDoor
open Go Go.RowKit

def marksFrom (k n : Nat) : List ByteArray := (List.range n).map fun i => markS (k + i)
theorem marks_length (k n : Nat) : (marksFrom k n).length = n := by simp [marksFrom]
theorem marks_next (k n : Nat) : marksFrom k (n + 1) = marksFrom k n ++ [markS (k + n)] := by simp [marksFrom, List.range_succ]
theorem marks_at (k n j : Nat) (h : j < n) : (strVals (marksFrom k n))[j]? = some (.string (markS (k + j))) := by
  simp [strVals, marksFrom, h]
theorem set_take' {α : Type} (ys : List α) (k : Nat) (x : α) (h : k < ys.length) : (ys.set k x).take (k + 1) = ys.take k ++ [x] := by
  rw [List.take_succ_eq_append_getElem (by simpa using h)]
  simp [List.take_set_of_le]

def MarkedEnd (base k n : Nat) (a : Option Addr) (cap : Nat) (w : World) (e : Ending) (w' : World) : Prop :=
  e = .returned (.int .i64 ((k + n : Nat) : Int)) ∧ w'.ownsRow base 9 1 (.slice a n cap) n (strVals (marksFrom k n)) ∧ Below base w w'

set_option maxRecDepth 100000 in
set_option maxHeartbeats 400000 in
theorem markStrs (base k n : Nat) (a : Option Addr) (cap : Nat) (xs : List Value) (w : World) (hn : n ≤ 549755813888) (hk : k ≤ 549755813888) (hB : base ≤ w.heap.size) (hown : w.ownsRow base 9 1 (.slice a n cap) n xs) :
    Calls Tryd.prog 26 #[.slice a n cap, .int .i64 k] w (MarkedEnd base k n a cap w) := by
  go_enter Tryd.func26, Tryd.ntmps26
  go_wp2
  go_loopw [1, 5] (fun m i wr => ∃ (j : Nat) (ys : List Value), j ≤ n ∧ i = .int .i64 j ∧ m = .int .i64 ((k + j : Nat) : Int) ∧ ys.take j = strVals (marksFrom k j) ∧ ys.length = n ∧ wr.ownsRow base 9 1 (.slice a n cap) n ys ∧ Below base w wr)
    (fun _ i _ => n - (intOf i).toNat)
  case atStart => exact ⟨0, xs, Nat.zero_le _, rfl, rfl, by simp [strVals, marksFrom], by simpa using hown.1, hown, Below.refl _ _⟩
  case round =>
    obtain ⟨j, ys, hj, rfl, rfl, hys, hyl, ho, hb⟩ := hrel
    by_cases hlt : j < n
    · obtain ⟨g, rfl⟩ : ∃ g, a = some ⟨g, 0, none⟩ := by
        rcases ho.2 with ⟨_, h0⟩ | ⟨g, _, _, hv, _⟩
        · omega
        · injection hv with hv _ _
          exact ⟨g, hv⟩
      have hklt : j < ys.length := by omega
      have Hys := Lib.hid hys
      have Hyl := Lib.hid hyl
      have Ho := Lib.hid ho
      clear hys hyl ho
      go_wp2_with fail
      refine (markText (k + j) (by omega) _).mono ?_
      rintro e w1 ⟨rfl, hb1⟩
      have ho1 := own_keeps Ho.out hb1
      obtain ⟨old, hold⟩ : ∃ old, w1.cell? ⟨g, j, none⟩ = some old := ⟨_, (ho1.cellAt j (by omega)).trans (List.getElem?_eq_getElem hklt)⟩
      have hfr := ho1.frozenAt j
      have hst := ho1.stored j (.string (markS (k + j)))
      have hgb : base ≤ g := by
        have := (ho1.lt g rfl).1
        exact this
      have hb2 : Below base w w1 := hb.trans (hb1.mono (Nat.le_trans hB hb.size))
      clear ho1
      go_wp2
      go_roundw
      case rel => exact ⟨j + 1, ys.set j (.string (markS (k + j))), by omega, by go_num, by go_num, by rw [set_take' ys j _ hklt, Hys.out, marks_next]; exact (strVals_snoc _ _).symm, by rw [List.length_set]; exact Hyl.out, hst.1, hb2.setCell hgb _⟩
      case measure => simp [intOf]; omega
    · have hjn : j = n := by omega
      subst hjn
      have hfull : ys = strVals (marksFrom k j) := by
        rw [List.take_of_length_le (by omega)] at hys
        exact hys
      subst hfull
      have Hyl := Lib.hid hyl
      clear hys hyl
      go_wp2
      go_ret
      exact ⟨rfl, ho, hb⟩

theorem held_keeps {w cur w1 : World} {p : Addr} {x : Value} (hp : p.block < w.heap.size) (h : cur.cell? p = some x ∧ Below w.heap.size w cur) (hb : Below cur.heap.size cur w1) : w1.cell? p = some x ∧ Below w.heap.size w w1 :=
  ⟨(hb.cell (Nat.lt_of_lt_of_le hp h.2.size)).trans h.1, h.2.trans (hb.mono h.2.size)⟩

/-- All marks are there: the count behind the last. -/
def HeldEnd (k n : Nat) (w : World) (e : Ending) (w' : World) : Prop := e = .returned (.int .i64 ((k + n : Nat) : Int)) ∧ Below w.heap.size w w'

end Go.Proofs.YtcgkaefacdblnaaDoor
