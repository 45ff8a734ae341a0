/-
  The law's own copy of a []string: a new row with the same strings.
-/
import Derived.Test.YtplchhahjmoodaaDoorWords
import Derived.Test.YtplchhahjmoodaaDoorChecked
namespace Go.Proofs.YtplchhahjmoodaaDoor
open Go Go.RowKit

theorem strInfo : (Tryd.prog.info? 9).map (fun i => (i.zero, i.size, i.bytes)) = some (some (.string ⟨#[]⟩), 1, 16) := by kernel_rfl

/-- A new slice at the heap's end that holds the strings; nothing old has turned. -/
def CopyEnd (ss : List ByteArray) (w : World) (e : Ending) (w' : World) : Prop :=
  e = .returned (.slice (some ⟨w.heap.size, 0, none⟩) ss.length ss.length) ∧ w'.ownsRow w.heap.size 9 1 (.slice (some ⟨w.heap.size, 0, none⟩) ss.length ss.length) ss.length (strVals ss) ∧ Below w.heap.size w w'

theorem set_take {α : Type} (ys : List α) (k : Nat) (x : α) (h : k < ys.length) : (ys.set k x).take (k + 1) = ys.take k ++ [x] := by
  rw [List.take_succ_eq_append_getElem (by simpa using h)]
  simp [List.take_set_of_le]

set_option maxHeartbeats 400000 in
theorem toStrs (a : Option Addr) (cap : Nat) (ss : List ByteArray) (w : World) (hn : ss.length ≤ 1099511627776) (hrow : Row w w.heap.size a (strVals ss)) :
    Calls Tryd.prog 7 #[.slice a ss.length cap] w (CopyEnd ss w) := by
  obtain ⟨i0, hi, hz0, hz1, hz2⟩ := info_parts strInfo
  go_enter Tryd.func7, Tryd.ntmps7
  go_wp2_with (at_make; refine wpList_make_full _ rfl _ _ 22 rfl w.heap.size 9 i0 (.string ⟨#[]⟩) 1 Tryd.underlying22 hi hz0 hz1 _ _ _ _ ss.length rfl rfl rfl rfl ?b2 ?b3 (Nat.le_refl _) ?_)
  case b2 => rw [hz2]; omega
  case b3 => unfold maxLen; omega
  intro w0 hown0 hgrow0
  go_wp2
  go_loopw [4] (fun i wr => ∃ (k : Nat) (ys : List Value), k ≤ ss.length ∧ i = .int .i64 k ∧ ys.take k = strVals (ss.take k) ∧ ys.length = ss.length ∧
      wr.ownsRow w.heap.size 9 1 (.slice (some ⟨w.heap.size, 0, none⟩) ss.length ss.length) ss.length ys ∧ Below w.heap.size w wr)
    (fun i _ => ss.length - (intOf i).toNat)
  case atStart => exact ⟨0, _, Nat.zero_le _, rfl, by simp [strVals], by simpa using hown0.1, hown0, (Below.refl _ _).grown hgrow0 (Nat.le_refl _) (fun k h => by cases h)⟩
  case round =>
    obtain ⟨k, ys, hk, rfl, hys, hyl, hown, hb⟩ := hrel
    by_cases hlt : k < ss.length
    · obtain ⟨b, o, rfl, hbW, hc⟩ := hrow k (.string ss[k]) (by simp [strVals, hlt])
      have hc1 : wr.cell? ⟨b, o + k, none⟩ = some (.string ss[k]) := (hb.cell (p := ⟨b, o + k, none⟩) hbW).trans hc
      obtain ⟨old, hold⟩ : ∃ old, wr.cell? ⟨w.heap.size, k, none⟩ = some old := ⟨_, (hown.cellAt k (by omega)).trans (List.getElem?_eq_getElem (by omega))⟩
      have hfr := hown.frozenAt k
      have hst := hown.stored k (.string ss[k])
      have Hys := Lib.hid hys
      have Hyl := Lib.hid hyl
      have hklt : k < ys.length := by omega
      clear hys hyl hown hc
      go_wp2
      go_roundw
      case rel => exact ⟨k + 1, ys.set k (.string ss[k]), by omega, by go_num, by rw [set_take ys k _ hklt, Hys.out, take_next ss k hlt]; exact (strVals_snoc _ _).symm, by rw [List.length_set]; exact Hyl.out, hst.1, hb.setCell (by exact Nat.le_refl _) _⟩
      case measure => simp [intOf]; omega
    · have hk' : k = ss.length := by omega
      have Hk := Lib.hid hk'
      have Hys := Lib.hid hys
      have Hyl := Lib.hid hyl
      clear hk' hys hyl
      go_wp2
      go_ret
      have hfull : ys = strVals ss := by
        have h1 := Hys.out
        rw [Hk.out, List.take_length, List.take_of_length_le (by rw [Hyl.out]; exact Nat.le_refl _)] at h1
        exact h1
      rw [hfull] at hown
      exact ⟨rfl, hown, hb⟩
end Go.Proofs.YtplchhahjmoodaaDoor
