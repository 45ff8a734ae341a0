/-
  The law's own copy of a []int: a new row with the same numbers.
-/
import Derived.Test.YtplchhahjmoodaaDoorNums
import Derived.Test.YtplchhahjmoodaaDoorChecked
namespace Go.Proofs.YtplchhahjmoodaaDoor
open Go Go.RowKit

theorem intInfo : (Tryd.prog.info? 3).map (fun i => (i.zero, i.size, i.bytes)) = some (some (.int .i64 0), 1, 8) := by kernel_rfl

/-- A new slice at the heap's end that holds the numbers; nothing old has turned. -/
def CopyNumsEnd (ns : List Int) (w : World) (e : Ending) (w' : World) : Prop :=
  e = .returned (.slice (some ⟨w.heap.size, 0, none⟩) ns.length ns.length) ∧ w'.ownsRow w.heap.size 3 1 (.slice (some ⟨w.heap.size, 0, none⟩) ns.length ns.length) ns.length (intVals ns) ∧ Below w.heap.size w w'

theorem set_take_num {α : Type} (ys : List α) (k : Nat) (x : α) (h : k < ys.length) : (ys.set k x).take (k + 1) = ys.take k ++ [x] := by
  rw [List.take_succ_eq_append_getElem (by simpa using h)]
  simp [List.take_set_of_le]

set_option maxHeartbeats 400000 in
theorem toInts (a : Option Addr) (cap : Nat) (ns : List Int) (w : World) (hn : ns.length ≤ 1099511627776) (hrow : Row w w.heap.size a (intVals ns)) :
    Calls Tryd.prog 34 #[.slice a ns.length cap] w (CopyNumsEnd ns w) := by
  obtain ⟨i0, hi, hz0, hz1, hz2⟩ := info_parts intInfo
  go_enter Tryd.func34, Tryd.ntmps34
  go_wp2_with (at_make; refine wpList_make_full _ rfl _ _ 35 rfl w.heap.size 3 i0 (.int .i64 0) 1 Tryd.underlying35 hi hz0 hz1 _ _ _ _ ns.length rfl rfl rfl rfl ?b2 ?b3 (Nat.le_refl _) ?_)
  case b2 => rw [hz2]; omega
  case b3 => unfold maxLen; omega
  intro w0 hown0 hgrow0
  go_wp2
  go_loopw [4] (fun i wr => ∃ (k : Nat) (ys : List Value), k ≤ ns.length ∧ i = .int .i64 k ∧ ys.take k = intVals (ns.take k) ∧ ys.length = ns.length ∧
      wr.ownsRow w.heap.size 3 1 (.slice (some ⟨w.heap.size, 0, none⟩) ns.length ns.length) ns.length ys ∧ Below w.heap.size w wr)
    (fun i _ => ns.length - (intOf i).toNat)
  case atStart => exact ⟨0, _, Nat.zero_le _, rfl, by simp [intVals], by simpa using hown0.1, hown0, (Below.refl _ _).grown hgrow0 (Nat.le_refl _) (fun k h => by cases h)⟩
  case round =>
    obtain ⟨k, ys, hk, rfl, hys, hyl, hown, hb⟩ := hrel
    by_cases hlt : k < ns.length
    · obtain ⟨b, o, rfl, hbW, hc⟩ := hrow k (.int .i64 ns[k]) (intVals_at ns k hlt)
      have hc1 : wr.cell? ⟨b, o + k, none⟩ = some (.int .i64 ns[k]) := (hb.cell (p := ⟨b, o + k, none⟩) hbW).trans hc
      obtain ⟨old, hold⟩ : ∃ old, wr.cell? ⟨w.heap.size, k, none⟩ = some old := ⟨_, (hown.cellAt k (by omega)).trans (List.getElem?_eq_getElem (by omega))⟩
      have hfr := hown.frozenAt k
      have hst := hown.stored k (.int .i64 ns[k])
      have Hys := Lib.hid hys
      have Hyl := Lib.hid hyl
      have hklt : k < ys.length := by omega
      clear hys hyl hown hc
      go_wp2
      go_roundw
      case rel => exact ⟨k + 1, ys.set k (.int .i64 ns[k]), by omega, by go_num, by rw [set_take_num ys k _ hklt, Hys.out, take_next ns k hlt]; exact (intVals_snoc _ _).symm, by rw [List.length_set]; exact Hyl.out, hst.1, hb.setCell (by exact Nat.le_refl _) _⟩
      case measure => simp [intOf]; omega
    · have hk' : k = ns.length := by omega
      have Hk := Lib.hid hk'
      have Hys := Lib.hid hys
      have Hyl := Lib.hid hyl
      clear hk' hys hyl
      go_wp2
      go_ret
      have hfull : ys = intVals ns := by
        have h1 := Hys.out
        rw [Hk.out, List.take_length, List.take_of_length_le (by rw [Hyl.out]; exact Nat.le_refl _)] at h1
        exact h1
      rw [hfull] at hown
      exact ⟨rfl, hown, hb⟩
end Go.Proofs.YtplchhahjmoodaaDoor
