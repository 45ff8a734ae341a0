/-
  The model's Join: it returns the strings one after the other, the separator between them.
-/
import Derived.Test.YtplchhahjmoodaaDoorJoinWords
import Derived.Test.YtplchhahjmoodaaDoorChecked
namespace Go.Proofs.YtplchhahjmoodaaDoor
open Go Go.RowKit

theorem byteInfo : (Tryd.prog.info? 5).map (fun i => (i.zero, i.size, i.bytes)) = some (some (.int .u8 0), 1, 1) := by kernel_rfl

/-- It returned the joined bytes, and nothing old has turned. -/
def TextEnd (l : List UInt8) (w : World) (e : Ending) (w' : World) : Prop := e = .returned (.string ⟨l.toArray⟩) ∧ Below w.heap.size w w'

set_option maxHeartbeats 400000 in
theorem specJoin (a : Option Addr) (cap : Nat) (ss : List ByteArray) (sep : ByteArray) (w : World) (hn : ss.length ≤ maxLen) (hB : ss.length * sep.size + total ss ≤ 70368744177664) (hrow : Row w w.heap.size a (strVals ss)) :
    Calls Tryd.prog 32 #[.slice a ss.length cap, .string sep] w (TextEnd (jn ss sep) w) := by
  unfold maxLen at hn
  obtain ⟨i0, hi, hz0, hz1, hz2⟩ := info_parts byteInfo
  go_enter Tryd.func32, Tryd.ntmps32
  go_wp2
  go_loopw [5, 6] (fun v i wr => ∃ (k m : Nat), k ≤ ss.length ∧ i = .int .i64 k ∧ m = (jn (ss.take k) sep).length ∧ wr.ownsRow w.heap.size 5 1 v m (Lib.byteCells (jn (ss.take k) sep)) ∧ Below w.heap.size w wr)
    (fun _ i _ => ss.length - (intOf i).toNat)
  case atStart => exact ⟨0, 0, Nat.zero_le _, rfl, rfl, World.ownsRow_made w #[] 0 (Nat.le_refl _) (Nat.zero_le _) rfl, (Below.refl _ _).alloc (Nat.le_refl _) _⟩
  case round =>
    obtain ⟨k, m, hk, rfl, hm, hown, hb⟩ := hrel
    by_cases hlt : k < ss.length
    · obtain ⟨b, o, rfl, hbW, hc⟩ := hrow k (.string ss[k]) (by simp [strVals, hlt])
      have hc1 : wr.cell? ⟨b, o + k, none⟩ = some (.string ss[k]) := (hb.cell (p := ⟨b, o + k, none⟩) hbW).trans hc
      have hnext := jn_bound ss sep (k + 1)
      have Hown := Lib.hid hown
      have Hm := Lib.hid hm
      clear hown hm hc
      by_cases h0 : 0 < k
      · have hj := jn_next ss sep k hlt h0
        have hlen : m + sep.size + ss[k].size ≤ 70368744177664 := by
          rw [hj, List.length_append, List.length_append, size_toList, size_toList, ← Hm.out] at hnext
          omega
        have Hj := Lib.hid hj
        clear hj hnext
        go_wp2_with (first
          | (at_builtin; refine Lib.wpList_append_own_string _ rfl (.tmp 16) (.tmp 17) 83 9 rfl w.heap.size 5 i0 Tryd.underlying83 Tryd.underlying9 hi hz0 hz1 hz2 _ m _ rfl Hown.out sep rfl (by unfold maxLen; omega) (by omega) hb.size ?_; intro v1 w1 hown1 hg1 _; have hc2 := own_cell Hown.out hg1 (p := ⟨b, o + k, none⟩) hbW hc1; have hb1 := own_below Hown.out hg1 hb.size hb; clear hg1)
          | (at_builtin; refine Lib.wpList_append_own_string _ rfl (.tmp 19) (.tmp 23) 83 9 rfl w.heap.size 5 i0 Tryd.underlying83 Tryd.underlying9 hi hz0 hz1 hz2 _ (m + sep.size) _ rfl hown1 ss[k] rfl (by unfold maxLen; omega) (by omega) hb1.size ?_; intro v2 w2 hown2 hg2 _; have hb2 := own_below hown1 hg2 hb1.size hb1; clear hg2))
        go_roundw
        case rel =>
          refine ⟨k + 1, m + sep.size + ss[k].size, by omega, by go_num, ?_, ?_, hb2⟩
          · rw [Hj.out, List.length_append, List.length_append, size_toList, size_toList, ← Hm.out]
          · rw [Hj.out, Lib.byteCells_append, Lib.byteCells_append]
            exact hown2
        case measure => simp [intOf]; omega
      · have hk0 : k = 0 := by omega
        subst hk0
        have hc0 : wr.cell? ⟨b, o, none⟩ = some (.string ss[0]) := by simpa using hc1
        have hj := jn_first ss sep hlt
        have hlen : m + ss[0].size ≤ 70368744177664 := by
          have h1 : m = 0 := Hm.out
          have h2 : (jn (ss.take 1) sep).length ≤ _ := hnext
          rw [hj, size_toList] at h2
          omega
        have Hj := Lib.hid hj
        clear hj hnext
        go_wp2_with (at_builtin; refine Lib.wpList_append_own_string _ rfl (.tmp 19) (.tmp 23) 83 9 rfl w.heap.size 5 i0 Tryd.underlying83 Tryd.underlying9 hi hz0 hz1 hz2 _ m _ rfl Hown.out ss[0] rfl (by unfold maxLen; omega) (by omega) hb.size ?_; intro v2 w2 hown2 hg2 _; have hb2 := own_below Hown.out hg2 hb.size hb; clear hg2)
        go_roundw
        case rel =>
          refine ⟨1, m + ss[0].size, by omega, rfl, ?_, ?_, hb2⟩
          · rw [Hj.out, size_toList, Hm.out]
            simp [jn_nil]
          · rw [Hj.out]
            exact hown2
        case measure => simp [intOf]; omega
    · have hk' : k = ss.length := by omega
      have hconv := string_owned (P := Tryd.prog) 83 9 Tryd.underlying83 Tryd.underlying5 Tryd.underlying9 hown
      rw [hk', List.take_length] at hconv
      have Hk := Lib.hid hk'
      clear hk' hm
      go_wp2
      go_ret
      exact ⟨rfl, hb⟩
end Go.Proofs.YtplchhahjmoodaaDoor
