/-
  The program's iterator over the parts of a text.
-/
import Derived.RangeFuncNested
import Derived.RangeFuncBound
import Derived.RangeFuncCalls
import Derived.RangeFuncLeaves
import Derived.Shelf.Abstract
import Derived.Shelf.RegionOpen
import Derived.WalkKit
import Derived.OwnWalkIn
import Derived.TacticsInMore
import Derived.LoopNIn
import Derived.LoopIn
import Derived.Test.YtplchhahjmoodaaGreatDoorZ38
namespace Go.Proofs.YtplchhahjmoodaaGreatDoor
open Go Go.RowKit Go.Shelf
attribute [local go_sem] Oper.semAt_some

/-- The parts of a text, as texts. -/
def partsB (s : ByteArray) : List ByteArray := (partsOf s.data.toList).map (fun l => ⟨l.toArray⟩)
theorem partsB_nil : partsB ⟨#[]⟩ = [] := rfl
theorem partsB_cons {s : ByteArray} (h : s.data.toList ≠ []) : partsB s = s.extract 0 (plen s.data.toList) :: partsB (s.extract (plen s.data.toList) s.size) := by
  unfold partsB
  rw [partsOf_cons h, List.map_cons]
  have hls : s.data.toList.length = s.size := by simp
  have h1 : (⟨(s.data.toList.take (plen s.data.toList)).toArray⟩ : ByteArray) = s.extract 0 (plen s.data.toList) := by
    rw [← extract_list]
    simp
  have h2 : (s.extract (plen s.data.toList) s.size).data.toList = s.data.toList.drop (plen s.data.toList) := by
    rw [← extract_list]
    exact List.take_of_length_le (by rw [List.length_drop]; omega)
  rw [h1, h2]
theorem grown_below {w w' : World} (h : Below w.heap.size w w') : w.grownBy w' none :=
  ⟨h.os, h.tape, h.output, h.size, fun k hk _ => h.block k hk⟩
/-- A value's length, where it is a text. -/
def strSz : Value → Nat
  | .string r => r.size
  | _ => 0
set_option maxRecDepth 100000 in
set_option maxHeartbeats 1000000 in
theorem partsIn (n : Nat) (hn : 2 ≤ n) (l Bn n0 : Nat) (s : ByteArray) (hs : s.size ≤ 1048576) (J Jx : List ByteArray → World → Prop) (W : World) (hJ : AbidesFrom W.heap.size J)
    (hY : ∀ pre x W, J pre W → pre.length < (partsB s).length → YieldAt Fence.wide (n - 1) Tryz.prog l #[.string x] W fun e W' =>
      (e = .returned (.bool true) ∧ J (pre ++ [x]) W' ∧ Below n0 W W') ∨ (e = .returned (.bool false) ∧ Jx (pre ++ [x]) W'))
    (hBn : W.cell? ⟨Bn, 0, none⟩ = some (.string s)) (h0 : J [] W) :
    CallsIn Fence.wide n Tryz.prog 116 #[.func (.yield l) #[] #[], .pointer (some ⟨Bn, 0, none⟩)] W fun e W' => (∃ v, e = .returned v) ∧
      ((∃ ys, ys = partsB s ∧ J ys W') ∨ (∃ pre, pre <+: partsB s ∧ Jx pre W')) := by
  have hjb : ∀ pre W1 W2, J pre W1 → Below W1.heap.size W1 W2 → J pre W2 := fun pre W1 W2 h hb => hJ pre W1 W2 none h (grown_below hb) (fun r e => by cases e)
  refine callsIn_of_wp Tryz.func116 rfl trivial ?_ rfl
  simp only [Tryz.ntmps116, List.size_toArray, List.length_cons, List.length_nil, Nat.reduceAdd, Nat.reduceSub, Array.replicate_succ, Array.replicate_zero, List.push_toArray, List.append_toArray, List.nil_append, List.cons_append]
  gi_wp2
  gi_loopw [3] (fun p wr => ∃ (pre : List ByteArray) (r : ByteArray), p = .string r ∧ partsB s = pre ++ partsB r ∧ r.size ≤ 1048576 ∧ J pre wr)
    (fun p wr => strSz p)
  case atStart =>
    exact ⟨[], s, rfl, rfl, hs, h0⟩
  case round =>
    obtain ⟨pre, r, rfl, hx, hr, hJs⟩ := hrel
    by_cases hne : r.data.toList = []
    · obtain rfl : r = ⟨#[]⟩ := text_inj (b := ⟨#[]⟩) hne
      rw [partsB_nil, List.append_nil] at hx
      have HX := Lib.hid hx
      clear hx
      gi_wp2
      go_end0
      exact ⟨⟨_, rfl⟩, .inl (by rw [HX.out]; exact hJs)⟩
    · have hcmp : (r.toList == []) = false := by
        rw [ByteArray.toList_eq, beq_eq_false_iff_ne]
        exact hne
      have hpl := plen_bounds hne
      have hls : r.data.toList.length = r.size := by simp
      have hpc := partsB_cons hne
      obtain ⟨k, hk⟩ : ∃ k, plen r.data.toList = k := ⟨_, rfl⟩
      have hL := fun V => implPartLength r V hr
      rw [hk] at hpc hpl hL
      have hsl1 : ∀ V : World, (Instr.slice 9 (.string r) none (some (.int .i64 (k : Int))) none).run Tryz.prog V = .ok (.string (r.extract 0 k)) V := fun V => by
        have h1 := run_slice_string_h (P := Tryz.prog) (w := V) 9 r Tryz.underlying9 .i64 (k : Int) (by omega) (by omega)
        have e1 : ((k : Int)).toNat = k := by omega
        rw [e1] at h1
        exact h1
      have hsl2 : ∀ V : World, (Instr.slice 9 (.string r) (some (.int .i64 (k : Int))) none none).run Tryz.prog V = .ok (.string (r.extract k r.size)) V := fun V => by
        have h1 := run_slice_string_l (P := Tryz.prog) (w := V) 9 r Tryz.underlying9 .i64 (k : Int) (by omega) (by omega)
        have e1 : ((k : Int)).toNat = k := by omega
        rw [e1] at h1
        exact h1
      have hsz : (r.extract k r.size).size = r.size - k := by simp
      have hkr : 1 ≤ k ∧ k ≤ r.size := by omega
      have HS := Lib.hid hsz
      have HX := Lib.hid hx
      have HPC := Lib.hid hpc
      have HL := Lib.hid hL
      clear hx hpc hk hL hsz hls
      gi_wp2
      refine ⟨trivial, fun _ => by omega, ?_⟩
      refine (callsIn_wide.2 (HL.out _)).mono ?_
      rintro e w1 ⟨rfl, hb1⟩
      obtain ⟨fn, tmps, assign, body, hy, hR⟩ := hY pre (r.extract 0 k) w1 (hjb _ _ _ hJs hb1) (by rw [HX.out, HPC.out]; simp)
      gi_wp2
      refine ⟨fun _ => by omega, ?_⟩
      refine hR.mono ?_
      rintro e W3 (⟨rfl, hJ3, hk3⟩ | ⟨rfl, hJx3⟩)
      · gi_wp2
        go_roundw
        case rel => exact ⟨pre ++ [r.extract 0 k], r.extract k r.size, rfl, by rw [HX.out, HPC.out]; simp, by rw [HS.out]; omega, hJ3⟩
        case measure =>
          show (r.extract k r.size).size < r.size
          rw [HS.out]
          omega
      · gi_wp2
        refine bodyPost_ret (results_none rfl _ _ _) rfl ?_
        exact ⟨⟨_, rfl⟩, .inr ⟨pre ++ [r.extract 0 k], ⟨partsB (r.extract k r.size), by rw [HX.out, HPC.out]; simp⟩, hJx3⟩⟩
/-- The function that hands back the iterator: the text is boxed. -/
theorem implPartsOfText (s : ByteArray) (w : World) : Calls Tryz.prog 79 #[.string s] w fun e w' =>
    e = .returned (.func (.func 116) #[] #[.pointer (some ⟨w.heap.size, 0, none⟩)]) ∧ w' = w.alloc (.cells #[.string s] 9) := by
  go_enter Tryz.func79, Tryz.ntmps79
  go_wp2
  go_ret
  exact ⟨rfl, rfl⟩
/-- What the iterator keeps. -/
theorem partsStops (n : Nat) (hn : 2 ≤ n) (Bn n0 : Nat) (s : ByteArray) (hs : s.size ≤ 1048576) (w : World) (hBn : Bn < w.heap.size) (hc : w.cell? ⟨Bn, 0, none⟩ = some (.string s)) :
    SeqStopsK Fence.wide n Tryz.prog 116 #[.pointer (some ⟨Bn, 0, none⟩)] (fun x : ByteArray => #[Value.string x]) (Below n0) (fun ys => ys = partsB s) (fun pre => pre <+: partsB s) (partsB s).length w :=
  fun l J Jx W hW hJ _ hY h0 => partsIn n hn l Bn n0 s hs J Jx W hJ hY ((hW.cell (p := ⟨Bn, 0, none⟩) hBn).trans hc) h0
end Go.Proofs.YtplchhahjmoodaaGreatDoor
