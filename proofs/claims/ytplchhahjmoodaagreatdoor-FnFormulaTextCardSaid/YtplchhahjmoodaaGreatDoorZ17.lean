/-
  The program's argsOf: where the parts of a node stand.
-/
import Derived.Test.YtplchhahjmoodaaGreatDoorZ13
import Derived.Test.YtplchhahjmoodaaGreatDoorZ05
namespace Go.Proofs.YtplchhahjmoodaaGreatDoor
open Go Go.RowKit Go.ChangeAt Go.ChangeShapes Go.WideShapes

theorem ptrInfo : (Tryz.prog.info? 63).map (fun i => (i.zero, i.size, i.bytes)) = some (some (.pointer none), 1, 8) := by kernel_rfl
set_option maxHeartbeats 800000 in
theorem implArgsOf (x : Loc) (w : World) (hx : LocOk w w.heap.size x) (hn : x.2.args.length ≤ 1099511627776) : Calls Tryz.prog 74 #[.pointer (some x.1)] w (Built w.heap.size 63 (ptrs (kids x)) w) := by
  obtain ⟨i0, hi, hz0, hz1, hz2⟩ := info_parts ptrInfo
  obtain ⟨b, o, e, hat⟩ := hx.at_
  have hb := hx.blk
  obtain ⟨p, t⟩ := x
  simp only at e hat hn hb
  subst e
  have hrow := hx.in_.row
  have HROW := Lib.hid hrow
  have HKL := Lib.hid (kids_length (⟨b, o, none⟩, t))
  have HKA := Lib.hid (kids_at (⟨b, o, none⟩, t))
  clear hx hrow
  generalize hkk : kids (⟨b, o, none⟩, t) = kk at *
  have Hkk := Lib.hid hkk
  clear hkk
  have hbb : b < w.heap.size := hb
  go_enter Tryz.func74, Tryz.ntmps74
  have hs := hat.s
  go_wp2_with fail
  go_loopw [3, 10] (fun v i wr => ∃ k : Nat, k ≤ t.args.length ∧ i = .int .i64 k ∧ wr.ownsRow w.heap.size 63 1 v k (ptrs (kk.take k)) ∧ Below w.heap.size w wr)
    (fun _ i _ => t.args.length - (intOf i).toNat)
  case atStart => exact ⟨0, Nat.zero_le _, rfl, ⟨rfl, .inl ⟨rfl, rfl⟩⟩, Below.refl _ _⟩
  case round =>
    obtain ⟨k, hk, rfl, hown, hbw⟩ := hrel
    have Hown := Lib.hid hown
    clear hown
    have hs' := (hat.below hbw hbb).s
    clear hs
    by_cases hlt : k < t.args.length
    · obtain ⟨b', o', ha, hb', _⟩ := HROW.out.node k hlt
      have hka : kidAt t.a k = ⟨b', o' + k * 5, none⟩ := by
        have ha' : t.a = some ⟨b', o', none⟩ := ha
        rw [ha']; rfl
      have hnx : ptrs (kk.take (k + 1)) = ptrs (kk.take k) ++ [.pointer (some ⟨b', o' + k * 5, none⟩)] := by
        have h1 := HKA.out k hlt
        have hkl : k < kk.length := by rw [HKL.out]; exact hlt
        rw [List.getElem?_eq_getElem hkl] at h1
        have h1 := Option.some.inj h1
        rw [take_next kk k hkl, ptrs_snoc, h1, hka]
      have HNX := Lib.hid hnx
      have ha' : t.a = some ⟨b', o', none⟩ := ha
      rw [ha'] at hs'
      clear hka hnx ha ha'
      go_wp2_with (at_builtin; refine wpList_append_own _ rfl (.tmp 13) (.tmp 20) 104 rfl w.heap.size 63 i0 (.pointer none) 1 8 Tryz.underlying104 hi hz0 hz1 hz2 rfl (by decide) _ k _ rfl (Hown.out.alloc _) ⟨wr.heap.size, 0, none⟩ 1 1 [.pointer (some ⟨b', o' + k * 5, none⟩)] rfl rfl (oneCell_at _) (oneCell_ptr _) (by unfold maxLen; omega) (by omega) (Nat.le_trans hbw.size (by simp)) ?_; intro v2 w2 hown2 hg2 _; have hb2 := own_below (Hown.out.alloc _) hg2 (Nat.le_trans hbw.size (by simp)) (hbw.alloc hbw.size _); clear hg2)
      go_roundw
      case rel => exact ⟨k + 1, by omega, by go_num, by rw [HNX.out]; exact hown2, hb2⟩
      case measure => simp [intOf]; omega
    · obtain rfl : k = t.args.length := by omega
      go_wp2_with fail
      go_ret
      have hown := Hown.out
      have hkl : kk.length = t.args.length := HKL.out
      rw [← hkl, List.take_length, hkl] at hown
      exact built_end (by rw [ptrs_length, HKL.out]) hown hbw
end Go.Proofs.YtplchhahjmoodaaGreatDoor
