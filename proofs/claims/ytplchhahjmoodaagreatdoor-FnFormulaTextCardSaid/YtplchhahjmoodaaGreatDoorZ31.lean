/-
  The program's parts of a pair of nodes.
-/
import Derived.Deep.RegionLaw
import Derived.Deep.AppendLies
import Derived.Test.YtplchhahjmoodaaGreatDoorZ27
namespace Go.Proofs.YtplchhahjmoodaaGreatDoor
open Go Go.RowKit Go.ChangeAt Go.ChangeShapes Go.WideShapes

theorem twInfo : (Tryz.prog.info? 65).map (fun i => (i.zero, i.size, i.bytes)) = some (some (.agg #[.pointer none, .pointer none]), 2, 16) := by kernel_rfl
theorem tw_news (w : World) (u v : Value) (t : TypeId) : ∀ j y, [u, v][j]? = some y → (w.alloc (.cells #[u, v] t)).cell? ((⟨w.heap.size, 0, none⟩ : Addr).add j) = some y := by
  intro j y hj
  match j, hj with
  | 0, hj =>
    simp at hj
    subst hj
    simp [Addr.add]
  | 1, hj =>
    simp at hj
    subst hj
    simp [Addr.add, go_sem]
  | j + 2, hj => simp at hj
theorem tw_one (a b : Option Addr) : ∀ u ∈ [Value.pointer a, Value.pointer b], u.oneCell' = true := by
  intro u hu
  simp at hu
  rcases hu with rfl | rfl <;> rfl
set_option maxRecDepth 100000 in
set_option maxHeartbeats 3200000 in
theorem implInner (x : Tw) (w : World) (h1 : LocOk w w.heap.size x.1) (h2 : LocOk w w.heap.size x.2) (hn : x.1.2.args.length ≤ 1099511627776) :
    Calls Tryz.prog 39 #[twV x] w (fun e w' => ∃ a cap, e = .returned (.slice a (stepsT x).length cap) ∧ w'.ownsRow w.heap.size 65 2 (.slice a (stepsT x).length cap) (stepsT x).length ((stepsT x).flatMap twCells) ∧ Below w.heap.size w w') := by
  obtain ⟨i0, hi, hz0, hz1, hz2⟩ := info_parts twInfo
  have hb0 : ∀ c t, Below w.heap.size w (w.alloc (.cells c t)) := fun c t => (Below.refl _ _).alloc (Nat.le_refl _) _
  have HAL := Lib.hid (fun c t => implAlike x (w.alloc (.cells c t)) (h1.below (hb0 c t)) (h2.below (hb0 c t)))
  have HOK := Lib.hid (fun (W : World) (hb : Below w.heap.size w W) => And.intro (h1.below hb) (h2.below hb))
  obtain ⟨st, hst⟩ : ∃ s, stepsT x = s := ⟨_, rfl⟩
  rw [hst]
  by_cases hal : alikeT x
  · have hlen := hal.2.2.2.2
    have hd := decide_eq_true hal
    rw [stepsT, if_pos hal] at hst
    rw [hd] at HAL
    have hsl : st.length = x.1.2.args.length := by rw [← hst, List.length_zip, kids_length, kids_length]; omega
    have hat : ∀ i (h : i < st.length), st[i].1.1 = kidAt x.1.2.a i ∧ st[i].2.1 = kidAt x.2.2.a i := fun i h => by
      subst hst
      simp [kids]
    have HSL := Lib.hid hsl
    have HAT := Lib.hid hat
    clear hal hd hst hsl hat
    obtain ⟨⟨p1, t1⟩, ⟨p2, t2⟩⟩ := x
    obtain ⟨b1, o1, e1, _⟩ := h1.at_
    obtain ⟨b2, o2, e2, _⟩ := h2.at_
    have k1 := h1.blk
    have k2 := h2.blk
    have HR1 := Lib.hid h1.in_.row
    have HR2 := Lib.hid h2.in_.row
    simp only at e1 e2 k1 k2 hlen hn
    subst e1 e2
    have g1 : b1 < w.heap.size := k1
    have g2 : b2 < w.heap.size := k2
    have HN : ∀ W, Below w.heap.size w W → W.cell? ⟨b1, o1 + 4, none⟩ = some (.slice t1.a t1.args.length t1.cap) ∧ W.cell? ⟨b2, o2 + 4, none⟩ = some (.slice t2.a t1.args.length t2.cap) := fun W hW => by
      obtain ⟨q1, q2⟩ := HOK.out W hW
      obtain ⟨b1', o1', e1, n1⟩ := q1.at_
      obtain ⟨b2', o2', e2, n2⟩ := q2.at_
      injection e1 with e1 e1' _
      injection e2 with e2 e2' _
      subst e1 e1' e2 e2'
      have := n2.s
      simp only at this
      rw [← hlen] at this
      exact ⟨n1.s, this⟩
    have HNN := Lib.hid HN
    have HL := Lib.hid hlen
    unfold twV at HAL ⊢
    simp only at HAL ⊢
    clear h1 h2 k1 k2 HN hlen
    go_enter Tryz.func39, Tryz.ntmps39
    go_wp2_with fail
    refine (HAL.out _ _).mono ?_
    rintro e w1 ⟨rfl, hb1⟩
    have hz1' := hb1.size
    simp at hz1'
    have hbx : ∀ W, Below w1.heap.size w1 W → Hid (Below w.heap.size w W ∧ W.cell? ⟨w.heap.size, 0, none⟩ = some (.pointer (some ⟨b1, o1, none⟩)) ∧ W.cell? ⟨w.heap.size, 1, none⟩ = some (.pointer (some ⟨b2, o2, none⟩))) := fun W hW => by
      have hc : ∀ o, W.cell? ⟨w.heap.size, o, none⟩ = _ := fun o => (hW.cell (p := ⟨w.heap.size, o, none⟩) (by show w.heap.size < _; omega)).trans (hb1.cell (p := ⟨w.heap.size, o, none⟩) (by simp))
      exact Lib.hid ⟨(hb0 _ _).trans ((hb1.mono (by simp)).trans (hW.mono (by omega))), by rw [hc]; simp [go_sem], by rw [hc]; simp [go_sem]⟩
    have HBX := Lib.hid hbx
    obtain ⟨hB1, c0, c1⟩ := (HBX.out w1 (Below.refl _ _)).out
    obtain ⟨s1, s2⟩ := HNN.out w1 hB1
    clear hb1 hbx hB1
    go_wp2_with fail
    go_loopw [3, 14] (fun v i wr => ∃ k : Nat, k ≤ t1.args.length ∧ i = .int .i64 k ∧ wr.ownsRow w1.heap.size 65 2 v k ((st.take k).flatMap twCells) ∧ Below w1.heap.size w1 wr) (fun _ i _ => t1.args.length - (intOf i).toNat)
    case atStart => exact ⟨0, Nat.zero_le _, rfl, ⟨rfl, .inl ⟨rfl, rfl⟩⟩, Below.refl _ _⟩
    case round =>
      clear c0 c1 s1 s2
      obtain ⟨k, hk, rfl, hown, hbw⟩ := hrel
      obtain ⟨hB, c0, c1⟩ := (HBX.out wr hbw).out
      obtain ⟨s1, s2⟩ := HNN.out wr hB
      obtain ⟨va, vc, rfl, _⟩ := rc_shape hown
      have hzw := hbw.size
      by_cases hlt : k < t1.args.length
      · obtain ⟨ba, oa, ha, _, _⟩ := HR1.out.node k hlt
        obtain ⟨bb, ob, hb, _, _⟩ := HR2.out.node k (by have := HL.out; omega)
        have hks : k < st.length := by rw [HSL.out]; exact hlt
        have hnx : (st.take (k + 1)).flatMap twCells = (st.take k).flatMap twCells ++ [.pointer (some ⟨ba, oa + k * 5, none⟩), .pointer (some ⟨bb, ob + k * 5, none⟩)] := by
          obtain ⟨a1, a2⟩ := HAT.out k hks
          rw [take_next st k hks, tw_flat_snoc, twCells, a1, a2]
          have ha' : t1.a = some ⟨ba, oa, none⟩ := ha
          have hb' : t2.a = some ⟨bb, ob, none⟩ := hb
          simp [kidAt, ha', hb']
        have HNX := Lib.hid hnx
        have Hown := Lib.hid hown
        have HA := Lib.hid ha
        have HBB := Lib.hid hb
        have ha' : t1.a = some ⟨ba, oa, none⟩ := ha
        have hb' : t2.a = some ⟨bb, ob, none⟩ := hb
        have HBW := Lib.hid hbw
        rw [ha'] at s1
        rw [hb'] at s2
        clear ha hb ha' hb' hnx hown hbw
        go_wp2_with fail
        go_region_law (refine step_append_lies _ rfl (.tmp 17) (.tmp 33) 61 rfl w1.heap.size 65 i0 (.agg #[.pointer none, .pointer none]) 2 16 Tryz.underlying61 hi hz0 hz1 hz2 rfl (by decide) (.slice va k vc) k ((st.take k).flatMap twCells) ?_ ?_ ⟨wr.heap.size, 0, none⟩ 1 1 [.pointer (some ⟨ba, oa + k * 5, none⟩), .pointer (some ⟨bb, ob + k * 5, none⟩)] ?_ rfl (tw_news wr _ _ _) (tw_one _ _) (by omega) ?_ ?_ ?_ _ rfl ?_
                       · simp [Act.eval]
                       · exact own_keeps (Hown.out.alloc _) (Below.drew (Below.refl _ _))
                       · simp [Act.eval]
                       · unfold maxLen; omega
                       · omega
                       · simp; omega
                       intro g9 cap9 w9 hown9 hg9 hat9 hlt9
                       have hb9 : Below w1.heap.size w1 w9 := below_grown (HBW.out.trans ((Below.drew ((Below.refl _ _).alloc (Nat.le_refl _) _)).mono hzw)) hg9 (by simp; omega) (fun k hk => (Hown.out.lt k hk).1))
        all_goals
          go_wp2_with fail
          go_roundw
          case rel => exact ⟨k + 1, by omega, by go_num, by rw [HNX.out]; exact hown9, hb9⟩
          case measure => simp [intOf]; omega
      · obtain rfl : k = t1.args.length := by omega
        have Hown := Lib.hid hown
        have HB := Lib.hid hB
        clear hown hbw hB
        go_wp2_with fail
        go_ret
        have ho := Hown.out
        have hsl := HSL.out
        rw [← hsl, List.take_length] at ho
        refine ⟨va, vc, by rw [hsl]; rfl, own_base ho (by omega), HB.out⟩
  · have hd := decide_eq_false hal
    rw [stepsT, if_neg hal] at hst
    rw [hd] at HAL
    subst hst
    clear hal hd h1 h2
    unfold twV at HAL ⊢
    go_enter Tryz.func39, Tryz.ntmps39
    go_wp2_with fail
    refine (HAL.out _ _).mono ?_
    rintro e w1 ⟨rfl, hb1⟩
    have HB := Lib.hid ((hb0 _ _).trans (hb1.mono (by simp)))
    clear hb1 hb0
    go_wp2_with fail
    go_ret
    exact ⟨none, 0, rfl, ⟨rfl, .inl ⟨rfl, rfl⟩⟩, HB.out⟩
end Go.Proofs.YtplchhahjmoodaaGreatDoor
