/-
  The program's test whether two nodes are alike.
-/
import Derived.BigQuiet
import Derived.Test.YtplchhahjmoodaaGreatDoorZ26
namespace Go.Proofs.YtplchhahjmoodaaGreatDoor
open Go Go.RowKit Go.ChangeAt Go.ChangeShapes Go.WideShapes

set_option maxRecDepth 100000 in
set_option maxHeartbeats 3200000 in
theorem implAlike (x : Tw) (w : World) (h1 : LocOk w w.heap.size x.1) (h2 : LocOk w w.heap.size x.2) : Calls Tryz.prog 40 #[twV x] w (GaveB (.bool (decide (alikeT x))) w) := by
  obtain ⟨⟨p1, t1⟩, ⟨p2, t2⟩⟩ := x
  obtain ⟨b1, o1, e1, n1⟩ := h1.at_
  obtain ⟨b2, o2, e2, n2⟩ := h2.at_
  have k1 := h1.blk
  have k2 := h2.blk
  simp only at e1 e2 n1 n2 k1 k2
  subst e1 e2
  obtain ⟨c0, c1, c2, c3, c4⟩ := n1
  obtain ⟨d0, d1, d2, d3, d4⟩ := n2
  have g1 : b1 < w.heap.size := k1
  have g2 : b2 < w.heap.size := k2
  have HD : ∀ n c t, Hid (Below w.heap.size w ((w.alloc (.cells c t)).drewN n)) := fun n c t => Lib.hid (below_draws ((Below.refl _ _).alloc (Nat.le_refl _) _) n)
  have HDD := Lib.hid HD
  unfold twV
  obtain ⟨res, hres⟩ : ∃ r, decide (alikeT ((⟨b1, o1, none⟩, t1), (⟨b2, o2, none⟩, t2))) = r := ⟨_, rfl⟩
  rw [hres]
  have HRES := Lib.hid hres
  clear hres h1 h2 k1 k2 HD
  generalize hA : t1.args.length = na at *
  generalize hB : t2.args.length = nb at *
  generalize hk1 : t1.kd = a0 at *
  generalize hk2 : t2.kd = b0 at *
  generalize hk3 : t1.k = a1 at *
  generalize hk4 : t2.k = b1' at *
  generalize hk5 : t1.u = a2 at *
  generalize hk6 : t2.u = b2' at *
  generalize hk7 : t1.v = a3 at *
  generalize hk8 : t2.v = b3 at *
  have HALL := Lib.hid (show res = true ↔ (a0 = b0 ∧ a1 = b1' ∧ a2 = b2' ∧ a3 = b3 ∧ na = nb) by
    rw [← HRES.out, decide_eq_true_iff, alikeT]
    simp only [hk1, hk2, hk3, hk4, hk5, hk6, hk7, hk8, hA, hB])
  clear hA hB hk1 hk2 hk3 hk4 hk5 hk6 hk7 hk8
  by_cases q0 : a0 = b0
  · have e10 : (a0 == b0) = true := beq_iff_eq.2 (by rw [q0])
    by_cases q1 : a1 = b1'
    · have e11 : (a1 == b1') = true := beq_iff_eq.2 (by rw [q1])
      by_cases q2 : a2 = b2'
      · have e12 : (a2 == b2') = true := beq_iff_eq.2 (by rw [q2])
        by_cases q3 : a3 = b3
        · have e13 : (a3 == b3) = true := beq_iff_eq.2 (by rw [q3])
          by_cases q4 : na = nb
          · have e14 : ((na : Int) == (nb : Int)) = true := beq_iff_eq.2 (by rw [q4])
            have HX := Lib.hid (show true = res from (HALL.out.2 ⟨q0, q1, q2, q3, q4⟩).symm)
            clear q0 q1 q2 q3 q4
            go_enter Tryz.func40, Tryz.ntmps40
            go_wp2_with fail
            go_quiet (fail)
            all_goals go_wp2_with fail
            go_quiet (fail)
            go_wp2_with fail
            go_ret
            exact ⟨congrArg (fun c : Bool => Ending.returned (.bool c)) HX.out, by simpa using (HDD.out _ _ _).out⟩
          · have e14 : ((na : Int) == (nb : Int)) = false := beq_eq_false_iff_ne.2 (by omega)
            have HX := Lib.hid (show false = res by cases res; rfl; exact absurd (HALL.out.1 rfl).2.2.2.2 q4)
            clear q0 q1 q2 q3 q4
            go_enter Tryz.func40, Tryz.ntmps40
            go_wp2_with fail
            go_quiet (fail)
            all_goals go_wp2_with fail
            go_quiet (fail)
            go_wp2_with fail
            go_ret
            exact ⟨congrArg (fun c : Bool => Ending.returned (.bool c)) HX.out, by simpa using (HDD.out _ _ _).out⟩
        · have e13 : (a3 == b3) = false := beq_eq_false_iff_ne.2 (q3)
          have HX := Lib.hid (show false = res by cases res; rfl; exact absurd (HALL.out.1 rfl).2.2.2.1 q3)
          clear q0 q1 q2 q3
          go_enter Tryz.func40, Tryz.ntmps40
          go_wp2_with fail
          go_quiet (fail)
          all_goals go_wp2_with fail
          go_quiet (fail)
          go_wp2_with fail
          go_ret
          exact ⟨congrArg (fun c : Bool => Ending.returned (.bool c)) HX.out, by simpa using (HDD.out _ _ _).out⟩
      · have e12 : (a2 == b2') = false := beq_eq_false_iff_ne.2 (q2)
        have HX := Lib.hid (show false = res by cases res; rfl; exact absurd (HALL.out.1 rfl).2.2.1 q2)
        clear q0 q1 q2
        go_enter Tryz.func40, Tryz.ntmps40
        go_wp2_with fail
        go_quiet (fail)
        all_goals go_wp2_with fail
        go_quiet (fail)
        go_wp2_with fail
        go_ret
        exact ⟨congrArg (fun c : Bool => Ending.returned (.bool c)) HX.out, by simpa using (HDD.out _ _ _).out⟩
    · have e11 : (a1 == b1') = false := beq_eq_false_iff_ne.2 (q1)
      have HX := Lib.hid (show false = res by cases res; rfl; exact absurd (HALL.out.1 rfl).2.1 q1)
      clear q0 q1
      go_enter Tryz.func40, Tryz.ntmps40
      go_wp2_with fail
      go_quiet (fail)
      all_goals go_wp2_with fail
      go_quiet (fail)
      go_wp2_with fail
      go_ret
      exact ⟨congrArg (fun c : Bool => Ending.returned (.bool c)) HX.out, by simpa using (HDD.out _ _ _).out⟩
  · have e10 : (a0 == b0) = false := beq_eq_false_iff_ne.2 (q0)
    have HX := Lib.hid (show false = res by cases res; rfl; exact absurd (HALL.out.1 rfl).1 q0)
    clear q0
    go_enter Tryz.func40, Tryz.ntmps40
    go_wp2_with fail
    go_quiet (fail)
    all_goals go_wp2_with fail
    go_quiet (fail)
    go_wp2_with fail
    go_ret
    exact ⟨congrArg (fun c : Bool => Ending.returned (.bool c)) HX.out, by simpa using (HDD.out _ _ _).out⟩
end Go.Proofs.YtplchhahjmoodaaGreatDoor
