/-
  The model's test of the form of every node, and its IsFormula.
-/
import Derived.Test.YtplchhahjmoodaaGreatDoorZ15
namespace Go.Proofs.YtplchhahjmoodaaGreatDoor
open Go Go.RowKit

theorem nodeB_no {vars kd k u v : Int} {n : Nat} (h : ¬ ((usesF kd < 1 → u = 0) ∧ (usesF kd < 2 → v = 0) ∧ (¬ (kd = 2 ∨ kd = 3) → k = 0) ∧ (kd = 2 ∨ kd = 3 → 0 ≤ k ∧ k < vars) ∧ (0 ≤ u ∧ u ≤ 3) ∧ (0 ≤ v ∧ v ≤ 3) ∧ (n : Int) = arityF kd)) : nodeB vars kd k u v n = false := by
  cases hb : nodeB vars kd k u v n
  · rfl
  · exact absurd ((nodeB_iff vars kd k u v n).1 hb) h
theorem uses_kinds (kd : Int) : (usesF kd = 0 ∧ kd ≠ 2 ∧ kd ≠ 3) ∨ (usesF kd = 1 ∧ kd = 2) ∨ (usesF kd = 1 ∧ kd = 3) ∨ (usesF kd = 1 ∧ kd ≠ 2 ∧ kd ≠ 3) ∨ (usesF kd = 2 ∧ kd ≠ 2 ∧ kd ≠ 3) := by
  unfold usesF
  split
  · rename_i h
    rcases h with h | h | h | h | h <;> subst h <;> simp
  · split
    · omega
    · omega

theorem decU {n : Int} (h : ¬ (0 ≤ n ∧ n ≤ 3)) : (decide (0 ≤ n) && decide (n ≤ 3)) = false := by
  rw [Bool.and_eq_false_iff, decide_eq_false_iff_not, decide_eq_false_iff_not]
  omega
theorem specInB {n : Int} {c : Bool} (h : (decide (0 ≤ n) && decide (n ≤ 3)) = c) (W : World) : Calls Tryz.prog 56 #[.int .i64 n, .int .i64 0, .int .i64 3] W fun e w' => e = .returned (.bool c) ∧ w' = W := (specInF n 0 3 W).mono fun e w' g => ⟨by rw [g.1, h], g.2⟩
theorem specIn0 (W : World) : Calls Tryz.prog 56 #[.int .i64 0, .int .i64 0, .int .i64 3] W fun e w' => e = .returned (.bool true) ∧ w' = W := specInB rfl W
theorem nodeB_len {vars kd k u v : Int} {n : Nat} (h : (usesF kd < 1 → u = 0) ∧ (usesF kd < 2 → v = 0) ∧ (¬ (kd = 2 ∨ kd = 3) → k = 0) ∧ (kd = 2 ∨ kd = 3 → 0 ≤ k ∧ k < vars) ∧ (0 ≤ u ∧ u ≤ 3) ∧ (0 ≤ v ∧ v ≤ 3)) : nodeB vars kd k u v n = ((n : Int) == arityF kd) := by
  rw [Bool.eq_iff_iff, nodeB_iff, beq_iff_eq]
  obtain ⟨h1, h2, h3, h4, h5, h6⟩ := h
  exact ⟨fun h => h.2.2.2.2.2.2, fun h => ⟨h1, h2, h3, h4, h5, h6, h⟩⟩

set_option maxHeartbeats 6400000 in
theorem specForm (vars : Int) : ∀ x : Ft, ∀ (w : World), x.Short → x.In w w.heap.size → Calls Tryz.prog 85 #[.int .i64 vars, x.val] w (GaveB (.bool (x.er.formB vars)) w) := by
  apply Ft.ind
  intro x ih w hs hin
  have hs' := (Ft.short_iff x).1 hs
  have hlen := hs'.1
  unfold maxLen at hlen
  have hfb := Fm.formB_eq vars x.er
  have hel : x.er.args.length = x.args.length := by rw [Ft.er_args, List.length_map]
  have hnum : x.er.kd = x.kd ∧ x.er.k = x.k ∧ x.er.u = x.u ∧ x.er.v = x.v := by rw [Ft.er_eq]; exact ⟨rfl, rfl, rfl, rfl⟩
  rw [hel, hnum.1, hnum.2.1, hnum.2.2.1, hnum.2.2.2, Ft.er_args] at hfb
  have IH := Lib.hid (fun (k : Nat) (hk : k < x.args.length) (W : World) (hb : Below w.heap.size w W) => ih x.args[k] (List.getElem_mem hk) W (hs'.2 _ (List.getElem_mem hk)) ((hin.part (List.getElem_mem hk)).to hb))
  have HROW := Lib.hid hin.row
  have HFB := Lib.hid hfb
  clear ih hin hs hs' hfb hel hnum
  go_enter Tryz.func85, Tryz.ntmps85
  go_wp2_with fail
  go_loopw [5] (fun i wr => ∃ (k : Nat), k ≤ x.args.length ∧ i = .int .i64 k ∧ ((x.args.take k).map Ft.er).all (Fm.formB vars) = true ∧ Below (w.heap.size + 1) (w.alloc (.cells #[.int .i64 x.kd, .int .i64 x.k, .int .i64 x.u, .int .i64 x.v, .slice x.a x.args.length x.cap] 27)) wr) (fun i _ => x.args.length - (intOf i).toNat)
  case atStart => exact ⟨0, Nat.zero_le _, rfl, rfl, Below.refl _ _⟩
  case round =>
    obtain ⟨k, hk, rfl, hall, hb0⟩ := hrel
    have hb : Below w.heap.size w wr := ((Below.refl _ _).alloc (Nat.le_refl _) _).trans (hb0.mono (Nat.le_succ _))
    have hbox : ∀ o, wr.cell? ⟨w.heap.size, o, none⟩ = _ := fun o => hb0.cell (p := ⟨w.heap.size, o, none⟩) (Nat.lt_succ_self _)
    have e4 : wr.cell? ⟨w.heap.size, 4, none⟩ = some (.slice x.a x.args.length x.cap) := by rw [hbox]; simp [go_sem]
    have hs1 : w.heap.size + 1 ≤ wr.heap.size := by have := hb0.size; simpa using this
    by_cases hlt : k < x.args.length
    · obtain ⟨b, o, ha, hbW, hE0⟩ := HROW.out.node k hlt
      obtain ⟨c0, c1, c2, c3, c4⟩ := hE0.below hb hbW
      rw [ha] at e4
      have HI := Lib.hid (IH.out k hlt)
      have hmem : x.args[k].er ∈ x.args.map Ft.er := List.mem_map.2 ⟨_, List.getElem_mem hlt, rfl⟩
      have hnx : ((x.args.take (k + 1)).map Ft.er).all (Fm.formB vars) = (((x.args.take k).map Ft.er).all (Fm.formB vars) && x.args[k].er.formB vars) := by
        rw [take_next x.args k hlt, List.map_append, List.all_append]
        simp
      generalize x.args[k] = y at *
      have HNX := Lib.hid hnx
      have HALL := Lib.hid hall
      have HHA := Lib.hid ha
      have HMEM := Lib.hid hmem
      clear hE0 ha hnx hall hmem hbox
      go_wp2_with fail
      refine (HI.out _ hb).mono ?_
      rintro e w1 ⟨rfl, hb1⟩
      have hB := hb0.trans (hb1.mono hs1)
      have hBw : Below w.heap.size w w1 := hb.trans (hb1.mono (by omega))
      obtain ⟨c, hc⟩ : ∃ c, y.er.formB vars = c := ⟨_, rfl⟩
      rw [hc]
      have HCC := Lib.hid hc
      clear hc
      cases c
      · have HF := Lib.hid (show x.er.formB vars = false by
          rw [HFB.out, Bool.and_eq_false_iff]
          right
          rw [List.all_eq_false]
          exact ⟨_, HMEM.out, by rw [HCC.out]; simp⟩)
        go_wp2_with fail
        go_ret
        exact ⟨congrArg (fun c : Bool => Ending.returned (.bool c)) HF.out.symm, hBw⟩
      · go_wp2_with fail
        go_roundw
        case rel => exact ⟨k + 1, by omega, by go_num, by rw [HNX.out, HALL.out, HCC.out]; rfl, hB⟩
        case measure => simp [intOf]; omega
    · obtain rfl : k = x.args.length := by omega
      rw [List.take_length] at hall
      have HFIN := Lib.hid (show ∀ (c : Bool) (W : World), nodeB vars x.kd x.k x.u x.v x.args.length = c → Below w.heap.size w W → GaveB (.bool (x.er.formB vars)) w (.returned (.bool c)) W from fun c W h hW => ⟨by rw [HFB.out, hall, h, Bool.and_true], hW⟩)
      have e0 : wr.cell? ⟨w.heap.size, 0, none⟩ = some (.int .i64 x.kd) := by rw [hbox]; simp [go_sem]
      have e1 : wr.cell? ⟨w.heap.size, 1, none⟩ = some (.int .i64 x.k) := by rw [hbox]; simp [go_sem]
      have e2 : wr.cell? ⟨w.heap.size, 2, none⟩ = some (.int .i64 x.u) := by rw [hbox]; simp [go_sem]
      have e3 : wr.cell? ⟨w.heap.size, 3, none⟩ = some (.int .i64 x.v) := by rw [hbox]; simp [go_sem]
      have hbd : ∀ d, Below w.heap.size w (wr.drewN d) := fun d => below_draws hb d
      have HBD := Lib.hid hbd
      have HB := Lib.hid hb
      clear hall hbox HFB IH HROW hb0 hs1 hbd hb
      generalize x.kd = kd at *
      generalize x.k = xk at *
      generalize x.u = xu at *
      generalize x.v = xv at *
      generalize hn : x.args.length = n at *
      have HN := Lib.hid hn
      clear hn

      rcases uses_kinds kd with ⟨hu, n2, n3⟩ | ⟨hu, rfl⟩ | ⟨hu, rfl⟩ | ⟨hu, n2, n3⟩ | ⟨hu, n2, n3⟩
      · have HU := Lib.hid hu
        have b2 : (kd == 2) = false := beq_eq_false_iff_ne.2 n2
        have b3 : (kd == 3) = false := beq_eq_false_iff_ne.2 n3
        have HKD := Lib.hid (And.intro n2 n3)
        clear hu n2 n3
        by_cases pu : xu = 0
        · subst pu
          by_cases pv : xv = 0
          · subst pv
            by_cases pk : xk = 0
            · subst pk
              have HOK := Lib.hid trivial
              go_wp2_with fail
              refine (specUses _ _).mono ?_
              rintro e w1 ⟨rfl, rfl⟩
              rw [HU.out]
              go_wp2_with fail
              go_quiet (first | (go_at_call 56; exact Calls.quiet_of_same (specIn0 _)) | (go_at_call 111; exact Calls.quiet_of_same (specArityOf _ _)))
              go_wp2_with fail
              go_ret
              exact HFIN.out _ _ (nodeB_len (by have h1 := HU.out; have h2 := HOK.out; have h3 := HKD.out; refine ⟨fun _ => ?_, fun _ => ?_, fun _ => ?_, fun _ => ?_, ?_, ?_⟩ <;> omega)) (HBD.out _)
            · have dk : (xk != 0) = true := bne_iff_ne.2 pk
              have HX := Lib.hid pk
              clear pk
              go_wp2_with fail
              refine (specUses _ _).mono ?_
              rintro e w1 ⟨rfl, rfl⟩
              rw [HU.out]
              go_wp2_with fail
              go_ret
              exact HFIN.out false _ (nodeB_no (by intro hc; have h1 := HU.out; have h2 := HX.out; have h3 := HKD.out; omega)) HB.out
          · have dv : (xv != 0) = true := bne_iff_ne.2 pv
            have HX := Lib.hid pv
            clear pv
            go_wp2_with fail
            refine (specUses _ _).mono ?_
            rintro e w1 ⟨rfl, rfl⟩
            rw [HU.out]
            go_wp2_with fail
            go_ret
            exact HFIN.out false _ (nodeB_no (by intro hc; have h1 := HU.out; have h2 := HX.out; have h3 := HKD.out; omega)) HB.out
        · have du : (xu != 0) = true := bne_iff_ne.2 pu
          have HX := Lib.hid pu
          clear pu
          go_wp2_with fail
          refine (specUses _ _).mono ?_
          rintro e w1 ⟨rfl, rfl⟩
          rw [HU.out]
          go_wp2_with fail
          go_ret
          exact HFIN.out false _ (nodeB_no (by intro hc; have h1 := HU.out; have h2 := HX.out; have h3 := HKD.out; omega)) HB.out
      · have HU := Lib.hid hu
        have HKD := Lib.hid (show True from trivial)
        clear hu
        by_cases pv : xv = 0
        · subst pv
          by_cases pl : 0 ≤ xk
          · have dl : decide (xk < 0) = false := decide_eq_false (by omega)
            by_cases ph : xk < vars
            · have dh : decide (vars ≤ xk) = false := decide_eq_false (by omega)
              have HOK := Lib.hid (show (0 ≤ xk) ∧ (xk < vars) ∧ True from ⟨pl, ph, trivial⟩)
              clear pl ph
              by_cases hxu : 0 ≤ xu ∧ xu ≤ 3
              · have hdu : (decide (0 ≤ xu) && decide (xu ≤ 3)) = true := by rw [decide_eq_true hxu.1, decide_eq_true hxu.2]; rfl
                have HXU := Lib.hid hxu
                have HQU := Lib.hid (fun (W : World) => specInB hdu W)
                clear hxu hdu
                go_wp2_with fail
                refine (specUses _ _).mono ?_
                rintro e w1 ⟨rfl, rfl⟩
                rw [HU.out]
                go_wp2_with fail
                go_quiet (first | (go_at_call_of 56 (Value.int IntKind.i64 xu); exact Calls.quiet_of_same (HQU.out _)) | (go_at_call 56; exact Calls.quiet_of_same (specIn0 _)) | (go_at_call 111; exact Calls.quiet_of_same (specArityOf _ _)))
                go_wp2_with fail
                go_ret
                exact HFIN.out _ _ (nodeB_len (by have h1 := HU.out; have h2 := HOK.out; have h3 := HKD.out; have hx1 := HXU.out; refine ⟨fun _ => ?_, fun _ => ?_, fun _ => ?_, fun _ => ?_, ?_, ?_⟩ <;> omega)) (HBD.out _)
              · have hdu : (decide (0 ≤ xu) && decide (xu ≤ 3)) = false := decU hxu
                have HX := Lib.hid hxu
                have HQU := Lib.hid (fun (W : World) => specInB hdu W)
                clear hxu hdu
                go_wp2_with fail
                refine (specUses _ _).mono ?_
                rintro e w1 ⟨rfl, rfl⟩
                rw [HU.out]
                go_wp2_with fail
                go_quiet (first | (go_at_call_of 56 (Value.int IntKind.i64 xu); exact Calls.quiet_of_same (HQU.out _)) | (go_at_call 111; exact Calls.quiet_of_same (specArityOf _ _)))
                go_wp2_with fail
                go_ret
                exact HFIN.out false _ (nodeB_no (by intro hc; have h1 := HU.out; have h2 := HX.out; have h3 := HKD.out; omega)) (HBD.out _)
            · have dh : decide (vars ≤ xk) = true := decide_eq_true (by omega)
              have HX := Lib.hid ph
              have HY1 := Lib.hid pl
              clear ph pl
              go_wp2_with fail
              refine (specUses _ _).mono ?_
              rintro e w1 ⟨rfl, rfl⟩
              rw [HU.out]
              go_wp2_with fail
              go_ret
              exact HFIN.out false _ (nodeB_no (by intro hc; have h1 := HU.out; have h2 := HX.out; have h3 := HKD.out; omega)) HB.out
          · have dl : decide (xk < 0) = true := decide_eq_true (by omega)
            have HX := Lib.hid pl
            clear pl
            go_wp2_with fail
            refine (specUses _ _).mono ?_
            rintro e w1 ⟨rfl, rfl⟩
            rw [HU.out]
            go_wp2_with fail
            go_ret
            exact HFIN.out false _ (nodeB_no (by intro hc; have h1 := HU.out; have h2 := HX.out; have h3 := HKD.out; omega)) HB.out
        · have dv : (xv != 0) = true := bne_iff_ne.2 pv
          have HX := Lib.hid pv
          clear pv
          go_wp2_with fail
          refine (specUses _ _).mono ?_
          rintro e w1 ⟨rfl, rfl⟩
          rw [HU.out]
          go_wp2_with fail
          go_ret
          exact HFIN.out false _ (nodeB_no (by intro hc; have h1 := HU.out; have h2 := HX.out; have h3 := HKD.out; omega)) HB.out
      · have HU := Lib.hid hu
        have HKD := Lib.hid (show True from trivial)
        clear hu
        by_cases pv : xv = 0
        · subst pv
          by_cases pl : 0 ≤ xk
          · have dl : decide (xk < 0) = false := decide_eq_false (by omega)
            by_cases ph : xk < vars
            · have dh : decide (vars ≤ xk) = false := decide_eq_false (by omega)
              have HOK := Lib.hid (show (0 ≤ xk) ∧ (xk < vars) ∧ True from ⟨pl, ph, trivial⟩)
              clear pl ph
              by_cases hxu : 0 ≤ xu ∧ xu ≤ 3
              · have hdu : (decide (0 ≤ xu) && decide (xu ≤ 3)) = true := by rw [decide_eq_true hxu.1, decide_eq_true hxu.2]; rfl
                have HXU := Lib.hid hxu
                have HQU := Lib.hid (fun (W : World) => specInB hdu W)
                clear hxu hdu
                go_wp2_with fail
                refine (specUses _ _).mono ?_
                rintro e w1 ⟨rfl, rfl⟩
                rw [HU.out]
                go_wp2_with fail
                go_quiet (first | (go_at_call_of 56 (Value.int IntKind.i64 xu); exact Calls.quiet_of_same (HQU.out _)) | (go_at_call 56; exact Calls.quiet_of_same (specIn0 _)) | (go_at_call 111; exact Calls.quiet_of_same (specArityOf _ _)))
                go_wp2_with fail
                go_ret
                exact HFIN.out _ _ (nodeB_len (by have h1 := HU.out; have h2 := HOK.out; have h3 := HKD.out; have hx1 := HXU.out; refine ⟨fun _ => ?_, fun _ => ?_, fun _ => ?_, fun _ => ?_, ?_, ?_⟩ <;> omega)) (HBD.out _)
              · have hdu : (decide (0 ≤ xu) && decide (xu ≤ 3)) = false := decU hxu
                have HX := Lib.hid hxu
                have HQU := Lib.hid (fun (W : World) => specInB hdu W)
                clear hxu hdu
                go_wp2_with fail
                refine (specUses _ _).mono ?_
                rintro e w1 ⟨rfl, rfl⟩
                rw [HU.out]
                go_wp2_with fail
                go_quiet (first | (go_at_call_of 56 (Value.int IntKind.i64 xu); exact Calls.quiet_of_same (HQU.out _)) | (go_at_call 111; exact Calls.quiet_of_same (specArityOf _ _)))
                go_wp2_with fail
                go_ret
                exact HFIN.out false _ (nodeB_no (by intro hc; have h1 := HU.out; have h2 := HX.out; have h3 := HKD.out; omega)) (HBD.out _)
            · have dh : decide (vars ≤ xk) = true := decide_eq_true (by omega)
              have HX := Lib.hid ph
              have HY1 := Lib.hid pl
              clear ph pl
              go_wp2_with fail
              refine (specUses _ _).mono ?_
              rintro e w1 ⟨rfl, rfl⟩
              rw [HU.out]
              go_wp2_with fail
              go_ret
              exact HFIN.out false _ (nodeB_no (by intro hc; have h1 := HU.out; have h2 := HX.out; have h3 := HKD.out; omega)) HB.out
          · have dl : decide (xk < 0) = true := decide_eq_true (by omega)
            have HX := Lib.hid pl
            clear pl
            go_wp2_with fail
            refine (specUses _ _).mono ?_
            rintro e w1 ⟨rfl, rfl⟩
            rw [HU.out]
            go_wp2_with fail
            go_ret
            exact HFIN.out false _ (nodeB_no (by intro hc; have h1 := HU.out; have h2 := HX.out; have h3 := HKD.out; omega)) HB.out
        · have dv : (xv != 0) = true := bne_iff_ne.2 pv
          have HX := Lib.hid pv
          clear pv
          go_wp2_with fail
          refine (specUses _ _).mono ?_
          rintro e w1 ⟨rfl, rfl⟩
          rw [HU.out]
          go_wp2_with fail
          go_ret
          exact HFIN.out false _ (nodeB_no (by intro hc; have h1 := HU.out; have h2 := HX.out; have h3 := HKD.out; omega)) HB.out
      · have HU := Lib.hid hu
        have b2 : (kd == 2) = false := beq_eq_false_iff_ne.2 n2
        have b3 : (kd == 3) = false := beq_eq_false_iff_ne.2 n3
        have HKD := Lib.hid (And.intro n2 n3)
        clear hu n2 n3
        by_cases pv : xv = 0
        · subst pv
          by_cases pk : xk = 0
          · subst pk
            have HOK := Lib.hid trivial
            by_cases hxu : 0 ≤ xu ∧ xu ≤ 3
            · have hdu : (decide (0 ≤ xu) && decide (xu ≤ 3)) = true := by rw [decide_eq_true hxu.1, decide_eq_true hxu.2]; rfl
              have HXU := Lib.hid hxu
              have HQU := Lib.hid (fun (W : World) => specInB hdu W)
              clear hxu hdu
              go_wp2_with fail
              refine (specUses _ _).mono ?_
              rintro e w1 ⟨rfl, rfl⟩
              rw [HU.out]
              go_wp2_with fail
              go_quiet (first | (go_at_call_of 56 (Value.int IntKind.i64 xu); exact Calls.quiet_of_same (HQU.out _)) | (go_at_call 56; exact Calls.quiet_of_same (specIn0 _)) | (go_at_call 111; exact Calls.quiet_of_same (specArityOf _ _)))
              go_wp2_with fail
              go_ret
              exact HFIN.out _ _ (nodeB_len (by have h1 := HU.out; have h2 := HOK.out; have h3 := HKD.out; have hx1 := HXU.out; refine ⟨fun _ => ?_, fun _ => ?_, fun _ => ?_, fun _ => ?_, ?_, ?_⟩ <;> omega)) (HBD.out _)
            · have hdu : (decide (0 ≤ xu) && decide (xu ≤ 3)) = false := decU hxu
              have HX := Lib.hid hxu
              have HQU := Lib.hid (fun (W : World) => specInB hdu W)
              clear hxu hdu
              go_wp2_with fail
              refine (specUses _ _).mono ?_
              rintro e w1 ⟨rfl, rfl⟩
              rw [HU.out]
              go_wp2_with fail
              go_quiet (first | (go_at_call_of 56 (Value.int IntKind.i64 xu); exact Calls.quiet_of_same (HQU.out _)) | (go_at_call 111; exact Calls.quiet_of_same (specArityOf _ _)))
              go_wp2_with fail
              go_ret
              exact HFIN.out false _ (nodeB_no (by intro hc; have h1 := HU.out; have h2 := HX.out; have h3 := HKD.out; omega)) (HBD.out _)
          · have dk : (xk != 0) = true := bne_iff_ne.2 pk
            have HX := Lib.hid pk
            clear pk
            go_wp2_with fail
            refine (specUses _ _).mono ?_
            rintro e w1 ⟨rfl, rfl⟩
            rw [HU.out]
            go_wp2_with fail
            go_ret
            exact HFIN.out false _ (nodeB_no (by intro hc; have h1 := HU.out; have h2 := HX.out; have h3 := HKD.out; omega)) HB.out
        · have dv : (xv != 0) = true := bne_iff_ne.2 pv
          have HX := Lib.hid pv
          clear pv
          go_wp2_with fail
          refine (specUses _ _).mono ?_
          rintro e w1 ⟨rfl, rfl⟩
          rw [HU.out]
          go_wp2_with fail
          go_ret
          exact HFIN.out false _ (nodeB_no (by intro hc; have h1 := HU.out; have h2 := HX.out; have h3 := HKD.out; omega)) HB.out
      · have HU := Lib.hid hu
        have b2 : (kd == 2) = false := beq_eq_false_iff_ne.2 n2
        have b3 : (kd == 3) = false := beq_eq_false_iff_ne.2 n3
        have HKD := Lib.hid (And.intro n2 n3)
        clear hu n2 n3
        by_cases pk : xk = 0
        · subst pk
          have HOK := Lib.hid trivial
          by_cases hxu : 0 ≤ xu ∧ xu ≤ 3
          · have hdu : (decide (0 ≤ xu) && decide (xu ≤ 3)) = true := by rw [decide_eq_true hxu.1, decide_eq_true hxu.2]; rfl
            have HXU := Lib.hid hxu
            have HQU := Lib.hid (fun (W : World) => specInB hdu W)
            clear hxu hdu
            by_cases hxv : 0 ≤ xv ∧ xv ≤ 3
            · have hdv : (decide (0 ≤ xv) && decide (xv ≤ 3)) = true := by rw [decide_eq_true hxv.1, decide_eq_true hxv.2]; rfl
              have HXV := Lib.hid hxv
              have HQV := Lib.hid (fun (W : World) => specInB hdv W)
              clear hxv hdv
              go_wp2_with fail
              refine (specUses _ _).mono ?_
              rintro e w1 ⟨rfl, rfl⟩
              rw [HU.out]
              go_wp2_with fail
              go_quiet (first | (go_at_call_of 56 (Value.int IntKind.i64 xu); exact Calls.quiet_of_same (HQU.out _)) | (go_at_call_of 56 (Value.int IntKind.i64 xv); exact Calls.quiet_of_same (HQV.out _)) | (go_at_call 111; exact Calls.quiet_of_same (specArityOf _ _)))
              go_wp2_with fail
              go_ret
              exact HFIN.out _ _ (nodeB_len (by have h1 := HU.out; have h2 := HOK.out; have h3 := HKD.out; have hx1 := HXU.out; have hx2 := HXV.out; refine ⟨fun _ => ?_, fun _ => ?_, fun _ => ?_, fun _ => ?_, ?_, ?_⟩ <;> omega)) (HBD.out _)
            · have hdv : (decide (0 ≤ xv) && decide (xv ≤ 3)) = false := decU hxv
              have HX := Lib.hid hxv
              have HQV := Lib.hid (fun (W : World) => specInB hdv W)
              clear hxv hdv
              go_wp2_with fail
              refine (specUses _ _).mono ?_
              rintro e w1 ⟨rfl, rfl⟩
              rw [HU.out]
              go_wp2_with fail
              go_quiet (first | (go_at_call_of 56 (Value.int IntKind.i64 xu); exact Calls.quiet_of_same (HQU.out _)) | (go_at_call_of 56 (Value.int IntKind.i64 xv); exact Calls.quiet_of_same (HQV.out _)) | (go_at_call 111; exact Calls.quiet_of_same (specArityOf _ _)))
              go_wp2_with fail
              go_ret
              exact HFIN.out false _ (nodeB_no (by intro hc; have h1 := HU.out; have h2 := HX.out; have h3 := HKD.out; omega)) (HBD.out _)
          · have hdu : (decide (0 ≤ xu) && decide (xu ≤ 3)) = false := decU hxu
            have HX := Lib.hid hxu
            have HQU := Lib.hid (fun (W : World) => specInB hdu W)
            clear hxu hdu
            go_wp2_with fail
            refine (specUses _ _).mono ?_
            rintro e w1 ⟨rfl, rfl⟩
            rw [HU.out]
            go_wp2_with fail
            go_quiet (first | (go_at_call_of 56 (Value.int IntKind.i64 xu); exact Calls.quiet_of_same (HQU.out _)) | (go_at_call 111; exact Calls.quiet_of_same (specArityOf _ _)))
            go_wp2_with fail
            go_ret
            exact HFIN.out false _ (nodeB_no (by intro hc; have h1 := HU.out; have h2 := HX.out; have h3 := HKD.out; omega)) (HBD.out _)
        · have dk : (xk != 0) = true := bne_iff_ne.2 pk
          have HX := Lib.hid pk
          clear pk
          go_wp2_with fail
          refine (specUses _ _).mono ?_
          rintro e w1 ⟨rfl, rfl⟩
          rw [HU.out]
          go_wp2_with fail
          go_ret
          exact HFIN.out false _ (nodeB_no (by intro hc; have h1 := HU.out; have h2 := HX.out; have h3 := HKD.out; omega)) HB.out
end Go.Proofs.YtplchhahjmoodaaGreatDoor
