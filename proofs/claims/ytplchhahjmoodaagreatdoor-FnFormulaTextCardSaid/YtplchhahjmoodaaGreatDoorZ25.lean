/-
  The two IsFormula.
-/
import Derived.Lib.QuietBelow
import Derived.Test.YtplchhahjmoodaaGreatDoorZ24
import Derived.Test.YtplchhahjmoodaaGreatDoorZ20
import Derived.Test.YtplchhahjmoodaaGreatDoorZ22
namespace Go.Proofs.YtplchhahjmoodaaGreatDoor
open Go Go.RowKit Go.ChangeAt Go.ChangeShapes Go.WideShapes Go.Sort

/-- What is a formula over so many variables. -/
def isFmB (vars : Int) (t : Fm) : Bool := decide (t.size ≤ 40) && (decide (t.depth ≤ 12) && t.formB vars)

set_option maxHeartbeats 1600000 in
theorem specIsFormula (vars : Int) (x : Ft) (w : World) (hsz : x.er.size ≤ 1099511627776) (hin : x.In w w.heap.size) : Calls Tryz.prog 36 #[.int .i64 vars, x.val] w (GaveB (.bool (isFmB vars x.er)) w) := by
  have hsh := x.short_of_size hsz
  have hlen := ((Ft.short_iff x).1 hsh).1
  have hb0 : Below w.heap.size w (w.alloc (.cells #[.int .i64 x.kd, .int .i64 x.k, .int .i64 x.u, .int .i64 x.v, .slice x.a x.args.length x.cap] 27)) := (Below.refl _ _).alloc (Nat.le_refl _) _
  obtain ⟨W0, hW0⟩ : ∃ W, w.alloc (.cells #[.int .i64 x.kd, .int .i64 x.k, .int .i64 x.u, .int .i64 x.v, .slice x.a x.args.length x.cap] 27) = W := ⟨_, rfl⟩
  have hK : ∀ W, Below W0.heap.size W0 W → (x.In W W.heap.size ∧ Below w.heap.size w W) ∧ W.cell? ⟨w.heap.size, 0, none⟩ = some (.int .i64 x.kd) ∧ W.cell? ⟨w.heap.size, 1, none⟩ = some (.int .i64 x.k) ∧ W.cell? ⟨w.heap.size, 2, none⟩ = some (.int .i64 x.u) ∧ W.cell? ⟨w.heap.size, 3, none⟩ = some (.int .i64 x.v) ∧ W.cell? ⟨w.heap.size, 4, none⟩ = some (.slice x.a x.args.length x.cap) := fun W hW => by
    rw [← hW0] at hW
    have hc : ∀ o, W.cell? ⟨w.heap.size, o, none⟩ = _ := fun o => hW.cell (p := ⟨w.heap.size, o, none⟩) (by simp)
    refine ⟨⟨(hin.to hb0).to hW, hb0.trans (hW.mono (by simp))⟩, ?_, ?_, ?_, ?_, ?_⟩
    all_goals rw [hc]; simp [go_sem]
  have KK := Lib.hid hK
  obtain ⟨res, hres⟩ : ∃ r, isFmB vars x.er = r := ⟨_, rfl⟩
  rw [hres]
  have HRES := Lib.hid hres
  have HSH := Lib.hid hsh
  have HLN := Lib.hid hlen
  have HLO := Lib.hid (show ¬ x.er.size ≤ 40 → leftOf x.er.size 40 = -1 from fun h => by rw [leftOf, if_neg h])
  have HLY := Lib.hid (show x.er.size ≤ 40 → leftOf x.er.size 40 = 40 - (x.er.size : Int) from fun h => by rw [leftOf, if_pos h]; rfl)
  clear hK hin hb0 hres hsh hlen
  have start : Lib.hid trivial = Lib.hid trivial := rfl
  clear start
  by_cases h40 : x.er.size ≤ 40
  · have hd1 : (x.er.size : Int) ≤ 40 := by omega
    have HL := Lib.hid (HLY.out h40)
    have HZ := Lib.hid h40
    by_cases h12 : x.er.depth ≤ 12
    · have hd2 : (x.er.depth : Int) ≤ 12 := by omega
      have HD := Lib.hid h12
      clear h40 h12 HLO HLY
      obtain ⟨⟨hi, hb⟩, c0, c1, c2, c3, c4⟩ := KK.out W0 (Below.refl _ _)
      go_enter Tryz.func36, Tryz.ntmps36
      go_wp2_with fail
      clear hW0
      refine (specLeft x 40 _ (by omega) HLN.out HSH.out hi).mono ?_
      rw [HL.out]
      rintro e w1 ⟨rfl, hb1⟩
      obtain ⟨⟨hi1, hB1⟩, c0, c1, c2, c3, c4⟩ := KK.out w1 hb1
      go_wp2_with fail
      refine (specDepthOf x _ hsz hi1).mono ?_
      rintro e w2 ⟨rfl, hb2⟩
      have hb02 := hb1.trans (hb2.mono hb1.size)
      obtain ⟨⟨hi2, hB2⟩, c0, c1, c2, c3, c4⟩ := KK.out w2 hb02
      clear hi hb hi1 hB1 hb2
      go_wp2_with fail
      refine (specForm vars x _ HSH.out hi2).mono ?_
      rintro e w3 ⟨rfl, hb3⟩
      have hb03 := hb02.trans (hb3.mono hb02.size)
      obtain ⟨⟨_, hB3⟩, _⟩ := KK.out w3 hb03
      clear c0 c1 c2 c3 c4 hb1 hb3 hb02 hi2 hB2
      have HF := Lib.hid (show x.er.formB vars = res by rw [← HRES.out, isFmB, decide_eq_true HZ.out, decide_eq_true HD.out]; rfl)
      rw [HF.out]
      go_wp2_with fail
      go_ret
      exact ⟨rfl, hB3⟩
    · have hd2 : ¬ (x.er.depth : Int) ≤ 12 := by omega
      have HF := Lib.hid (show res = false by rw [← HRES.out, isFmB, decide_eq_false h12]; simp)
      clear h40 h12 HLO HLY
      obtain ⟨⟨hi, hb⟩, c0, c1, c2, c3, c4⟩ := KK.out W0 (Below.refl _ _)
      go_enter Tryz.func36, Tryz.ntmps36
      go_wp2_with fail
      clear hW0
      refine (specLeft x 40 _ (by omega) HLN.out HSH.out hi).mono ?_
      rw [HL.out]
      rintro e w1 ⟨rfl, hb1⟩
      obtain ⟨⟨hi1, hB1⟩, c0, c1, c2, c3, c4⟩ := KK.out w1 hb1
      go_wp2_with fail
      refine (specDepthOf x _ hsz hi1).mono ?_
      rintro e w2 ⟨rfl, hb2⟩
      have hb02 := hb1.trans (hb2.mono hb1.size)
      obtain ⟨⟨hi2, hB2⟩, _⟩ := KK.out w2 hb02
      clear hi hb hi1 hB1 hb2 c0 c1 c2 c3 c4
      go_wp2_with fail
      go_ret
      exact ⟨congrArg (fun c : Bool => Ending.returned (.bool c)) HF.out.symm, hB2⟩
  · have HL := Lib.hid (HLO.out h40)
    have HF := Lib.hid (show res = false by rw [← HRES.out, isFmB, decide_eq_false h40]; simp)
    clear h40 HLO HLY
    obtain ⟨⟨hi, hb⟩, c0, c1, c2, c3, c4⟩ := KK.out W0 (Below.refl _ _)
    go_enter Tryz.func36, Tryz.ntmps36
    go_wp2_with fail
    clear hW0
    refine (specLeft x 40 _ (by omega) HLN.out HSH.out hi).mono ?_
    rw [HL.out]
    rintro e w1 ⟨rfl, hb1⟩
    obtain ⟨⟨hi1, hB1⟩, _⟩ := KK.out w1 hb1
    clear hi hb hi1 c0 c1 c2 c3 c4
    go_wp2_with fail
    go_ret
    exact ⟨congrArg (fun c : Bool => Ending.returned (.bool c)) HF.out.symm, hB1⟩

/-- The node itself is in order. -/
def NB (vars : Int) (y : Loc) : Bool := nodeB vars y.2.kd y.2.k y.2.u y.2.v y.2.args.length
theorem formB_nodes (vars : Int) : ∀ (t : Ft) (p : Addr), t.er.formB vars = true ↔ ∀ y ∈ t.nodes p, NB vars y = true := by
  apply Ft.ind (P := fun t => ∀ (p : Addr), t.er.formB vars = true ↔ ∀ y ∈ t.nodes p, NB vars y = true)
  intro t ih p
  have hel : t.er.args.length = t.args.length := by rw [Ft.er_args, List.length_map]
  have hnum : t.er.kd = t.kd ∧ t.er.k = t.k ∧ t.er.u = t.u ∧ t.er.v = t.v := by rw [Ft.er_eq]; exact ⟨rfl, rfl, rfl, rfl⟩
  rw [Fm.formB_eq, hel, hnum.1, hnum.2.1, hnum.2.2.1, hnum.2.2.2, Ft.er_args, Bool.and_eq_true, List.all_eq_true]
  constructor
  · rintro ⟨h1, h2⟩ y hy
    rcases Ft.nodes_mem.1 hy with rfl | ⟨z, hz, hyz⟩
    · exact h1
    · obtain ⟨i, hi, rfl⟩ := kids_mem hz
      exact (ih _ (List.getElem_mem hi) _).1 (h2 _ (List.mem_map.2 ⟨_, List.getElem_mem hi, rfl⟩)) y hyz
  · intro h
    refine ⟨h (p, t) (Ft.nodes_self p t), fun z hz => ?_⟩
    obtain ⟨q, hq, rfl⟩ := List.mem_map.1 hz
    obtain ⟨i, hi, rfl⟩ := List.mem_iff_getElem.1 hq
    exact (ih _ (List.getElem_mem hi) (kidAt t.a i)).2 fun y hy => h y (Ft.nodes_mem.2 (.inr ⟨(kidAt t.a i, t.args[i]), List.mem_of_getElem? (kids_at (p, t) i hi), hy⟩))
theorem again_B {P : Program} {f : FuncId} {args : Array Value} {w : World} {d : Nat} {os : Array Obj} {v : Value} (h : Calls P f args (grow (redrawn w d) os) (GaveB v (grow (redrawn w d) os))) :
    Calls P f args (grow (redrawn w d) os) fun e w'' => e = .returned v ∧ ∃ p : Regrown, w'' = grow (redrawn w p.d) p.os := Calls.regrown_of h

set_option maxRecDepth 100000 in
set_option maxHeartbeats 3200000 in
theorem implIsFormula (vars : Int) (x : Ft) (w : World) (h : Solid w x) : Calls Tryz.prog 32 #[.int .i64 vars, x.val] w (GaveB (.bool (isFmB vars x.er)) w) := by
  obtain ⟨hfirst, hc, hnd, hG⟩ := h.rooted
  have hul := Ft.nodes_length ⟨w.heap.size, 0, none⟩ x
  have hfn := formB_nodes vars x ⟨w.heap.size, 0, none⟩
  have hnin := fun (L : List Loc) (hL : ∀ y ∈ L, ∀ z ∈ kids y, z ∈ L) => nodes_in hL x ⟨w.heap.size, 0, none⟩
  have hsm := h.small
  have hb0 : Below w.heap.size w (w.alloc (.cells #[.int .i64 x.kd, .int .i64 x.k, .int .i64 x.u, .int .i64 x.v, .slice x.a x.args.length x.cap] 27)) := (Below.refl _ _).alloc (Nat.le_refl _) _
  have hsol := h.below hb0
  generalize x.nodes ⟨w.heap.size, 0, none⟩ = U at *
  obtain ⟨W0, hW0⟩ : ∃ W, w.alloc (.cells #[.int .i64 x.kd, .int .i64 x.k, .int .i64 x.u, .int .i64 x.v, .slice x.a x.args.length x.cap] 27) = W := ⟨_, rfl⟩
  have hK : ∀ W, Below W0.heap.size W0 W → (Solid W x ∧ Below w.heap.size w W ∧ Ground1 U W) ∧ W.cell? ⟨w.heap.size, 0, none⟩ = some (.int .i64 x.kd) ∧ W.cell? ⟨w.heap.size, 1, none⟩ = some (.int .i64 x.k) ∧ W.cell? ⟨w.heap.size, 2, none⟩ = some (.int .i64 x.u) ∧ W.cell? ⟨w.heap.size, 3, none⟩ = some (.int .i64 x.v) ∧ W.cell? ⟨w.heap.size, 4, none⟩ = some (.slice x.a x.args.length x.cap) := fun W hW => by
    rw [← hW0] at hW
    have hc : ∀ o, W.cell? ⟨w.heap.size, o, none⟩ = _ := fun o => hW.cell (p := ⟨w.heap.size, o, none⟩) (by simp)
    refine ⟨⟨hsol.below hW, hb0.trans (hW.mono (by simp)), hG.below hW⟩, ?_, ?_, ?_, ?_, ?_⟩
    all_goals rw [hc]; simp [go_sem]
  have KK := Lib.hid hK
  obtain ⟨res, hres⟩ : ∃ r, isFmB vars x.er = r := ⟨_, rfl⟩
  rw [hres]
  have HRES := Lib.hid hres
  have HF := Lib.hid hfirst
  have HC := Lib.hid hc
  have HND := Lib.hid hnd
  have HUL := Lib.hid hul
  have HFN := Lib.hid hfn
  have HNI := Lib.hid hnin
  have HSM := Lib.hid hsm
  clear hK h hb0 hres hfirst hc hnd hG hul hfn hnin hsm hsol
  by_cases h40 : x.er.size ≤ 40
  · have hd1 : ¬ (40 : Int) < (x.er.size : Int) := by omega
    have HZ := Lib.hid h40
    by_cases h12 : x.er.depth ≤ 12
    · have hd2 : ¬ (12 : Int) < (x.er.depth : Int) := by omega
      have HR2 := Lib.hid (show res = x.er.formB vars by rw [← HRES.out, isFmB, decide_eq_true HZ.out, decide_eq_true h12]; rfl)
      clear h40 h12
      obtain ⟨⟨hi, hb, _⟩, c0, c1, c2, c3, c4⟩ := KK.out W0 (Below.refl _ _)
      go_enter Tryz.func32, Tryz.ntmps32
      go_wp2_with fail
      clear hW0
      refine (implSizeOf x _ hi).mono ?_
      rintro e w1 ⟨rfl, hb1⟩
      obtain ⟨⟨hi1, hB1, _⟩, c0, c1, c2, c3, c4⟩ := KK.out w1 hb1
      go_wp2_with fail
      refine (implDepthOf x _ hi1).mono ?_
      rintro e w2 ⟨rfl, hb2⟩
      have hb02 := hb1.trans (hb2.mono hb1.size)
      obtain ⟨⟨hi2, hB2, hG2⟩, _⟩ := KK.out w2 hb02
      clear hi hb hi1 hB1 hb2 c0 c1 c2 c3 c4 hi2 hb1
      go_wp2_with fail
      refine (implReached U (⟨w.heap.size, 0, none⟩, x) _ HF.out HC.out HND.out hG2 (by rw [HUL.out]; exact HSM.out)).mono ?_
      rintro e w3 ⟨L, hmet, a1, cap1, rfl, _, hown, hb3⟩
      have hb03 := hb02.trans (hb3.mono hb02.size)
      have hrow : Row w3 w3.heap.size a1 (ptrs L) := Row.owned hown
      have hLl : L.length ≤ 1099511627776 := by
        have h1 := nodup_le (nodup_of_map hmet.nd) hmet.sub
        have h2 := HUL.out
        have h3 := HSM.out
        omega
      have HMET := Lib.hid hmet
      rw [ptrs_length]
      clear hmet hown hb3 hB2 hG2 hb02
      go_wp2_with fail
      go_loopw [17] (fun i wr => ∃ k : Nat, k ≤ L.length ∧ i = .int .i64 k ∧ (∀ y ∈ L.take k, NB vars y = true) ∧ Row wr wr.heap.size a1 (ptrs L) ∧ Below W0.heap.size W0 wr) (fun i _ => L.length - (intOf i).toNat)
      case atStart => exact ⟨0, Nat.zero_le _, rfl, by simp, hrow, hb03⟩
      case round =>
        clear hrow hb03
        obtain ⟨k, hk, rfl, hall, hrow, hbw⟩ := hrel
        obtain ⟨⟨_, hB, hGw⟩, _⟩ := KK.out wr hbw
        have hzw := hbw.size
        by_cases hlt : k < L.length
        · obtain ⟨b, o, ha1, hbW, hcell⟩ := hrow k _ (ptrs_at L k hlt)
          have hyL : L[k] ∈ L := List.getElem_mem hlt
          have hyt := take_next L k hlt
          generalize L[k] = y at *
          have hyU := HMET.out.sub y hyL
          obtain ⟨by_, oy, hye, hnode⟩ := (hGw.ok y hyU).at_
          obtain ⟨py, ty⟩ := y
          simp only at hye hnode
          subst hye
          have HALL := Lib.hid hall
          have HROW := Lib.hid hrow
          have HYT := Lib.hid hyt
          have HYU := Lib.hid hyU
          obtain ⟨ar, har⟩ : ∃ r, arityF ty.kd = r := ⟨_, rfl⟩
          obtain ⟨fb, hfb⟩ : ∃ r, fieldsB vars ty.kd ty.k ty.u ty.v = r := ⟨_, rfl⟩
          have HC1 := Lib.hid (show ∀ d os, Calls Tryz.prog 75 #[.int .i64 ty.kd] (grow (redrawn wr d) os) (GaveB (.int .i64 ar) (grow (redrawn wr d) os)) from fun d os => har ▸ implArityOf ty.kd _)
          have HC2 := Lib.hid (show ∀ d os, Calls Tryz.prog 76 #[.int .i64 vars, .agg #[.int .i64 ty.kd, .int .i64 ty.k, .int .i64 ty.u, .int .i64 ty.v, .slice ty.a ty.args.length ty.cap]] (grow (redrawn wr d) os) (GaveB (.bool fb) (grow (redrawn wr d) os)) from fun d os => hfb ▸ implHasFields vars ty _)
          have g0 : ∀ d os, (grow (redrawn wr d) os).cell? ⟨by_, oy, none⟩ = some (.int .i64 ty.kd) := fun d os => cell_regrown hnode.kd d os
          have g1 : ∀ d os, (grow (redrawn wr d) os).cell? ⟨by_, oy + 1, none⟩ = some (.int .i64 ty.k) := fun d os => cell_regrown hnode.k d os
          have g2 : ∀ d os, (grow (redrawn wr d) os).cell? ⟨by_, oy + 2, none⟩ = some (.int .i64 ty.u) := fun d os => cell_regrown hnode.u d os
          have g3 : ∀ d os, (grow (redrawn wr d) os).cell? ⟨by_, oy + 3, none⟩ = some (.int .i64 ty.v) := fun d os => cell_regrown hnode.v d os
          have g4 : ∀ d os, (grow (redrawn wr d) os).cell? ⟨by_, oy + 4, none⟩ = some (.slice ty.a ty.args.length ty.cap) := fun d os => cell_regrown hnode.s d os
          have HAR := Lib.hid har
          have HFB := Lib.hid hfb
          have HA1 := Lib.hid ha1
          subst ha1
          have HB := Lib.hid hbw
          clear hall hrow hyt hyU hyL hnode har hfb hGw hB hbw
          have bad : nodeB vars ty.kd ty.k ty.u ty.v ty.args.length = false → res = false := fun hb => by
            rw [HR2.out]
            cases hf : x.er.formB vars
            · rfl
            · have h1 : nodeB vars ty.kd ty.k ty.u ty.v ty.args.length = true := HFN.out.1 hf _ HYU.out
              rw [hb] at h1
              cases h1
          have BAD := Lib.hid bad
          clear bad
          by_cases hn : (ty.args.length : Int) = ar
          · have hbn : ((ty.args.length : Int) != ar) = false := by rw [hn]; simp
            have HNN := Lib.hid hn
            clear hn
            cases fb
            · have HX := Lib.hid (BAD.out (by rw [nodeB, HFB.out, Bool.and_false]))
              go_wp2_with fail
              refine wp_region_quiet_below (by kernel_rfl) (by kernel_rfl) ?_
              repeat (go_big_quiet_step (first | (go_at_call 75; with_reducible exact again_B (HC1.out _ _)) | (go_at_call 76; with_reducible exact again_B (HC2.out _ _))))
              refine wpQuiet_nil ?_
              rintro u1 ⟨⟨d, os⟩, rfl⟩
              have hU := HB.out.trans ((below_regrown wr d os).mono hzw)
              obtain ⟨⟨_, hBU, _⟩, _⟩ := KK.out _ hU
              clear hU g0 g1 g2 g3 g4
              go_wp2_with fail
              go_ret
              exact ⟨congrArg (fun c : Bool => Ending.returned (.bool c)) HX.out.symm, hBU⟩
            · go_wp2_with fail
              refine wp_region_quiet_below (by kernel_rfl) (by kernel_rfl) ?_
              repeat (go_big_quiet_step (first | (go_at_call 75; with_reducible exact again_B (HC1.out _ _)) | (go_at_call 76; with_reducible exact again_B (HC2.out _ _))))
              refine wpQuiet_nil ?_
              rintro u1 ⟨⟨d, os⟩, rfl⟩
              have hU := HB.out.trans ((below_regrown wr d os).mono hzw)
              have HRU := Lib.hid ((HROW.out.below (below_regrown wr d os)).grow (below_regrown wr d os).size)
              have HU := Lib.hid hU
              clear hU g0 g1 g2 g3 g4
              go_wp2_with fail
              go_roundw
              case rel =>
                refine ⟨k + 1, by omega, by go_num, fun z hz => ?_, HRU.out, HU.out⟩
                rw [HYT.out] at hz
                rcases List.mem_append.1 hz with hz | hz
                · exact HALL.out z hz
                · rw [List.mem_singleton.1 hz]
                  show nodeB vars ty.kd ty.k ty.u ty.v ty.args.length = true
                  rw [nodeB, HFB.out, HAR.out, decide_eq_true HNN.out]
                  rfl
              case measure => simp [intOf]; omega
          · have hbn : ((ty.args.length : Int) != ar) = true := bne_iff_ne.2 hn
            have HX := Lib.hid (BAD.out (by rw [nodeB, HAR.out, decide_eq_false hn, Bool.false_and]))
            clear hn
            go_wp2_with fail
            refine wp_region_quiet_below (by kernel_rfl) (by kernel_rfl) ?_
            repeat (go_big_quiet_step (first | (go_at_call 75; with_reducible exact again_B (HC1.out _ _))))
            refine wpQuiet_nil ?_
            rintro u1 ⟨⟨d, os⟩, rfl⟩
            have hU := HB.out.trans ((below_regrown wr d os).mono hzw)
            obtain ⟨⟨_, hBU, _⟩, _⟩ := KK.out _ hU
            clear hU g0 g1 g2 g3 g4
            go_wp2_with fail
            go_ret
            exact ⟨congrArg (fun c : Bool => Ending.returned (.bool c)) HX.out.symm, hBU⟩
        · obtain rfl : k = L.length := by omega
          rw [List.take_length] at hall
          have HX := Lib.hid (show true = res by
            rw [HR2.out]
            exact (HFN.out.2 fun y hy => hall y (HNI.out L HMET.out.closed HMET.out.first y hy)).symm)
          clear hall hrow hGw
          go_wp2_with fail
          go_ret
          exact ⟨congrArg (fun c : Bool => Ending.returned (.bool c)) HX.out, hB⟩
    · have hd2 : (12 : Int) < (x.er.depth : Int) := by omega
      have HR2 := Lib.hid (show false = res by rw [← HRES.out, isFmB, decide_eq_false h12]; simp)
      clear h40 h12
      obtain ⟨⟨hi, hb, _⟩, c0, c1, c2, c3, c4⟩ := KK.out W0 (Below.refl _ _)
      go_enter Tryz.func32, Tryz.ntmps32
      go_wp2_with fail
      clear hW0
      refine (implSizeOf x _ hi).mono ?_
      rintro e w1 ⟨rfl, hb1⟩
      obtain ⟨⟨hi1, hB1, _⟩, c0, c1, c2, c3, c4⟩ := KK.out w1 hb1
      go_wp2_with fail
      refine (implDepthOf x _ hi1).mono ?_
      rintro e w2 ⟨rfl, hb2⟩
      obtain ⟨⟨_, hB2, _⟩, _⟩ := KK.out w2 (hb1.trans (hb2.mono hb1.size))
      clear hi hb hi1 hB1 hb2 c0 c1 c2 c3 c4 hb1
      go_wp2_with fail
      go_ret
      exact ⟨congrArg (fun c : Bool => Ending.returned (.bool c)) HR2.out, hB2⟩
  · have hd1 : (40 : Int) < (x.er.size : Int) := by omega
    have HR2 := Lib.hid (show false = res by rw [← HRES.out, isFmB, decide_eq_false h40]; simp)
    clear h40
    obtain ⟨⟨hi, hb, _⟩, c0, c1, c2, c3, c4⟩ := KK.out W0 (Below.refl _ _)
    go_enter Tryz.func32, Tryz.ntmps32
    go_wp2_with fail
    clear hW0
    refine (implSizeOf x _ hi).mono ?_
    rintro e w1 ⟨rfl, hb1⟩
    obtain ⟨⟨_, hB1, _⟩, _⟩ := KK.out w1 hb1
    clear hi hb c0 c1 c2 c3 c4 hb1
    go_wp2_with fail
    go_ret
    exact ⟨congrArg (fun c : Bool => Ending.returned (.bool c)) HR2.out, hB1⟩
end Go.Proofs.YtplchhahjmoodaaGreatDoor
