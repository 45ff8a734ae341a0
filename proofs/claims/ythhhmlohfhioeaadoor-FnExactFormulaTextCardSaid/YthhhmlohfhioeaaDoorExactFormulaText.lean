/-
  Proved: for every list of names and every formula the law FnExactFormulaText returns true and leaves its arguments as they were, where the listed tables of the program read as its text lays them (the card ties them).
-/
import Derived.Test.YthhhmlohfhioeaaDoorFormulaText
import Derived.Test.YthhhmlohfhioeaaDoorSzStrs
import Derived.Test.YthhhmlohfhioeaaDoorToStrs
import Derived.Test.YthhhmlohfhioeaaDoorEqStrs
import Derived.Test.YthhhmlohfhioeaaDoorSzTree
import Derived.Test.YthhhmlohfhioeaaDoorOpenTree
import Derived.Test.YthhhmlohfhioeaaDoorCards
import Derived.Test.YthhhmlohfhioeaaDoorTie
import Derived.ChangeMaps5
import Derived.Deep.DeepWitnessRowRef
import Derived.Deep.RegionHeld3
import Derived.LaidMore
namespace Go.Proofs.YthhhmlohfhioeaaDoor.exactFormulaText
open Go Go.RowKit Go.ChangeShapes Go.WideShapes Go.ChangeAt

/-- The law said true, and nothing old has turned. -/
def TrueEnd (w : World) (e : Ending) (w' : World) : Prop := e = .returned (.bool true) ∧ Below w.heap.size w w'

theorem cells5 {W : World} {B : Nat} {z : Ft} (h : BoxL W B z.cells) : (W.cell? ⟨B, 0, none⟩ = some (.int .i64 z.kd) ∧ W.cell? ⟨B, 1, none⟩ = some (.int .i64 z.k) ∧ W.cell? ⟨B, 2, none⟩ = some (.int .i64 z.u) ∧ W.cell? ⟨B, 3, none⟩ = some (.int .i64 z.v) ∧ W.cell? ⟨B, 4, none⟩ = some (.slice z.a z.args.length z.cap)) := ⟨h.c 0 _ rfl, h.c 1 _ rfl, h.c 2 _ rfl, h.c 3 _ rfl, h.c 4 _ rfl⟩
set_option maxRecDepth 100000 in
set_option maxHeartbeats 3200000 in
theorem walk (va : Option Addr) (vca : Nat) (ss : List ByteArray) (x : Ft) (w : World) (hl : ss.length ≤ maxLen) (hz : ∀ s ∈ ss, s.size ≤ maxLen) (hrow : Row w w.heap.size va (strVals ss)) (hin : x.In w w.heap.size) (hsh : x.Short) (_hok : x.er.Ok) (hwt : HasFormulaWords w) : Calls Tryd.prog 3 #[.slice va ss.length vca, x.val] w (TrueEnd w) := by
  have hl' := hl
  unfold maxLen at hl'
  have hb0 := (Below.refl w.heap.size w).alloc (Nat.le_refl _) (.cells #[.int .i64 x.kd, .int .i64 x.k, .int .i64 x.u, .int .i64 x.v, .slice x.a x.args.length x.cap] 25)
  obtain ⟨W0, hW0⟩ : ∃ W, w.alloc (.cells #[.int .i64 x.kd, .int .i64 x.k, .int .i64 x.u, .int .i64 x.v, .slice x.a x.args.length x.cap] 25) = W := ⟨_, rfl⟩
  have hx0 : BoxL W0 w.heap.size x.cells := by rw [← hW0]; exact BoxL.new w x.cells _
  rw [hW0] at hb0
  have HW0 := Lib.hid hW0
  have KK := Lib.hid (fun (W : World) (h : Below W0.heap.size W0 W) => show Below w.heap.size w W ∧ x.In W W.heap.size ∧ Row W W.heap.size va (strVals ss) ∧ HasFormulaWords W from ⟨hb0.trans (h.mono hb0.size), hin.to (hb0.trans (h.mono hb0.size)), (hrow.below (hb0.trans (h.mono hb0.size))).grow (hb0.trans (h.mono hb0.size)).size, hwt.keeps (hb0.trans (h.mono hb0.size))⟩)
  have KX := Lib.hid (show ∀ W, Below W0.heap.size W0 W → W.cell? ⟨w.heap.size, 0, none⟩ = some (.int .i64 x.kd) ∧ W.cell? ⟨w.heap.size, 1, none⟩ = some (.int .i64 x.k) ∧ W.cell? ⟨w.heap.size, 2, none⟩ = some (.int .i64 x.u) ∧ W.cell? ⟨w.heap.size, 3, none⟩ = some (.int .i64 x.v) ∧ W.cell? ⟨w.heap.size, 4, none⟩ = some (.slice x.a x.args.length x.cap) from fun W h => ⟨(hx0.below h).c 0 _ rfl, (hx0.below h).c 1 _ rfl, (hx0.below h).c 2 _ rfl, (hx0.below h).c 3 _ rfl, (hx0.below h).c 4 _ rfl⟩)
  have hs0 : w.heap.size < W0.heap.size := hx0.lt
  have HSH := Lib.hid hsh
  have HL := Lib.hid hl
  have HZ := Lib.hid hz
  have hr0 := Below.refl W0.heap.size W0
  clear hW0 hb0 hx0 hrow hin hwt hsh hl hz
  go_enter Tryd.func3, Tryd.ntmps3
  go_wp2_with fail
  rw [HW0.out]
  clear HW0
  refine (szStrs va vca ss 1048576 _ (by omega) HL.out HZ.out (KK.out _ hr0).2.2.1).mono ?_
  rintro e w1 ⟨r, rfl, rfl, hr, hss⟩
  have HSS := Lib.hid hss
  by_cases hneg : r < 0
  · clear hss
    have hB := (KK.out _ hr0).1
    go_wp2_with fail
    go_ret
    exact ⟨rfl, hB⟩
  obtain ⟨r1, rfl⟩ : ∃ r1 : Nat, r = (r1 : Int) := ⟨r.toNat, by omega⟩
  have hr1 : r1 ≤ 1048576 := by omega
  have hsl : ss.length ≤ 1048576 := by have := hss (by omega); omega
  obtain ⟨c0, c1, c2, c3, c4⟩ := KX.out _ hr0
  clear hss HSS hr
  go_wp2_with fail
  refine (szTree x HSH.out r1 _ (by omega) (KK.out _ hr0).2.1).mono ?_
  rintro e w2 ⟨r, rfl, hb2, hr2, hsz⟩
  by_cases hneg2 : r < 0
  · clear hsz c0 c1 c2 c3 c4
    have hB := (KK.out _ hb2).1
    go_wp2_with fail
    go_ret
    exact ⟨rfl, hB⟩
  have hxs : x.er.size ≤ 1099511627776 := by have := hsz (by omega); omega
  have HXS := Lib.hid hxs
  have hD0 : Below W0.heap.size W0 w2.drew := hb2.drew
  clear hsz c0 c1 c2 c3 c4 hxs hr2
  go_wp2_with fail
  go_region_held3 (fun W => (W.cell? ⟨w.heap.size, 0, none⟩ = some (.int .i64 x.kd) ∧ W.cell? ⟨w.heap.size, 1, none⟩ = some (.int .i64 x.k) ∧ W.cell? ⟨w.heap.size, 2, none⟩ = some (.int .i64 x.u) ∧ W.cell? ⟨w.heap.size, 3, none⟩ = some (.int .i64 x.v) ∧ W.cell? ⟨w.heap.size, 4, none⟩ = some (.slice x.a x.args.length x.cap)))
    (first | exact KX.out _ hb2 | exact KX.out _ hD0 | exact KX.out _ hb03 | exact KX.out _ hb04 | exact KX.out _ hb05)
    (first
      | (go_at_call 8; (refine (toStrs va vca ss _ (by omega) (KK.out _ hD0).2.2.1).mono ?_); rintro e w3 ⟨rfl, ho3, hb3⟩; have hb03 := hD0.trans (hb3.mono hD0.size))
      | (go_at_call 9; (refine (toTree x _ HXS.out (KK.out _ hb03).2.1).mono ?_); rintro e w4 ⟨y, rfl, hy, hyo, hb4⟩; have hb04 := hb03.trans (hb4.mono hb03.size))
      | (go_at_call 7; (refine (specFormulaText ss _ _ y _ HL.out HZ.out ((Row.owned ho3).below hb4 |>.grow hb4.size) (hyo.in_ y (Nat.le_refl _)) (by rw [hy]; exact HXS.out)).mono ?_); rw [hy]; rintro e w5 ⟨rfl, hb5⟩; have hb05 := hb04.trans (hb5.mono hb04.size)))
  have HB5 := Lib.hid hb05
  obtain ⟨T, hT⟩ : ∃ T, fmText ss x.er = T := ⟨_, rfl⟩
  have HT := Lib.hid hT
  clear hb03 hb04 hb3 hb4 hb5 hy hyo ho3 hD0 hb2 hb05 hT
  rw [HT.out]
  go_wp2_with fail
  refine (toStrs va vca ss _ (by omega) (KK.out _ HB5.out).2.2.1).mono ?_
  rintro e w6 ⟨rfl, ho6, hb6⟩
  have hb06 := HB5.out.trans (hb6.mono HB5.out.size)
  have HB6 := Lib.hid hb06
  have HO6 := Lib.hid ho6
  obtain ⟨c0, c1, c2, c3, c4⟩ := KX.out _ hb06
  clear hb6 hb06 ho6
  go_wp2_with fail
  refine (toTree x _ HXS.out (KK.out _ HB6.out).2.1).mono ?_
  rintro e w7 ⟨z, rfl, hz, hzo, hb7⟩
  have hb07 := HB6.out.trans (hb7.mono HB6.out.size)
  have HSZ := Lib.hid (hzo.solid (Nat.le_refl _) (by rw [hz]; exact HXS.out))
  have HZE := Lib.hid hz
  have HO7 := Lib.hid (own_keeps HO6.out hb7)
  have hal := (Below.refl w7.heap.size w7).alloc (Nat.le_refl _) (.cells #[.int .i64 z.kd, .int .i64 z.k, .int .i64 z.u, .int .i64 z.v, .slice z.a z.args.length z.cap] 32)
  have bz := BoxL.new w7 z.cells 32
  obtain ⟨W8, hW8⟩ : ∃ W, w7.alloc (.cells #[.int .i64 z.kd, .int .i64 z.k, .int .i64 z.u, .int .i64 z.v, .slice z.a z.args.length z.cap] 32) = W := ⟨_, rfl⟩
  rw [hW8] at hal
  have bz8 : BoxL W8 w7.heap.size z.cells := by rw [← hW8]; exact bz
  have HW8 := Lib.hid hW8
  have hb08 := hb07.trans (hal.mono hb07.size)
  have KZ := Lib.hid (fun (W : World) (h : Below W8.heap.size W8 W) => show BoxL W w7.heap.size z.cells ∧ Solid W z ∧ Row W W.heap.size (some ⟨w5.heap.size, 0, none⟩) (strVals ss) ∧ Below W0.heap.size W0 W from ⟨bz8.below h, (HSZ.out.below hal).below h, (((Row.owned HO7.out).below hal).grow hal.size |>.below h).grow h.size, hb08.trans (h.mono hb08.size)⟩)
  clear hW8 hz hzo hb7 hb07 hal bz bz8 hb08 c0 c1 c2 c3 c4
  go_wp2_with fail
  rw [HW8.out]
  clear HW8
  generalize w5.heap.size = A at *
  generalize w7.heap.size = B at *
  have hr8 := Below.refl W8.heap.size W8
  refine (implFormulaText ss (some ⟨A, 0, none⟩) ss.length z W8 HL.out HZ.out (KZ.out _ hr8).2.2.1 (KZ.out _ hr8).2.1 (KK.out _ (KZ.out _ hr8).2.2.2).2.2.2).mono ?_
  rw [HZE.out, HT.out]
  rintro e w9 ⟨rfl, hb9⟩
  have HB9 := Lib.hid hb9
  clear hb9
  go_wp2_with fail
  refine (toStrs va vca ss _ (by omega) (KK.out _ (KZ.out _ HB9.out).2.2.2).2.2.1).mono ?_
  rintro e w10 ⟨rfl, ho10, hb10⟩
  have hb810 := HB9.out.trans (hb10.mono HB9.out.size)
  have HB10 := Lib.hid hb810
  have HR10 := Lib.hid (Row.owned ho10)
  clear ho10 hb10 hb810
  go_wp2_with fail
  refine (eqStrs _ _ _ _ ss _ HL.out (KZ.out _ HB10.out).2.2.1 HR10.out).mono ?_
  rintro e w11 ⟨d1, rfl, rfl⟩
  have hb11 := below_draws HB10.out d1
  have hD1 : Below W8.heap.size W8 (w10.drewN d1).drew := hb11.drew
  generalize w10.drewN d1 = w11 at *
  have HB11 := Lib.hid hb11
  clear hb11
  go_wp2_with fail
  go_region_held3 (fun W => (W.cell? ⟨B, 0, none⟩ = some (.int .i64 z.kd) ∧ W.cell? ⟨B, 1, none⟩ = some (.int .i64 z.k) ∧ W.cell? ⟨B, 2, none⟩ = some (.int .i64 z.u) ∧ W.cell? ⟨B, 3, none⟩ = some (.int .i64 z.v) ∧ W.cell? ⟨B, 4, none⟩ = some (.slice z.a z.args.length z.cap)) ∧ (W.cell? ⟨w.heap.size, 0, none⟩ = some (.int .i64 x.kd) ∧ W.cell? ⟨w.heap.size, 1, none⟩ = some (.int .i64 x.k) ∧ W.cell? ⟨w.heap.size, 2, none⟩ = some (.int .i64 x.u) ∧ W.cell? ⟨w.heap.size, 3, none⟩ = some (.int .i64 x.v) ∧ W.cell? ⟨w.heap.size, 4, none⟩ = some (.slice x.a x.args.length x.cap)))
    (first | exact ⟨cells5 (KZ.out _ HB11.out).1, KX.out _ (KZ.out _ HB11.out).2.2.2⟩ | exact ⟨cells5 (KZ.out _ hD1).1, KX.out _ (KZ.out _ hD1).2.2.2⟩ | exact ⟨cells5 (KZ.out _ H12).1, KX.out _ (KZ.out _ H12).2.2.2⟩ | exact ⟨cells5 (KZ.out _ H13).1, KX.out _ (KZ.out _ H13).2.2.2⟩)
    (first
      | (go_at_call 9; (refine (toTree x _ HXS.out (KK.out _ (KZ.out _ hD1).2.2.2).2.1).mono ?_); rintro e w12 ⟨q, rfl, hq, hqo, hb12⟩; have H12 := hD1.trans (hb12.mono hD1.size))
      | (go_at_call 12; (refine (eqTree z q (HZE.out.trans hq.symm) _ (z.short_of_size (by rw [HZE.out]; exact HXS.out)) (KZ.out _ H12).2.1.in_ (hqo.in_ q (Nat.le_refl _))).mono ?_); rintro e w13 ⟨rfl, hb13⟩; have H13 := H12.trans (hb13.mono H12.size)))
  have hB := (KK.out _ (KZ.out _ H13).2.2.2).1
  go_wp2_with fail
  go_ret
  exact ⟨rfl, hB⟩
theorem own : ownKnob Tryd.prog.godebug = none := by kernel_rfl
theorem laidOut : laidOutB Tryd.prog = true := by kernel_rfl
theorem cellsString : Tryd.prog.cellsOf 9 = 1 := by kernel_rfl
set_option maxRecDepth 100000 in
theorem contract (H : Type) (enc : TypeId × Value → H) (W : World) (base : Nat) (args : Array Value) (ds gs : List (DataW H)) (before : List MemPlace)
    (hval : ∀ (j : Nat) t v, Tryd.f3.params[j]? = some t → args[j]? = some v → Value.okWide Tryd.prog W .any base t v)
    (hW : DataW.Whole enc Tryd.prog Tryd.f3.params.toList Rows.fnExactFormulaTextSpec.vars false W args.toList ds gs before)
    (hL : laidMetH Tryd.prog Rows.fnExactFormulaTextRow.laid W) (_hSh : W.ShapedOpen Tryd.prog) :
    Calls Tryd.prog 3 args W fun e W' => ∃ v, e = .returned v ∧ Rows.fnExactFormulaTextSpec.post enc Tryd.prog Tryd.f3 false true false false W args v W' := by
  have hW' := hW
  have hlt : ∀ x ∈ before, x.block < W.heap.size := fun x hx => hW'.lt x hx
  have hformulaWords : HasFormulaWords W := formulaWords_of 0 hL rfl
  obtain ⟨p, q, hA0, hV, rfl, _, _⟩ := hW
  have hA : DataW.TrodAll enc Tryd.prog W 0 (fun _ => true) true Tryd.f3.params.toList args.toList ds p := hA0
  rw [Tryd.params3] at hA hval
  obtain ⟨v0, v1, d0, d1, p0, p1, rfl, rfl, rfl, t0, t1⟩ := trodAll_two hA
  obtain ⟨g1, gs1, q1, rfl, hV1⟩ := gs_cons hV
  obtain ⟨rfl, _⟩ := trodVars_none hV1
  obtain ⟨a0, cap0, ss0, rfl, _, hlen0, hrow0, hws0, _, _⟩ := open_strs Tryd.underlying22 Tryd.underlying9 cellsString (fun x hx => hlt x (by simp [hx])) (base := base) (hval 0 22 v0 rfl rfl) t0
  obtain ⟨x1, rfl, hin1, hsh1, hok1⟩ := open_formula Tryd.underlying25 (by kernel_rfl) rfl (by kernel_rfl) Tryd.underlying3 Tryd.underlying3 Tryd.underlying3 Tryd.underlying3 Tryd.underlying23 (fun x hx => hlt x (by simp [hx])) (hval 1 25 v1 rfl rfl) t1
  refine (walk a0 cap0 ss0 x1 W hlen0 hws0 hrow0 hin1 hsh1 hok1 hformulaWords).mono fun e W' ⟨he, hb⟩ => ?_
  subst he
  exact ⟨_, rfl, law_post_vars laidOut (by kernel_rfl) (by kernel_rfl) (by kernel_rfl) Tryd.underlying4 hW' rfl hb⟩

/-- A world for the witness. -/
noncomputable def start (os : Os) : World := World.doorLaid Tryd.prog 4000 os
theorem laid_met (os : Os) : laidMet Tryd.prog Rows.fnExactFormulaTextRow.laid ((start os).forCall (fun _ _ => 0) ⟨#[], #[.slice none 0 0, .agg #[.int .i64 0, .int .i64 0, .int .i64 0, .int .i64 0, .slice none 0 0]], []⟩).memory :=
  laidMet_of_run' 8 (by kernel_rfl) (by kernel_rfl)
theorem reads (os : Os) {H : Type} (enc : TypeId × Value → H) : ∃ places, DataW.whole enc Tryd.prog ((start os).forCall (fun _ _ => 0) ⟨#[], #[.slice none 0 0, .agg #[.int .i64 0, .int .i64 0, .int .i64 0, .int .i64 0, .slice none 0 0]], []⟩).memory Tryd.f3.params.toList Rows.fnExactFormulaTextSpec.vars false #[Value.slice none 0 0, .agg #[.int .i64 0, .int .i64 0, .int .i64 0, .int .i64 0, .slice none 0 0]].toList 8 = some ([.nil, .agg [.lit (.int .i64 0), .lit (.int .i64 0), .lit (.int .i64 0), .lit (.int .i64 0), .nil]], [Rows.laid_loop_example_g00590_impl_formulaWords], places) :=
  ⟨[.cell 0 0, .cell 0 1, .cell 0 2, .cell 0 3, .cell 0 4, .cell 0 5, .cell 0 6, .cell 0 7, .cell 0 8, .cell 0 9, .cell 0 10, .cell 0 11, .cell 0 12], by kernel_rfl⟩

set_option maxRecDepth 100000 in
theorem lifted (os : Os) (started : os.Started) (H : Type) (enc : TypeId × Value → H) (F : Stop.Interp) :
    ReturnsInHanded {} Tryd.checked os 3 .any ((OpenSpec.ofChange Rows.fnExactFormulaTextSpec).preRow enc Tryd.prog Tryd.f3 Rows.fnExactFormulaTextRow.domain false Rows.fnExactFormulaTextRow.laid) (((OpenSpec.ofChange Rows.fnExactFormulaTextSpec).at F).post enc Tryd.prog Tryd.f3 false true false false) := by
  obtain ⟨places, hx⟩ := reads os enc
  refine returnsInHanded_of_row (C := Tryd.checked) (s := OpenSpec.ofChange Rows.fnExactFormulaTextSpec) own started (by kernel_rfl) Tryd.func3
    (witness_row_atRef (enc := enc) (C := Tryd.checked) false (start os) #[.slice none 0 0, .agg #[.int .i64 0, .int .i64 0, .int .i64 0, .int .i64 0, .slice none 0 0]] rfl (by kernel_rfl) (by kernel_rfl) (by kernel_rfl)
      (OpenSpec.preRow_of_cond 8 hx (by kernel_rfl) (fun k hk => by cases hk) (by kernel_rfl) (laid_met os))) ?_
  intro W base args ds gs before hval hW _ _ _ hL hSh _
  exact contract H enc W base args ds gs before hval hW hL hSh

theorem said : Rows.FnExactFormulaTextSaid :=
  OpenClaim.holds_of_cond 3 Tryd.f3 rfl rfl rfl rfl rfl rfl rfl ⟨rfl, rfl, rfl, rfl, rfl⟩ rfl rfl rfl rfl rfl (by kernel_rfl) Tryd.func3 (by kernel_rfl)
    (of_decide_eq_true (by kernel_rfl)) (by unfold Func.isWrapper; first | (rw [if_pos (by decide +kernel)]; kernel_rfl) | (rw [if_neg (by decide +kernel)]; exact ⟨rfl, rfl⟩))
    (fun os started H enc _ F => by rw [OpenClaim.pre_eq_preRow]; exact lifted os started H enc F)

theorem plain (f : FuncId) (fn : Func) (hf : Tryd.pinned.checked.prog.funcNamed "loop.example/g00590/laws.FnExactFormulaText" = some f) (hfn : Tryd.pinned.checked.prog.funcs[f]? = some fn) :
    Rows.fnExactFormulaTextCard.stood.looks = Tryd.pinned.checked.prog.looks [] ∧ ∀ (j : Nat) t, fn.params[j]? = some t → Tryd.pinned.checked.prog.wantsStandIn t = false := by
  obtain rfl : f = 3 := Option.some.inj ((show Tryd.prog.funcNamed "loop.example/g00590/laws.FnExactFormulaText" = some 3 by kernel_rfl).symm.trans hf) |>.symm
  obtain rfl : fn = Tryd.f3 := (Option.some.inj (Tryd.func3.symm.trans hfn)).symm
  refine ⟨by kernel_rfl, fun j t ht => ?_⟩
  rw [Tryd.params3] at ht
  have hm : t ∈ [22, 25] := by simpa using Array.mem_of_getElem? ht
  have hall : ([22, 25].all fun u => !Tryd.prog.wantsStandIn u) = true := by kernel_rfl
  exact (show Tryd.prog.wantsStandIn t = false by simpa using List.all_eq_true.1 hall t hm)

/-- The card. -/
theorem card : Rows.FnExactFormulaTextCardSaid :=
  Claim7.holds_tied_plain_at .later [] _ _ _ _ said (fun _ h => by cases h) (by kernel_rfl) (fun _ h => by cases h) fnExactFormulaText_row_tie rfl ⟨rfl, rfl⟩ (by kernel_rfl) rfl plain (by kernel_rfl)
#print axioms card
end Go.Proofs.YthhhmlohfhioeaaDoor.exactFormulaText
