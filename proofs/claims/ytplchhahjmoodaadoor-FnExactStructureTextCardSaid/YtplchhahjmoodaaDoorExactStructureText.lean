/-
  Proved: for every list of strings and every structure the law FnExactStructureText returns true and leaves its arguments as they were, where the listed tables read as the text lays them (the card ties them). (Printed by wip/tools/gen_exact_struct_text.py.)
-/
import Derived.Test.YtplchhahjmoodaaDoorSzStrs
import Derived.Test.YtplchhahjmoodaaDoorToStrs
import Derived.Test.YtplchhahjmoodaaDoorEqStrs
import Derived.Test.YtplchhahjmoodaaDoorToNodes
import Derived.Test.YtplchhahjmoodaaDoorSzNodes
import Derived.Test.YtplchhahjmoodaaDoorImplStructText
import Derived.Test.YtplchhahjmoodaaDoorSpecStructText
import Derived.Test.YtplchhahjmoodaaDoorCards
import Derived.Test.YtplchhahjmoodaaDoorTie
import Derived.ChangeMaps5
import Derived.Deep.RegionHeld3
import Derived.Deep.DeepWitnessRowRef
import Derived.LaidMore
namespace Go.Proofs.YtplchhahjmoodaaDoor.exactStructureText
open Go Go.RowKit Go.ChangeShapes Go.WideShapes Go.ChangeAt

/-- The law said true, and nothing old has turned. -/
def TrueEnd (w : World) (e : Ending) (w' : World) : Prop := e = .returned (.bool true) ∧ Below w.heap.size w w'

set_option maxRecDepth 100000 in
set_option maxHeartbeats 3200000 in
theorem walk (sa : Option Addr) (sc : Nat) (ss : List ByteArray) (x : St) (w : World) (hs : ss.length ≤ maxLen) (hws : ∀ s ∈ ss, s.size ≤ maxLen) (hrow : Row w w.heap.size sa (strVals ss)) (hok : x.Ok w) (hP : Pows w) :
    Calls Tryd.prog 4 #[.slice sa ss.length sc, x.v] w (TrueEnd w) := by
  have hat : ∀ W, Below w.heap.size w W → x.Ok W ∧ Row W W.heap.size sa (strVals ss) ∧ Pows W := fun W hb => ⟨hok.below hb, (hrow.below hb).grow hb.size, hP.keeps hb⟩
  have HAT := Lib.hid hat
  clear hat hrow hP hok
  go_enter Tryd.func4, Tryd.ntmps4
  go_wp2_with fail
  obtain ⟨W0, hW0, hb0, hs0, hA0⟩ := one_box2 w (.slice x.a x.ns.length x.ca) (.slice x.b x.zs.length x.cb) 37
  rw [hW0]
  clear hW0
  have hARG : ∀ W, Below W0.heap.size W0 W → Box2 W w.heap.size (.slice x.a x.ns.length x.ca) (.slice x.b x.zs.length x.cb) ∧ Below w.heap.size w W := fun W hb => ⟨hA0.keep hs0 hb, hb0.trans (hb.mono hb0.size)⟩
  have ARG := Lib.hid hARG
  obtain ⟨c0, c1⟩ := hA0
  clear hARG
  refine (szStrs sa sc ss 1048576 _ (by omega) hs hws (HAT.out _ hb0).2.1).mono ?_
  rintro e w1 ⟨r, rfl, rfl, hr, hsz⟩
  by_cases hneg : r < 0
  · go_wp2
    go_ret
    exact ⟨rfl, hb0⟩
  · obtain ⟨m, rfl⟩ : ∃ m : Nat, r = (m : Int) := ⟨r.toNat, by omega⟩
    have hnat : ss.length + total ss + m = 1048576 := by have := hsz (by omega); omega
    clear hsz hneg hr
    go_wp2_with fail
    refine (szStructure x m _ (by omega) (HAT.out _ hb0).1).mono ?_
    rintro e w2 ⟨r, rfl, hb2, hr, hsz⟩
    clear c0 c1
    obtain ⟨⟨c0, c1⟩, hB2⟩ := ARG.out _ hb2
    by_cases hneg : r < 0
    · go_wp2
      go_ret
      exact ⟨rfl, hB2⟩
    · have hnat2 : stSize x ≤ 1048576 := by have := hsz (by omega); omega
      have SM := Lib.hid (small_of hnat2)
      clear hsz hnat2
      have hD0 : Below W0.heap.size W0 w2.drew := hb2.drew
      clear c0 c1
      go_wp2
      go_region_held3 (fun W => W.cell? ⟨w.heap.size, 0, none⟩ = some (.slice x.a x.ns.length x.ca) ∧ W.cell? ⟨w.heap.size, 1, none⟩ = some (.slice x.b x.zs.length x.cb))
        (first | exact (ARG.out _ hD0).1 | exact (ARG.out _ (Below.drew hD0)).1 | exact (ARG.out _ hb03).1 | exact (ARG.out _ hb04).1 | exact (ARG.out _ hb05).1)
        (first
          | (go_at_call 7; (with_reducible refine (toStrs sa sc ss _ (by omega) (HAT.out _ (ARG.out _ hD0).2).2.1).mono ?_); rintro e w3 ⟨rfl, ho3, hb3⟩; have hb03 := hD0.trans (hb3.mono hD0.size))
          | (go_at_call 16; (with_reducible refine (toStructure x _ SM.out.n SM.out.z SM.out.e (HAT.out _ (ARG.out _ hb03).2).1.at_).mono ?_); rintro e w4 ⟨y4, hy4, rfl, hat4, -, hb4, -⟩; have ho4 := own_keeps ho3 hb4; have hb04 := hb03.trans (hb4.mono hb03.size))
          | (go_at_call 15; (with_reducible refine (specStText (some ⟨w2.heap.size, 0, none⟩) _ ss y4 _ hs hws (show Row w4 w4.heap.size (some ⟨w2.heap.size, 0, none⟩) (strVals ss) from Row.owned ho4) (hy4 ▸ SM.out) hat4).mono ?_); rw [hy4]; rintro e w5 ⟨rfl, hb5⟩; have hb05 := hb04.trans (hb5.mono hb04.size)))
      clear hb03 hb04 hb3 hb4 hb5 ho3 ho4 hat4 hB2 hb2 hD0 hy4
      obtain ⟨⟨c0, c1⟩, hB5⟩ := ARG.out _ hb05
      generalize hres : stT ss x.body = res at *
      have Hres := Lib.hid hres
      clear hres
      go_wp2_with fail
      refine (toStrs sa sc ss _ (by omega) (HAT.out _ hB5).2.1).mono ?_
      rintro e w6 ⟨rfl, ho6, hb6⟩
      have hb06 := hb05.trans (hb6.mono hb05.size)
      clear c0 c1
      obtain ⟨⟨c0, c1⟩, hB6⟩ := ARG.out _ hb06
      generalize w5.heap.size = s5 at *
      go_wp2_with fail
      refine (toStructure x _ SM.out.n SM.out.z SM.out.e (HAT.out _ hB6).1.at_).mono ?_
      rintro e w7 ⟨z, hz, rfl, hat7, hcap7, hb7, -⟩
      have HC := Lib.hid (Nat.le_of_eq hcap7.2.symm)
      clear hcap7
      have hb07 := hb06.trans (hb7.mono hb06.size)
      have ho7 := own_keeps ho6 hb7
      clear c0 c1
      go_wp2_with fail
      obtain ⟨W8, hW8, hb8, hs8, hX8⟩ := one_box2 w7 (.slice z.a z.ns.length z.ca) (.slice z.b z.zs.length z.cb) 42
      rw [hW8]
      clear hW8
      have hb08 := hb07.trans (hb8.mono hb07.size)
      have ho8 := own_keeps ho7 hb8
      have hALL : ∀ W, Below W8.heap.size W8 W → (Box2 W w7.heap.size (.slice z.a z.ns.length z.ca) (.slice z.b z.zs.length z.cb) ∧ Box2 W w.heap.size (.slice x.a x.ns.length x.ca) (.slice x.b x.zs.length x.cb)) ∧ (z.At W ∧ Row W W.heap.size (some ⟨s5, 0, none⟩) (strVals ss)) ∧ Below w.heap.size w W := fun W hb =>
        ⟨⟨hX8.keep hs8 hb, (ARG.out _ (hb08.trans (hb.mono hb08.size))).1⟩, ⟨hat7.below (hb8.trans (hb.mono hb8.size)), Row.owned (own_keeps ho8 hb)⟩, (ARG.out _ (hb08.trans (hb.mono hb08.size))).2⟩
      have ALL := Lib.hid hALL
      have HZ := Lib.hid hz
      clear hALL hat7 hb6 hb7 hb8 hb05 hb06 hb07 hb08 hB5 hB6 ho6 ho7 ho8 hX8 hs8 hz
      have h0 := ALL.out _ (Below.refl _ _)
      refine (implStText _ _ ss z _ hs hws h0.2.1.2 (HZ.out ▸ SM.out) HC.out h0.2.1.1 (HAT.out _ h0.2.2).2.2).mono ?_
      rw [HZ.out, Hres.out]
      rintro e w9 ⟨rfl, hb9⟩
      clear h0
      go_wp2_with fail
      refine (toStrs sa sc ss _ (by omega) (HAT.out _ (ALL.out _ hb9).2.2).2.1).mono ?_
      rintro e w10 ⟨rfl, ho10, hb10⟩
      have hb10' := hb9.trans (hb10.mono hb9.size)
      go_wp2_with fail
      refine (eqStrs _ _ _ _ ss _ hs (ALL.out _ hb10').2.1.2 (Row.owned ho10)).mono ?_
      rintro e w11 ⟨d1, rfl, rfl⟩
      have hb11 : Below W8.heap.size W8 (w10.drewN d1) := below_draws hb10' _
      clear hb10 hb10' hb9 ho10
      generalize w10.drewN d1 = w11 at *
      have hD : Below W8.heap.size W8 w11.drew := hb11.drew
      go_wp2
      go_region_held3 (fun W => (W.cell? ⟨w7.heap.size, 0, none⟩ = some (.slice z.a z.ns.length z.ca) ∧ W.cell? ⟨w7.heap.size, 1, none⟩ = some (.slice z.b z.zs.length z.cb)) ∧ (W.cell? ⟨w.heap.size, 0, none⟩ = some (.slice x.a x.ns.length x.ca) ∧ W.cell? ⟨w.heap.size, 1, none⟩ = some (.slice x.b x.zs.length x.cb)))
        (first | exact (ALL.out _ hD).1 | exact (ALL.out _ (Below.drew hD)).1 | exact (ALL.out _ H7).1 | exact (ALL.out _ H8).1)
        (first
          | (go_at_call 16; (with_reducible refine (toStructure x _ SM.out.n SM.out.z SM.out.e (HAT.out _ (ALL.out _ hD).2.2).1.at_).mono ?_); rintro e w12 ⟨u, hu, rfl, hat12, -, hb12, -⟩; have H7 := hD.trans (hb12.mono hD.size))
          | (go_at_call 18; (with_reducible refine (eqStructures z u _ (small_max (HZ.out ▸ SM.out)) (hu.trans HZ.out.symm) (ALL.out _ H7).2.1.1 hat12).mono ?_); rintro e w13 ⟨rfl, hb13⟩; have H8 := H7.trans (hb13.mono H7.size)))
      go_wp2
      go_ret
      exact ⟨rfl, (ALL.out _ H8).2.2⟩

theorem own : ownKnob Tryd.prog.godebug = none := by kernel_rfl
theorem laidOut : laidOutB Tryd.prog = true := by kernel_rfl
theorem cellsString : Tryd.prog.cellsOf 9 = 1 := by kernel_rfl
set_option maxRecDepth 100000 in
theorem contract (H : Type) (enc : TypeId × Value → H) (W : World) (base : Nat) (args : Array Value) (ds gs : List (DataW H)) (before : List MemPlace)
    (hval : ∀ (j : Nat) t v, Tryd.f4.params[j]? = some t → args[j]? = some v → Value.okWide Tryd.prog W .any base t v)
    (hW : DataW.Whole enc Tryd.prog Tryd.f4.params.toList Rows.fnExactStructureTextSpec.vars false W args.toList ds gs before)
    (hL : laidMetH Tryd.prog Rows.fnExactStructureTextRow.laid W) (_hSh : W.ShapedOpen Tryd.prog) :
    Calls Tryd.prog 4 args W fun e W' => ∃ v, e = .returned v ∧ Rows.fnExactStructureTextSpec.post enc Tryd.prog Tryd.f4 false true false false W args v W' := by
  have hW' := hW
  have hlt : ∀ x ∈ before, x.block < W.heap.size := fun x hx => hW'.lt x hx
  have hpows : Pows W := pows_of hL
  obtain ⟨p, q, hA0, hV, rfl, _, _⟩ := hW
  have hA : DataW.TrodAll enc Tryd.prog W 0 (fun _ => true) true Tryd.f4.params.toList args.toList ds p := hA0
  rw [Tryd.params4] at hA hval
  obtain ⟨v0, v1, d0, d1, p0, p1, rfl, rfl, rfl, t0, t1⟩ := trodAll_two hA
  obtain ⟨a0, cap0, ss0, rfl, _, hlen0, hrow0, hws0, _, _⟩ := open_strs Tryd.underlying22 Tryd.underlying9 cellsString (fun x hx => hlt x (by simp [hx])) (base := base) (hval 0 22 v0 rfl rfl) t0
  obtain ⟨x1, rfl, hok1⟩ := open_structure Tryd.underlying37 (by kernel_rfl) (by kernel_rfl) Tryd.underlying34 Tryd.underlying35 Tryd.underlying85 (by kernel_rfl) (by kernel_rfl) (by kernel_rfl) Tryd.underlying35 Tryd.underlying35 Tryd.underlying3 Tryd.underlying3 Tryd.underlying3 (by kernel_rfl) (fun x hx => hlt x (by simp [hx])) (hval 1 37 v1 rfl rfl) t1
  refine (walk a0 cap0 ss0 x1 W hlen0 hws0 hrow0 hok1 hpows).mono fun e W' ⟨he, hb⟩ => ?_
  subst he
  exact ⟨_, rfl, law_post laidOut rfl (by kernel_rfl) (by kernel_rfl) Tryd.underlying4 hW' rfl hb⟩

/-- A world for the witness. -/
noncomputable def start (os : Os) : World := World.doorLaid Tryd.prog 4000 os
theorem laid_met (os : Os) : laidMet Tryd.prog Rows.fnExactStructureTextRow.laid ((start os).forCall (fun _ _ => 0) ⟨#[], #[.slice none 0 0, .agg #[.slice none 0 0, .slice none 0 0]], []⟩).memory :=
  laidMet_of_run' 8 (by kernel_rfl) (by kernel_rfl)
theorem reads (os : Os) {H : Type} (enc : TypeId × Value → H) : ∃ places, DataW.whole enc Tryd.prog ((start os).forCall (fun _ _ => 0) ⟨#[], #[.slice none 0 0, .agg #[.slice none 0 0, .slice none 0 0]], []⟩).memory Tryd.f4.params.toList Rows.fnExactStructureTextSpec.vars false #[Value.slice none 0 0, .agg #[.slice none 0 0, .slice none 0 0]].toList 8 = some ([.nil, .agg [.nil, .nil]], [], places) :=
  ⟨[], by kernel_rfl⟩

set_option maxRecDepth 100000 in
theorem lifted (os : Os) (started : os.Started) (H : Type) (enc : TypeId × Value → H) (F : Stop.Interp) :
    ReturnsInHanded {} Tryd.checked os 4 .any ((OpenSpec.ofChange Rows.fnExactStructureTextSpec).preRow enc Tryd.prog Tryd.f4 Rows.fnExactStructureTextRow.domain false Rows.fnExactStructureTextRow.laid) (((OpenSpec.ofChange Rows.fnExactStructureTextSpec).at F).post enc Tryd.prog Tryd.f4 false true false false) := by
  obtain ⟨places, hx⟩ := reads os enc
  refine returnsInHanded_of_row (C := Tryd.checked) (s := OpenSpec.ofChange Rows.fnExactStructureTextSpec) own started (by kernel_rfl) Tryd.func4
    (witness_row_atRef (enc := enc) (C := Tryd.checked) false (start os) #[.slice none 0 0, .agg #[.slice none 0 0, .slice none 0 0]] rfl (by kernel_rfl) (by kernel_rfl) (by kernel_rfl)
      (OpenSpec.preRow_of_cond 8 hx (by kernel_rfl) (fun k hk => by cases hk) (by kernel_rfl) (laid_met os))) ?_
  intro W base args ds gs before hval hW _ _ _ hL hSh _
  exact contract H enc W base args ds gs before hval hW hL hSh

theorem said : Rows.FnExactStructureTextSaid :=
  OpenClaim.holds_of_cond 4 Tryd.f4 rfl rfl rfl rfl rfl rfl rfl ⟨rfl, rfl, rfl, rfl, rfl⟩ rfl rfl rfl rfl rfl (by kernel_rfl) Tryd.func4 (by kernel_rfl)
    (of_decide_eq_true (by kernel_rfl)) (by unfold Func.isWrapper; first | (rw [if_pos (by decide +kernel)]; kernel_rfl) | (rw [if_neg (by decide +kernel)]; exact ⟨rfl, rfl⟩))
    (fun os started H enc _ F => by rw [OpenClaim.pre_eq_preRow]; exact lifted os started H enc F)

theorem plain (f : FuncId) (fn : Func) (hf : Tryd.pinned.checked.prog.funcNamed "loop.example/g00590/laws.FnExactStructureText" = some f) (hfn : Tryd.pinned.checked.prog.funcs[f]? = some fn) :
    Rows.fnExactStructureTextCard.stood.looks = Tryd.pinned.checked.prog.looks [] ∧ ∀ (j : Nat) t, fn.params[j]? = some t → Tryd.pinned.checked.prog.wantsStandIn t = false := by
  obtain rfl : f = 4 := Option.some.inj ((show Tryd.prog.funcNamed "loop.example/g00590/laws.FnExactStructureText" = some 4 by kernel_rfl).symm.trans hf) |>.symm
  obtain rfl : fn = Tryd.f4 := (Option.some.inj (Tryd.func4.symm.trans hfn)).symm
  refine ⟨by kernel_rfl, fun j t ht => ?_⟩
  rw [Tryd.params4] at ht
  have hm : t ∈ [22, 37] := by simpa using Array.mem_of_getElem? ht
  have hall : ([22, 37].all fun u => !Tryd.prog.wantsStandIn u) = true := by kernel_rfl
  exact (show Tryd.prog.wantsStandIn t = false by simpa using List.all_eq_true.1 hall t hm)

/-- The card. -/
theorem card : Rows.FnExactStructureTextCardSaid :=
  Claim7.holds_tied_plain_at .later [] _ _ _ _ said (fun _ h => by cases h) (by kernel_rfl) (fun _ h => by cases h) fnExactStructureText_row_tie rfl ⟨rfl, rfl⟩ (by kernel_rfl) rfl plain (by kernel_rfl)
#print axioms card
end Go.Proofs.YtplchhahjmoodaaDoor.exactStructureText
