/-
  Proved: for every two structures the law FnExactEqualStructure returns true and leaves its arguments as they were. No condition beyond the given row's own. (Printed by wip/tools/gen_exact_equal_st.py.)
-/
import Derived.Test.YtplchhahjmoodaaEqualSt
import Derived.Test.YtplchhahjmoodaaToNodes
import Derived.Test.YtplchhahjmoodaaSzNodes
import Derived.Test.YtplchhahjmoodaaRows
import Derived.ChangeMaps5
import Derived.LaidLaws
import Derived.Deep.RegionHeld3
namespace Go.Proofs.Ytplchhahjmoodaa.exactEqualStructure
open Go Go.RowKit Go.ChangeShapes Go.WideShapes Go.ChangeAt

/-- The law said true, and nothing old has turned. -/
def TrueEnd (w : World) (e : Ending) (w' : World) : Prop := e = .returned (.bool true) ∧ Below w.heap.size w w'

set_option maxRecDepth 100000 in
set_option maxHeartbeats 3200000 in
theorem walk (x : St) (y : St) (w : World) (hok : x.Ok w) (hpk : y.Ok w) :
    Calls Try.prog 6 #[x.v, y.v] w (TrueEnd w) := by
  have HAT := Lib.hid (fun (W : World) (h : Below w.heap.size w W) => And.intro (hok.below h) (hpk.below h))
  clear hok hpk
  go_enter Try.func6, Try.ntmps6
  go_wp2_with fail
  obtain ⟨W0, hW0, hb0, hs0, hA0, hC0⟩ := two_box2 w (.slice x.a x.ns.length x.ca) (.slice x.b x.zs.length x.cb) (.slice y.a y.ns.length y.ca) (.slice y.b y.zs.length y.cb) 25 25
  rw [hW0]
  clear hW0
  have hARG : ∀ W, Below W0.heap.size W0 W → (Box2 W w.heap.size (.slice x.a x.ns.length x.ca) (.slice x.b x.zs.length x.cb) ∧ Box2 W (w.heap.size + 1) (.slice y.a y.ns.length y.ca) (.slice y.b y.zs.length y.cb)) ∧ Below w.heap.size w W := fun W hb => ⟨⟨hA0.keep (by omega) hb, hC0.keep hs0 hb⟩, hb0.trans (hb.mono hb0.size)⟩
  have ARG := Lib.hid hARG
  clear hARG hA0 hC0
  refine (szStructure x 1048576 _ (by omega) (HAT.out _ hb0).1).mono ?_
  rintro e w1 ⟨r, rfl, hb1, hr, hsz⟩
  obtain ⟨⟨⟨c0, c1⟩, d0, d1⟩, hB1⟩ := ARG.out _ hb1
  by_cases hneg : r < 0
  · go_wp2
    go_ret
    exact ⟨rfl, hB1⟩
  obtain ⟨m, rfl⟩ : ∃ m : Nat, r = (m : Int) := ⟨r.toNat, by omega⟩
  have hnat : stSize x ≤ 1048576 := by have := hsz (by omega); omega
  have SM := Lib.hid (small_of hnat)
  clear hsz hnat
  go_wp2_with fail
  refine (szStructure y m _ (by omega) (HAT.out _ hB1).2).mono ?_
  rintro e w2 ⟨r, rfl, hb2, hr2, hsz⟩
  have hb2 := hb1.trans (hb2.mono hb1.size)
  clear c0 c1 d0 d1 hB1 hb1
  obtain ⟨⟨⟨c0, c1⟩, d0, d1⟩, hB2⟩ := ARG.out _ hb2
  by_cases hneg2 : r < 0
  · go_wp2
    go_ret
    exact ⟨rfl, hB2⟩
  have hnat : stSize y ≤ 1048576 := by have := hsz (by omega); omega
  have SN := Lib.hid (small_of hnat)
  clear hsz hnat
  have hD0 : Below W0.heap.size W0 w2.drew := hb2.drew
  clear c0 c1 d0 d1
  go_wp2
  go_region_held3 (fun W => (W.cell? ⟨w.heap.size, 0, none⟩ = some (.slice x.a x.ns.length x.ca) ∧ W.cell? ⟨w.heap.size, 1, none⟩ = some (.slice x.b x.zs.length x.cb)) ∧ (W.cell? ⟨w.heap.size + 1, 0, none⟩ = some (.slice y.a y.ns.length y.ca) ∧ W.cell? ⟨w.heap.size + 1, 1, none⟩ = some (.slice y.b y.zs.length y.cb)))
    (first | exact (ARG.out _ hD0).1 | exact (ARG.out _ (Below.drew hD0)).1 | exact (ARG.out _ hb03).1 | exact (ARG.out _ hb04).1 | exact (ARG.out _ hb05).1)
    (first
      | (go_at_call 9; (with_reducible refine (toStructure x _ SM.out.n SM.out.z SM.out.e (HAT.out _ (ARG.out _ hD0).2).1.at_).mono ?_); rintro e w3 ⟨x3, hx3, rfl, hat3, -, hb3, -⟩; have hb03 := hD0.trans (hb3.mono hD0.size))
      | (go_at_call 9; (with_reducible refine (toStructure y _ SN.out.n SN.out.z SN.out.e (HAT.out _ (ARG.out _ hb03).2).2.at_).mono ?_); rintro e w4 ⟨y4, hy4, rfl, hat4, -, hb4, -⟩; have hat3' := hat3.below hb4; have hb04 := hb03.trans (hb4.mono hb03.size))
      | (go_at_call 16; (with_reducible refine (specEqualSt x3 y4 _ (hx3 ▸ SM.out) hat3' hat4).mono ?_); rw [hx3, hy4]; rintro e w5 ⟨rfl, hb5⟩; have hb05 := hb04.trans (hb5.mono hb04.size)))
  clear hb03 hb04 hb3 hb4 hb5 hat3 hat3' hat4 hB2 hb2 hD0 hx3 hy4
  obtain ⟨⟨⟨c0, c1⟩, d0, d1⟩, hB5⟩ := ARG.out _ hb05
  generalize hres : decide (x.body = y.body) = res at *
  have Hres := Lib.hid hres
  clear hres
  go_wp2_with fail
  refine (toStructure x _ SM.out.n SM.out.z SM.out.e (HAT.out _ hB5).1.at_).mono ?_
  rintro e w6 ⟨z, hz, rfl, hat6, -, hb6, -⟩
  have hb06 := hb05.trans (hb6.mono hb05.size)
  clear c0 c1 d0 d1
  have d0 := (ARG.out _ hb06).1.2.1
  have d1 := (ARG.out _ hb06).1.2.2
  have hs06 : w.heap.size + 1 < w6.heap.size := Nat.lt_of_lt_of_le hs0 hb06.size
  go_wp2_with fail
  obtain ⟨W7, hW7, hb7, hs7, hX7⟩ := one_box2 w6 (.slice z.a z.ns.length z.ca) (.slice z.b z.zs.length z.cb) 30
  rw [hW7]
  clear hW7
  have hat7 := hat6.below hb7
  have hb07 := hb06.trans (hb7.mono hb06.size)
  refine (toStructure y _ SN.out.n SN.out.z SN.out.e (HAT.out _ (ARG.out _ hb07).2).2.at_).mono ?_
  rintro e v8 ⟨v, hv, rfl, hat8, -, hb8, -⟩
  have hb08 := hb07.trans (hb8.mono hb07.size)
  have hat78 := hat7.below hb8
  have hX8 := hX7.keep hs7 hb8
  have hs8 : w6.heap.size < v8.heap.size := Nat.lt_of_lt_of_le hs7 hb8.size
  clear d0 d1 hs06
  obtain ⟨c0, c1⟩ := id hX8
  go_wp2_with fail
  obtain ⟨W9, hW9, hb9, hs9, hY9⟩ := one_box2 v8 (.slice v.a v.ns.length v.ca) (.slice v.b v.zs.length v.cb) 30
  rw [hW9]
  clear hW9 c0 c1
  have hb09 := hb08.trans (hb9.mono hb08.size)
  have hX9 := hX8.keep hs8 hb9
  have hs89 : w6.heap.size < W9.heap.size := Nat.lt_trans (Nat.lt_of_lt_of_le hs8 (Nat.le_refl _)) hs9
  have hALL : ∀ W, Below W9.heap.size W9 W → ((Box2 W w6.heap.size (.slice z.a z.ns.length z.ca) (.slice z.b z.zs.length z.cb) ∧ Box2 W w.heap.size (.slice x.a x.ns.length x.ca) (.slice x.b x.zs.length x.cb)) ∧ (Box2 W v8.heap.size (.slice v.a v.ns.length v.ca) (.slice v.b v.zs.length v.cb) ∧ Box2 W (w.heap.size + 1) (.slice y.a y.ns.length y.ca) (.slice y.b y.zs.length y.cb))) ∧ (z.At W ∧ v.At W) ∧ Below w.heap.size w W := fun W hb =>
    have hA := ARG.out _ (hb09.trans (hb.mono hb09.size))
    ⟨⟨⟨hX9.keep hs89 hb, hA.1.1⟩, ⟨hY9.keep hs9 hb, hA.1.2⟩⟩, ⟨(hat78.below hb9).below hb, (hat8.below hb9).below hb⟩, hA.2⟩
  have ALL := Lib.hid hALL
  have HZ := Lib.hid hz
  have HV := Lib.hid hv
  clear hALL hat6 hat7 hat8 hat78 hb6 hb7 hb8 hb9 hb05 hb06 hb07 hb08 hb09 hB5 hX7 hX8 hX9 hY9 hz hv
  obtain ⟨⟨⟨⟨c0, c1⟩, _⟩, ⟨d0, d1⟩, _⟩, _⟩ := ALL.out _ (Below.refl _ _)
  refine (implEqualSt z v _ (HZ.out ▸ SM.out) (ALL.out _ (Below.refl _ _)).2.1.1 (ALL.out _ (Below.refl _ _)).2.1.2).mono ?_
  rw [HZ.out, HV.out, Hres.out]
  rintro e w10 ⟨rfl, hb10⟩
  have hD : Below W9.heap.size W9 w10.drew := hb10.drew
  clear c0 c1 d0 d1
  go_wp2
  go_region_held3 (fun W => (W.cell? ⟨w6.heap.size, 0, none⟩ = some (.slice z.a z.ns.length z.ca) ∧ W.cell? ⟨w6.heap.size, 1, none⟩ = some (.slice z.b z.zs.length z.cb)) ∧ (W.cell? ⟨w.heap.size, 0, none⟩ = some (.slice x.a x.ns.length x.ca) ∧ W.cell? ⟨w.heap.size, 1, none⟩ = some (.slice x.b x.zs.length x.cb)))
    (first | exact (ALL.out _ hD).1.1 | exact (ALL.out _ (Below.drew hD)).1.1 | exact (ALL.out _ H7).1.1 | exact (ALL.out _ H8).1.1)
    (first
      | (go_at_call 9; (with_reducible refine (toStructure x _ SM.out.n SM.out.z SM.out.e (HAT.out _ (ALL.out _ hD).2.2).1.at_).mono ?_); rintro e w7 ⟨u, hu, rfl, hat7, -, hb7, -⟩; have H7 := (hD).trans (hb7.mono (hD).size))
      | (go_at_call 11; (with_reducible refine (eqStructures z u _ (small_max (HZ.out ▸ SM.out)) (hu.trans HZ.out.symm) (ALL.out _ H7).2.1.1 hat7).mono ?_); rintro e w8 ⟨rfl, hb8⟩; have H8 := (H7).trans (hb8.mono (H7).size)))
  have hD2 : Below W9.heap.size W9 w8.drew := H8.drew
  go_wp2
  go_region_held3 (fun W => (W.cell? ⟨v8.heap.size, 0, none⟩ = some (.slice v.a v.ns.length v.ca) ∧ W.cell? ⟨v8.heap.size, 1, none⟩ = some (.slice v.b v.zs.length v.cb)) ∧ (W.cell? ⟨w.heap.size + 1, 0, none⟩ = some (.slice y.a y.ns.length y.ca) ∧ W.cell? ⟨w.heap.size + 1, 1, none⟩ = some (.slice y.b y.zs.length y.cb)))
    (first | exact (ALL.out _ hD2).1.2 | exact (ALL.out _ (Below.drew hD2)).1.2 | exact (ALL.out _ H9).1.2 | exact (ALL.out _ H10).1.2)
    (first
      | (go_at_call 9; (with_reducible refine (toStructure y _ SN.out.n SN.out.z SN.out.e (HAT.out _ (ALL.out _ hD2).2.2).2.at_).mono ?_); rintro e w7 ⟨u, hu, rfl, hat7, -, hb7, -⟩; have H9 := (hD2).trans (hb7.mono (hD2).size))
      | (go_at_call 11; (with_reducible refine (eqStructures v u _ (small_max (HV.out ▸ SN.out)) (hu.trans HV.out.symm) (ALL.out _ H9).2.1.2 hat7).mono ?_); rintro e w8 ⟨rfl, hb8⟩; have H10 := (H9).trans (hb8.mono (H9).size)))
  go_wp2
  go_ret
  exact ⟨rfl, (ALL.out _ H10).2.2⟩

theorem own : ownKnob Try.prog.godebug = none := by kernel_rfl
theorem laidOut : laidOutB Try.prog = true := by kernel_rfl
set_option maxRecDepth 100000 in
theorem contract (H : Type) (enc : TypeId × Value → H) (W : World) (base : Nat) (args : Array Value) (ds gs : List (DataW H)) (before : List MemPlace)
    (hval : ∀ (j : Nat) t v, Try.f6.params[j]? = some t → args[j]? = some v → Value.okWide Try.prog W .any base t v)
    (hW : DataW.Whole enc Try.prog Try.f6.params.toList Rows.fnExactEqualStructureSpec.vars false W args.toList ds gs before)
    (_hL : laidMetH Try.prog Rows.fnExactEqualStructureRow.laid W) (_hSh : W.ShapedOpen Try.prog) :
    Calls Try.prog 6 args W fun e W' => ∃ v, e = .returned v ∧ Rows.fnExactEqualStructureSpec.post enc Try.prog Try.f6 false true false false W args v W' := by
  have hW' := hW
  have hlt : ∀ x ∈ before, x.block < W.heap.size := fun x hx => hW'.lt x hx
  obtain ⟨p, q, hA0, hV, rfl, _, _⟩ := hW
  have hA : DataW.TrodAll enc Try.prog W 0 (fun _ => true) true Try.f6.params.toList args.toList ds p := hA0
  rw [Try.params6] at hA hval
  obtain ⟨v0, v1, d0, d1, p0, p1, rfl, rfl, rfl, t0, t1⟩ := trodAll_two hA
  obtain ⟨x0, rfl, hok0⟩ := open_structure Try.underlying25 (by kernel_rfl) (by kernel_rfl) Try.underlying22 Try.underlying23 Try.underlying61 (by kernel_rfl) (by kernel_rfl) (by kernel_rfl) Try.underlying23 Try.underlying23 Try.underlying3 Try.underlying3 Try.underlying3 (by kernel_rfl) (fun x hx => hlt x (by simp [hx])) (hval 0 25 v0 rfl rfl) t0
  obtain ⟨x1, rfl, hok1⟩ := open_structure Try.underlying25 (by kernel_rfl) (by kernel_rfl) Try.underlying22 Try.underlying23 Try.underlying61 (by kernel_rfl) (by kernel_rfl) (by kernel_rfl) Try.underlying23 Try.underlying23 Try.underlying3 Try.underlying3 Try.underlying3 (by kernel_rfl) (fun x hx => hlt x (by simp [hx])) (hval 1 25 v1 rfl rfl) t1
  refine (walk x0 x1 W hok0 hok1).mono fun e W' ⟨he, hb⟩ => ?_
  subst he
  exact ⟨_, rfl, law_post laidOut rfl (by kernel_rfl) (by kernel_rfl) Try.underlying4 hW' rfl hb⟩

/-- A world for the witness. -/
noncomputable def start (os : Os) : World := World.holding Try.prog os ⟨#[], #[], []⟩
theorem laid_met (os : Os) : laidMet Try.prog Rows.fnExactEqualStructureRow.laid ((start os).forCall (fun _ _ => 0) ⟨#[], #[.agg #[.slice none 0 0, .slice none 0 0], .agg #[.slice none 0 0, .slice none 0 0]], []⟩).memory :=
  laidMet_of_run' 8 (by kernel_rfl) (by kernel_rfl)
theorem reads (os : Os) {H : Type} (enc : TypeId × Value → H) : ∃ places, DataW.whole enc Try.prog ((start os).forCall (fun _ _ => 0) ⟨#[], #[.agg #[.slice none 0 0, .slice none 0 0], .agg #[.slice none 0 0, .slice none 0 0]], []⟩).memory Try.f6.params.toList Rows.fnExactEqualStructureSpec.vars false #[Value.agg #[.slice none 0 0, .slice none 0 0], .agg #[.slice none 0 0, .slice none 0 0]].toList 8 = some ([.agg [.nil, .nil], .agg [.nil, .nil]], [], places) :=
  ⟨[], by kernel_rfl⟩

set_option maxRecDepth 100000 in
theorem lifted (os : Os) (started : os.Started) (H : Type) (enc : TypeId × Value → H) (F : Stop.Interp) :
    ReturnsInHanded {} Try.checked os 6 .any ((OpenSpec.ofChange Rows.fnExactEqualStructureSpec).preRow enc Try.prog Try.f6 Rows.fnExactEqualStructureRow.domain false Rows.fnExactEqualStructureRow.laid) (((OpenSpec.ofChange Rows.fnExactEqualStructureSpec).at F).post enc Try.prog Try.f6 false true false false) := by
  obtain ⟨places, hx⟩ := reads os enc
  refine returnsInHanded_of_row (C := Try.checked) (s := OpenSpec.ofChange Rows.fnExactEqualStructureSpec) own started (by kernel_rfl) Try.func6
    (witness_row_at (enc := enc) (C := Try.checked) false (start os) #[.agg #[.slice none 0 0, .slice none 0 0], .agg #[.slice none 0 0, .slice none 0 0]] rfl (by kernel_rfl) (by kernel_rfl) (by kernel_rfl)
      (OpenSpec.preRow_of_cond 8 hx (by kernel_rfl) (fun k hk => by cases hk) (by kernel_rfl) (laid_met os))) ?_
  intro W base args ds gs before hval hW _ _ _ hL hSh _
  exact contract H enc W base args ds gs before hval hW hL hSh

theorem said : Rows.FnExactEqualStructureSaid :=
  OpenClaim.holds_of_cond 6 Try.f6 rfl rfl rfl rfl rfl rfl rfl ⟨rfl, rfl, rfl, rfl, rfl⟩ rfl rfl rfl rfl rfl (by kernel_rfl) Try.func6 (by kernel_rfl)
    (of_decide_eq_true (by kernel_rfl)) (by unfold Func.isWrapper; first | (rw [if_pos (by decide +kernel)]; kernel_rfl) | (rw [if_neg (by decide +kernel)]; exact ⟨rfl, rfl⟩))
    (fun os started H enc _ F => by rw [OpenClaim.pre_eq_preRow]; exact lifted os started H enc F)
#print axioms said
end Go.Proofs.Ytplchhahjmoodaa.exactEqualStructure
