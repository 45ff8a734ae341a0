/-
  Proved: for every number and every structure the law FnExactIsStructure returns true and leaves its arguments as they were. No condition beyond the given row's own. (Printed by wip/tools/gen_exact_struct.py.)
-/
import Derived.Test.YtplchhahjmoodaaValid
import Derived.Test.YtplchhahjmoodaaToNodes
import Derived.Test.YtplchhahjmoodaaSzNodes
import Derived.Test.YtplchhahjmoodaaRows
import Derived.ChangeMaps5
import Derived.LaidLaws
import Derived.Deep.RegionHeld3
namespace Go.Proofs.Ytplchhahjmoodaa.exactIsStructure
open Go Go.RowKit Go.ChangeShapes Go.WideShapes Go.ChangeAt

/-- The law said true, and nothing old has turned. -/
def TrueEnd (w : World) (e : Ending) (w' : World) : Prop := e = .returned (.bool true) ∧ Below w.heap.size w w'

set_option maxRecDepth 100000 in
set_option maxHeartbeats 3200000 in
theorem walk (v : Int) (x : St) (w : World) (_ : -9223372036854775808 ≤ v) (_ : v ≤ 9223372036854775807) (hok : x.Ok w) :
    Calls Try.prog 3 #[.int .i64 v, x.v] w (TrueEnd w) := by
  have HAT := Lib.hid (fun (W : World) (h : Below w.heap.size w W) => hok.below h)
  clear hok
  go_enter Try.func3, Try.ntmps3
  go_wp2_with fail
  obtain ⟨W0, hW0, hb0, hs0, hA0⟩ := one_box2 w (.slice x.a x.ns.length x.ca) (.slice x.b x.zs.length x.cb) 25
  rw [hW0]
  clear hW0
  have hARG : ∀ W, Below W0.heap.size W0 W → Box2 W w.heap.size (.slice x.a x.ns.length x.ca) (.slice x.b x.zs.length x.cb) ∧ Below w.heap.size w W := fun W hb => ⟨hA0.keep hs0 hb, hb0.trans (hb.mono hb0.size)⟩
  have ARG := Lib.hid hARG
  clear hARG hA0
  refine (szStructure x 1048576 _ (by omega) (HAT.out _ hb0)).mono ?_
  rintro e w1 ⟨r, rfl, hb1, hr, hsz⟩
  obtain ⟨⟨c0, c1⟩, hB1⟩ := ARG.out _ hb1
  by_cases hneg : r < 0
  · go_wp2
    go_ret
    exact ⟨rfl, hB1⟩
  · have hnat : stSize x ≤ 1048576 := by have := hsz (by omega); omega
    have SM := Lib.hid (small_of hnat)
    clear hsz hnat
    go_wp2_with fail
    refine (toStructure x _ SM.out.n SM.out.z SM.out.e (HAT.out _ hB1).at_).mono ?_
    rintro e w2 ⟨y, hy, rfl, hat2, -, hb2, -⟩
    have hb2 := hb1.trans (hb2.mono hb1.size)
    go_wp2_with fail
    refine (specIsStructure v y _ (hy ▸ SM.out) hat2).mono ?_
    rw [hy]
    rintro e w3 ⟨rfl, hb3⟩
    have hb3 := hb2.trans (hb3.mono hb2.size)
    clear c0 c1 hb2 hb1 hB1 hat2 hy
    obtain ⟨⟨c0, c1⟩, hB3⟩ := ARG.out _ hb3
    generalize hres : stB v x.body = res at *
    have Hres := Lib.hid hres
    clear hres
    go_wp2_with fail
    refine (toStructure x _ SM.out.n SM.out.z SM.out.e (HAT.out _ hB3).at_).mono ?_
    rintro e w4 ⟨z, hz, rfl, hat4, hcap4, hb4, -⟩
    have HC := Lib.hid (Nat.le_of_eq hcap4.2.symm)
    clear hcap4
    have hb4' := hb3.trans (hb4.mono hb3.size)
    go_wp2_with fail
    obtain ⟨W5, hW5, hb5, hs5, hX5⟩ := one_box2 w4 (.slice z.a z.ns.length z.ca) (.slice z.b z.zs.length z.cb) 30
    rw [hW5]
    clear hW5
    have hb05 := hb4'.trans (hb5.mono hb4'.size)
    have hALL : ∀ W, Below W5.heap.size W5 W → (Box2 W w4.heap.size (.slice z.a z.ns.length z.ca) (.slice z.b z.zs.length z.cb) ∧ Box2 W w.heap.size (.slice x.a x.ns.length x.ca) (.slice x.b x.zs.length x.cb)) ∧ z.At W ∧ Below w.heap.size w W := fun W hb =>
      ⟨⟨hX5.keep hs5 hb, (ARG.out _ (hb05.trans (hb.mono hb05.size))).1⟩, hat4.below (hb5.trans (hb.mono hb5.size)), (ARG.out _ (hb05.trans (hb.mono hb05.size))).2⟩
    have ALL := Lib.hid hALL
    have HZ := Lib.hid hz
    clear hALL c0 c1 hat4 hb4 hb4' hb5 hb3 hB3 hb05 hX5 hz
    refine (implIsStructure v z _ (HZ.out ▸ SM.out) HC.out (ALL.out _ (Below.refl _ _)).2.1).mono ?_
    rw [HZ.out, Hres.out]
    rintro e w6 ⟨rfl, hb6⟩
    have hD : Below W5.heap.size W5 w6.drew := hb6.drew
    go_wp2
    go_region_held3 (fun W => (W.cell? ⟨w4.heap.size, 0, none⟩ = some (.slice z.a z.ns.length z.ca) ∧ W.cell? ⟨w4.heap.size, 1, none⟩ = some (.slice z.b z.zs.length z.cb)) ∧ (W.cell? ⟨w.heap.size, 0, none⟩ = some (.slice x.a x.ns.length x.ca) ∧ W.cell? ⟨w.heap.size, 1, none⟩ = some (.slice x.b x.zs.length x.cb)))
      (first | exact (ALL.out _ hD).1 | exact (ALL.out _ (Below.drew hD)).1 | exact (ALL.out _ H7).1 | exact (ALL.out _ H8).1)
      (first
        | (go_at_call 9; (with_reducible refine (toStructure x _ SM.out.n SM.out.z SM.out.e (HAT.out _ (ALL.out _ hD).2.2).at_).mono ?_); rintro e w7 ⟨u, hu, rfl, hat7, -, hb7, -⟩; have H7 := hD.trans (hb7.mono hD.size))
        | (go_at_call 11; (with_reducible refine (eqStructures z u _ (small_max (HZ.out ▸ SM.out)) (hu.trans HZ.out.symm) (ALL.out _ H7).2.1 hat7).mono ?_); rintro e w8 ⟨rfl, hb8⟩; have H8 := H7.trans (hb8.mono H7.size)))
    go_wp2
    go_ret
    exact ⟨rfl, (ALL.out _ H8).2.2⟩

theorem own : ownKnob Try.prog.godebug = none := by kernel_rfl
theorem laidOut : laidOutB Try.prog = true := by kernel_rfl
set_option maxRecDepth 100000 in
theorem contract (H : Type) (enc : TypeId × Value → H) (W : World) (base : Nat) (args : Array Value) (ds gs : List (DataW H)) (before : List MemPlace)
    (hval : ∀ (j : Nat) t v, Try.f3.params[j]? = some t → args[j]? = some v → Value.okWide Try.prog W .any base t v)
    (hW : DataW.Whole enc Try.prog Try.f3.params.toList Rows.fnExactIsStructureSpec.vars false W args.toList ds gs before)
    (_hL : laidMetH Try.prog Rows.fnExactIsStructureRow.laid W) (_hSh : W.ShapedOpen Try.prog) :
    Calls Try.prog 3 args W fun e W' => ∃ v, e = .returned v ∧ Rows.fnExactIsStructureSpec.post enc Try.prog Try.f3 false true false false W args v W' := by
  have hW' := hW
  have hlt : ∀ x ∈ before, x.block < W.heap.size := fun x hx => hW'.lt x hx
  obtain ⟨p, q, hA0, hV, rfl, _, _⟩ := hW
  have hA : DataW.TrodAll enc Try.prog W 0 (fun _ => true) true Try.f3.params.toList args.toList ds p := hA0
  rw [Try.params3] at hA hval
  obtain ⟨v0, v1, d0, d1, p0, p1, rfl, rfl, rfl, t0, t1⟩ := trodAll_two hA
  obtain ⟨n0, rfl, _, _, hw0⟩ := open_int Try.underlying3 (hval 0 3 v0 rfl rfl) t0
  have hr0 := i64_bounds hw0
  obtain ⟨x1, rfl, hok1⟩ := open_structure Try.underlying25 (by kernel_rfl) (by kernel_rfl) Try.underlying22 Try.underlying23 Try.underlying61 (by kernel_rfl) (by kernel_rfl) (by kernel_rfl) Try.underlying23 Try.underlying23 Try.underlying3 Try.underlying3 Try.underlying3 (by kernel_rfl) (fun x hx => hlt x (by simp [hx])) (hval 1 25 v1 rfl rfl) t1
  refine (walk n0 x1 W hr0.1 hr0.2 hok1).mono fun e W' ⟨he, hb⟩ => ?_
  subst he
  exact ⟨_, rfl, law_post laidOut rfl (by kernel_rfl) (by kernel_rfl) Try.underlying4 hW' rfl hb⟩

/-- A world for the witness. -/
noncomputable def start (os : Os) : World := World.holding Try.prog os ⟨#[], #[], []⟩
theorem laid_met (os : Os) : laidMet Try.prog Rows.fnExactIsStructureRow.laid ((start os).forCall (fun _ _ => 0) ⟨#[], #[.int .i64 0, .agg #[.slice none 0 0, .slice none 0 0]], []⟩).memory :=
  laidMet_of_run' 8 (by kernel_rfl) (by kernel_rfl)
theorem reads (os : Os) {H : Type} (enc : TypeId × Value → H) : ∃ places, DataW.whole enc Try.prog ((start os).forCall (fun _ _ => 0) ⟨#[], #[.int .i64 0, .agg #[.slice none 0 0, .slice none 0 0]], []⟩).memory Try.f3.params.toList Rows.fnExactIsStructureSpec.vars false #[Value.int .i64 0, .agg #[.slice none 0 0, .slice none 0 0]].toList 8 = some ([.lit (.int .i64 0), .agg [.nil, .nil]], [], places) :=
  ⟨[], by kernel_rfl⟩

set_option maxRecDepth 100000 in
theorem lifted (os : Os) (started : os.Started) (H : Type) (enc : TypeId × Value → H) (F : Stop.Interp) :
    ReturnsInHanded {} Try.checked os 3 .any ((OpenSpec.ofChange Rows.fnExactIsStructureSpec).preRow enc Try.prog Try.f3 Rows.fnExactIsStructureRow.domain false Rows.fnExactIsStructureRow.laid) (((OpenSpec.ofChange Rows.fnExactIsStructureSpec).at F).post enc Try.prog Try.f3 false true false false) := by
  obtain ⟨places, hx⟩ := reads os enc
  refine returnsInHanded_of_row (C := Try.checked) (s := OpenSpec.ofChange Rows.fnExactIsStructureSpec) own started (by kernel_rfl) Try.func3
    (witness_row_at (enc := enc) (C := Try.checked) false (start os) #[.int .i64 0, .agg #[.slice none 0 0, .slice none 0 0]] rfl (by kernel_rfl) (by kernel_rfl) (by kernel_rfl)
      (OpenSpec.preRow_of_cond 8 hx (by kernel_rfl) (fun k hk => by cases hk) (by kernel_rfl) (laid_met os))) ?_
  intro W base args ds gs before hval hW _ _ _ hL hSh _
  exact contract H enc W base args ds gs before hval hW hL hSh

theorem said : Rows.FnExactIsStructureSaid :=
  OpenClaim.holds_of_cond 3 Try.f3 rfl rfl rfl rfl rfl rfl rfl ⟨rfl, rfl, rfl, rfl, rfl⟩ rfl rfl rfl rfl rfl (by kernel_rfl) Try.func3 (by kernel_rfl)
    (of_decide_eq_true (by kernel_rfl)) (by unfold Func.isWrapper; first | (rw [if_pos (by decide +kernel)]; kernel_rfl) | (rw [if_neg (by decide +kernel)]; exact ⟨rfl, rfl⟩))
    (fun os started H enc _ F => by rw [OpenClaim.pre_eq_preRow]; exact lifted os started H enc F)
#print axioms said
end Go.Proofs.Ytplchhahjmoodaa.exactIsStructure
