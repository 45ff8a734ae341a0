/-
  Proved: for every program the law FnExactProgramText returns true and leaves its argument as it was, where the listed tables read as the text lays them (the card ties them).
-/
import Derived.Test.YtabedmjaodinbaaDoorSzEdges
import Derived.Test.YtabedmjaodinbaaDoorToEdges
import Derived.Test.YtabedmjaodinbaaDoorEqEdges
import Derived.Test.YtabedmjaodinbaaDoorImplProgText
import Derived.Test.YtabedmjaodinbaaDoorSpecProgText
import Derived.Test.YtabedmjaodinbaaDoorCards
import Derived.Test.YtabedmjaodinbaaDoorTie
import Derived.ChangeMaps5
import Derived.Deep.RegionHeld3
import Derived.Deep.DeepWitnessRowRef
import Derived.LaidMore
namespace Go.Proofs.YtabedmjaodinbaaDoor.exactProgramText
open Go Go.RowKit Go.ChangeShapes Go.WideShapes Go.ChangeAt

/-- The law said true, and nothing old has turned. -/
def TrueEnd (w : World) (e : Ending) (w' : World) : Prop := e = .returned (.bool true) ∧ Below w.heap.size w w'

set_option maxHeartbeats 3200000 in
theorem walk (a : Option Addr) (ca : Nat) (xs : List ByteArray) (p : Int) (b : Option Addr) (cb : Nat) (es : List Ed) (w : World)
    (hx : xs.length ≤ maxLen ∧ (∀ s ∈ xs, s.size ≤ maxLen) ∧ Row w w.heap.size a (strVals xs)) (hp : -9223372036854775808 ≤ p ∧ p ≤ 9223372036854775807) (he : es.length ≤ maxLen ∧ (∀ x ∈ es, x.Ok) ∧ Row w w.heap.size b (edVals es)) (hT : HasNamesTable w) (hP : Pows w) :
    Calls Tryd.prog 4 #[.agg #[.slice a xs.length ca, .int .i64 p, .slice b es.length cb]] w (TrueEnd w) := by
  have keyA : ∀ W, Below w.heap.size w W → Row W W.heap.size a (strVals xs) ∧ Row W W.heap.size b (edVals es) := fun W h => ⟨(hx.2.2.below h).grow h.size, (he.2.2.below h).grow h.size⟩
  go_enter Tryd.func4, Tryd.ntmps4
  go_wp2_with fail
  obtain ⟨W0, hW0, hb0, hs0, hA0⟩ := one_box w (.slice a xs.length ca) (.int .i64 p) (.slice b es.length cb) 25
  rw [hW0]
  clear hW0
  refine (szProgram a ca xs p b cb es 1048576 _ (by omega) ⟨hx.1, hx.2.1, (keyA _ hb0).1⟩ ⟨he.1, he.2.1, (keyA _ hb0).2⟩).mono ?_
  rintro e w1 ⟨r, rfl, hb1, hr, hok⟩
  have hB1 := hb0.trans (hb1.mono hb0.size)
  by_cases hneg : r < 0
  · go_wp2
    go_ret
    exact ⟨rfl, hB1⟩
  · have hnat : xs.length + es.length ≤ 1048576 := by have := hok (by omega); omega
    clear hok
    have hA1 := hA0.keep hs0 hb1
    have hs1 : w.heap.size < w1.heap.size := Nat.lt_of_lt_of_le hs0 hb1.size
    obtain ⟨c0, c1, c2⟩ := hA0.keep hs0 hb1
    clear hA0 hs0 hb1 hb0
    go_wp2_with fail
    refine (toProgram a ca xs p b cb es _ (by omega) (by omega) (keyA _ hB1).1 (keyA _ hB1).2).mono ?_
    clear c0 c1 c2
    rintro e w2 ⟨g1, g2, rfl, hg1, hg2, ho1, ho2, hb2⟩
    go_wp2_with fail
    refine (specProgText _ _ _ _ xs p es _ ⟨hx.1, hx.2.1, Row.owned ho1⟩ hp ⟨he.1, he.2.1, Row.ownedN ho2⟩).mono ?_
    rintro e w3 ⟨rfl, hb3⟩
    have hb13 : Below w1.heap.size w1 w3 := hb2.trans (hb3.mono hb2.size)
    have hB3 := hB1.trans (hb13.mono hB1.size)
    have hA3 := hA1.keep hs1 hb13
    have hs3 : w.heap.size < w3.heap.size := Nat.lt_of_lt_of_le hs1 hb13.size
    obtain ⟨c0, c1, c2⟩ := hA1.keep hs1 hb13
    clear ho1 ho2 hb2 hb3 hb13 hg1 hg2 hA1 hs1
    generalize hres : progT xs p es = res at *
    have Hres := Lib.hid hres
    clear hres
    go_wp2_with fail
    refine (toProgram a ca xs p b cb es _ (by omega) (by omega) (keyA _ hB3).1 (keyA _ hB3).2).mono ?_
    clear c0 c1 c2
    rintro e w4 ⟨gx, gy, rfl, hgx, hgy, hox, hoy, hb4⟩
    go_wp2_with fail
    obtain ⟨W5, hW5, hb5, hs5, hX5⟩ := one_box w4 (.slice (some ⟨gx, 0, none⟩) xs.length xs.length) (.int .i64 p) (.slice (some ⟨gy, 0, none⟩) es.length es.length) 30
    rw [hW5]
    clear hW5
    have hb35 : Below w3.heap.size w3 W5 := hb4.trans (hb5.mono hb4.size)
    have hB5 := hB3.trans (hb35.mono hB3.size)
    have hAll : ∀ W, Below W5.heap.size W5 W → (Box3 W w4.heap.size (.slice (some ⟨gx, 0, none⟩) xs.length xs.length) (.int .i64 p) (.slice (some ⟨gy, 0, none⟩) es.length es.length) ∧ Box3 W w.heap.size (.slice a xs.length ca) (.int .i64 p) (.slice b es.length cb)) ∧
        (Row W W.heap.size (some ⟨gx, 0, none⟩) (strVals xs) ∧ Row W W.heap.size (some ⟨gy, 0, none⟩) (edVals es)) ∧ Below w.heap.size w W := fun W h =>
      ⟨⟨hX5.keep hs5 h, hA3.keep hs3 (hb35.trans (h.mono hb35.size))⟩, ⟨Row.owned (own_keeps (own_keeps hox hb5) h), Row.ownedN (own_keeps (own_keeps hoy hb5) h)⟩, hB5.trans (h.mono hB5.size)⟩
    clear hox hoy hb4 hb5 hX5 hA3 hb35 hs5
    refine (implProgText _ _ _ _ xs p es _ ⟨hx.1, hx.2.1, (hAll _ (Below.refl _ _)).2.1.1⟩ (Nat.le_refl _) hp ⟨he.1, he.2.1, (hAll _ (Below.refl _ _)).2.1.2⟩ (hT.keeps hB5) (hP.keeps hB5)).mono ?_
    rw [Hres.out]
    rintro e w6 ⟨rfl, hb6⟩
    clear hB5
    go_wp2
    go_region_held3 (fun w' => (w'.cell? ⟨w4.heap.size, 0, none⟩ = some (.slice (some ⟨gx, 0, none⟩) xs.length xs.length) ∧ w'.cell? ⟨w4.heap.size, 1, none⟩ = some (.int .i64 p) ∧ w'.cell? ⟨w4.heap.size, 2, none⟩ = some (.slice (some ⟨gy, 0, none⟩) es.length es.length)) ∧ (w'.cell? ⟨w.heap.size, 0, none⟩ = some (.slice a xs.length ca) ∧ w'.cell? ⟨w.heap.size, 1, none⟩ = some (.int .i64 p) ∧ w'.cell? ⟨w.heap.size, 2, none⟩ = some (.slice b es.length cb)))
      (first | with_reducible exact (hAll _ (Below.drew hb6)).1 | with_reducible exact (hAll _ H7).1 | with_reducible exact (hAll _ H8).1)
      (first
        | (go_at_call 7; (with_reducible refine (toProgram a ca xs p b cb es _ (by omega) (by omega) (keyA _ (hAll _ (Below.drew hb6)).2.2).1 (keyA _ (hAll _ (Below.drew hb6)).2.2).2).mono ?_); rintro e w7 ⟨g5, g6, rfl, hg5, hg6, ho5, ho6, hb7⟩; have H7 := (Below.drew hb6).trans (hb7.mono (Below.drew hb6).size))
        | (go_at_call 9; (with_reducible refine (eqProgramSame _ _ _ _ _ _ _ _ xs p es _ hx.1 he.1 (hAll _ H7).2.1.1 (hAll _ H7).2.1.2 (Row.owned ho5) (Row.ownedN ho6)).mono ?_); rintro e w8 ⟨rfl, hb8⟩; have H8 := H7.trans (hb8.mono H7.size)))
    go_wp2
    go_ret
    exact ⟨rfl, (hAll _ H8).2.2⟩

theorem own : ownKnob Tryd.prog.godebug = none := by kernel_rfl
theorem laidOut : laidOutB Tryd.prog = true := by kernel_rfl
set_option maxRecDepth 100000 in
theorem contract (H : Type) (enc : TypeId × Value → H) (W : World) (base : Nat) (args : Array Value) (ds gs : List (DataW H)) (before : List MemPlace)
    (hval : ∀ (j : Nat) t v, Tryd.f4.params[j]? = some t → args[j]? = some v → Value.okWide Tryd.prog W .any base t v)
    (hW : DataW.Whole enc Tryd.prog Tryd.f4.params.toList Rows.fnExactProgramTextSpec.vars false W args.toList ds gs before)
    (hL : laidMetH Tryd.prog Rows.fnExactProgramTextRow.laid W) (_hSh : W.ShapedOpen Tryd.prog) :
    Calls Tryd.prog 4 args W fun e W' => ∃ v, e = .returned v ∧ Rows.fnExactProgramTextSpec.post enc Tryd.prog Tryd.f4 false true false false W args v W' := by
  have hW' := hW
  have hlt : ∀ x ∈ before, x.block < W.heap.size := fun x hx => hW'.lt x hx
  have hnamesTable : HasNamesTable W := namesTable_of 3 hL rfl
  have hpows : Pows W := pows_of hL
  obtain ⟨p, q, hA0, hV, rfl, _, _⟩ := hW
  have hA : DataW.TrodAll enc Tryd.prog W 0 (fun _ => true) true Tryd.f4.params.toList args.toList ds p := hA0
  rw [Tryd.params4] at hA hval
  obtain ⟨v0, d0, rfl, rfl, t0⟩ := trodAll_one hA
  obtain ⟨g1, gs1, q1, rfl, hV1⟩ := gs_cons hV
  obtain ⟨rfl, _⟩ := trodVars_none hV1
  obtain ⟨a0, cap0, ss0, n0, b0, capb0, es0, rfl, hss0, hn0, hes0⟩ := open_prog Tryd.underlying25 (by kernel_rfl) (by kernel_rfl) Tryd.underlying22 Tryd.underlying9 (by kernel_rfl) Tryd.underlying3 Tryd.underlying23 Tryd.underlying55 (by kernel_rfl) Tryd.underlying3 Tryd.underlying3 Tryd.underlying53 (by kernel_rfl) (by kernel_rfl) Tryd.underlying3 Tryd.underlying9 Tryd.underlying9 (fun x hx => hlt x (by simp [hx])) (hval 0 25 v0 rfl rfl) t0
  refine (walk a0 cap0 ss0 n0 b0 capb0 es0 W hss0 hn0 hes0 hnamesTable hpows).mono fun e W' ⟨he, hb⟩ => ?_
  subst he
  exact ⟨_, rfl, law_post_vars laidOut (by kernel_rfl) (by kernel_rfl) (by kernel_rfl) Tryd.underlying4 hW' rfl hb⟩

/-- A world for the witness. -/
noncomputable def start (os : Os) : World := World.doorLaid Tryd.prog 4000 os
theorem laid_met (os : Os) : laidMet Tryd.prog Rows.fnExactProgramTextRow.laid ((start os).forCall (fun _ _ => 0) ⟨#[], #[.agg #[.slice none 0 0, .int .i64 0, .slice none 0 0]], []⟩).memory :=
  laidMet_of_run' 8 (by kernel_rfl) (by kernel_rfl)
theorem reads (os : Os) {H : Type} (enc : TypeId × Value → H) : ∃ places, DataW.whole enc Tryd.prog ((start os).forCall (fun _ _ => 0) ⟨#[], #[.agg #[.slice none 0 0, .int .i64 0, .slice none 0 0]], []⟩).memory Tryd.f4.params.toList Rows.fnExactProgramTextSpec.vars false #[Value.agg #[.slice none 0 0, .int .i64 0, .slice none 0 0]].toList 8 = some ([.agg [.nil, .lit (.int .i64 0), .nil]], [Rows.laid_loop_example_g00590_impl_namesTable], places) :=
  ⟨[.cell 0 0, .cell 0 1, .cell 0 2, .cell 0 3, .cell 0 4, .cell 0 5, .cell 0 6, .cell 0 7, .cell 0 8, .cell 0 9, .cell 0 10, .cell 0 11, .cell 0 12], by kernel_rfl⟩

set_option maxRecDepth 100000 in
theorem lifted (os : Os) (started : os.Started) (H : Type) (enc : TypeId × Value → H) (F : Stop.Interp) :
    ReturnsInHanded {} Tryd.checked os 4 .any ((OpenSpec.ofChange Rows.fnExactProgramTextSpec).preRow enc Tryd.prog Tryd.f4 Rows.fnExactProgramTextRow.domain false Rows.fnExactProgramTextRow.laid) (((OpenSpec.ofChange Rows.fnExactProgramTextSpec).at F).post enc Tryd.prog Tryd.f4 false true false false) := by
  obtain ⟨places, hx⟩ := reads os enc
  refine returnsInHanded_of_row (C := Tryd.checked) (s := OpenSpec.ofChange Rows.fnExactProgramTextSpec) own started (by kernel_rfl) Tryd.func4
    (witness_row_atRef (enc := enc) (C := Tryd.checked) false (start os) #[.agg #[.slice none 0 0, .int .i64 0, .slice none 0 0]] rfl (by kernel_rfl) (by kernel_rfl) (by kernel_rfl)
      (OpenSpec.preRow_of_cond 8 hx (by kernel_rfl) (fun k hk => by cases hk) (by kernel_rfl) (laid_met os))) ?_
  intro W base args ds gs before hval hW _ _ _ hL hSh _
  exact contract H enc W base args ds gs before hval hW hL hSh

theorem said : Rows.FnExactProgramTextSaid :=
  OpenClaim.holds_of_cond 4 Tryd.f4 rfl rfl rfl rfl rfl rfl rfl ⟨rfl, rfl, rfl, rfl, rfl⟩ rfl rfl rfl rfl rfl (by kernel_rfl) Tryd.func4 (by kernel_rfl)
    (of_decide_eq_true (by kernel_rfl)) (by unfold Func.isWrapper; first | (rw [if_pos (by decide +kernel)]; kernel_rfl) | (rw [if_neg (by decide +kernel)]; exact ⟨rfl, rfl⟩))
    (fun os started H enc _ F => by rw [OpenClaim.pre_eq_preRow]; exact lifted os started H enc F)

theorem plain (f : FuncId) (fn : Func) (hf : Tryd.pinned.checked.prog.funcNamed "loop.example/g00590/laws.FnExactProgramText" = some f) (hfn : Tryd.pinned.checked.prog.funcs[f]? = some fn) :
    Rows.fnExactProgramTextCard.stood.looks = Tryd.pinned.checked.prog.looks [] ∧ ∀ (j : Nat) t, fn.params[j]? = some t → Tryd.pinned.checked.prog.wantsStandIn t = false := by
  obtain rfl : f = 4 := Option.some.inj ((show Tryd.prog.funcNamed "loop.example/g00590/laws.FnExactProgramText" = some 4 by kernel_rfl).symm.trans hf) |>.symm
  obtain rfl : fn = Tryd.f4 := (Option.some.inj (Tryd.func4.symm.trans hfn)).symm
  refine ⟨by kernel_rfl, fun j t ht => ?_⟩
  rw [Tryd.params4] at ht
  have hm : t ∈ [25] := by simpa using Array.mem_of_getElem? ht
  have hall : ([25].all fun u => !Tryd.prog.wantsStandIn u) = true := by kernel_rfl
  exact (show Tryd.prog.wantsStandIn t = false by simpa using List.all_eq_true.1 hall t hm)

/-- The card. -/
theorem card : Rows.FnExactProgramTextCardSaid :=
  Claim7.holds_tied_plain_at .later [] _ _ _ _ said (fun _ h => by cases h) (by kernel_rfl) (fun _ h => by cases h) fnExactProgramText_row_tie rfl ⟨rfl, rfl⟩ (by kernel_rfl) rfl plain (by kernel_rfl)
#print axioms card
end Go.Proofs.YtabedmjaodinbaaDoor.exactProgramText
