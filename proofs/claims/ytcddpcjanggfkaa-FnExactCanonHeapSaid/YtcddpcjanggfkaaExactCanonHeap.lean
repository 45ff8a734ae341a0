/-
  Proved: for every heap the law FnExactCanonHeap returns true and leaves its argument as it was. No condition beyond the given row's own.
-/
import Derived.Test.YtcddpcjanggfkaaImplCanon
import Derived.Test.YtcddpcjanggfkaaSpecCanonH
import Derived.Test.YtcddpcjanggfkaaRows
import Derived.ChangeMaps5
import Derived.LaidLaws
import Derived.Deep.RegionHeld3
namespace Go.Proofs.Ytcddpcjanggfkaa.exactCanonHeap
open Go Go.RowKit Go.ChangeShapes Go.WideShapes Go.ChangeAt

/-- The law said true, and nothing old has turned. -/
def TrueEnd (w : World) (e : Ending) (w' : World) : Prop := e = .returned (.bool true) ∧ Below w.heap.size w w'

theorem canon_lens (vs zs : List Int) : (canonVs vs zs).length ≤ vs.length ∧ (canonNs vs zs).length ≤ zs.length := by
  unfold canonVs canonNs
  split
  · exact ⟨by simp [canonV], by simp only [canonN, List.length_map]; exact (order_end vs zs).len⟩
  · simp

set_option maxRecDepth 100000 in
set_option maxHeartbeats 3200000 in
theorem walk (a : Option Addr) (ca : Nat) (vs : List Int) (b : Option Addr) (cb : Nat) (zs : List Int) (w : World) (hok : HeapOk w a b vs zs) :
    Calls Try.prog 5 #[heV a vs.length ca b zs.length cb] w (TrueEnd w) := by
  have hat : ∀ W, Below w.heap.size w W → HeapAt W a b vs zs := fun W h => hok.at_.below h (Nat.le_refl _)
  have HAT := Lib.hid hat
  clear hat
  go_enter Try.func5, Try.ntmps5
  go_wp2_with fail
  obtain ⟨W0, hW0, hb0, hs0, hA0⟩ := one_box2 w (.slice a vs.length ca) (.slice b zs.length cb) 24
  rw [hW0]
  clear hW0
  have hARG : ∀ W, Below W0.heap.size W0 W → Box2 W w.heap.size (.slice a vs.length ca) (.slice b zs.length cb) ∧ Below w.heap.size w W := fun W hb => ⟨hA0.keep hs0 hb, hb0.trans (hb.mono hb0.size)⟩
  have ARG := Lib.hid hARG
  clear hARG hA0
  refine (szHeap a b ca cb vs.length zs.length 1048576 _ (by omega) hok.lv hok.lz).mono ?_
  rintro e w1 ⟨r, rfl, hb1, hr, hsz⟩
  obtain ⟨⟨c0, c1⟩, hB1⟩ := ARG.out _ hb1
  by_cases hneg : r < 0
  · go_wp2
    go_ret
    exact ⟨rfl, hB1⟩
  · have hnat : vs.length + zs.length ≤ 1048576 := by have := hsz (by omega); omega
    clear hsz
    go_wp2_with fail
    refine (toHeap a b ca cb vs zs _ (by omega) (by omega) (HAT.out _ hB1)).mono ?_
    rintro e w2 ⟨p2, q2, rfl, hin2, hb2⟩
    have hb2 := hb1.trans (hb2.mono hb1.size)
    go_wp2_with fail
    refine (specCanonHeap _ _ _ _ vs zs _ (by omega) (by omega) hin2.rows).mono ?_
    rintro e w3 ⟨pa, pca, pb, pcb, rfl, hp3, hb3⟩
    have hb3 := hb2.trans (hb3.mono hb2.size)
    clear c0 c1 hin2 hb1 hB1
    obtain ⟨⟨c0, c1⟩, hB3⟩ := ARG.out _ hb3
    have hsa : w.heap.size < w3.heap.size := Nat.lt_of_lt_of_le hs0 hb3.size
    have hcl := canon_lens vs zs
    generalize hps : canonVs vs zs = ps at *
    generalize hqs : canonNs vs zs = qs at *
    have HPS := Lib.hid hps
    have HQS := Lib.hid hqs
    clear hps hqs
    go_wp2_with fail
    obtain ⟨W3, hW3, hbW3, hsW3, hXP⟩ := one_box2 w3 (.slice pa ps.length pca) (.slice pb qs.length pcb) 27
    rw [hW3]
    clear hW3
    have hb03 := hb3.trans (hbW3.mono hb3.size)
    have hB3' := (ARG.out _ hb03).2
    have hp3 := hp3.below hbW3
    refine (toHeap a b ca cb vs zs _ (by omega) (by omega) (HAT.out _ hB3')).mono ?_
    rintro e w4 ⟨p4, q4, rfl, hin4, hb4⟩
    have hb04 := hb03.trans (hb4.mono hb03.size)
    have hp4 := hp3.below hb4
    have hXP4 := hXP.keep hsW3 hb4
    have hs34 : w3.heap.size < w4.heap.size := Nat.lt_of_lt_of_le hsW3 hb4.size
    clear c0 c1 hp3 hXP hB3 hB3'
    go_wp2_with fail
    obtain ⟨W5, hW5, hb5, hs5, hX5⟩ := one_box2 w4 (.slice p4 vs.length vs.length) (.slice q4 zs.length zs.length) 27
    rw [hW5]
    clear hW5
    have hb05 := hb04.trans (hb5.mono hb04.size)
    have hin5 := hin4.below hb5
    refine (implCanonHeap _ _ _ _ vs zs _ (by omega) (by omega) hin5.rows).mono ?_
    rw [HPS.out, HQS.out]
    rintro e w6 ⟨ga, gca, gb, gcb, rfl, hg6, hb6⟩
    have hb56 := hb5.trans (hb6.mono hb5.size)
    have hb06 := hb04.trans (hb56.mono hb04.size)
    have hp6 := hp4.below hb56
    have hXP6 := hXP4.keep hs34 hb56
    have hs36 : w3.heap.size < w6.heap.size := Nat.lt_of_lt_of_le hs34 hb56.size
    have hin6 := hin5.below hb6
    have hX6 := hX5.keep hs5 hb6
    have hs46 : w4.heap.size < w6.heap.size := Nat.lt_of_lt_of_le hs5 hb6.size
    have h33 : w3.heap.size < W3.heap.size := hsW3
    have h34 : W3.heap.size ≤ w4.heap.size := hb4.size
    have h45 : w4.heap.size < W5.heap.size := hs5
    have h56 : W5.heap.size ≤ w6.heap.size := hb6.size
    clear hin4 hin5 hX5 hp4 hXP4
    obtain ⟨d0, d1⟩ := hXP6
    have hXP6 : Box2 w6 w3.heap.size (.slice pa ps.length pca) (.slice pb qs.length pcb) := ⟨d0, d1⟩
    go_wp2_with fail
    obtain ⟨W7, hW7, hb7, hs7, hXG⟩ := one_box2 w6 (.slice ga ps.length gca) (.slice gb qs.length gcb) 27
    rw [hW7]
    clear hW7
    have hb07 := hb06.trans (hb7.mono hb06.size)
    have hALL : ∀ W, Below W7.heap.size W7 W → ((Box2 W w4.heap.size (.slice p4 vs.length vs.length) (.slice q4 zs.length zs.length) ∧ Box2 W w.heap.size (.slice a vs.length ca) (.slice b zs.length cb)) ∧ (Box2 W w6.heap.size (.slice ga ps.length gca) (.slice gb qs.length gcb) ∧ Box2 W w3.heap.size (.slice pa ps.length pca) (.slice pb qs.length pcb))) ∧
        (HeapIn W3.heap.size w4.heap.size W p4 vs.length q4 zs.length (intVals vs) (intVals zs) ∧ HeapIn w2.heap.size w3.heap.size W pa pca pb pcb (intVals ps) (intVals qs) ∧ HeapIn W5.heap.size w6.heap.size W ga gca gb gcb (intVals ps) (intVals qs)) ∧ Below w.heap.size w W := fun W hb =>
      have hA := ARG.out _ (hb07.trans (hb.mono hb07.size))
      have hb6W := hb7.trans (hb.mono hb7.size)
      ⟨⟨⟨hX6.keep hs46 hb6W, hA.1⟩, ⟨hXG.keep hs7 hb, hXP6.keep hs36 hb6W⟩⟩, ⟨hin6.below hb6W, hp6.below hb6W, hg6.below hb6W⟩, hA.2⟩
    have ALL := Lib.hid hALL
    clear hALL d0 d1 hin6 hX6 hXP6 hp6 hg6 hXG hb4 hb04 hb5 hb56 hb6 hb3 hb2 hb03 hb05 hb06 hb07 hbW3
    have h67 : w6.heap.size < W7.heap.size := hs7
    generalize hS2 : w2.heap.size = s2 at *
    generalize hS3 : w3.heap.size = s3 at *
    generalize hT3 : W3.heap.size = t3 at *
    generalize hS4 : w4.heap.size = s4 at *
    generalize hS5 : W5.heap.size = s5 at *
    generalize hS6 : w6.heap.size = s6 at *
    clear hS2 hS3 hT3 hS4 hS5 hS6 hb7 hs7
    have h0 := ALL.out _ (Below.refl _ _)
    refine (eqHeaps _ _ _ _ _ _ _ _ ps qs _ (by unfold maxLen; omega) (by unfold maxLen; omega) h0.2.1.2.2.rows h0.2.1.2.1.rows).mono ?_
    clear h0
    rintro e w8 ⟨rfl, hb8⟩
    have hD : Below W7.heap.size W7 w8.drew := hb8.drew
    go_wp2
    go_region_held3 (fun W => (W.cell? ⟨s4, 0, none⟩ = some (.slice p4 vs.length vs.length) ∧ W.cell? ⟨s4, 1, none⟩ = some (.slice q4 zs.length zs.length)) ∧ (W.cell? ⟨w.heap.size, 0, none⟩ = some (.slice a vs.length ca) ∧ W.cell? ⟨w.heap.size, 1, none⟩ = some (.slice b zs.length cb)))
      (first | exact (ALL.out _ hD).1.1 | exact (ALL.out _ (Below.drew hD)).1.1 | exact (ALL.out _ H7).1.1 | exact (ALL.out _ H8).1.1)
      (first
        | (go_at_call 10; (with_reducible refine (toHeap a b ca cb vs zs _ (by omega) (by omega) (HAT.out _ (ALL.out _ hD).2.2)).mono ?_); rintro e w9 ⟨p7, q7, rfl, hin7, hb9⟩; have H7 := hD.trans (hb9.mono hD.size))
        | (go_at_call 13; (with_reducible refine (eqHeaps _ _ _ _ _ _ _ _ vs zs _ hok.lv hok.lz (ALL.out _ H7).2.1.1.rows hin7.rows).mono ?_); rintro e w10 ⟨rfl, hb10⟩; have H8 := H7.trans (hb10.mono H7.size)))
    obtain ⟨⟨⟨⟨x0, x1⟩, hA9⟩, ⟨hg9, hp9⟩⟩, ⟨hX9, hP9, hG9⟩, hB9⟩ := ALL.out _ H8
    have hz9 : W7.heap.size ≤ w10.heap.size := H8.size
    clear hb8 hb9 hb10 H7 H8 hD ALL hin7
    have ev := intVals_length vs
    have ez := intVals_length zs
    have eps := intVals_length ps
    have eqs := intVals_length qs
    go_wp2_with fail
    refine (markHeap t3 s4 1 vs.length zs.length _ _ _ _ _ _ _ ev ez (by omega) (by omega) (by omega) hX9).mono ?_
    rintro e w11 ⟨rfl, _, t11⟩
    have hq11 : ¬ (((1 + vs.length + zs.length : Nat) : Int) < 0) := by omega
    have hA11 := hA9.turn (by omega) t11 (.inl (by omega))
    have hg11 := hg9.turn (by omega) t11 (.inr (by omega))
    have hp11 := hp9.turn (by omega) t11 (.inl (by omega))
    have hP11 := hP9.turn t11 (.inl (by omega))
    have hG11 := hG9.turn t11 (.inr (by omega))
    have hB11 := t11.below hB9 (by omega) (by omega)
    have hz11 : W7.heap.size ≤ w11.heap.size := Nat.le_trans hz9 t11.size
    clear x0 x1 hA9 hg9 hp9 hP9 hG9 hX9 t11 hB9
    obtain ⟨g0, g1⟩ := hg11
    obtain ⟨p0, p1⟩ := hp11
    have hg11 : Box2 w11 s6 (.slice ga ps.length gca) (.slice gb qs.length gcb) := ⟨g0, g1⟩
    have hp11 : Box2 w11 s3 (.slice pa ps.length pca) (.slice pb qs.length pcb) := ⟨p0, p1⟩
    go_wp2_with fail
    refine (eqHeaps _ _ _ _ _ _ _ _ ps qs _ (by unfold maxLen; omega) (by unfold maxLen; omega) hG11.rows hP11.rows).mono ?_
    rintro e w12 ⟨rfl, hb12⟩
    have hA12 := hA11.keep (by omega) hb12
    have hg12 := hg11.keep (by omega) hb12
    have hp12 := hp11.keep (by omega) hb12
    have hP12 := hP11.below hb12
    have hG12 := hG11.below hb12
    have hB12 := hB11.trans (hb12.mono hB11.size)
    have hz12 : W7.heap.size ≤ w12.heap.size := Nat.le_trans hz11 hb12.size
    clear g0 g1 p0 p1 hA11 hg11 hp11 hP11 hG11 hB11 hb12
    obtain ⟨g0, g1⟩ := hg12
    have hg12 : Box2 w12 s6 (.slice ga ps.length gca) (.slice gb qs.length gcb) := ⟨g0, g1⟩
    go_wp2_with fail
    refine (markHeap s5 s6 1 ps.length qs.length _ _ _ _ _ _ _ eps eqs (by omega) (by omega) (by omega) hG12).mono ?_
    rintro e w13 ⟨rfl, hG13, t13⟩
    have hA13 := hA12.turn (by omega) t13 (.inl (by omega))
    have hg13 := hg12.turn (by omega) t13 (.inr (by omega))
    have hp13 := hp12.turn (by omega) t13 (.inl (by omega))
    have hP13 := hP12.turn t13 (.inl (by omega))
    have hB13 := t13.below hB12 (by omega) (by omega)
    have hz13 : W7.heap.size ≤ w13.heap.size := Nat.le_trans hz12 t13.size
    have hq13 : ¬ (((1 + ps.length + qs.length : Nat) : Int) < 0) := by omega
    clear g0 g1 hA12 hg12 hp12 hP12 hG12 hB12 t13
    obtain ⟨g0, g1⟩ := hg13
    have hg13 : Box2 w13 s6 (.slice ga ps.length gca) (.slice gb qs.length gcb) := ⟨g0, g1⟩
    go_wp2_with fail
    refine (heldHeap 1 ps.length qs.length _ _ _ _ _ (by omega) (by omega) (by omega) (hG13.marks)).mono ?_
    rintro e w14 ⟨rfl, hb14⟩
    have hA14 := hA13.keep (by omega) hb14
    have hg14 := hg13.keep (by omega) hb14
    have hp14 := hp13.keep (by omega) hb14
    have hP14 := hP13.below hb14
    have hG14 := hG13.below hb14
    have hB14 := hB13.trans (hb14.mono hB13.size)
    have hz14 : W7.heap.size ≤ w14.heap.size := Nat.le_trans hz13 hb14.size
    clear g0 g1 hA13 hg13 hp13 hP13 hG13 hB13 hb14
    obtain ⟨c0, c1⟩ := hA14
    go_wp2_with fail
    refine (toHeap a b ca cb vs zs _ (by omega) (by omega) (HAT.out _ hB14)).mono ?_
    rintro e w15 ⟨p15, q15, rfl, hin15, hb15⟩
    go_wp2_with fail
    refine (implCanonHeap _ _ _ _ vs zs _ (by omega) (by omega) hin15.rows).mono ?_
    rw [HPS.out, HQS.out]
    rintro e w16 ⟨ha, hca, hb, hcb, rfl, hh16, hb16⟩
    have hb16' := hb15.trans (hb16.mono hb15.size)
    have hg16 := hg14.keep (by omega) hb16'
    have hp16 := hp14.keep (by omega) hb16'
    have hP16 := hP14.below hb16'
    have hG16 := hG14.below hb16'
    have hB16 := hB14.trans (hb16'.mono hB14.size)
    have hz16 : W7.heap.size ≤ w16.heap.size := Nat.le_trans hz14 hb16'.size
    clear c0 c1 hg14 hp14 hP14 hG14 hB14 hb15 hb16 hb16' hin15
    obtain ⟨p0, p1⟩ := hp16
    have hs3z : s3 < w16.heap.size := by omega
    have hs6z : s6 < w16.heap.size := by omega
    go_wp2_with fail
    obtain ⟨W17, hW17, hb17, hs17, hH17⟩ := one_box2 w16 (.slice ha ps.length hca) (.slice hb qs.length hcb) 27
    rw [hW17]
    clear hW17
    refine (eqHeaps _ _ _ _ _ _ _ _ ps qs _ (by unfold maxLen; omega) (by unfold maxLen; omega) (hh16.below hb17).rows (hP16.below hb17).rows).mono ?_
    rintro e w18 ⟨rfl, hb18⟩
    have hb178 := hb17.trans (hb18.mono hb17.size)
    obtain ⟨g0, g1⟩ := hg16.keep hs6z hb178
    have hG18 := hG16.below hb178
    have hB18 := hB16.trans (hb178.mono hB16.size)
    clear p0 p1 hg16 hP16 hG16 hB16 hb17 hb18 hb178 hh16 hH17
    go_wp2_with fail
    refine (heldHeap 1 ps.length qs.length _ _ _ _ _ (by omega) (by omega) (by omega) (hG18.marks)).mono ?_
    rintro e w19 ⟨rfl, hb19⟩
    go_wp2
    go_ret
    exact ⟨rfl, hB18.trans (hb19.mono hB18.size)⟩

theorem own : ownKnob Try.prog.godebug = none := by kernel_rfl
theorem laidOut : laidOutB Try.prog = true := by kernel_rfl
set_option maxRecDepth 100000 in
theorem contract (H : Type) (enc : TypeId × Value → H) (W : World) (base : Nat) (args : Array Value) (ds gs : List (DataW H)) (before : List MemPlace)
    (hval : ∀ (j : Nat) t v, Try.f5.params[j]? = some t → args[j]? = some v → Value.okWide Try.prog W .any base t v)
    (hW : DataW.Whole enc Try.prog Try.f5.params.toList Rows.fnExactCanonHeapSpec.vars false W args.toList ds gs before)
    (_hL : laidMetH Try.prog Rows.fnExactCanonHeapRow.laid W) (_hSh : W.ShapedOpen Try.prog) :
    Calls Try.prog 5 args W fun e W' => ∃ v, e = .returned v ∧ Rows.fnExactCanonHeapSpec.post enc Try.prog Try.f5 false true false false W args v W' := by
  have hW' := hW
  have hlt : ∀ x ∈ before, x.block < W.heap.size := fun x hx => hW'.lt x hx
  obtain ⟨p, q, hA0, hV, rfl, _, _⟩ := hW
  have hA : DataW.TrodAll enc Try.prog W 0 (fun _ => true) true Try.f5.params.toList args.toList ds p := hA0
  rw [Try.params5] at hA hval
  obtain ⟨v0, d0, rfl, rfl, t0⟩ := trodAll_one hA
  obtain ⟨a0, cap0, vs0, b0, capb0, zs0, rfl, hok0⟩ := open_heap Try.underlying24 (by kernel_rfl) (by kernel_rfl) Try.underlying22 Try.underlying22 Try.underlying3 (by kernel_rfl) (fun x hx => hlt x (by simp [hx])) (hval 0 24 v0 rfl rfl) t0
  refine (walk a0 cap0 vs0 b0 capb0 zs0 W hok0).mono fun e W' ⟨he, hb⟩ => ?_
  subst he
  exact ⟨_, rfl, law_post laidOut rfl (by kernel_rfl) (by kernel_rfl) Try.underlying4 hW' rfl hb⟩

/-- A world for the witness. -/
noncomputable def start (os : Os) : World := World.holding Try.prog os ⟨#[], #[], []⟩
theorem laid_met (os : Os) : laidMet Try.prog Rows.fnExactCanonHeapRow.laid ((start os).forCall (fun _ _ => 0) ⟨#[], #[.agg #[.slice none 0 0, .slice none 0 0]], []⟩).memory :=
  laidMet_of_run' 8 (by kernel_rfl) (by kernel_rfl)
theorem reads (os : Os) {H : Type} (enc : TypeId × Value → H) : ∃ places, DataW.whole enc Try.prog ((start os).forCall (fun _ _ => 0) ⟨#[], #[.agg #[.slice none 0 0, .slice none 0 0]], []⟩).memory Try.f5.params.toList Rows.fnExactCanonHeapSpec.vars false #[Value.agg #[.slice none 0 0, .slice none 0 0]].toList 8 = some ([.agg [.nil, .nil]], [], places) :=
  ⟨[], by kernel_rfl⟩

set_option maxRecDepth 100000 in
theorem lifted (os : Os) (started : os.Started) (H : Type) (enc : TypeId × Value → H) (F : Stop.Interp) :
    ReturnsInHanded {} Try.checked os 5 .any ((OpenSpec.ofChange Rows.fnExactCanonHeapSpec).preRow enc Try.prog Try.f5 Rows.fnExactCanonHeapRow.domain false Rows.fnExactCanonHeapRow.laid) (((OpenSpec.ofChange Rows.fnExactCanonHeapSpec).at F).post enc Try.prog Try.f5 false true false false) := by
  obtain ⟨places, hx⟩ := reads os enc
  refine returnsInHanded_of_row (C := Try.checked) (s := OpenSpec.ofChange Rows.fnExactCanonHeapSpec) own started (by kernel_rfl) Try.func5
    (witness_row_at (enc := enc) (C := Try.checked) false (start os) #[.agg #[.slice none 0 0, .slice none 0 0]] rfl (by kernel_rfl) (by kernel_rfl) (by kernel_rfl)
      (OpenSpec.preRow_of_cond 8 hx (by kernel_rfl) (fun k hk => by cases hk) (by kernel_rfl) (laid_met os))) ?_
  intro W base args ds gs before hval hW _ _ _ hL hSh _
  exact contract H enc W base args ds gs before hval hW hL hSh

theorem said : Rows.FnExactCanonHeapSaid :=
  OpenClaim.holds_of_cond 5 Try.f5 rfl rfl rfl rfl rfl rfl rfl ⟨rfl, rfl, rfl, rfl, rfl⟩ rfl rfl rfl rfl rfl (by kernel_rfl) Try.func5 (by kernel_rfl)
    (of_decide_eq_true (by kernel_rfl)) (by unfold Func.isWrapper; first | (rw [if_pos (by decide +kernel)]; kernel_rfl) | (rw [if_neg (by decide +kernel)]; exact ⟨rfl, rfl⟩))
    (fun os started H enc _ F => by rw [OpenClaim.pre_eq_preRow]; exact lifted os started H enc F)
#print axioms said
end Go.Proofs.Ytcddpcjanggfkaa.exactCanonHeap
