/-
  Proved: for every heap and every int the law FnExactFollowed returns true and leaves its arguments as they were. No condition beyond the given row's own.
-/
import Derived.Test.YtcddpcjanggfkaaImplHeap
import Derived.Test.YtcddpcjanggfkaaSpecHeap
import Derived.Test.YtcddpcjanggfkaaRows
import Derived.ChangeMaps5
import Derived.LaidLaws
import Derived.Deep.RegionHeld3
namespace Go.Proofs.Ytcddpcjanggfkaa.exactFollowed
open Go Go.RowKit Go.ChangeShapes Go.WideShapes Go.ChangeAt

/-- The law said true, and nothing old has turned. -/
def TrueEnd (w : World) (e : Ending) (w' : World) : Prop := e = .returned (.bool true) ∧ Below w.heap.size w w'

set_option maxRecDepth 100000 in
set_option maxHeartbeats 3200000 in
theorem walk (a : Option Addr) (ca : Nat) (vs : List Int) (b : Option Addr) (cb : Nat) (zs : List Int) (n : Int) (w : World) (hok : HeapOk w a b vs zs) (_h0 : -9223372036854775808 ≤ n) (_h1 : n ≤ 9223372036854775807) :
    Calls Try.prog 3 #[heV a vs.length ca b zs.length cb, .int .i64 n] w (TrueEnd w) := by
  have hat : ∀ W, Below w.heap.size w W → HeapAt W a b vs zs := fun W h => hok.at_.below h (Nat.le_refl _)
  have HAT := Lib.hid hat
  clear hat
  go_enter Try.func3, Try.ntmps3
  go_wp2_with fail
  obtain ⟨W0, hW0, hb0, hs0, hA0⟩ := one_box2 w (.slice a vs.length ca) (.slice b zs.length cb) 24
  rw [hW0]
  clear hW0
  have hARG : ∀ W, Below W0.heap.size W0 W → Box2 W w.heap.size (.slice a vs.length ca) (.slice b zs.length cb) ∧ Below w.heap.size w W := fun W hb => ⟨hA0.keep hs0 hb, hb0.trans (hb.mono hb0.size)⟩
  have ARG := Lib.hid hARG
  clear hARG hA0
  refine (szHeap a b ca cb vs.length zs.length 1048576 _ (by omega) hok.lv hok.lz).mono ?_
  rintro e w1 ⟨r, rfl, hb1, hr, hsz⟩
  obtain ⟨⟨c0, c1⟩, hB1⟩ := ARG.out _ hb1
  by_cases hneg : r < 0
  · go_wp2
    go_ret
    exact ⟨rfl, hB1⟩
  · have hnat : vs.length + zs.length ≤ 1048576 := by have := hsz (by omega); omega
    clear hsz
    go_wp2_with fail
    refine (toHeap a b ca cb vs zs _ (by omega) (by omega) (HAT.out _ hB1)).mono ?_
    rintro e w2 ⟨p2, q2, rfl, hin2, hb2⟩
    have hb2 := hb1.trans (hb2.mono hb1.size)
    go_wp2_with fail
    refine (specFollowed _ _ _ _ _ zs n _ (by omega) hin2.rows.z).mono ?_
    rintro e w3 ⟨ap, cp, rfl, hcp, hp3, hb3⟩
    have hb3 := hb2.trans (hb3.mono hb2.size)
    have hP := (OwnIn.of hp3).rowIn
    clear c0 c1 hin2 hb1 hB1 hp3
    obtain ⟨⟨c0, c1⟩, hB3⟩ := ARG.out _ hb3
    have hfl : (followed zs n).length ≤ 1048576 := Nat.le_trans (followed_ok zs n).len (by omega)
    rw [intVals_length] at *
    generalize hps : followed zs n = ps at *
    have HPS := Lib.hid hps
    clear hps
    go_wp2_with fail
    refine (toHeap a b ca cb vs zs _ (by omega) (by omega) (HAT.out _ hB3)).mono ?_
    rintro e w4 ⟨p4, q4, rfl, hin4, hb4⟩
    have hb04 := hb3.trans (hb4.mono hb3.size)
    go_wp2_with fail
    obtain ⟨W5, hW5, hb5, hs5, hX5⟩ := one_box2 w4 (.slice p4 vs.length vs.length) (.slice q4 zs.length zs.length) 27
    rw [hW5]
    clear hW5
    have hb05 := hb04.trans (hb5.mono hb04.size)
    have hP5 := (hP.below hb4).below hb5
    have hin5 := hin4.below hb5
    clear hin4 hP
    refine (implFollowed _ _ _ _ _ zs n _ (by omega) hin5.rows.z).mono ?_
    rw [HPS.out]
    rintro e w6 ⟨ag, cg, rfl, hcg, hg6, hb6⟩
    rw [intVals_length] at *
    have hG := OwnIn.of hg6
    have hb06 := hb05.trans (hb6.mono hb05.size)
    have h34 : w3.heap.size ≤ w4.heap.size := hb4.size
    have hs6 : w4.heap.size < w6.heap.size := Nat.lt_of_lt_of_le hs5 hb6.size
    have h56 : W5.heap.size ≤ w6.heap.size := hb6.size
    have hsa : w.heap.size < w3.heap.size := Nat.lt_of_lt_of_le hs0 hb3.size
    have hALL : ∀ W, Below w6.heap.size w6 W → (Box2 W w4.heap.size (.slice p4 vs.length vs.length) (.slice q4 zs.length zs.length) ∧ Box2 W w.heap.size (.slice a vs.length ca) (.slice b zs.length cb)) ∧
        (HeapIn w3.heap.size w4.heap.size W p4 vs.length q4 zs.length (intVals vs) (intVals zs) ∧ RowIn w2.heap.size w3.heap.size W ap (intVals ps) ∧ OwnIn W5.heap.size w6.heap.size W 3 1 (.slice ag ps.length cg) ps.length (intVals ps)) ∧ Below w.heap.size w W := fun W hb =>
      have hA := ARG.out _ (hb06.trans (hb.mono hb06.size))
      ⟨⟨(hX5.keep hs5 hb6).keep hs6 hb, hA.1⟩, ⟨(hin5.below hb6).below hb, (hP5.below hb6).below hb, hG.below hb⟩, hA.2⟩
    have ALL := Lib.hid hALL
    clear hALL c0 c1 hin5 hb4 hb04 hb5 hb3 hb2 hB3 hb05 hX5 hP5 hG hg6 hb06 hb6
    generalize hS2 : w2.heap.size = s2 at *
    generalize hS3 : w3.heap.size = s3 at *
    generalize hS4 : w4.heap.size = s4 at *
    generalize hS5 : W5.heap.size = s5 at *
    clear hS2 hS3 hS4 hS5
    have h0 := ALL.out _ (Below.refl _ _)
    go_wp2_with fail
    refine (eqRow _ _ _ _ ps _ (by unfold maxLen; omega) h0.2.1.2.2.row h0.2.1.2.1.row).mono ?_
    clear h0
    rintro e w7 ⟨rfl, hb7⟩
    have hD : Below w6.heap.size w6 w7.drew := hb7.drew
    go_wp2
    go_region_held3 (fun W => (W.cell? ⟨s4, 0, none⟩ = some (.slice p4 vs.length vs.length) ∧ W.cell? ⟨s4, 1, none⟩ = some (.slice q4 zs.length zs.length)) ∧ (W.cell? ⟨w.heap.size, 0, none⟩ = some (.slice a vs.length ca) ∧ W.cell? ⟨w.heap.size, 1, none⟩ = some (.slice b zs.length cb)))
      (first | exact (ALL.out _ hD).1 | exact (ALL.out _ (Below.drew hD)).1 | exact (ALL.out _ H7).1 | exact (ALL.out _ H8).1)
      (first
        | (go_at_call 10; (with_reducible refine (toHeap a b ca cb vs zs _ (by omega) (by omega) (HAT.out _ (ALL.out _ hD).2.2)).mono ?_); rintro e w8 ⟨p7, q7, rfl, hin7, hb8⟩; have H7 := hD.trans (hb8.mono hD.size))
        | (go_at_call 13; (with_reducible refine (eqHeaps _ _ _ _ _ _ _ _ vs zs _ hok.lv hok.lz (ALL.out _ H7).2.1.1.rows hin7.rows).mono ?_); rintro e w9 ⟨rfl, hb9⟩; have H8 := H7.trans (hb9.mono H7.size)))
    obtain ⟨⟨⟨x0, x1⟩, ⟨c0, c1⟩⟩, ⟨hX9, hP9, hG9⟩, hB9⟩ := ALL.out _ H8
    have hz9 : w6.heap.size ≤ w9.heap.size := H8.size
    clear hb7 hb8 hb9 H7 H8 hD ALL hin7
    have ev := intVals_length vs
    have ez := intVals_length zs
    go_wp2_with fail
    refine (markHeap s3 s4 1 vs.length zs.length _ _ _ _ _ _ _ ev ez (by omega) (by omega) (by omega) hX9).mono ?_
    rintro e w10 ⟨rfl, _, t10⟩
    have hq10 : ¬ (((1 + vs.length + zs.length : Nat) : Int) < 0) := by omega
    have hA10 := Box2.turn (g := w.heap.size) ⟨c0, c1⟩ (by omega) t10 (.inl (by omega))
    have hP10 := hP9.turn t10 (.inl (Nat.le_refl _))
    have hG10 := hG9.turn t10 (.inr (by omega))
    have hB10 := t10.below hB9 (by omega) (by omega)
    have hz10 : w6.heap.size ≤ w10.heap.size := Nat.le_trans hz9 t10.size
    clear x0 x1 c0 c1 hP9 hG9 hX9 t10 hB9
    go_wp2_with fail
    refine (eqRow _ _ _ _ ps _ (by unfold maxLen; omega) hG10.row hP10.row).mono ?_
    rintro e w11 ⟨rfl, hb11⟩
    have hA11 := hA10.keep (by omega) hb11
    have hP11 := hP10.below hb11
    have hG11 := hG10.below hb11
    have hB11 := hB10.trans (hb11.mono hB10.size)
    have hz11 : w6.heap.size ≤ w11.heap.size := Nat.le_trans hz10 hb11.size
    clear hA10 hP10 hG10 hB10 hb11
    go_wp2_with fail
    refine (markRow s5 w6.heap.size 1 ps.length _ _ _ _ (by omega) (by omega) hG11).mono ?_
    rintro e w12 ⟨rfl, hG12, t12⟩
    have hA12 := hA11.turn (by omega) t12 (.inl (by omega))
    have hP12 := hP11.turn t12 (.inl (by omega))
    have hB12 := t12.below hB11 (by omega) (by omega)
    have hz12 : w6.heap.size ≤ w12.heap.size := Nat.le_trans hz11 t12.size
    clear hA11 hP11 hG11 hB11 t12
    have hq12 : ¬ (((1 + ps.length : Nat) : Int) < 0) := by omega
    go_wp2_with fail
    refine (heldRow 1 ps.length _ _ _ (by omega) (by omega) hG12.row).mono ?_
    rintro e w13 ⟨rfl, hb13⟩
    have hA13 := hA12.keep (by omega) hb13
    have hP13 := hP12.below hb13
    have hG13 := hG12.below hb13
    have hB13 := hB12.trans (hb13.mono hB12.size)
    have hz13 : w6.heap.size ≤ w13.heap.size := Nat.le_trans hz12 hb13.size
    clear hA12 hP12 hG12 hB12 hb13
    obtain ⟨c0, c1⟩ := hA13
    go_wp2_with fail
    refine (toHeap a b ca cb vs zs _ (by omega) (by omega) (HAT.out _ hB13)).mono ?_
    rintro e w14 ⟨p14, q14, rfl, hin14, hb14⟩
    go_wp2_with fail
    refine (implFollowed _ _ _ _ _ zs n _ (by omega) hin14.rows.z).mono ?_
    rw [HPS.out]
    rintro e w15 ⟨ah, ch, rfl, hch, hh15, hb15⟩
    rw [intVals_length] at *
    have hb135 := hb14.trans (hb15.mono hb14.size)
    have hP15 := hP13.below hb135
    have hG15 := hG13.below hb135
    have hB15 := hB13.trans (hb135.mono hB13.size)
    clear c0 c1 hP13 hG13 hB13 hb14 hb15 hb135 hin14
    go_wp2_with fail
    refine (eqRow _ _ _ _ ps _ (by unfold maxLen; omega) (Row.owned hh15) hP15.row).mono ?_
    rintro e w16 ⟨rfl, hb16⟩
    have hG16 := hG15.below hb16
    have hB16 := hB15.trans (hb16.mono hB15.size)
    clear hP15 hG15 hB15 hb16 hh15
    go_wp2_with fail
    refine (heldRow 1 ps.length _ _ _ (by omega) (by omega) hG16.row).mono ?_
    rintro e w17 ⟨rfl, hb17⟩
    go_wp2
    go_ret
    exact ⟨rfl, hB16.trans (hb17.mono hB16.size)⟩

theorem own : ownKnob Try.prog.godebug = none := by kernel_rfl
theorem laidOut : laidOutB Try.prog = true := by kernel_rfl
set_option maxRecDepth 100000 in
theorem contract (H : Type) (enc : TypeId × Value → H) (W : World) (base : Nat) (args : Array Value) (ds gs : List (DataW H)) (before : List MemPlace)
    (hval : ∀ (j : Nat) t v, Try.f3.params[j]? = some t → args[j]? = some v → Value.okWide Try.prog W .any base t v)
    (hW : DataW.Whole enc Try.prog Try.f3.params.toList Rows.fnExactFollowedSpec.vars false W args.toList ds gs before)
    (_hL : laidMetH Try.prog Rows.fnExactFollowedRow.laid W) (_hSh : W.ShapedOpen Try.prog) :
    Calls Try.prog 3 args W fun e W' => ∃ v, e = .returned v ∧ Rows.fnExactFollowedSpec.post enc Try.prog Try.f3 false true false false W args v W' := by
  have hW' := hW
  have hlt : ∀ x ∈ before, x.block < W.heap.size := fun x hx => hW'.lt x hx
  obtain ⟨p, q, hA0, hV, rfl, _, _⟩ := hW
  have hA : DataW.TrodAll enc Try.prog W 0 (fun _ => true) true Try.f3.params.toList args.toList ds p := hA0
  rw [Try.params3] at hA hval
  obtain ⟨v0, v1, d0, d1, p0, p1, rfl, rfl, rfl, t0, t1⟩ := trodAll_two hA
  obtain ⟨a0, cap0, vs0, b0, capb0, zs0, rfl, hok0⟩ := open_heap Try.underlying24 (by kernel_rfl) (by kernel_rfl) Try.underlying22 Try.underlying22 Try.underlying3 (by kernel_rfl) (fun x hx => hlt x (by simp [hx])) (hval 0 24 v0 rfl rfl) t0
  obtain ⟨n1, rfl, _, _, hw1⟩ := open_int Try.underlying3 (hval 1 3 v1 rfl rfl) t1
  have hr1 := i64_bounds hw1
  refine (walk a0 cap0 vs0 b0 capb0 zs0 n1 W hok0 hr1.1 hr1.2).mono fun e W' ⟨he, hb⟩ => ?_
  subst he
  exact ⟨_, rfl, law_post laidOut rfl (by kernel_rfl) (by kernel_rfl) Try.underlying4 hW' rfl hb⟩

/-- A world for the witness. -/
noncomputable def start (os : Os) : World := World.holding Try.prog os ⟨#[], #[], []⟩
theorem laid_met (os : Os) : laidMet Try.prog Rows.fnExactFollowedRow.laid ((start os).forCall (fun _ _ => 0) ⟨#[], #[.agg #[.slice none 0 0, .slice none 0 0], .int .i64 0], []⟩).memory :=
  laidMet_of_run' 8 (by kernel_rfl) (by kernel_rfl)
theorem reads (os : Os) {H : Type} (enc : TypeId × Value → H) : ∃ places, DataW.whole enc Try.prog ((start os).forCall (fun _ _ => 0) ⟨#[], #[.agg #[.slice none 0 0, .slice none 0 0], .int .i64 0], []⟩).memory Try.f3.params.toList Rows.fnExactFollowedSpec.vars false #[Value.agg #[.slice none 0 0, .slice none 0 0], .int .i64 0].toList 8 = some ([.agg [.nil, .nil], .lit (.int .i64 0)], [], places) :=
  ⟨[], by kernel_rfl⟩

set_option maxRecDepth 100000 in
theorem lifted (os : Os) (started : os.Started) (H : Type) (enc : TypeId × Value → H) (F : Stop.Interp) :
    ReturnsInHanded {} Try.checked os 3 .any ((OpenSpec.ofChange Rows.fnExactFollowedSpec).preRow enc Try.prog Try.f3 Rows.fnExactFollowedRow.domain false Rows.fnExactFollowedRow.laid) (((OpenSpec.ofChange Rows.fnExactFollowedSpec).at F).post enc Try.prog Try.f3 false true false false) := by
  obtain ⟨places, hx⟩ := reads os enc
  refine returnsInHanded_of_row (C := Try.checked) (s := OpenSpec.ofChange Rows.fnExactFollowedSpec) own started (by kernel_rfl) Try.func3
    (witness_row_at (enc := enc) (C := Try.checked) false (start os) #[.agg #[.slice none 0 0, .slice none 0 0], .int .i64 0] rfl (by kernel_rfl) (by kernel_rfl) (by kernel_rfl)
      (OpenSpec.preRow_of_cond 8 hx (by kernel_rfl) (fun k hk => by cases hk) (by kernel_rfl) (laid_met os))) ?_
  intro W base args ds gs before hval hW _ _ _ hL hSh _
  exact contract H enc W base args ds gs before hval hW hL hSh

theorem said : Rows.FnExactFollowedSaid :=
  OpenClaim.holds_of_cond 3 Try.f3 rfl rfl rfl rfl rfl rfl rfl ⟨rfl, rfl, rfl, rfl, rfl⟩ rfl rfl rfl rfl rfl (by kernel_rfl) Try.func3 (by kernel_rfl)
    (of_decide_eq_true (by kernel_rfl)) (by unfold Func.isWrapper; first | (rw [if_pos (by decide +kernel)]; kernel_rfl) | (rw [if_neg (by decide +kernel)]; exact ⟨rfl, rfl⟩))
    (fun os started H enc _ F => by rw [OpenClaim.pre_eq_preRow]; exact lifted os started H enc F)
#print axioms said
end Go.Proofs.Ytcddpcjanggfkaa.exactFollowed
