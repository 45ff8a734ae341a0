/-
  Proved: for every two heaps the law FnExactEqualHeap returns true and leaves its arguments as they were. No condition beyond the given row's own.
-/
import Derived.Test.YtcddpcjanggfkaaEqualHeap
import Derived.Test.YtcddpcjanggfkaaRows
import Derived.ChangeMaps5
import Derived.LaidLaws
import Derived.Deep.RegionHeld3
namespace Go.Proofs.Ytcddpcjanggfkaa.exactEqualHeap
open Go Go.RowKit Go.ChangeShapes Go.WideShapes Go.ChangeAt

/-- The law said true, and nothing old has turned. -/
def TrueEnd (w : World) (e : Ending) (w' : World) : Prop := e = .returned (.bool true) ∧ Below w.heap.size w w'

set_option maxRecDepth 100000 in
set_option maxHeartbeats 3200000 in
theorem walk (a : Option Addr) (ca : Nat) (vs : List Int) (b : Option Addr) (cb : Nat) (zs : List Int) (c : Option Addr) (cc : Nat) (us : List Int) (d : Option Addr) (cd : Nat) (ys : List Int) (w : World) (hok : HeapOk w a b vs zs) (hpk : HeapOk w c d us ys) :
    Calls Try.prog 7 #[heV a vs.length ca b zs.length cb, heV c us.length cc d ys.length cd] w (TrueEnd w) := by
  have hat : ∀ W, Below w.heap.size w W → HeapAt W a b vs zs ∧ HeapAt W c d us ys := fun W h => ⟨hok.at_.below h (Nat.le_refl _), hpk.at_.below h (Nat.le_refl _)⟩
  have HAT := Lib.hid hat
  clear hat
  go_enter Try.func7, Try.ntmps7
  go_wp2_with fail
  obtain ⟨W0, hW0, hb0, hs0, hA0, hC0⟩ := two_box2 w (.slice a vs.length ca) (.slice b zs.length cb) (.slice c us.length cc) (.slice d ys.length cd) 24 24
  rw [hW0]
  clear hW0
  have hARG : ∀ W, Below W0.heap.size W0 W → (Box2 W w.heap.size (.slice a vs.length ca) (.slice b zs.length cb) ∧ Box2 W (w.heap.size + 1) (.slice c us.length cc) (.slice d ys.length cd)) ∧ Below w.heap.size w W := fun W hb => ⟨⟨hA0.keep (by omega) hb, hC0.keep hs0 hb⟩, hb0.trans (hb.mono hb0.size)⟩
  have ARG := Lib.hid hARG
  clear hARG hA0 hC0
  refine (szHeap a b ca cb vs.length zs.length 1048576 _ (by omega) hok.lv hok.lz).mono ?_
  rintro e w1 ⟨r, rfl, hb1, hr, hsz⟩
  obtain ⟨⟨⟨c0, c1⟩, ⟨c2, c3⟩⟩, hB1⟩ := ARG.out _ hb1
  by_cases hneg : r < 0
  · go_wp2
    go_ret
    exact ⟨rfl, hB1⟩
  · obtain ⟨m, rfl⟩ : ∃ m : Nat, r = (m : Int) := ⟨r.toNat, by omega⟩
    have hnat : vs.length + zs.length + m = 1048576 := by have := hsz (by omega); omega
    clear hsz hneg hr
    go_wp2_with fail
    refine (szHeap c d cc cd us.length ys.length m _ (by omega) hpk.lv hpk.lz).mono ?_
    rintro e w2 ⟨r, rfl, hb2, hr, hsz⟩
    have hb2 := hb1.trans (hb2.mono hb1.size)
    clear c0 c1 c2 c3 hB1 hb1
    obtain ⟨⟨⟨c0, c1⟩, ⟨c2, c3⟩⟩, hB2⟩ := ARG.out _ hb2
    by_cases hneg : r < 0
    · go_wp2
      go_ret
      exact ⟨rfl, hB2⟩
    · have hnat2 : us.length + ys.length ≤ 1048576 := by have := hsz (by omega); omega
      clear hsz
      have hD0 : Below W0.heap.size W0 w2.drew := hb2.drew
      clear c0 c1 c2 c3
      go_wp2
      go_region_held3 (fun W => (W.cell? ⟨w.heap.size, 0, none⟩ = some (.slice a vs.length ca) ∧ W.cell? ⟨w.heap.size, 1, none⟩ = some (.slice b zs.length cb)) ∧ (W.cell? ⟨w.heap.size + 1, 0, none⟩ = some (.slice c us.length cc) ∧ W.cell? ⟨w.heap.size + 1, 1, none⟩ = some (.slice d ys.length cd)))
        (first | exact (ARG.out _ hD0).1 | exact (ARG.out _ (Below.drew hD0)).1 | exact (ARG.out _ hb03).1 | exact (ARG.out _ hb04).1 | exact (ARG.out _ hb05).1)
        (first
          | (go_at_call 10; (with_reducible refine (toHeap a b ca cb vs zs _ (by omega) (by omega) (HAT.out _ (ARG.out _ hD0).2).1).mono ?_); rintro e w3 ⟨p3, q3, rfl, hin3, hb3⟩; have hb03 := hD0.trans (hb3.mono hD0.size))
          | (go_at_call 10; (with_reducible refine (toHeap c d cc cd us ys _ (by omega) (by omega) (HAT.out _ (ARG.out _ hb03).2).2).mono ?_); rintro e w4 ⟨p4, q4, rfl, hin4, hb4⟩; have hin3' := hin3.below hb4; have hb04 := hb03.trans (hb4.mono hb03.size))
          | (go_at_call 24; (with_reducible refine (specEqualHeap _ _ _ _ _ _ _ _ vs zs us ys _ hok.lv hok.lz hin3'.rows hin4.rows).mono ?_); rintro e w5 ⟨rfl, hb5⟩; have hb05 := hb04.trans (hb5.mono hb04.size)))
      clear hb03 hb04 hb3 hb4 hb5 hin3 hin3' hin4 hB2 hb2 hD0
      obtain ⟨⟨⟨c0, c1⟩, ⟨c2, c3⟩⟩, hB5⟩ := ARG.out _ hb05
      generalize hres : sameH vs zs us ys = res at *
      have Hres := Lib.hid hres
      clear hres
      go_wp2_with fail
      refine (toHeap a b ca cb vs zs _ (by omega) (by omega) (HAT.out _ hB5).1).mono ?_
      rintro e w6 ⟨p6, q6, rfl, hin6, hb6⟩
      have hb06 := hb05.trans (hb6.mono hb05.size)
      clear c0 c1 c2 c3
      obtain ⟨⟨⟨c0, c1⟩, ⟨c2, c3⟩⟩, _⟩ := ARG.out _ hb06
      have hs06 : w.heap.size + 1 < w6.heap.size := Nat.lt_of_lt_of_le hs0 hb06.size
      go_wp2_with fail
      obtain ⟨W7, hW7, hb7, hs7, hX7⟩ := one_box2 w6 (.slice p6 vs.length vs.length) (.slice q6 zs.length zs.length) 27
      rw [hW7]
      clear hW7
      have hin7 := hin6.below hb7
      have hb07 := hb06.trans (hb7.mono hb06.size)
      obtain ⟨_, hB7⟩ := ARG.out _ hb07
      refine (toHeap c d cc cd us ys _ (by omega) (by omega) (HAT.out _ hB7).2).mono ?_
      rintro e w8 ⟨p8, q8, rfl, hin8, hb8⟩
      have hb08 := hb07.trans (hb8.mono hb07.size)
      have hin78 := hin7.below hb8
      have hX8 := hX7.keep hs7 hb8
      have hs8 : w6.heap.size < w8.heap.size := Nat.lt_of_lt_of_le hs7 hb8.size
      clear c0 c1 c2 c3 hs06
      obtain ⟨c0, c1⟩ := hX8
      have hX8 : Box2 w8 w6.heap.size (.slice p6 vs.length vs.length) (.slice q6 zs.length zs.length) := ⟨c0, c1⟩
      go_wp2_with fail
      obtain ⟨W9, hW9, hb9, hs9, hY9⟩ := one_box2 w8 (.slice p8 us.length us.length) (.slice q8 ys.length ys.length) 27
      rw [hW9]
      clear hW9
      have hb09 := hb08.trans (hb9.mono hb08.size)
      have hX9 := hX8.keep hs8 hb9
      have hs89 : w6.heap.size < W9.heap.size := Nat.lt_of_lt_of_le hs8 hb9.size
      have hALL : ∀ W, Below W9.heap.size W9 W → ((Box2 W w6.heap.size (.slice p6 vs.length vs.length) (.slice q6 zs.length zs.length) ∧ Box2 W w.heap.size (.slice a vs.length ca) (.slice b zs.length cb)) ∧ (Box2 W w8.heap.size (.slice p8 us.length us.length) (.slice q8 ys.length ys.length) ∧ Box2 W (w.heap.size + 1) (.slice c us.length cc) (.slice d ys.length cd))) ∧ (HeapAt W p6 q6 vs zs ∧ HeapAt W p8 q8 us ys) ∧ Below w.heap.size w W := fun W hb =>
        have hA := ARG.out _ (hb09.trans (hb.mono hb09.size))
        ⟨⟨⟨hX9.keep hs89 hb, hA.1.1⟩, ⟨hY9.keep hs9 hb, hA.1.2⟩⟩, ⟨((hin78.below hb9).below hb).rows, ((hin8.below hb9).below hb).rows⟩, hA.2⟩
      have ALL := Lib.hid hALL
      clear hALL hin6 hin7 hin8 hin78 hb6 hb7 hb8 hb9 hb05 hb06 hb07 hb08 hb09 hB5 hB7 hX7 hX8 hX9 hY9 hs89 hs8 hs7 hs9
      refine (implEqualHeap _ _ _ _ _ _ _ _ vs zs us ys _ hok.lv hok.lz (ALL.out _ (Below.refl _ _)).2.1.1 (ALL.out _ (Below.refl _ _)).2.1.2).mono ?_
      rw [Hres.out]
      rintro e w10 ⟨rfl, hb10⟩
      have hD : Below W9.heap.size W9 w10.drew := hb10.drew
      clear c0 c1
      go_wp2
      go_region_held3 (fun W => (W.cell? ⟨w6.heap.size, 0, none⟩ = some (.slice p6 vs.length vs.length) ∧ W.cell? ⟨w6.heap.size, 1, none⟩ = some (.slice q6 zs.length zs.length)) ∧ (W.cell? ⟨w.heap.size, 0, none⟩ = some (.slice a vs.length ca) ∧ W.cell? ⟨w.heap.size, 1, none⟩ = some (.slice b zs.length cb)))
        (first | exact (ALL.out _ hD).1.1 | exact (ALL.out _ (Below.drew hD)).1.1 | exact (ALL.out _ H7).1.1 | exact (ALL.out _ H8).1.1)
        (first
          | (go_at_call 10; (with_reducible refine (toHeap a b ca cb vs zs _ (by omega) (by omega) (HAT.out _ (ALL.out _ hD).2.2).1).mono ?_); rintro e w17 ⟨p17, q17, rfl, hin17, hb17⟩; have H7 := hD.trans (hb17.mono hD.size))
          | (go_at_call 13; (with_reducible refine (eqHeaps _ _ _ _ _ _ _ _ vs zs _ hok.lv hok.lz (ALL.out _ H7).2.1.1 hin17.rows).mono ?_); rintro e w18 ⟨rfl, hb18⟩; have H8 := H7.trans (hb18.mono H7.size)))
      have hD2 : Below W9.heap.size W9 w18.drew := H8.drew
      go_wp2
      go_region_held3 (fun W => (W.cell? ⟨w8.heap.size, 0, none⟩ = some (.slice p8 us.length us.length) ∧ W.cell? ⟨w8.heap.size, 1, none⟩ = some (.slice q8 ys.length ys.length)) ∧ (W.cell? ⟨w.heap.size + 1, 0, none⟩ = some (.slice c us.length cc) ∧ W.cell? ⟨w.heap.size + 1, 1, none⟩ = some (.slice d ys.length cd)))
        (first | exact (ALL.out _ hD2).1.2 | exact (ALL.out _ (Below.drew hD2)).1.2 | exact (ALL.out _ H9).1.2 | exact (ALL.out _ H10).1.2)
        (first
          | (go_at_call 10; (with_reducible refine (toHeap c d cc cd us ys _ (by omega) (by omega) (HAT.out _ (ALL.out _ hD2).2.2).2).mono ?_); rintro e w19 ⟨p19, q19, rfl, hin19, hb19⟩; have H9 := hD2.trans (hb19.mono hD2.size))
          | (go_at_call 13; (with_reducible refine (eqHeaps _ _ _ _ _ _ _ _ us ys _ hpk.lv hpk.lz (ALL.out _ H9).2.1.2 hin19.rows).mono ?_); rintro e w20 ⟨rfl, hb20⟩; have H10 := H9.trans (hb20.mono H9.size)))
      go_wp2
      go_ret
      exact ⟨rfl, (ALL.out _ H10).2.2⟩

theorem own : ownKnob Try.prog.godebug = none := by kernel_rfl
theorem laidOut : laidOutB Try.prog = true := by kernel_rfl
set_option maxRecDepth 100000 in
theorem contract (H : Type) (enc : TypeId × Value → H) (W : World) (base : Nat) (args : Array Value) (ds gs : List (DataW H)) (before : List MemPlace)
    (hval : ∀ (j : Nat) t v, Try.f7.params[j]? = some t → args[j]? = some v → Value.okWide Try.prog W .any base t v)
    (hW : DataW.Whole enc Try.prog Try.f7.params.toList Rows.fnExactEqualHeapSpec.vars false W args.toList ds gs before)
    (_hL : laidMetH Try.prog Rows.fnExactEqualHeapRow.laid W) (_hSh : W.ShapedOpen Try.prog) :
    Calls Try.prog 7 args W fun e W' => ∃ v, e = .returned v ∧ Rows.fnExactEqualHeapSpec.post enc Try.prog Try.f7 false true false false W args v W' := by
  have hW' := hW
  have hlt : ∀ x ∈ before, x.block < W.heap.size := fun x hx => hW'.lt x hx
  obtain ⟨p, q, hA0, hV, rfl, _, _⟩ := hW
  have hA : DataW.TrodAll enc Try.prog W 0 (fun _ => true) true Try.f7.params.toList args.toList ds p := hA0
  rw [Try.params7] at hA hval
  obtain ⟨v0, v1, d0, d1, p0, p1, rfl, rfl, rfl, t0, t1⟩ := trodAll_two hA
  obtain ⟨a0, cap0, vs0, b0, capb0, zs0, rfl, hok0⟩ := open_heap Try.underlying24 (by kernel_rfl) (by kernel_rfl) Try.underlying22 Try.underlying22 Try.underlying3 (by kernel_rfl) (fun x hx => hlt x (by simp [hx])) (hval 0 24 v0 rfl rfl) t0
  obtain ⟨a1, cap1, vs1, b1, capb1, zs1, rfl, hok1⟩ := open_heap Try.underlying24 (by kernel_rfl) (by kernel_rfl) Try.underlying22 Try.underlying22 Try.underlying3 (by kernel_rfl) (fun x hx => hlt x (by simp [hx])) (hval 1 24 v1 rfl rfl) t1
  refine (walk a0 cap0 vs0 b0 capb0 zs0 a1 cap1 vs1 b1 capb1 zs1 W hok0 hok1).mono fun e W' ⟨he, hb⟩ => ?_
  subst he
  exact ⟨_, rfl, law_post laidOut rfl (by kernel_rfl) (by kernel_rfl) Try.underlying4 hW' rfl hb⟩

/-- A world for the witness. -/
noncomputable def start (os : Os) : World := World.holding Try.prog os ⟨#[], #[], []⟩
theorem laid_met (os : Os) : laidMet Try.prog Rows.fnExactEqualHeapRow.laid ((start os).forCall (fun _ _ => 0) ⟨#[], #[.agg #[.slice none 0 0, .slice none 0 0], .agg #[.slice none 0 0, .slice none 0 0]], []⟩).memory :=
  laidMet_of_run' 8 (by kernel_rfl) (by kernel_rfl)
theorem reads (os : Os) {H : Type} (enc : TypeId × Value → H) : ∃ places, DataW.whole enc Try.prog ((start os).forCall (fun _ _ => 0) ⟨#[], #[.agg #[.slice none 0 0, .slice none 0 0], .agg #[.slice none 0 0, .slice none 0 0]], []⟩).memory Try.f7.params.toList Rows.fnExactEqualHeapSpec.vars false #[Value.agg #[.slice none 0 0, .slice none 0 0], .agg #[.slice none 0 0, .slice none 0 0]].toList 8 = some ([.agg [.nil, .nil], .agg [.nil, .nil]], [], places) :=
  ⟨[], by kernel_rfl⟩

set_option maxRecDepth 100000 in
theorem lifted (os : Os) (started : os.Started) (H : Type) (enc : TypeId × Value → H) (F : Stop.Interp) :
    ReturnsInHanded {} Try.checked os 7 .any ((OpenSpec.ofChange Rows.fnExactEqualHeapSpec).preRow enc Try.prog Try.f7 Rows.fnExactEqualHeapRow.domain false Rows.fnExactEqualHeapRow.laid) (((OpenSpec.ofChange Rows.fnExactEqualHeapSpec).at F).post enc Try.prog Try.f7 false true false false) := by
  obtain ⟨places, hx⟩ := reads os enc
  refine returnsInHanded_of_row (C := Try.checked) (s := OpenSpec.ofChange Rows.fnExactEqualHeapSpec) own started (by kernel_rfl) Try.func7
    (witness_row_at (enc := enc) (C := Try.checked) false (start os) #[.agg #[.slice none 0 0, .slice none 0 0], .agg #[.slice none 0 0, .slice none 0 0]] rfl (by kernel_rfl) (by kernel_rfl) (by kernel_rfl)
      (OpenSpec.preRow_of_cond 8 hx (by kernel_rfl) (fun k hk => by cases hk) (by kernel_rfl) (laid_met os))) ?_
  intro W base args ds gs before hval hW _ _ _ hL hSh _
  exact contract H enc W base args ds gs before hval hW hL hSh

theorem said : Rows.FnExactEqualHeapSaid :=
  OpenClaim.holds_of_cond 7 Try.f7 rfl rfl rfl rfl rfl rfl rfl ⟨rfl, rfl, rfl, rfl, rfl⟩ rfl rfl rfl rfl rfl (by kernel_rfl) Try.func7 (by kernel_rfl)
    (of_decide_eq_true (by kernel_rfl)) (by unfold Func.isWrapper; first | (rw [if_pos (by decide +kernel)]; kernel_rfl) | (rw [if_neg (by decide +kernel)]; exact ⟨rfl, rfl⟩))
    (fun os started H enc _ F => by rw [OpenClaim.pre_eq_preRow]; exact lifted os started H enc F)
#print axioms said
end Go.Proofs.Ytcddpcjanggfkaa.exactEqualHeap
