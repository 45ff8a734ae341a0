/-
  Proved: for every list of bytes the law FnKleene returns true and leaves its argument as it was, where the four listed tables of the program read as its text lays them (the card ties them).
-/
import Derived.Test.YtbnpfgkcehlfnaaDoorDrawTruth
import Derived.Test.YtbnpfgkcehlfnaaDoorImplTruth
import Derived.Test.YtbnpfgkcehlfnaaDoorImplText
import Derived.Test.YtbnpfgkcehlfnaaDoorCards
import Derived.Test.YtbnpfgkcehlfnaaDoorTie
import Derived.ChangeMaps5
import Derived.Deep.DeepWitnessRowRef
import Derived.LaidMore
namespace Go.Proofs.YtbnpfgkcehlfnaaDoor.kleene
open Go Go.RowKit Go.ChangeShapes Go.WideShapes Go.ChangeAt

/-- The law said true, and nothing old has turned. -/
def TrueEnd (w : World) (e : Ending) (w' : World) : Prop := e = .returned (.bool true) ∧ Below w.heap.size w w'

def Tabs (w : World) : Prop := HasNotRow w ∧ HasAndTable w ∧ HasOrTable w ∧ HasJoinTable w
theorem Tabs.keeps {w w' : World} (h : Tabs w) (hb : Below w.heap.size w w') : Tabs w' := ⟨h.1.keeps hb, h.2.1.keeps hb, h.2.2.1.keeps hb, h.2.2.2.keeps hb⟩
theorem andT_comm (a b : Int) : andT b a = andT a b := by
  unfold andT
  by_cases h : isT a && isT b
  · rw [if_pos h, if_pos (by rw [Bool.and_comm]; exact h)]
    split <;> split <;> omega
  · rw [if_neg h, if_neg (by rw [Bool.and_comm]; exact h)]
theorem joinT_comm (a b : Int) : joinT b a = joinT a b := by
  unfold joinT
  by_cases h : a = b
  · subst h
    rfl
  · have h' : ¬ b = a := fun e => h e.symm
    simp [h, h']
theorem deMorgan {a b : Int} (ha : isT a = true) (hb : isT b = true) : orT (notT a) (notT b) = notT (andT a b) := by
  rcases isT_three ha with rfl | rfl | rfl <;> rcases isT_three hb with rfl | rfl | rfl <;> rfl
theorem within_parts {c d : Int} (h : withinT c d = true) : isT c = true ∧ isT d = true := by
  unfold withinT at h
  simp only [Bool.and_eq_true] at h
  exact h.1
theorem within_more {a c d : Int} (ha : isT a = true) (h : withinT c d = true) : withinT (andT a c) (andT a d) = true ∧ withinT (orT a c) (orT a d) = true ∧ withinT (notT c) (notT d) = true := by
  obtain ⟨hc, hd⟩ := within_parts h
  revert h
  rcases isT_three ha with rfl | rfl | rfl <;> rcases isT_three hc with rfl | rfl | rfl <;> rcases isT_three hd with rfl | rfl | rfl <;> decide
theorem within_join {a b : Int} (ha : isT a = true) (hb : isT b = true) : withinT a (joinT a b) = true ∧ withinT b (joinT a b) = true := by
  rcases isT_three ha with rfl | rfl | rfl <;> rcases isT_three hb with rfl | rfl | rfl <;> decide

set_option maxRecDepth 100000 in
set_option maxHeartbeats 4000000 in
theorem walk (a : Option Addr) (n cap : Nat) (w : World) (hn : n ≤ maxLen) (hcode : Code8 w w.heap.size n a) (hT : Tabs w) : Calls Tryd.prog 3 #[.slice a n cap] w (TrueEnd w) := by
  by_cases hbig : 1048576 < n
  · go_enter Tryd.func3, Tryd.ntmps3
    go_wp2_with fail
    refine (bigYes a n cap _ hn hbig).mono ?_
    rintro e w1 ⟨rfl, rfl⟩
    go_wp2
    go_ret
    exact ⟨rfl, Below.refl _ _⟩
  · go_enter Tryd.func3, Tryd.ntmps3
    go_wp2_with fail
    refine (bigNo a n cap _ (by omega)).mono ?_
    rintro e w1 ⟨rfl, rfl⟩
    go_wp2_with fail
    refine (drawAndOf a n cap _ (by omega) hcode).mono ?_
    rintro e w1 ⟨x, y, _, _, _, _, rfl, hb1⟩
    have hcode1 : Code8 w1 w1.heap.size n a := (hcode.keeps fun p hp => hb1.cell hp).grow hb1.size
    go_wp2_with fail
    refine (drawIsWithin a n cap _ (by omega) hcode1).mono ?_
    rintro e w2 ⟨c, d, _, _, _, _, rfl, hb2⟩
    have hb : Below w.heap.size w w2 := hb1.trans (hb2.mono hb1.size)
    replace hT := hT.keeps hb
    clear hb1 hb2 hcode hcode1
    go_wp2_with fail
    refine (implAndOf x y _ hT.2.1).mono ?_
    rintro e w3 ⟨rfl, rfl⟩
    go_wp2_with fail
    refine (specAndOf x y _).mono ?_
    rintro e w3 ⟨rfl, rfl⟩
    go_wp2_with fail
    refine (implOrOf x y _ hT.2.2.1).mono ?_
    rintro e w3 ⟨rfl, rfl⟩
    go_wp2_with fail
    refine (specOrOf x y _).mono ?_
    rintro e w3 ⟨rfl, rfl⟩
    go_wp2_with fail
    refine (implNotOf x _ hT.1).mono ?_
    rintro e w3 ⟨rfl, rfl⟩
    go_wp2_with fail
    refine (specNotOf x _).mono ?_
    rintro e w3 ⟨rfl, rfl⟩
    go_wp2_with fail
    refine (implJoinOf x y _ hT.2.2.2).mono ?_
    rintro e w3 ⟨rfl, rfl⟩
    go_wp2_with fail
    refine (specJoinOf x y _).mono ?_
    rintro e w3 ⟨rfl, rfl⟩
    go_wp2_with fail
    refine (implIsWithin c d _ hT.2.2.2).mono ?_
    rintro e w3 ⟨rfl, hbN⟩
    replace hT := hT.keeps hbN
    replace hb := hb.trans (hbN.mono hb.size)
    clear hbN
    go_wp2_with fail
    refine (specIsWithin c d _).mono ?_
    rintro e w3 ⟨rfl, rfl⟩
    go_wp2_with fail
    refine (implTruthText x _).mono ?_
    rintro e w3 ⟨rfl, rfl⟩
    go_wp2_with fail
    refine (specTruthText x _).mono ?_
    rintro e w3 ⟨rfl, rfl⟩
    go_wp2_with fail
    refine (implIsTruth x _).mono ?_
    rintro e w3 ⟨rfl, rfl⟩
    go_wp2_with fail
    refine (specIsTruth x _).mono ?_
    rintro e w3 ⟨rfl, rfl⟩
    cases hx : isT x with
    | false =>
      have Hx := Lib.hid hx
      clear hx
      go_wp2_with fail
      refine (implIsTruth x _).mono ?_
      rw [Hx.out]
      rintro e w3 ⟨rfl, rfl⟩
      go_wp2_with fail
      refine (implAndOf x y _ hT.2.1).mono ?_
      rintro e w3 ⟨rfl, rfl⟩
      go_wp2_with fail
      refine (implAndOf y x _ hT.2.1).mono ?_
      rw [andT_comm x y]
      rintro e w3 ⟨rfl, rfl⟩
      go_wp2_with fail
      refine (implJoinOf x y _ hT.2.2.2).mono ?_
      rintro e w3 ⟨rfl, rfl⟩
      go_wp2_with fail
      refine (implJoinOf y x _ hT.2.2.2).mono ?_
      rw [joinT_comm x y]
      rintro e w3 ⟨rfl, rfl⟩
      go_wp2_with fail
      refine (implIsTruth x _).mono ?_
      rw [Hx.out]
      rintro e w3 ⟨rfl, rfl⟩
      go_wp2
      go_ret
      exact ⟨rfl, hb⟩
    | true =>
      cases hy : isT y with
      | false =>
        have hWM := Lib.hid (fun h : withinT c d = true => within_more hx h)
        have Hx := Lib.hid hx
        have Hy := Lib.hid hy
        clear hx hy
        go_wp2_with fail
        refine (implIsTruth x _).mono ?_
        rw [Hx.out]
        rintro e w3 ⟨rfl, rfl⟩
        go_wp2_with fail
        refine (implIsTruth y _).mono ?_
        rw [Hy.out]
        rintro e w3 ⟨rfl, rfl⟩
        go_wp2_with fail
        refine (implAndOf x y _ hT.2.1).mono ?_
        rintro e w3 ⟨rfl, rfl⟩
        go_wp2_with fail
        refine (implAndOf y x _ hT.2.1).mono ?_
        rw [andT_comm x y]
        rintro e w3 ⟨rfl, rfl⟩
        go_wp2_with fail
        refine (implJoinOf x y _ hT.2.2.2).mono ?_
        rintro e w3 ⟨rfl, rfl⟩
        go_wp2_with fail
        refine (implJoinOf y x _ hT.2.2.2).mono ?_
        rw [joinT_comm x y]
        rintro e w3 ⟨rfl, rfl⟩
        go_wp2_with fail
        refine (implIsTruth x _).mono ?_
        rw [Hx.out]
        rintro e w3 ⟨rfl, rfl⟩
        cases hw : withinT c d with
        | false =>
          have Hw := Lib.hid hw
          clear hw
          go_wp2_with fail
          refine (implIsWithin c d _ hT.2.2.2).mono ?_
          rw [Hw.out]
          rintro e w3 ⟨rfl, hbN⟩
          replace hT := hT.keeps hbN
          replace hb := hb.trans (hbN.mono hb.size)
          clear hbN
          go_wp2
          go_ret
          exact ⟨rfl, hb⟩
        | true =>
          obtain ⟨hW1, hW2, hW3⟩ := hWM.out hw
          have HW1 := Lib.hid hW1
          have HW2 := Lib.hid hW2
          have HW3 := Lib.hid hW3
          have Hw := Lib.hid hw
          clear hw hW1 hW2 hW3
          go_wp2_with fail
          refine (implIsWithin c d _ hT.2.2.2).mono ?_
          rw [Hw.out]
          rintro e w3 ⟨rfl, hbN⟩
          replace hT := hT.keeps hbN
          replace hb := hb.trans (hbN.mono hb.size)
          clear hbN
          go_wp2_with fail
          refine (implAndOf x c _ hT.2.1).mono ?_
          rintro e w3 ⟨rfl, rfl⟩
          go_wp2_with fail
          refine (implAndOf x d _ hT.2.1).mono ?_
          rintro e w3 ⟨rfl, rfl⟩
          go_wp2_with fail
          refine (implIsWithin (andT x c) (andT x d) _ hT.2.2.2).mono ?_
          rw [HW1.out]
          rintro e w3 ⟨rfl, hbN⟩
          replace hT := hT.keeps hbN
          replace hb := hb.trans (hbN.mono hb.size)
          clear hbN
          go_wp2_with fail
          refine (implOrOf x c _ hT.2.2.1).mono ?_
          rintro e w3 ⟨rfl, rfl⟩
          go_wp2_with fail
          refine (implOrOf x d _ hT.2.2.1).mono ?_
          rintro e w3 ⟨rfl, rfl⟩
          go_wp2_with fail
          refine (implIsWithin (orT x c) (orT x d) _ hT.2.2.2).mono ?_
          rw [HW2.out]
          rintro e w3 ⟨rfl, hbN⟩
          replace hT := hT.keeps hbN
          replace hb := hb.trans (hbN.mono hb.size)
          clear hbN
          go_wp2_with fail
          refine (implNotOf c _ hT.1).mono ?_
          rintro e w3 ⟨rfl, rfl⟩
          go_wp2_with fail
          refine (implNotOf d _ hT.1).mono ?_
          rintro e w3 ⟨rfl, rfl⟩
          go_wp2_with fail
          refine (implIsWithin (notT c) (notT d) _ hT.2.2.2).mono ?_
          rw [HW3.out]
          rintro e w3 ⟨rfl, hbN⟩
          replace hT := hT.keeps hbN
          replace hb := hb.trans (hbN.mono hb.size)
          clear hbN
          go_wp2_with fail
          refine (implIsTruth y _).mono ?_
          rw [Hy.out]
          rintro e w3 ⟨rfl, rfl⟩
          go_wp2
          go_ret
          exact ⟨rfl, hb⟩
      | true =>
        have hDM := Lib.hid (deMorgan hx hy)
        have hWJ := Lib.hid (within_join hx hy)
        have hWM := Lib.hid (fun h : withinT c d = true => within_more hx h)
        have Hx := Lib.hid hx
        have Hy := Lib.hid hy
        clear hx hy
        go_wp2_with fail
        refine (implIsTruth x _).mono ?_
        rw [Hx.out]
        rintro e w3 ⟨rfl, rfl⟩
        go_wp2_with fail
        refine (implIsTruth y _).mono ?_
        rw [Hy.out]
        rintro e w3 ⟨rfl, rfl⟩
        go_wp2_with fail
        refine (implAndOf x y _ hT.2.1).mono ?_
        rintro e w3 ⟨rfl, rfl⟩
        go_wp2_with fail
        refine (implNotOf (andT x y) _ hT.1).mono ?_
        rintro e w3 ⟨rfl, rfl⟩
        go_wp2_with fail
        refine (implNotOf x _ hT.1).mono ?_
        rintro e w3 ⟨rfl, rfl⟩
        go_wp2_with fail
        refine (implNotOf y _ hT.1).mono ?_
        rintro e w3 ⟨rfl, rfl⟩
        go_wp2_with fail
        refine (implOrOf (notT x) (notT y) _ hT.2.2.1).mono ?_
        rw [hDM.out]
        rintro e w3 ⟨rfl, rfl⟩
        go_wp2_with fail
        refine (implAndOf x y _ hT.2.1).mono ?_
        rintro e w3 ⟨rfl, rfl⟩
        go_wp2_with fail
        refine (implAndOf y x _ hT.2.1).mono ?_
        rw [andT_comm x y]
        rintro e w3 ⟨rfl, rfl⟩
        go_wp2_with fail
        refine (implJoinOf x y _ hT.2.2.2).mono ?_
        rintro e w3 ⟨rfl, rfl⟩
        go_wp2_with fail
        refine (implJoinOf y x _ hT.2.2.2).mono ?_
        rw [joinT_comm x y]
        rintro e w3 ⟨rfl, rfl⟩
        go_wp2_with fail
        refine (implIsTruth x _).mono ?_
        rw [Hx.out]
        rintro e w3 ⟨rfl, rfl⟩
        cases hw : withinT c d with
        | false =>
          have Hw := Lib.hid hw
          clear hw
          go_wp2_with fail
          refine (implIsWithin c d _ hT.2.2.2).mono ?_
          rw [Hw.out]
          rintro e w3 ⟨rfl, hbN⟩
          replace hT := hT.keeps hbN
          replace hb := hb.trans (hbN.mono hb.size)
          clear hbN
          go_wp2
          go_ret
          exact ⟨rfl, hb⟩
        | true =>
          obtain ⟨hW1, hW2, hW3⟩ := hWM.out hw
          have HW1 := Lib.hid hW1
          have HW2 := Lib.hid hW2
          have HW3 := Lib.hid hW3
          have Hw := Lib.hid hw
          clear hw hW1 hW2 hW3
          go_wp2_with fail
          refine (implIsWithin c d _ hT.2.2.2).mono ?_
          rw [Hw.out]
          rintro e w3 ⟨rfl, hbN⟩
          replace hT := hT.keeps hbN
          replace hb := hb.trans (hbN.mono hb.size)
          clear hbN
          go_wp2_with fail
          refine (implAndOf x c _ hT.2.1).mono ?_
          rintro e w3 ⟨rfl, rfl⟩
          go_wp2_with fail
          refine (implAndOf x d _ hT.2.1).mono ?_
          rintro e w3 ⟨rfl, rfl⟩
          go_wp2_with fail
          refine (implIsWithin (andT x c) (andT x d) _ hT.2.2.2).mono ?_
          rw [HW1.out]
          rintro e w3 ⟨rfl, hbN⟩
          replace hT := hT.keeps hbN
          replace hb := hb.trans (hbN.mono hb.size)
          clear hbN
          go_wp2_with fail
          refine (implOrOf x c _ hT.2.2.1).mono ?_
          rintro e w3 ⟨rfl, rfl⟩
          go_wp2_with fail
          refine (implOrOf x d _ hT.2.2.1).mono ?_
          rintro e w3 ⟨rfl, rfl⟩
          go_wp2_with fail
          refine (implIsWithin (orT x c) (orT x d) _ hT.2.2.2).mono ?_
          rw [HW2.out]
          rintro e w3 ⟨rfl, hbN⟩
          replace hT := hT.keeps hbN
          replace hb := hb.trans (hbN.mono hb.size)
          clear hbN
          go_wp2_with fail
          refine (implNotOf c _ hT.1).mono ?_
          rintro e w3 ⟨rfl, rfl⟩
          go_wp2_with fail
          refine (implNotOf d _ hT.1).mono ?_
          rintro e w3 ⟨rfl, rfl⟩
          go_wp2_with fail
          refine (implIsWithin (notT c) (notT d) _ hT.2.2.2).mono ?_
          rw [HW3.out]
          rintro e w3 ⟨rfl, hbN⟩
          replace hT := hT.keeps hbN
          replace hb := hb.trans (hbN.mono hb.size)
          clear hbN
          go_wp2_with fail
          refine (implIsTruth y _).mono ?_
          rw [Hy.out]
          rintro e w3 ⟨rfl, rfl⟩
          go_wp2_with fail
          refine (implJoinOf x y _ hT.2.2.2).mono ?_
          rintro e w3 ⟨rfl, rfl⟩
          go_wp2_with fail
          refine (implIsWithin x (joinT x y) _ hT.2.2.2).mono ?_
          rw [hWJ.out.1]
          rintro e w3 ⟨rfl, hbN⟩
          replace hT := hT.keeps hbN
          replace hb := hb.trans (hbN.mono hb.size)
          clear hbN
          go_wp2_with fail
          refine (implJoinOf x y _ hT.2.2.2).mono ?_
          rintro e w3 ⟨rfl, rfl⟩
          go_wp2_with fail
          refine (implIsWithin y (joinT x y) _ hT.2.2.2).mono ?_
          rw [hWJ.out.2]
          rintro e w3 ⟨rfl, hbN⟩
          replace hT := hT.keeps hbN
          replace hb := hb.trans (hbN.mono hb.size)
          clear hbN
          go_wp2
          go_ret
          exact ⟨rfl, hb⟩

theorem own : ownKnob Tryd.prog.godebug = none := by kernel_rfl
theorem laidOut : laidOutB Tryd.prog = true := by kernel_rfl
theorem cellsByte : Tryd.prog.cellsOf 5 = 1 := by kernel_rfl
set_option maxRecDepth 100000 in
theorem contract (H : Type) (enc : TypeId × Value → H) (W : World) (base : Nat) (args : Array Value) (ds gs : List (DataW H)) (before : List MemPlace)
    (hval : ∀ (j : Nat) t v, Tryd.f3.params[j]? = some t → args[j]? = some v → Value.okWide Tryd.prog W .any base t v)
    (hW : DataW.Whole enc Tryd.prog Tryd.f3.params.toList Rows.fnKleeneSpec.vars false W args.toList ds gs before)
    (hL : laidMetH Tryd.prog Rows.fnKleeneRow.laid W) (_hSh : W.ShapedOpen Tryd.prog) :
    Calls Tryd.prog 3 args W fun e W' => ∃ v, e = .returned v ∧ Rows.fnKleeneSpec.post enc Tryd.prog Tryd.f3 false true false false W args v W' := by
  have hW' := hW
  have hlt : ∀ x ∈ before, x.block < W.heap.size := fun x hx => hW'.lt x hx
  have hnotRow : HasNotRow W := notRow_of 0 hL rfl
  have handTable : HasAndTable W := andTable_of 1 hL rfl
  have horTable : HasOrTable W := orTable_of 2 hL rfl
  have hjoinTable : HasJoinTable W := joinTable_of 3 hL rfl
  obtain ⟨p, q, hA0, hV, rfl, _, _⟩ := hW
  have hA : DataW.TrodAll enc Tryd.prog W 0 (fun _ => true) true Tryd.f3.params.toList args.toList ds p := hA0
  rw [Tryd.params3] at hA hval
  obtain ⟨v0, d0, rfl, rfl, t0⟩ := trodAll_one hA
  obtain ⟨g1, gs1, q1, rfl, hV1⟩ := gs_cons hV
  obtain ⟨g2, gs2, q2, rfl, hV2⟩ := gs_cons hV1
  obtain ⟨g3, gs3, q3, rfl, hV3⟩ := gs_cons hV2
  obtain ⟨g4, gs4, q4, rfl, hV4⟩ := gs_cons hV3
  obtain ⟨rfl, _⟩ := trodVars_none hV4
  obtain ⟨a0, n0, cap0, rfl, _, hn0, hcode0⟩ := open_codes Tryd.underlying22 Tryd.underlying5 cellsByte (fun x hx => hlt x (by simp [hx])) (base := base) (hval 0 22 v0 rfl rfl) t0
  refine (walk a0 n0 cap0 W hn0 hcode0 ⟨hnotRow, handTable, horTable, hjoinTable⟩).mono fun e W' ⟨he, hb⟩ => ?_
  subst he
  exact ⟨_, rfl, law_post_vars laidOut (by kernel_rfl) (by kernel_rfl) (by kernel_rfl) Tryd.underlying4 hW' rfl hb⟩

/-- A world for the witness. -/
noncomputable def start (os : Os) : World := World.doorLaid Tryd.prog 4000 os
theorem laid_met (os : Os) : laidMet Tryd.prog Rows.fnKleeneRow.laid ((start os).forCall (fun _ _ => 0) ⟨#[], #[.slice none 0 0], []⟩).memory :=
  laidMet_of_run' 8 (by kernel_rfl) (by kernel_rfl)
theorem reads (os : Os) {H : Type} (enc : TypeId × Value → H) : ∃ places, DataW.whole enc Tryd.prog ((start os).forCall (fun _ _ => 0) ⟨#[], #[.slice none 0 0], []⟩).memory Tryd.f3.params.toList Rows.fnKleeneSpec.vars false #[Value.slice none 0 0].toList 8 = some ([.nil], [Rows.laid_loop_example_g00590_impl_andTable, Rows.laid_loop_example_g00590_impl_orTable, Rows.laid_loop_example_g00590_impl_notRow, Rows.laid_loop_example_g00590_impl_joinTable], places) :=
  ⟨[.cell 0 0, .cell 0 1, .cell 0 2, .cell 0 3, .cell 0 4, .cell 0 5, .cell 0 6, .cell 0 7, .cell 0 8, .cell 1 0, .cell 1 1, .cell 1 2, .cell 1 3, .cell 1 4, .cell 1 5, .cell 1 6, .cell 1 7, .cell 1 8, .cell 2 0, .cell 2 1, .cell 2 2, .cell 3 0, .cell 3 1, .cell 3 2, .cell 3 3, .cell 3 4, .cell 3 5, .cell 3 6, .cell 3 7, .cell 3 8], by kernel_rfl⟩

set_option maxRecDepth 100000 in
theorem lifted (os : Os) (started : os.Started) (H : Type) (enc : TypeId × Value → H) (F : Stop.Interp) :
    ReturnsInHanded {} Tryd.checked os 3 .any ((OpenSpec.ofChange Rows.fnKleeneSpec).preRow enc Tryd.prog Tryd.f3 Rows.fnKleeneRow.domain false Rows.fnKleeneRow.laid) (((OpenSpec.ofChange Rows.fnKleeneSpec).at F).post enc Tryd.prog Tryd.f3 false true false false) := by
  obtain ⟨places, hx⟩ := reads os enc
  refine returnsInHanded_of_row (C := Tryd.checked) (s := OpenSpec.ofChange Rows.fnKleeneSpec) own started (by kernel_rfl) Tryd.func3
    (witness_row_atRef (enc := enc) (C := Tryd.checked) false (start os) #[.slice none 0 0] rfl (by kernel_rfl) (by kernel_rfl) (by kernel_rfl)
      (OpenSpec.preRow_of_cond 8 hx (by kernel_rfl) (fun k hk => by cases hk) (by kernel_rfl) (laid_met os))) ?_
  intro W base args ds gs before hval hW _ _ _ hL hSh _
  exact contract H enc W base args ds gs before hval hW hL hSh

theorem said : Rows.FnKleeneSaid :=
  OpenClaim.holds_of_cond 3 Tryd.f3 rfl rfl rfl rfl rfl rfl rfl ⟨rfl, rfl, rfl, rfl, rfl⟩ rfl rfl rfl rfl rfl (by kernel_rfl) Tryd.func3 (by kernel_rfl)
    (of_decide_eq_true (by kernel_rfl)) (by unfold Func.isWrapper; first | (rw [if_pos (by decide +kernel)]; kernel_rfl) | (rw [if_neg (by decide +kernel)]; exact ⟨rfl, rfl⟩))
    (fun os started H enc _ F => by rw [OpenClaim.pre_eq_preRow]; exact lifted os started H enc F)

theorem plain (f : FuncId) (fn : Func) (hf : Tryd.pinned.checked.prog.funcNamed "loop.example/g00590/laws.FnKleene" = some f) (hfn : Tryd.pinned.checked.prog.funcs[f]? = some fn) :
    Rows.fnKleeneCard.stood.looks = Tryd.pinned.checked.prog.looks [] ∧ ∀ (j : Nat) t, fn.params[j]? = some t → Tryd.pinned.checked.prog.wantsStandIn t = false := by
  obtain rfl : f = 3 := Option.some.inj ((show Tryd.prog.funcNamed "loop.example/g00590/laws.FnKleene" = some 3 by kernel_rfl).symm.trans hf) |>.symm
  obtain rfl : fn = Tryd.f3 := (Option.some.inj (Tryd.func3.symm.trans hfn)).symm
  refine ⟨by kernel_rfl, fun j t ht => ?_⟩
  rw [Tryd.params3] at ht
  have hm : t ∈ [22] := by simpa using Array.mem_of_getElem? ht
  have hall : ([22].all fun u => !Tryd.prog.wantsStandIn u) = true := by kernel_rfl
  exact (show Tryd.prog.wantsStandIn t = false by simpa using List.all_eq_true.1 hall t hm)

/-- The card. -/
theorem card : Rows.FnKleeneCardSaid :=
  Claim7.holds_tied_plain_at .later [] _ _ _ _ said (fun _ h => by cases h) (by kernel_rfl) (fun _ h => by cases h) fnKleene_row_tie rfl ⟨rfl, rfl⟩ (by kernel_rfl) rfl plain (by kernel_rfl)
#print axioms card
end Go.Proofs.YtbnpfgkcehlfnaaDoor.kleene
