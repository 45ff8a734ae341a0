/-
  The walk of: for every list of bytes the law FnFormulaText returns true and leaves its argument as it was, where the listed table reads as the text lays it. (Printed by wip/tools/gen_formula_text_law.py.)
-/
import Derived.Test.YtplchhahjmoodaaGreatDoorCards
import Derived.Test.YtplchhahjmoodaaGreatDoorTie
import Derived.ChangeMaps5
import Derived.Deep.RegionHeld3
import Derived.Deep.DeepWitnessRowRef
import Derived.LaidMore
import Derived.Test.YtplchhahjmoodaaGreatDoorZ37
import Derived.Test.YtplchhahjmoodaaGreatDoorZ50
import Derived.Test.YtplchhahjmoodaaGreatDoorZ35
import Derived.Test.YtplchhahjmoodaaGreatDoorZ03
namespace Go.Proofs.YtplchhahjmoodaaGreatDoor.formulaText
open Go Go.RowKit Go.ChangeShapes Go.WideShapes Go.ChangeAt

/-- The law said true, and nothing old has turned. -/
def TrueEnd (w : World) (e : Ending) (w' : World) : Prop := e = .returned (.bool true) ∧ Below w.heap.size w w'
theorem parsed_sizeF {ss : List ByteArray} {s : ByteArray} {f : Fm} {ok : Bool} (h : Parsed ss s f ok) : f.size ≤ 40 := by
  rcases h with ⟨_, h1, h2⟩ | ⟨_, rfl, _⟩
  · unfold fmText at h2
    by_cases hg : goodVars ss = true ∧ isFmB ss.length f = true
    · exact (form_parts hg.2).2
    · rw [if_neg hg] at h2
      exact (h1 h2.symm).elim
  · decide
theorem hnl3 : namesF.length ≤ maxLen := by unfold maxLen; decide
set_option maxRecDepth 100000 in
set_option maxHeartbeats 3200000 in
theorem walk (a : Option Addr) (n cap : Nat) (w : World) (hn : n ≤ maxLen) (hcode : Code8 w w.heap.size n a) (hwt : HasFormulaWords w) (hsw : SwC w) : Calls Tryz.prog 3 #[.slice a n cap] w (TrueEnd w) := by
  by_cases hbig : 1048576 < n
  · go_enter Tryz.func3, Tryz.ntmps3
    go_wp2_with fail
    refine (bigYes a n cap _ hn hbig).mono ?_
    rintro e w1 ⟨rfl, rfl⟩
    go_wp2
    go_ret
    exact ⟨rfl, Below.refl _ _⟩
  have HCD := Lib.hid (fun (W : World) (h : Below w.heap.size w W) => (show Code8 W W.heap.size n a ∧ HasFormulaWords W ∧ SwC W from ⟨(hcode.keeps fun p hp => h.cell hp).grow h.size, hwt.keeps h, hsw.keeps h⟩))
  have hb0 := Below.refl w.heap.size w
  clear hcode hwt hsw
  go_enter Tryz.func3, Tryz.ntmps3
  go_wp2_with fail
  refine (bigNo a n cap _ (by omega)).mono ?_
  rintro e w1 ⟨rfl, rfl⟩
  go_wp2_with fail
  refine (drawFmText a n cap _ (by omega) (HCD.out _ hb0).1).mono ?_
  rintro e w2 ⟨v, f, rfl, hfs, hrow, hsf, hb2⟩
  obtain ⟨W3, hW3, hb3, X3⟩ := one_boxL5 w2 [.int .i64 f.kd, .int .i64 f.k, .int .i64 f.u, .int .i64 f.v, .slice f.a f.args.length f.cap] 27
  simp only [List.toArray] at hW3
  have HW3 := Lib.hid hW3
  have HFS := Lib.hid hfs
  have hB3 := hb2.trans (hb3.mono hb2.size)
  have hrow3 := (hrow.below hb3).grow hb3.size
  have hsf3 := hsf.below hb3
  have hl3 := X3.lt
  clear hW3 hb2 hb3 hb0 hrow hsf hfs
  go_wp2_with fail
  rw [HW3.out]
  refine (implFormulaText namesF _ 3 f W3 hnl3 namesF_size hrow3 hsf3 (HCD.out _ hB3).2.1).mono ?_
  obtain ⟨x, hx⟩ : ∃ x, fmText namesF f.er = x := ⟨_, rfl⟩
  have hxz : x.size ≤ 480 := by rw [← hx]; exact fmText_size _ _
  have HX := Lib.hid hx
  rw [hx]
  clear hx
  rintro e w4 ⟨rfl, hb4⟩
  have hB4 := hB3.trans (hb4.mono hB3.size)
  have hrow4 := (hrow3.below hb4).grow hb4.size
  have hsf4 := hsf3.below hb4
  have X4 := X3.below hb4
  have hz4 := hb4.size
  clear hB3 hrow3 hsf3 X3 hb4
  go_wp2_with fail
  refine (implParseF namesF _ 3 x w4 ⟨hrow4, (HCD.out _ hB4).2.1, (HCD.out _ hB4).2.2⟩ (by omega) hnl3 namesF_size).mono ?_
  rintro e w5 ⟨t1, ok, rfl, hp1, hm1, hb5⟩
  have hz5 := hb5.size
  have X5 := X4.below hb5
  have x0 := X5.c 0 _ rfl
  have x1 := X5.c 1 _ rfl
  have x2 := X5.c 2 _ rfl
  have x3 := X5.c 3 _ rfl
  have x4 := X5.c 4 _ rfl
  have xl := X5.lt
  have xne : ¬ w2.heap.size = w5.heap.size := by omega
  have xne' : ¬ w5.heap.size = w2.heap.size := by omega
  obtain ⟨W6, hW6, hb6, Y6⟩ := one_boxL5 w5 [.int .i64 t1.kd, .int .i64 t1.k, .int .i64 t1.u, .int .i64 t1.v, .slice t1.a t1.args.length t1.cap] 27
  simp only [List.toArray] at hW6
  have HW6 := Lib.hid hW6
  have hb56 := hb5.trans (hb6.mono hb5.size)
  have hB6 := hB4.trans (hb56.mono hB4.size)
  have hrow6 := (hrow4.below hb56).grow hb56.size
  have hsf6 := hsf4.below hb56
  have X6 := X4.below hb56
  have hm6 := Ft.Mine.below hm1 hb6
  have hz6 := hb6.size
  have hl6 := Y6.lt
  have hs1 : t1.er.size ≤ 40 := parsed_sizeF hp1
  have HS1 := Lib.hid hs1
  have HP1 := Lib.hid hp1
  clear hW6 hb5 hb6 hb56 hB4 hrow4 hsf4 X4 X5 hm1 hs1 hp1
  go_wp2_with fail
  rw [HW6.out]
  clear x0 x1 x2 x3 x4 xl
  refine (specFormulaText namesF _ 3 f W6 hnl3 namesF_size hrow6 hsf6.in_ (by have := HFS.out; omega)).mono ?_
  rw [HX.out]
  rintro e w7 ⟨rfl, hb7⟩
  have hB := hB6.trans (hb7.mono hB6.size)
  have X7 := X6.below hb7
  have Y7 := Y6.below hb7
  have hsf7 := hsf6.below hb7
  have hm7 := Ft.Mine.below hm6 hb7
  have hz7 := hb7.size
  clear hB6 X6 Y6 hsf6 hm6 hrow6 hb7
  rcases HP1.out with ⟨rfl, h1, h2⟩ | ⟨rfl, -, h1⟩
  · have heq : t1.er = f.er := congrArg Prod.fst ((fm_right h1 h2).symm.trans (fm_right h1 HX.out))
    have hnl : ¬ x.toList = [] := fun h => h1 (text_inj (by rw [ByteArray.toList_eq] at h; exact h))
    have hem : x.toList.isEmpty = false := by
      cases h : x.toList with
      | nil => exact (hnl h).elim
      | cons _ _ => rfl
    have hcmp : (x.toList == []) = false := beq_eq_false_iff_ne.2 hnl
    have HEQ := Lib.hid heq
    have y0 := Y7.c 0 _ rfl
    have y1 := Y7.c 1 _ rfl
    have y2 := Y7.c 2 _ rfl
    have y3 := Y7.c 3 _ rfl
    have y4 := Y7.c 4 _ rfl
    have x0 := X7.c 0 _ rfl
    have x1 := X7.c 1 _ rfl
    have x2 := X7.c 2 _ rfl
    have x3 := X7.c 3 _ rfl
    have x4 := X7.c 4 _ rfl
    clear h1 h2 heq
    go_wp2_with fail
    refine (implEqual t1 f true ⟨fun _ => HEQ.out, fun _ => rfl⟩ w7 (Ft.Mine.solid hm7 (by omega) (by have := HS1.out; omega)) hsf7 (by
      have q1 := HS1.out
      have q2 := HFS.out
      exact Nat.le_trans (Nat.mul_le_mul q1 q2) (by decide))).mono ?_
    rintro e w8 ⟨rfl, hb8⟩
    have hB := hB.trans (hb8.mono hB.size)
    clear X7 Y7 hsf7 hm7 hb8 y0 y1 y2 y3 y4 x0 x1 x2 x3 x4
    go_wp2_with fail
    refine (drawFmParse a n cap _ (by omega) (HCD.out _ hB).1).mono ?_
    rintro e w10 ⟨v2, u, rfl, hu, hrow2, hb10⟩
    have hB10 := hB.trans (hb10.mono hB.size)
    clear hB hb10
    go_wp2_with fail
    refine (implParseF namesF _ 3 u w10 ⟨hrow2, (HCD.out _ hB10).2.1, (HCD.out _ hB10).2.2⟩ hu hnl3 namesF_size).mono ?_
    rintro e w11 ⟨t2, ok2, rfl, hp2, hm2, hb11⟩
    obtain ⟨W12, hW12, hb12, X12⟩ := one_boxL5 w11 [.int .i64 t2.kd, .int .i64 t2.k, .int .i64 t2.u, .int .i64 t2.v, .slice t2.a t2.args.length t2.cap] 27
    simp only [List.toArray] at hW12
    have HW12 := Lib.hid hW12
    have HP2 := Lib.hid hp2
    have hb1112 := hb11.trans (hb12.mono hb11.size)
    have hB12 := hB10.trans (hb1112.mono hB10.size)
    have hrow12 := (hrow2.below hb1112).grow hb1112.size
    have hm12 := Ft.Mine.below hm2 hb12
    have hz12 := hb12.size
    have hl12 := X12.lt
    clear hW12 hp2 hm2 hb11 hb12 hB10 hrow2 hb1112
    go_wp2_with fail
    rw [HW12.out]
    refine (specParseF namesF _ 3 u W12 (by omega) hnl3 namesF_size hrow12).mono ?_
    rintro e w13 ⟨t3, ok3, rfl, hp3, -, hb13⟩
    obtain ⟨-, rfl⟩ := Parsed.one hp3 HP2.out
    have X13 := X12.below hb13
    have hz13 := hb13.size
    obtain ⟨W14, hW14, hb14, -⟩ := one_boxL5 w13 [.int .i64 t3.kd, .int .i64 t3.k, .int .i64 t3.u, .int .i64 t3.v, .slice t3.a t3.args.length t3.cap] 27
    simp only [List.toArray] at hW14
    have HW14 := Lib.hid hW14
    have hb1314 := hb13.trans (hb14.mono hb13.size)
    have hB13 := hB12.trans (hb1314.mono hB12.size)
    have hrow13 := (hrow12.below hb1314).grow hb1314.size
    have hm13 := Ft.Mine.below hm12 hb1314
    have hz14 := hb1314.size
    clear hp3 X12 hm12 hrow12 hb13 hb14 hb1314 hB12 hW14
    cases ok3 with
    | false =>
      go_wp2
      rw [HW14.out]
      go_ret
      exact ⟨rfl, hB13⟩
    | true =>
      have ht2 : u ≠ ⟨#[]⟩ ∧ fmText namesF t2.er = u := by
        rcases HP2.out with ⟨_, h1, h2⟩ | ⟨h, _⟩
        · exact ⟨h1, h2⟩
        · cases h
      have hs2 : t2.er.size ≤ 40 := parsed_sizeF HP2.out
      have HT2 := Lib.hid ht2
      have HS2 := Lib.hid hs2
      have x0 := X13.c 0 _ rfl
      have x1 := X13.c 1 _ rfl
      have x2 := X13.c 2 _ rfl
      have x3 := X13.c 3 _ rfl
      have x4 := X13.c 4 _ rfl
      have xl := X13.lt
      have yne : ¬ w11.heap.size = w13.heap.size := by omega
      have yne' : ¬ w13.heap.size = w11.heap.size := by omega
      clear ht2 hs2
      go_wp2_with fail
      rw [HW14.out]
      refine (implFormulaText namesF _ 3 t2 W14 hnl3 namesF_size hrow13 (Ft.Mine.solid hm13 (by omega) (by have := HS2.out; omega)) (HCD.out _ hB13).2.1).mono ?_
      rw [HT2.out.2]
      rintro e w14 ⟨rfl, hb14⟩
      have hB14 := hB13.trans (hb14.mono hB13.size)
      clear hrow13 X13 hm13 x0 x1 x2 x3 x4
      go_wp2
      go_ret
      exact ⟨rfl, hB14⟩
  · have hxe : x = ⟨#[]⟩ := by
      rcases h1 with h1 | h1
      · exact h1
      · exact (h1 _ HX.out).elim
    subst hxe
    clear h1 X7 Y7 hsf7 hm7
    go_wp2_with fail
    refine (drawFmParse a n cap _ (by omega) (HCD.out _ hB).1).mono ?_
    rintro e w10 ⟨v2, u, rfl, hu, hrow2, hb10⟩
    have hB10 := hB.trans (hb10.mono hB.size)
    clear hB hb10
    go_wp2_with fail
    refine (implParseF namesF _ 3 u w10 ⟨hrow2, (HCD.out _ hB10).2.1, (HCD.out _ hB10).2.2⟩ hu hnl3 namesF_size).mono ?_
    rintro e w11 ⟨t2, ok2, rfl, hp2, hm2, hb11⟩
    obtain ⟨W12, hW12, hb12, X12⟩ := one_boxL5 w11 [.int .i64 t2.kd, .int .i64 t2.k, .int .i64 t2.u, .int .i64 t2.v, .slice t2.a t2.args.length t2.cap] 27
    simp only [List.toArray] at hW12
    have HW12 := Lib.hid hW12
    have HP2 := Lib.hid hp2
    have hb1112 := hb11.trans (hb12.mono hb11.size)
    have hB12 := hB10.trans (hb1112.mono hB10.size)
    have hrow12 := (hrow2.below hb1112).grow hb1112.size
    have hm12 := Ft.Mine.below hm2 hb12
    have hz12 := hb12.size
    have hl12 := X12.lt
    clear hW12 hp2 hm2 hb11 hb12 hB10 hrow2 hb1112
    go_wp2_with fail
    rw [HW12.out]
    refine (specParseF namesF _ 3 u W12 (by omega) hnl3 namesF_size hrow12).mono ?_
    rintro e w13 ⟨t3, ok3, rfl, hp3, -, hb13⟩
    obtain ⟨-, rfl⟩ := Parsed.one hp3 HP2.out
    have X13 := X12.below hb13
    have hz13 := hb13.size
    obtain ⟨W14, hW14, hb14, -⟩ := one_boxL5 w13 [.int .i64 t3.kd, .int .i64 t3.k, .int .i64 t3.u, .int .i64 t3.v, .slice t3.a t3.args.length t3.cap] 27
    simp only [List.toArray] at hW14
    have HW14 := Lib.hid hW14
    have hb1314 := hb13.trans (hb14.mono hb13.size)
    have hB13 := hB12.trans (hb1314.mono hB12.size)
    have hrow13 := (hrow12.below hb1314).grow hb1314.size
    have hm13 := Ft.Mine.below hm12 hb1314
    have hz14 := hb1314.size
    clear hp3 X12 hm12 hrow12 hb13 hb14 hb1314 hB12 hW14
    cases ok3 with
    | false =>
      go_wp2
      rw [HW14.out]
      go_ret
      exact ⟨rfl, hB13⟩
    | true =>
      have ht2 : u ≠ ⟨#[]⟩ ∧ fmText namesF t2.er = u := by
        rcases HP2.out with ⟨_, h1, h2⟩ | ⟨h, _⟩
        · exact ⟨h1, h2⟩
        · cases h
      have hs2 : t2.er.size ≤ 40 := parsed_sizeF HP2.out
      have HT2 := Lib.hid ht2
      have HS2 := Lib.hid hs2
      have x0 := X13.c 0 _ rfl
      have x1 := X13.c 1 _ rfl
      have x2 := X13.c 2 _ rfl
      have x3 := X13.c 3 _ rfl
      have x4 := X13.c 4 _ rfl
      have xl := X13.lt
      have yne : ¬ w11.heap.size = w13.heap.size := by omega
      have yne' : ¬ w13.heap.size = w11.heap.size := by omega
      clear ht2 hs2
      go_wp2_with fail
      rw [HW14.out]
      refine (implFormulaText namesF _ 3 t2 W14 hnl3 namesF_size hrow13 (Ft.Mine.solid hm13 (by omega) (by have := HS2.out; omega)) (HCD.out _ hB13).2.1).mono ?_
      rw [HT2.out.2]
      rintro e w14 ⟨rfl, hb14⟩
      have hB14 := hB13.trans (hb14.mono hB13.size)
      clear hrow13 X13 hm13 x0 x1 x2 x3 x4
      go_wp2
      go_ret
      exact ⟨rfl, hB14⟩
end Go.Proofs.YtplchhahjmoodaaGreatDoor.formulaText
