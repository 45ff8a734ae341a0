/-
  FormulaText: the program's and the model's answer the same.
-/
import Derived.Test.YtplchhahjmoodaaGreatDoorZ32
import Derived.Test.YtplchhahjmoodaaGreatDoorZ18
namespace Go.Proofs.YtplchhahjmoodaaGreatDoor
open Go Go.RowKit Go.ChangeAt Go.ChangeShapes Go.WideShapes

def fmText (ss : List ByteArray) (t : Fm) : ByteArray := if goodVars ss = true ∧ isFmB ss.length t = true then t.textT ss else ⟨#[]⟩
theorem good_small {ss : List ByteArray} (h : goodVars ss = true) : ss.length ≤ 4 ∧ ∀ s ∈ ss, s.size ≤ 2 := by
  refine ⟨(of_decide_eq_true h).2.2, fun s hs => ?_⟩
  obtain ⟨k, hk, rfl⟩ := List.mem_iff_getElem.1 hs
  exact (of_decide_eq_true (vars_at h hk).1).2.2
theorem form_parts {n : Int} {t : Fm} (h : isFmB n t = true) : t.formB n = true ∧ t.size ≤ 40 := by
  unfold isFmB at h
  simp only [Bool.and_eq_true, decide_eq_true_eq] at h
  exact ⟨h.2.2, h.1⟩
set_option maxRecDepth 100000 in
set_option maxHeartbeats 1600000 in
theorem implFormulaText (ss : List ByteArray) (va : Option Addr) (vca : Nat) (x : Ft) (w : World) (hl : ss.length ≤ maxLen) (hz : ∀ s ∈ ss, s.size ≤ maxLen) (hrow : Row w w.heap.size va (strVals ss)) (hs : Solid w x) (hwt : HasFormulaWords w) :
    Calls Tryz.prog 7 #[.slice va ss.length vca, x.val] w (GaveB (.string (fmText ss x.er)) w) := by
  have hb0 := (Below.refl w.heap.size w).alloc (Nat.le_refl _) (.cells #[.int .i64 x.kd, .int .i64 x.k, .int .i64 x.u, .int .i64 x.v, .slice x.a x.args.length x.cap] 27)
  obtain ⟨W0, hW0⟩ : ∃ W, w.alloc (.cells #[.int .i64 x.kd, .int .i64 x.k, .int .i64 x.u, .int .i64 x.v, .slice x.a x.args.length x.cap] 27) = W := ⟨_, rfl⟩
  have hx0 : BoxL W0 w.heap.size x.cells := by rw [← hW0]; exact BoxL.new w x.cells _
  rw [hW0] at hb0
  have HW0 := Lib.hid hW0
  have KK := Lib.hid (fun (W : World) (h : Below W0.heap.size W0 W) => show BoxL W w.heap.size x.cells ∧ Below w.heap.size w W ∧ Solid W x ∧ Row W W.heap.size va (strVals ss) ∧ HasFormulaWords W from ⟨hx0.below h, hb0.trans (h.mono hb0.size), hs.below (hb0.trans (h.mono hb0.size)), (hrow.below (hb0.trans (h.mono hb0.size))).grow (hb0.trans (h.mono hb0.size)).size, hwt.keeps (hb0.trans (h.mono hb0.size))⟩)
  have hs0 : w.heap.size < W0.heap.size := hx0.lt
  clear hW0 hb0 hx0 hrow hs hwt
  cases hg : goodVars ss with
  | false =>
    have HF := Lib.hid (show fmText ss x.er = ⟨#[]⟩ by unfold fmText; rw [if_neg (by rw [hg]; simp)])
    have HG := Lib.hid hg
    clear hg
    go_enter Tryz.func7, Tryz.ntmps7
    go_wp2_with fail
    rw [HW0.out]
    refine (implAreVars va vca ss W0 hl hz (KK.out _ (Below.refl _ _)).2.2.2.1).mono ?_
    rw [HG.out]
    rintro e w1 ⟨rfl, hb1⟩
    have hB := (KK.out _ hb1).2.1
    go_wp2_with fail
    go_ret
    exact ⟨by rw [HF.out]; rfl, hB⟩
  | true =>
    have HG := Lib.hid hg
    have hsm := good_small hg
    cases hi : isFmB ss.length x.er with
    | false =>
      have HF := Lib.hid (show fmText ss x.er = ⟨#[]⟩ by unfold fmText; rw [if_neg (by rw [hi]; simp)])
      have HI := Lib.hid hi
      clear hg hi
      go_enter Tryz.func7, Tryz.ntmps7
      go_wp2_with fail
      rw [HW0.out]
      refine (implAreVars va vca ss W0 hl hz (KK.out _ (Below.refl _ _)).2.2.2.1).mono ?_
      rw [HG.out]
      rintro e w1 ⟨rfl, hb1⟩
      have hx := (KK.out _ hb1).1
      have c0 := hx.c 0 _ rfl
      have c1 := hx.c 1 _ rfl
      have c2 := hx.c 2 _ rfl
      have c3 := hx.c 3 _ rfl
      have c4 := hx.c 4 _ rfl
      have HB1 := Lib.hid hb1
      clear hx hb1 HW0
      go_wp2_with fail
      refine (implIsFormula _ x w1 (KK.out _ HB1.out).2.2.1).mono ?_
      rw [HI.out]
      rintro e w2 ⟨rfl, hb2⟩
      have hB := (KK.out _ (HB1.out.trans (hb2.mono HB1.out.size))).2.1
      clear c0 c1 c2 c3 c4
      go_wp2_with fail
      go_ret
      exact ⟨by rw [HF.out]; rfl, hB⟩
    | true =>
      have HF := Lib.hid (show fmText ss x.er = x.er.textT ss by unfold fmText; rw [if_pos ⟨hg, hi⟩])
      have HP := Lib.hid (form_parts hi)
      have HI := Lib.hid hi
      have HSM := Lib.hid hsm
      clear hg hi hsm
      go_enter Tryz.func7, Tryz.ntmps7
      go_wp2_with fail
      rw [HW0.out]
      refine (implAreVars va vca ss W0 hl hz (KK.out _ (Below.refl _ _)).2.2.2.1).mono ?_
      rw [HG.out]
      rintro e w1 ⟨rfl, hb1⟩
      have hx := (KK.out _ hb1).1
      have c0 := hx.c 0 _ rfl
      have c1 := hx.c 1 _ rfl
      have c2 := hx.c 2 _ rfl
      have c3 := hx.c 3 _ rfl
      have c4 := hx.c 4 _ rfl
      have HB1 := Lib.hid hb1
      clear hx hb1 HW0
      go_wp2_with fail
      refine (implIsFormula _ x w1 (KK.out _ HB1.out).2.2.1).mono ?_
      rw [HI.out]
      rintro e w2 ⟨rfl, hb2⟩
      have hb12 := HB1.out.trans (hb2.mono HB1.out.size)
      have hx := (KK.out _ hb12).1
      clear c0 c1 c2 c3 c4 hb2
      have c0 := hx.c 0 _ rfl
      have c1 := hx.c 1 _ rfl
      have c2 := hx.c 2 _ rfl
      have c3 := hx.c 3 _ rfl
      have c4 := hx.c 4 _ rfl
      have HB2 := Lib.hid hb12
      clear hx hb12
      go_wp2_with fail
      refine (implText ss va vca HSM.out.2 x w2 HP.out.1 HP.out.2 (KK.out _ HB2.out).2.2.1.in_ (KK.out _ HB2.out).2.2.2.1 (KK.out _ HB2.out).2.2.2.2).mono ?_
      rintro e w3 ⟨rfl, hb3⟩
      have hB := (KK.out _ (HB2.out.trans (hb3.mono HB2.out.size))).2.1
      clear c0 c1 c2 c3 c4
      go_wp2_with fail
      go_ret
      exact ⟨by rw [HF.out]; rfl, hB⟩
set_option maxRecDepth 100000 in
set_option maxHeartbeats 1600000 in
theorem specFormulaText (ss : List ByteArray) (va : Option Addr) (vca : Nat) (x : Ft) (w : World) (hl : ss.length ≤ maxLen) (hz : ∀ s ∈ ss, s.size ≤ maxLen) (hrow : Row w w.heap.size va (strVals ss)) (hin : x.In w w.heap.size) (hxs : x.er.size ≤ 1099511627776) :
    Calls Tryz.prog 9 #[.slice va ss.length vca, x.val] w (GaveB (.string (fmText ss x.er)) w) := by
  have hb0 := (Below.refl w.heap.size w).alloc (Nat.le_refl _) (.cells #[.int .i64 x.kd, .int .i64 x.k, .int .i64 x.u, .int .i64 x.v, .slice x.a x.args.length x.cap] 27)
  obtain ⟨W0, hW0⟩ : ∃ W, w.alloc (.cells #[.int .i64 x.kd, .int .i64 x.k, .int .i64 x.u, .int .i64 x.v, .slice x.a x.args.length x.cap] 27) = W := ⟨_, rfl⟩
  have hx0 : BoxL W0 w.heap.size x.cells := by rw [← hW0]; exact BoxL.new w x.cells _
  rw [hW0] at hb0
  have HW0 := Lib.hid hW0
  have KK := Lib.hid (fun (W : World) (h : Below W0.heap.size W0 W) => show BoxL W w.heap.size x.cells ∧ Below w.heap.size w W ∧ x.In W W.heap.size ∧ Row W W.heap.size va (strVals ss) from ⟨hx0.below h, hb0.trans (h.mono hb0.size), hin.to (hb0.trans (h.mono hb0.size)), (hrow.below (hb0.trans (h.mono hb0.size))).grow (hb0.trans (h.mono hb0.size)).size⟩)
  have hs0 : w.heap.size < W0.heap.size := hx0.lt
  have HXS := Lib.hid hxs
  have KX := Lib.hid (show ∀ W, Below W0.heap.size W0 W → W.cell? ⟨w.heap.size, 0, none⟩ = some (.int .i64 x.kd) ∧ W.cell? ⟨w.heap.size, 1, none⟩ = some (.int .i64 x.k) ∧ W.cell? ⟨w.heap.size, 2, none⟩ = some (.int .i64 x.u) ∧ W.cell? ⟨w.heap.size, 3, none⟩ = some (.int .i64 x.v) ∧ W.cell? ⟨w.heap.size, 4, none⟩ = some (.slice x.a x.args.length x.cap) from fun W h => ⟨(KK.out W h).1.c 0 _ rfl, (KK.out W h).1.c 1 _ rfl, (KK.out W h).1.c 2 _ rfl, (KK.out W h).1.c 3 _ rfl, (KK.out W h).1.c 4 _ rfl⟩)
  clear hW0 hb0 hx0 hrow hin hxs
  cases hg : goodVars ss with
  | false =>
    have HF := Lib.hid (show fmText ss x.er = ⟨#[]⟩ by unfold fmText; rw [if_neg (by rw [hg]; simp)])
    have HG := Lib.hid hg
    clear hg
    go_enter Tryz.func9, Tryz.ntmps9
    go_wp2_with fail
    rw [HW0.out]
    refine (specAreVars va vca ss W0 hl hz (KK.out _ (Below.refl _ _)).2.2.2).mono ?_
    rw [HG.out]
    rintro e w1 ⟨rfl, rfl⟩
    have hB := (KK.out _ (Below.refl _ _)).2.1
    go_wp2_with fail
    go_ret
    exact ⟨by rw [HF.out]; rfl, hB⟩
  | true =>
    have HG := Lib.hid hg
    have hsm := good_small hg
    cases hi : isFmB ss.length x.er with
    | false =>
      have HF := Lib.hid (show fmText ss x.er = ⟨#[]⟩ by unfold fmText; rw [if_neg (by rw [hi]; simp)])
      have HI := Lib.hid hi
      clear hg hi
      go_enter Tryz.func9, Tryz.ntmps9
      go_wp2_with fail
      rw [HW0.out]
      refine (specAreVars va vca ss W0 hl hz (KK.out _ (Below.refl _ _)).2.2.2).mono ?_
      rw [HG.out]
      rintro e w1 ⟨rfl, rfl⟩
      obtain ⟨c0, c1, c2, c3, c4⟩ := KX.out _ (Below.refl _ _)
      clear HW0
      go_wp2_with fail
      refine (specIsFormula _ x W0 HXS.out (KK.out _ (Below.refl _ _)).2.2.1).mono ?_
      rw [HI.out]
      rintro e w2 ⟨rfl, hb2⟩
      have hB := (KK.out _ hb2).2.1
      clear c0 c1 c2 c3 c4
      go_wp2_with fail
      go_ret
      exact ⟨by rw [HF.out]; rfl, hB⟩
    | true =>
      have HF := Lib.hid (show fmText ss x.er = x.er.textT ss by unfold fmText; rw [if_pos ⟨hg, hi⟩])
      have HP := Lib.hid (form_parts hi)
      have HI := Lib.hid hi
      have HSM := Lib.hid hsm
      clear hg hi hsm
      go_enter Tryz.func9, Tryz.ntmps9
      go_wp2_with fail
      rw [HW0.out]
      refine (specAreVars va vca ss W0 hl hz (KK.out _ (Below.refl _ _)).2.2.2).mono ?_
      rw [HG.out]
      rintro e w1 ⟨rfl, rfl⟩
      obtain ⟨c0, c1, c2, c3, c4⟩ := KX.out _ (Below.refl _ _)
      clear HW0
      go_wp2_with fail
      refine (specIsFormula _ x W0 HXS.out (KK.out _ (Below.refl _ _)).2.2.1).mono ?_
      rw [HI.out]
      rintro e w2 ⟨rfl, hb2⟩
      have HB2 := Lib.hid hb2
      clear c0 c1 c2 c3 c4
      obtain ⟨c0, c1, c2, c3, c4⟩ := KX.out _ hb2
      clear hb2
      go_wp2_with fail
      refine (specText ss va vca HSM.out.2 HSM.out.1 x w2 HP.out.1 HP.out.2 (KK.out _ HB2.out).2.2.1 (KK.out _ HB2.out).2.2.2).mono ?_
      rintro e w3 ⟨rfl, hb3⟩
      have hB := (KK.out _ (HB2.out.trans (hb3.mono HB2.out.size))).2.1
      clear c0 c1 c2 c3 c4
      go_wp2_with fail
      go_ret
      exact ⟨by rw [HF.out]; rfl, hB⟩
end Go.Proofs.YtplchhahjmoodaaGreatDoor
